/- ZI, TInsGI: put together. -/
import Derived.Test.YtejpjbmbcdgomaaPt03
/- TInsI, TInsN, TInsUI, TInsUN: put together. -/
/- TIns: the rows of items. -/
namespace Go.Proofs.Ytejpjbmbcdgomaa
set_option maxRecDepth 100000
open Go.RowKit

theorem overI {w : World} {vb g off m vc lb cb : Nat} {xs cur : Array Value} {T : TypeId} (hvb : w.heap[vb]? = some (.cells xs T (0, 0))) (hg : w.heap[g]? = some (.cells cur 166 (0, 0))) (hc : cur.size ≠ 0) (hne : vb ≠ g) :
    (callFunc 131 #[.slice (some ⟨vb, 0, none⟩) m vc, .slice (some ⟨g, off, none⟩) lb cb]).run Try.prog w = .ok (.value (.bool false)) w := by
  rw [run_callFunc_extern Try.func131 (by kernel_rfl) (by kernel_rfl) (by kernel_rfl) (e := Extern.SlicesOverlaps.overlaps #[152, 152] #[4]) (by kernel_rfl),
    Lib.run_overlaps_apart w 152 4 166 Try.underlying152 4 Try.sizeOf166 ⟨vb, 0, none⟩ ⟨g, off, none⟩ m vc lb cb hne T 166 xs.size cur.size (shape_of hvb) (shape_of hg) hc (frozen_of hvb 0) (frozen_of hvb _)]
  rfl
theorem el_sizeI : (Try.prog.info? 166).map (·.size) = some 4 := by
  obtain ⟨_, h, _, _⟩ := elemIx
  obtain ⟨i, h1, h2⟩ := Option.map_eq_some_iff.1 h
  rw [h1]
  injection h2 with h2
  simp [h2]
/-- At the end. -/
theorem insert_endI {w : World} {v : Value} {n : Nat} {l : List Ix} (h : w.ownsRow 0 166 4 v n (rowV Ix.vals l)) (hl : l.length = n) (hn : n ≤ 100000) (x : Ix) (vb : Nat) {T : TypeId} (hvb : w.heap[vb]? = some (.cells (Ix.vals x).toArray T (0, 0))) :
    Calls Try.prog 123 #[v, .int .i64 (n : Int), .slice (some ⟨vb, 0, none⟩) 1 1] w fun e w' => ∃ v', e = .returned v' ∧ w'.ownsRow 0 166 4 v' (n + 1) (rowV Ix.vals (l.take n ++ x :: l.drop n)) ∧ w.grownBy w' v.ownBlock ∧ ∀ q, v'.ownBlock = some q → v.ownBlock = some q ∨ w.heap.size ≤ q := by
  have hfin : rowV Ix.vals l ++ Ix.vals x = rowV Ix.vals (l.take n ++ x :: l.drop n) := by
    rw [List.take_of_length_le (by omega), List.drop_of_length_le (by omega), rowV_append]
    simp [rowV]
  have HF := Lib.hid hfin
  have HH := Lib.hid h
  have hr : Rdv w (some ⟨vb, 0, none⟩) 1 4 (Ix.vals x) := ⟨rfl, fun _ => ⟨vb, 0, rfl, fun j u hj => by
    rw [Nat.zero_add, cell_of_row w vb j _ T (0, 0) hvb]
    simpa using hj⟩⟩
  have HR := Lib.hid hr
  have h1 : ∀ u ∈ Ix.vals x, u.oneCell' = true := fun u hu => ix_one [x] u (by simpa [rowV] using hu)
  have H1 := Lib.hid h1
  have hbig : (n + 1) * 32 ≤ 140737488355328 := by omega
  have hmx : n + 1 ≤ maxLen := by unfold maxLen; omega
  clear hfin hr h1 hvb
  rcases h.2 with ⟨rfl, h0⟩ | ⟨g, c, cur, rfl, _, _, hnc, hcm, _⟩
  · have hn0 : (n : Int) = 0 := by omega
    have HE := Lib.hid (show ((n : Int) == 0) = true from by rw [hn0]; rfl)
    subst h0
    clear h
    go_enter Try.func123, Try.ntmps123
    go_wp2_with (at_builtin; refine wpList_append_rowg elemIx rfl _ _ rfl 0 _ 0 _ rfl HH.out _ 1 1 _ rfl HR.out H1.out (fun he => by cases he) hmx hbig (Nat.zero_le _) ?_; intro v' w' ho hg hq; rw [HF.out] at ho; have HO := Lib.hid ho; have HG := Lib.hid hg; have HQ := Lib.hid hq; clear ho hg hq)
    go_ret
    exact ⟨_, rfl, HO.out, HG.out, HQ.out⟩
  · clear h
    by_cases hcn : c = n
    · subst hcn
      go_enter Try.func123, Try.ntmps123
      go_wp2_with (at_builtin; refine wpList_append_rowg elemIx rfl _ _ rfl 0 _ c _ rfl HH.out _ 1 1 _ rfl HR.out H1.out (fun he => by cases he) hmx hbig (Nat.zero_le _) ?_; intro v' w' ho hg hq; rw [HF.out] at ho; have HO := Lib.hid ho; have HG := Lib.hid hg; have HQ := Lib.hid hq; clear ho hg hq)
      go_ret
      exact ⟨_, rfl, HO.out, HG.out, HQ.out⟩
    · go_enter Try.func123, Try.ntmps123
      go_wp2_with (at_builtin; refine wpList_append_rowg elemIx rfl _ _ rfl 0 _ n _ rfl HH.out _ 1 1 _ rfl HR.out H1.out (fun he => by cases he) hmx hbig (Nat.zero_le _) ?_; intro v' w' ho hg hq; rw [HF.out] at ho; have HO := Lib.hid ho; have HG := Lib.hid hg; have HQ := Lib.hid hq; clear ho hg hq)
      go_ret
      exact ⟨_, rfl, HO.out, HG.out, HQ.out⟩
end Go.Proofs.Ytejpjbmbcdgomaa

/- TIns: the rows of pointers. -/
namespace Go.Proofs.Ytejpjbmbcdgomaa
set_option maxRecDepth 100000
open Go.RowKit

theorem overN {w : World} {vb g off m vc lb cb : Nat} {xs cur : Array Value} {T : TypeId} (hvb : w.heap[vb]? = some (.cells xs T (0, 0))) (hg : w.heap[g]? = some (.cells cur 151 (0, 0))) (hc : cur.size ≠ 0) (hne : vb ≠ g) :
    (callFunc 133 #[.slice (some ⟨vb, 0, none⟩) m vc, .slice (some ⟨g, off, none⟩) lb cb]).run Try.prog w = .ok (.value (.bool false)) w := by
  rw [run_callFunc_extern Try.func133 (by kernel_rfl) (by kernel_rfl) (by kernel_rfl) (e := Extern.SlicesOverlaps.overlaps #[153, 153] #[4]) (by kernel_rfl),
    Lib.run_overlaps_apart w 153 4 151 Try.underlying153 1 Try.sizeOf151 ⟨vb, 0, none⟩ ⟨g, off, none⟩ m vc lb cb hne T 151 xs.size cur.size (shape_of hvb) (shape_of hg) hc (frozen_of hvb 0) (frozen_of hvb _)]
  rfl
theorem el_sizeN : (Try.prog.info? 151).map (·.size) = some 1 := by
  obtain ⟨_, h, _, _⟩ := elemPt
  obtain ⟨i, h1, h2⟩ := Option.map_eq_some_iff.1 h
  rw [h1]
  injection h2 with h2
  simp [h2]
/-- At the end. -/
theorem insert_endN {w : World} {v : Value} {n : Nat} {l : List Nat} (h : w.ownsRow 0 151 1 v n (rowV PV l)) (hl : l.length = n) (hn : n ≤ 100000) (x : Nat) (vb : Nat) {T : TypeId} (hvb : w.heap[vb]? = some (.cells (PV x).toArray T (0, 0))) :
    Calls Try.prog 125 #[v, .int .i64 (n : Int), .slice (some ⟨vb, 0, none⟩) 1 1] w fun e w' => ∃ v', e = .returned v' ∧ w'.ownsRow 0 151 1 v' (n + 1) (rowV PV (l.take n ++ x :: l.drop n)) ∧ w.grownBy w' v.ownBlock ∧ ∀ q, v'.ownBlock = some q → v.ownBlock = some q ∨ w.heap.size ≤ q := by
  have hfin : rowV PV l ++ PV x = rowV PV (l.take n ++ x :: l.drop n) := by
    rw [List.take_of_length_le (by omega), List.drop_of_length_le (by omega), rowV_append]
    simp [rowV]
  have HF := Lib.hid hfin
  have HH := Lib.hid h
  have hr : Rdv w (some ⟨vb, 0, none⟩) 1 1 (PV x) := ⟨rfl, fun _ => ⟨vb, 0, rfl, fun j u hj => by
    rw [Nat.zero_add, cell_of_row w vb j _ T (0, 0) hvb]
    simpa using hj⟩⟩
  have HR := Lib.hid hr
  have h1 : ∀ u ∈ PV x, u.oneCell' = true := fun u hu => pt_one [x] u (by simpa [rowV] using hu)
  have H1 := Lib.hid h1
  have hbig : (n + 1) * 8 ≤ 140737488355328 := by omega
  have hmx : n + 1 ≤ maxLen := by unfold maxLen; omega
  clear hfin hr h1 hvb
  rcases h.2 with ⟨rfl, h0⟩ | ⟨g, c, cur, rfl, _, _, hnc, hcm, _⟩
  · have hn0 : (n : Int) = 0 := by omega
    have HE := Lib.hid (show ((n : Int) == 0) = true from by rw [hn0]; rfl)
    subst h0
    clear h
    go_enter Try.func125, Try.ntmps125
    go_wp2_with (at_builtin; refine wpList_append_rowg elemPt rfl _ _ rfl 0 _ 0 _ rfl HH.out _ 1 1 _ rfl HR.out H1.out (fun he => by cases he) hmx hbig (Nat.zero_le _) ?_; intro v' w' ho hg hq; rw [HF.out] at ho; have HO := Lib.hid ho; have HG := Lib.hid hg; have HQ := Lib.hid hq; clear ho hg hq)
    go_ret
    exact ⟨_, rfl, HO.out, HG.out, HQ.out⟩
  · clear h
    by_cases hcn : c = n
    · subst hcn
      go_enter Try.func125, Try.ntmps125
      go_wp2_with (at_builtin; refine wpList_append_rowg elemPt rfl _ _ rfl 0 _ c _ rfl HH.out _ 1 1 _ rfl HR.out H1.out (fun he => by cases he) hmx hbig (Nat.zero_le _) ?_; intro v' w' ho hg hq; rw [HF.out] at ho; have HO := Lib.hid ho; have HG := Lib.hid hg; have HQ := Lib.hid hq; clear ho hg hq)
      go_ret
      exact ⟨_, rfl, HO.out, HG.out, HQ.out⟩
    · go_enter Try.func125, Try.ntmps125
      go_wp2_with (at_builtin; refine wpList_append_rowg elemPt rfl _ _ rfl 0 _ n _ rfl HH.out _ 1 1 _ rfl HR.out H1.out (fun he => by cases he) hmx hbig (Nat.zero_le _) ?_; intro v' w' ho hg hq; rw [HF.out] at ho; have HO := Lib.hid ho; have HG := Lib.hid hg; have HQ := Lib.hid hq; clear ho hg hq)
      go_ret
      exact ⟨_, rfl, HO.out, HG.out, HQ.out⟩
end Go.Proofs.Ytejpjbmbcdgomaa

/- TInsU: the rows of items. -/
namespace Go.Proofs.Ytejpjbmbcdgomaa
set_option maxRecDepth 100000
open Go.RowKit

set_option maxHeartbeats 2000000 in
/-- In the middle, with room. -/
theorem insert_roomI {w : World} {g n c : Nat} {l : List Ix} (h : w.ownsRow 0 166 4 (.slice (some ⟨g, 0, none⟩) n c) n (rowV Ix.vals l)) (hl : l.length = n) (i : Nat) (hi : i < n) (hroom : n + 1 ≤ c) (x : Ix) (vb : Nat) {T : TypeId} (hvb : w.heap[vb]? = some (.cells (Ix.vals x).toArray T (0, 0))) (hne : vb ≠ g) (m : Nat) (hm1 : m = 1) :
    Calls Try.prog 123 #[.slice (some ⟨g, 0, none⟩) n c, .int .i64 (i : Int), .slice (some ⟨vb, 0, none⟩) m m] w fun e w' => e = .returned (.slice (some ⟨g, 0, none⟩) (n + m) c) ∧ w' = (w.drew.setCells g ((i + m) * 4) (rowV Ix.vals (l.drop i))).setCells g (i * 4) (Ix.vals x) := by
  obtain ⟨_, _, hnc, hcm⟩ := own_lt h
  have hc63 : c ≤ 9223372036854775807 := by unfold maxLen at hcm; omega
  obtain ⟨cur, hcur, hcs, _⟩ := own_block h
  have hm : 0 < m := by omega
  have hz1 : ¬ ((m : Int) = 0) := by omega
  have hz2 : ¬ ((i : Int) = (n : Int)) := by omega
  have hsz := el_sizeI
  have hKb : ∀ j, j < (n + 1) * 4 → j < c * 4 := fun j hj => Nat.lt_of_lt_of_le hj (Nat.mul_le_mul_right 4 hroom)
  have hov : ∀ lb cb, (callFunc 131 #[.slice (some ⟨vb, 0, none⟩) m m, .slice (some ⟨g, (i + m) * 4, none⟩) lb cb]).run Try.prog w = .ok (.value (.bool false)) w := fun lb cb => overI hvb hcur (by rw [hcs]; omega) hne
  obtain ⟨_, hdl⟩ := rows_len Ix.vlen hl (Nat.le_of_lt hi) (f := Ix.vals) (k := 4)
  have hxl := Ix.vlen x
  have hw1 : IntKind.i64.wrap ((i : Int) + (m : Int)) = (i : Int) + (m : Int) := by rw [IntKind.wrap_i64]; omega
  have hb1 : (0 : Int) ≤ (i : Int) + (m : Int) := by omega
  have hin : i ≤ n := by omega
  have htn : ((i : Int) + (m : Int)).toNat = i + m := by omega
  have hb2 : ¬ (c = i + m) := by omega
  have hb3 : (i : Int) ≤ (n : Int) + (m : Int) := by omega
  have hb4 : ¬ (c = i) := by omega
  have hcp1 : ∀ ty dc sc, (Builtin.copy_ #[152, 152] ty #[.slice (some ⟨g, (i + m) * 4, none⟩) (n + m - (i + m)) dc, .slice (some ⟨g, i * 4, none⟩) (n + m - i) sc]).run Try.prog w.drew = .ok (goInt ((n - i : Nat) : Int)) (w.drew.setCells g ((i + m) * 4) (rowV Ix.vals (l.drop i))) := fun ty dc sc =>
    run_copy_row w.drew 152 152 ty 166 4 g ((i + m) * 4) (n + m - (i + m)) dc ⟨g, i * 4, none⟩ (n + m - i) sc (n - i) _ Try.underlying152 hsz (by simp only [Nat.min_def]; split <;> omega) hdl
      (fun j v hj => by
        rw [addr_plus]
        rw [← rowV_drop Ix.vlen, List.getElem?_drop] at hj
        exact own_cell h _ v hj)
      (fun j hj => own_some h _ (hKb _ (by rw [hdl] at hj; omega))) (fun j _ => own_frozen h _) (ix_one _)
  obtain ⟨W1, hW1⟩ : ∃ W1, W1 = w.drew.setCells g ((i + m) * 4) (rowV Ix.vals (l.drop i)) := ⟨_, rfl⟩
  have hsp1 : ∀ k, k < (n + 1) * 4 → (W1.cell? ⟨g, k, none⟩).isSome = true := fun k hk => by
    rw [hW1]
    exact isSome_setCells g _ ((i + m) * 4) w.drew (fun j hj => own_some h _ (hKb _ (by rw [hdl] at hj; omega))) _ (own_some h _ (hKb _ hk))
  have hcp2 : ∀ (W : World), (∀ x, W.cell? x = W1.cell? x) → (∀ x, W.frozen? x = W1.frozen? x) → ∀ ty dc, (Builtin.copy_ #[152, 152] ty #[.slice (some ⟨g, i * 4, none⟩) (n + m - i) dc, .slice (some ⟨vb, 0, none⟩) m m]).run Try.prog W = .ok (goInt ((m : Nat) : Int)) (W.setCells g (i * 4) (Ix.vals x)) := fun W hWc hWf ty dc =>
    run_copy_row W 152 152 ty 166 4 g (i * 4) (n + m - i) dc ⟨vb, 0, none⟩ m m m _ Try.underlying152 hsz (by simp only [Nat.min_def]; split <;> omega) (by rw [hxl, hm1, Nat.one_mul])
      (fun j v hj => by
        rw [addr_plus, hWc, hW1, World.cell?_setCells_out g _ _ _ _ (fun h _ => absurd h hne), Nat.zero_add]
        rw [show w.drew.cell? ⟨vb, j, none⟩ = w.cell? ⟨vb, j, none⟩ from rfl, cell_of_row w vb j _ T (0, 0) hvb]
        simpa using hj)
      (fun j hj => by rw [hWc]; exact hsp1 _ (by rw [hxl] at hj; omega)) (fun j _ => by rw [hWf, hW1, World.frozen?_setCells]; exact own_frozen h _) (fun u hu => ix_one [x] u (by simpa [rowV] using hu))
  rw [← hW1] at hcp1 ⊢
  have hroom2 : n + m ≤ c := by omega
  clear hKb hdl hxl h hl hsp1 hvb hcur hcs hm1 hroom
  try simp only [Nat.mul_one] at hcp1 hcp2 hov
  go_enter Try.func123, Try.ntmps123
  go_wp2_with (simp only [hov])
  go_region_law (refine step_copy_runI rfl _ _ 152 152 rfl _ _ (by simp [Act.eval, Act.put]) (by simp [Act.eval, Act.put]) (hcp1 _ _ _) ?_)
  go_wp2_with (at_builtin; refine wpList_copy_runI _ rfl _ _ 152 152 rfl _ _ rfl rfl (hcp2 _ (fun _ => rfl) (fun _ => rfl) _ _) ?_)
  go_ret
  refine ⟨rfl, ?_⟩
  first | (rw [hW1]; done) | (rw [hW1]; simp; done)
end Go.Proofs.Ytejpjbmbcdgomaa

/- TInsU: the rows of pointers. -/
namespace Go.Proofs.Ytejpjbmbcdgomaa
set_option maxRecDepth 100000
open Go.RowKit

set_option maxHeartbeats 2000000 in
/-- In the middle, with room. -/
theorem insert_roomN {w : World} {g n c : Nat} {l : List Nat} (h : w.ownsRow 0 151 1 (.slice (some ⟨g, 0, none⟩) n c) n (rowV PV l)) (hl : l.length = n) (i : Nat) (hi : i < n) (hroom : n + 1 ≤ c) (x : Nat) (vb : Nat) {T : TypeId} (hvb : w.heap[vb]? = some (.cells (PV x).toArray T (0, 0))) (hne : vb ≠ g) (m : Nat) (hm1 : m = 1) :
    Calls Try.prog 125 #[.slice (some ⟨g, 0, none⟩) n c, .int .i64 (i : Int), .slice (some ⟨vb, 0, none⟩) m m] w fun e w' => e = .returned (.slice (some ⟨g, 0, none⟩) (n + m) c) ∧ w' = (w.drew.setCells g ((i + m) * 1) (rowV PV (l.drop i))).setCells g (i * 1) (PV x) := by
  obtain ⟨_, _, hnc, hcm⟩ := own_lt h
  have hc63 : c ≤ 9223372036854775807 := by unfold maxLen at hcm; omega
  obtain ⟨cur, hcur, hcs, _⟩ := own_block h
  have hm : 0 < m := by omega
  have hz1 : ¬ ((m : Int) = 0) := by omega
  have hz2 : ¬ ((i : Int) = (n : Int)) := by omega
  have hsz := el_sizeN
  have hKb : ∀ j, j < (n + 1) * 1 → j < c * 1 := fun j hj => Nat.lt_of_lt_of_le hj (Nat.mul_le_mul_right 1 hroom)
  have hov : ∀ lb cb, (callFunc 133 #[.slice (some ⟨vb, 0, none⟩) m m, .slice (some ⟨g, (i + m) * 1, none⟩) lb cb]).run Try.prog w = .ok (.value (.bool false)) w := fun lb cb => overN hvb hcur (by rw [hcs]; omega) hne
  obtain ⟨_, hdl⟩ := rows_len PV.len hl (Nat.le_of_lt hi) (f := PV) (k := 1)
  have hxl := PV.len x
  have hw1 : IntKind.i64.wrap ((i : Int) + (m : Int)) = (i : Int) + (m : Int) := by rw [IntKind.wrap_i64]; omega
  have hb1 : (0 : Int) ≤ (i : Int) + (m : Int) := by omega
  have hin : i ≤ n := by omega
  have htn : ((i : Int) + (m : Int)).toNat = i + m := by omega
  have hb2 : ¬ (c = i + m) := by omega
  have hb3 : (i : Int) ≤ (n : Int) + (m : Int) := by omega
  have hb4 : ¬ (c = i) := by omega
  have hcp1 : ∀ ty dc sc, (Builtin.copy_ #[153, 153] ty #[.slice (some ⟨g, (i + m) * 1, none⟩) (n + m - (i + m)) dc, .slice (some ⟨g, i * 1, none⟩) (n + m - i) sc]).run Try.prog w.drew = .ok (goInt ((n - i : Nat) : Int)) (w.drew.setCells g ((i + m) * 1) (rowV PV (l.drop i))) := fun ty dc sc =>
    run_copy_row w.drew 153 153 ty 151 1 g ((i + m) * 1) (n + m - (i + m)) dc ⟨g, i * 1, none⟩ (n + m - i) sc (n - i) _ Try.underlying153 hsz (by simp only [Nat.min_def]; split <;> omega) hdl
      (fun j v hj => by
        rw [addr_plus]
        rw [← rowV_drop PV.len, List.getElem?_drop] at hj
        exact own_cell h _ v hj)
      (fun j hj => own_some h _ (hKb _ (by rw [hdl] at hj; omega))) (fun j _ => own_frozen h _) (pt_one _)
  obtain ⟨W1, hW1⟩ : ∃ W1, W1 = w.drew.setCells g ((i + m) * 1) (rowV PV (l.drop i)) := ⟨_, rfl⟩
  have hsp1 : ∀ k, k < (n + 1) * 1 → (W1.cell? ⟨g, k, none⟩).isSome = true := fun k hk => by
    rw [hW1]
    exact isSome_setCells g _ ((i + m) * 1) w.drew (fun j hj => own_some h _ (hKb _ (by rw [hdl] at hj; omega))) _ (own_some h _ (hKb _ hk))
  have hcp2 : ∀ (W : World), (∀ x, W.cell? x = W1.cell? x) → (∀ x, W.frozen? x = W1.frozen? x) → ∀ ty dc, (Builtin.copy_ #[153, 153] ty #[.slice (some ⟨g, i * 1, none⟩) (n + m - i) dc, .slice (some ⟨vb, 0, none⟩) m m]).run Try.prog W = .ok (goInt ((m : Nat) : Int)) (W.setCells g (i * 1) (PV x)) := fun W hWc hWf ty dc =>
    run_copy_row W 153 153 ty 151 1 g (i * 1) (n + m - i) dc ⟨vb, 0, none⟩ m m m _ Try.underlying153 hsz (by simp only [Nat.min_def]; split <;> omega) (by rw [hxl, hm1, Nat.one_mul])
      (fun j v hj => by
        rw [addr_plus, hWc, hW1, World.cell?_setCells_out g _ _ _ _ (fun h _ => absurd h hne), Nat.zero_add]
        rw [show w.drew.cell? ⟨vb, j, none⟩ = w.cell? ⟨vb, j, none⟩ from rfl, cell_of_row w vb j _ T (0, 0) hvb]
        simpa using hj)
      (fun j hj => by rw [hWc]; exact hsp1 _ (by rw [hxl] at hj; omega)) (fun j _ => by rw [hWf, hW1, World.frozen?_setCells]; exact own_frozen h _) (fun u hu => pt_one [x] u (by simpa [rowV] using hu))
  rw [← hW1] at hcp1 ⊢
  have hroom2 : n + m ≤ c := by omega
  clear hKb hdl hxl h hl hsp1 hvb hcur hcs hm1 hroom
  try simp only [Nat.mul_one] at hcp1 hcp2 hov
  go_enter Try.func125, Try.ntmps125
  go_wp2_with (simp only [hov])
  go_region_law (refine step_copy_runI rfl _ _ 153 153 rfl _ _ (by simp [Act.eval, Act.put]) (by simp [Act.eval, Act.put]) (hcp1 _ _ _) ?_)
  go_wp2_with (at_builtin; refine wpList_copy_runI _ rfl _ _ 153 153 rfl _ _ rfl rfl (hcp2 _ (fun _ => rfl) (fun _ => rfl) _ _) ?_)
  go_ret
  refine ⟨rfl, ?_⟩
  first | (rw [hW1]; done) | (rw [hW1]; simp; done)
end Go.Proofs.Ytejpjbmbcdgomaa

/- TInsG: the rows of items. -/
namespace Go.Proofs.Ytejpjbmbcdgomaa
set_option maxRecDepth 100000
open Go.RowKit

set_option maxHeartbeats 2000000 in
/-- In the middle, without room. -/
theorem insert_growI {w : World} {g n c : Nat} {l : List Ix} (h : w.ownsRow 0 166 4 (.slice (some ⟨g, 0, none⟩) n c) n (rowV Ix.vals l)) (hl : l.length = n) (i : Nat) (hi : i < n) (hnn : n ≤ 100000) (hroom : c < n + 1) (x : Ix) (vb : Nat) {T : TypeId} (hvb : w.heap[vb]? = some (.cells (Ix.vals x).toArray T (0, 0))) (m : Nat) (hm1 : m = 1) :
    Calls Try.prog 123 #[.slice (some ⟨g, 0, none⟩) n c, .int .i64 (i : Int), .slice (some ⟨vb, 0, none⟩) m m] w fun e w' =>
      e = .returned (.slice (some ⟨w.heap.size, 0, none⟩) (n + m) (grownCap w (n + m) c 166)) ∧
      w' = (((w.alloc (.cells ((rowV Ix.vals (l.take i)).toArray ++ Builtin.zeroCells (Value.agg #[.int .i64 0, .int .i64 0, .bool false, .int .i64 0]).cells (n + m - i) ++ Builtin.zeroCells (Value.agg #[.int .i64 0, .int .i64 0, .bool false, .int .i64 0]).cells (grownCap w (n + m) c 166 - (n + m))) 166)).drew.setCells w.heap.size (i * 4) (Ix.vals x)).drew).setCells w.heap.size ((i + m) * 4) (rowV Ix.vals (l.drop i)) := by
  obtain ⟨_, hgw, hnc, hcm⟩ := own_lt h
  have hc63 : c ≤ 9223372036854775807 := by unfold maxLen at hcm; omega
  have hm : 0 < m := by omega
  have hz1 : ¬ ((m : Int) = 0) := by omega
  have hz2 : ¬ ((i : Int) = (n : Int)) := by omega
  have hz3 : (c : Int) < (n : Int) + (m : Int) := by omega
  have hsz := el_sizeI
  have hxl := Ix.vlen x
  obtain ⟨htl, hdl⟩ := rows_len Ix.vlen hl (Nat.le_of_lt hi) (f := Ix.vals) (k := 4)
  have hbig : (n + m) * 32 ≤ 140737488355328 := by omega
  have hvw : vb < w.heap.size := (Array.getElem?_eq_some_iff.1 hvb).1
  have hkk : (n : Int) + (m : Int) - (i : Int) = ((n + m - i : Nat) : Int) := by omega
  have hik : i + (n + m - i) = n + m := by omega
  obtain ⟨i0, hi0, hz0, hzs, hzb⟩ := info_parts (show (Try.prog.info? 166).map (fun i => (i.zero, i.size, i.bytes)) = some (some (Value.agg #[.int .i64 0, .int .i64 0, .bool false, .int .i64 0]), 4, 32) by kernel_rfl)
  have hold : (Builtin.firstCells i0.size i (.slice (some ⟨g, 0, none⟩) i c)).run Try.prog w.drew = .ok (rowV Ix.vals (l.take i)).toArray w.drew := by
    rw [hzs]
    exact run_firstCells_some w.drew 4 i ⟨g, 0, none⟩ i c _ htl (fun j v hj => by
      rw [addr_plus, Nat.zero_add]
      rw [← rowV_take Ix.vlen, List.getElem?_take] at hj
      split at hj
      · exact own_cell h _ v hj
      · cases hj)
  have hrz : ∀ ty, (Builtin.append_ #[152, 3] ty #[.slice (some ⟨g, 0, none⟩) i c, .int .i64 ((n : Int) + (m : Int) - (i : Int))]).run Try.prog w =
      .ok (.slice (some ⟨w.heap.size, 0, none⟩) (n + m) (grownCap w (n + m) c 166)) (w.drew.alloc (.cells ((rowV Ix.vals (l.take i)).toArray ++ Builtin.zeroCells (Value.agg #[.int .i64 0, .int .i64 0, .bool false, .int .i64 0]).cells (n + m - i) ++ Builtin.zeroCells (Value.agg #[.int .i64 0, .int .i64 0, .bool false, .int .i64 0]).cells (grownCap w (n + m) c 166 - (n + m))) 166)) := fun ty => by
    have h := Lib.run_append_grow_zeros w 152 3 ty 166 i0 _ .i64 .i64 Try.underlying152 Try.underlying3 hi0 hz0 (some ⟨g, 0, none⟩) i c (rowV Ix.vals (l.take i)) hold (n + m - i) (by omega) (by omega) (by omega) (by omega) (by rw [hzb]; omega) (by rw [hzb, hik]; exact growslice_fits (by omega) hbig)
    rw [hik] at h
    rw [hkk]
    exact h
  obtain ⟨G, hG⟩ : ∃ G, G = grownCap w (n + m) c 166 := ⟨_, rfl⟩
  obtain ⟨ROW, hROW⟩ : ∃ ROW : Array Value, ROW = (rowV Ix.vals (l.take i)).toArray ++ Builtin.zeroCells (Value.agg #[.int .i64 0, .int .i64 0, .bool false, .int .i64 0]).cells (n + m - i) ++ Builtin.zeroCells (Value.agg #[.int .i64 0, .int .i64 0, .bool false, .int .i64 0]).cells (G - (n + m)) := ⟨_, rfl⟩
  rw [← hG] at hrz ⊢
  rw [← hROW] at hrz ⊢
  have hRl : (n + m) * 4 ≤ ROW.size := by
    rw [hROW]
    simp [size_zeroCells, Value.cells]
    omega
  obtain ⟨W1, hW1⟩ : ∃ W1, W1 = w.drew.alloc (.cells ROW 166) := ⟨_, rfl⟩
  rw [← hW1] at hrz
  have hN : ∀ j, j < (n + m) * 4 → (W1.cell? ⟨w.heap.size, j, none⟩).isSome = true := fun j hj => by
    rw [hW1, World.cell?_alloc_at (w := w.drew) ROW _ w.heap.size j rfl, Array.getElem?_eq_getElem (by omega)]; rfl
  have hNf : ∀ j, W1.frozen? ⟨w.heap.size, j, none⟩ = false := fun j => by rw [hW1]; exact World.frozen?_alloc_at (w := w.drew) ROW _ w.heap.size j rfl
  have hOb : ∀ j v, w.cell? ⟨g, j, none⟩ = some v → W1.cell? ⟨g, j, none⟩ = some v := fun j v h => by rw [hW1, World.cell?_alloc_past (w := w.drew) _ g j hgw]; exact h
  have hOv : ∀ j v, w.cell? ⟨vb, j, none⟩ = some v → W1.cell? ⟨vb, j, none⟩ = some v := fun j v h => by rw [hW1, World.cell?_alloc_past (w := w.drew) _ vb j hvw]; exact h
  have hcpA : ∀ (W : World), (∀ x, W.cell? x = W1.cell? x) → (∀ x, W.frozen? x = W1.frozen? x) → ∀ ty dc, (Builtin.copy_ #[152, 152] ty #[.slice (some ⟨w.heap.size, i * 4, none⟩) (n + m - i) dc, .slice (some ⟨vb, 0, none⟩) m m]).run Try.prog W = .ok (goInt ((m : Nat) : Int)) (W.setCells w.heap.size (i * 4) (Ix.vals x)) := fun W hWc hWf ty dc =>
    run_copy_row W 152 152 ty 166 4 w.heap.size (i * 4) (n + m - i) dc ⟨vb, 0, none⟩ m m m _ Try.underlying152 hsz (by simp only [Nat.min_def]; split <;> omega) (by rw [hxl, hm1, Nat.one_mul])
      (fun j v hj => by
        rw [addr_plus, hWc, Nat.zero_add]
        refine hOv _ v ?_
        rw [cell_of_row w vb j _ T (0, 0) hvb]
        simpa using hj)
      (fun j hj => by rw [hWc]; exact hN _ (by omega)) (fun j hj => by rw [hWf]; exact hNf _) (fun u hu => ix_one [x] u (by simpa [rowV] using hu))
  have hGn : n + m ≤ G := by rw [hG]; exact grownCap_ge w _ _ _
  have hG63 : G ≤ 9223372036854775807 := by
    have := grownCap_le_maxLen w (n + m) c 166 (by unfold maxLen; omega)
    rw [← hG] at this
    unfold maxLen at this
    omega
  have hGi : ¬ (G = i) := by omega
  have hGim : ¬ (G = i + m) := by omega
  have hci : ¬ (c = i) := by omega
  have hbN : g ≠ w.heap.size := by omega
  have hcpB : ∀ (W : World), (∀ y, W.cell? y = (W1.setCells w.heap.size (i * 4) (Ix.vals x)).cell? y) → (∀ y, W.frozen? y = (W1.setCells w.heap.size (i * 4) (Ix.vals x)).frozen? y) → ∀ ty dc sc, (Builtin.copy_ #[152, 152] ty #[.slice (some ⟨w.heap.size, (i + m) * 4, none⟩) (n + m - (i + m)) dc, .slice (some ⟨g, i * 4, none⟩) (n - i) sc]).run Try.prog W = .ok (goInt ((n - i : Nat) : Int)) (W.setCells w.heap.size ((i + m) * 4) (rowV Ix.vals (l.drop i))) := fun W hWc hWf ty dc sc =>
    run_copy_row W 152 152 ty 166 4 w.heap.size ((i + m) * 4) (n + m - (i + m)) dc ⟨g, i * 4, none⟩ (n - i) sc (n - i) _ Try.underlying152 hsz (by simp only [Nat.min_def]; split <;> omega) hdl
      (fun j v hj => by
        rw [addr_plus, hWc, World.cell?_setCells_out _ _ _ _ _ (fun h _ => absurd h hbN)]
        rw [← rowV_drop Ix.vlen, List.getElem?_drop] at hj
        exact hOb _ v (own_cell h _ v hj))
      (fun j hj => by rw [hWc]; exact isSome_setCells _ _ (i * 4) W1 (fun t ht => hN _ (by omega)) _ (hN _ (by omega)))
      (fun j hj => by rw [hWf, World.frozen?_setCells]; exact hNf _) (ix_one _)
  subst hW1
  have hE1 : ∀ x, ((w.alloc (.cells ROW 166)).drew).cell? x = (w.drew.alloc (.cells ROW 166)).cell? x := fun x => rfl
  have hE2 : ∀ x, ((w.alloc (.cells ROW 166)).drew).frozen? x = (w.drew.alloc (.cells ROW 166)).frozen? x := fun x => rfl
  have hF1 : ∀ y, (((w.alloc (.cells ROW 166)).drew.setCells w.heap.size (i * 4) (Ix.vals x)).drew).cell? y = ((w.drew.alloc (.cells ROW 166)).setCells w.heap.size (i * 4) (Ix.vals x)).cell? y := fun y => rfl
  have hF2 : ∀ y, (((w.alloc (.cells ROW 166)).drew.setCells w.heap.size (i * 4) (Ix.vals x)).drew).frozen? y = ((w.drew.alloc (.cells ROW 166)).setCells w.heap.size (i * 4) (Ix.vals x)).frozen? y := fun y => rfl
  have hw1 : IntKind.i64.wrap ((i : Int) + (m : Int)) = (i : Int) + (m : Int) := by rw [IntKind.wrap_i64]; omega
  have hb1 : (0 : Int) ≤ (i : Int) + (m : Int) := by omega
  have hin : i ≤ n := by omega
  have htn : ((i : Int) + (m : Int)).toNat = i + m := by omega
  have hb3 : (i : Int) ≤ (n : Int) := by omega
  clear hkk hik hold hROW hG hRl hroom hm1 hvb h hl hxl htl hdl hN hNf hOb hOv hzs hzb hz0 hi0 hbig
  try simp only [Nat.mul_one] at hcpA hcpB hF1 hF2
  go_enter Try.func123, Try.ntmps123
  go_wp2_with (first
    | (at_builtin; refine Lib.wpList_append_run _ rfl _ _ _ _ rfl _ _ rfl rfl _ _ (hrz _) ?_)
    | (at_builtin; refine wpList_copy_runI _ rfl _ _ 152 152 rfl _ _ rfl rfl (hcpA _ hE1 hE2 _ _) ?_)
    | (at_builtin; refine wpList_copy_runI _ rfl _ _ 152 152 rfl _ _ rfl rfl (hcpB _ (fun _ => rfl) (fun _ => rfl) _ _ _) ?_))
  go_region_law (refine step_copy_runI rfl _ _ 152 152 rfl _ _ (by simp [Act.eval, Act.put]) (by simp [Act.eval, Act.put]) (hcpB _ hF1 hF2 3 (G - (i + m)) (c - i)) ?_)
  go_wp2_with fail
  go_ret
  refine ⟨rfl, ?_⟩
  first | with_reducible rfl | (simp; done) | rfl
end Go.Proofs.Ytejpjbmbcdgomaa
