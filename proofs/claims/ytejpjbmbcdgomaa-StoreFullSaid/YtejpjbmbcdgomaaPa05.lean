/- ZI: put together. -/
import Derived.Test.YtejpjbmbcdgomaaPa04
/- TInsI, TInsN, TInsUI, TInsUN: put together. -/
/- TIns: the rows of items. -/
namespace Go.Proofs.Ytejpjbmbcdgomaa
set_option maxRecDepth 100000
open Go.RowKit

theorem overI {w : World} {vb g off m vc lb cb : Nat} {xs cur : Array Value} {T : TypeId} (hvb : w.heap[vb]? = some (.cells xs T (0, 0))) (hg : w.heap[g]? = some (.cells cur 166 (0, 0))) (hc : cur.size ≠ 0) (hne : vb ≠ g) :
    (callFunc 131 #[.slice (some ⟨vb, 0, none⟩) m vc, .slice (some ⟨g, off, none⟩) lb cb]).run Try.prog w = .ok (.value (.bool false)) w := by
  rw [run_callFunc_extern Try.func131 (by kernel_rfl) (by kernel_rfl) (by kernel_rfl) (e := Extern.SlicesOverlaps.overlaps #[152, 152] #[4]) (by kernel_rfl),
    Lib.run_overlaps_apart w 152 4 166 Try.underlying152 4 Try.sizeOf166 ⟨vb, 0, none⟩ ⟨g, off, none⟩ m vc lb cb hne T 166 xs.size cur.size (shape_of hvb) (shape_of hg) hc (frozen_of hvb 0) (frozen_of hvb _)]
  rfl
theorem el_sizeI : (Try.prog.info? 166).map (·.size) = some 4 := by
  obtain ⟨_, h, _, _⟩ := elemIx
  obtain ⟨i, h1, h2⟩ := Option.map_eq_some_iff.1 h
  rw [h1]
  injection h2 with h2
  simp [h2]
/-- At the end. -/
theorem insert_endI {w : World} {v : Value} {n : Nat} {l : List Ix} (h : w.ownsRow 0 166 4 v n (rowV Ix.vals l)) (hl : l.length = n) (hn : n ≤ 100000) (x : Ix) (vb : Nat) {T : TypeId} (hvb : w.heap[vb]? = some (.cells (Ix.vals x).toArray T (0, 0))) :
    Calls Try.prog 123 #[v, .int .i64 (n : Int), .slice (some ⟨vb, 0, none⟩) 1 1] w fun e w' => ∃ v', e = .returned v' ∧ w'.ownsRow 0 166 4 v' (n + 1) (rowV Ix.vals (l.take n ++ x :: l.drop n)) ∧ w.grownBy w' v.ownBlock ∧ ∀ q, v'.ownBlock = some q → v.ownBlock = some q ∨ w.heap.size ≤ q := by
  have hfin : rowV Ix.vals l ++ Ix.vals x = rowV Ix.vals (l.take n ++ x :: l.drop n) := by
    rw [List.take_of_length_le (by omega), List.drop_of_length_le (by omega), rowV_append]
    simp [rowV]
  have HF := Lib.hid hfin
  have HH := Lib.hid h
  have hr : Rdv w (some ⟨vb, 0, none⟩) 1 4 (Ix.vals x) := ⟨rfl, fun _ => ⟨vb, 0, rfl, fun j u hj => by
    rw [Nat.zero_add, cell_of_row w vb j _ T (0, 0) hvb]
    simpa using hj⟩⟩
  have HR := Lib.hid hr
  have h1 : ∀ u ∈ Ix.vals x, u.oneCell' = true := fun u hu => ix_one [x] u (by simpa [rowV] using hu)
  have H1 := Lib.hid h1
  have hbig : (n + 1) * 32 ≤ 140737488355328 := by omega
  have hmx : n + 1 ≤ maxLen := by unfold maxLen; omega
  clear hfin hr h1 hvb
  rcases h.2 with ⟨rfl, h0⟩ | ⟨g, c, cur, rfl, _, _, hnc, hcm, _⟩
  · have hn0 : (n : Int) = 0 := by omega
    have HE := Lib.hid (show ((n : Int) == 0) = true from by rw [hn0]; rfl)
    subst h0
    clear h
    go_enter Try.func123, Try.ntmps123
    go_wp2_with (at_builtin; refine wpList_append_rowg elemIx rfl _ _ rfl 0 _ 0 _ rfl HH.out _ 1 1 _ rfl HR.out H1.out (fun he => by cases he) hmx hbig (Nat.zero_le _) ?_; intro v' w' ho hg hq; rw [HF.out] at ho; have HO := Lib.hid ho; have HG := Lib.hid hg; have HQ := Lib.hid hq; clear ho hg hq)
    go_ret
    exact ⟨_, rfl, HO.out, HG.out, HQ.out⟩
  · clear h
    by_cases hcn : c = n
    · subst hcn
      go_enter Try.func123, Try.ntmps123
      go_wp2_with (at_builtin; refine wpList_append_rowg elemIx rfl _ _ rfl 0 _ c _ rfl HH.out _ 1 1 _ rfl HR.out H1.out (fun he => by cases he) hmx hbig (Nat.zero_le _) ?_; intro v' w' ho hg hq; rw [HF.out] at ho; have HO := Lib.hid ho; have HG := Lib.hid hg; have HQ := Lib.hid hq; clear ho hg hq)
      go_ret
      exact ⟨_, rfl, HO.out, HG.out, HQ.out⟩
    · go_enter Try.func123, Try.ntmps123
      go_wp2_with (at_builtin; refine wpList_append_rowg elemIx rfl _ _ rfl 0 _ n _ rfl HH.out _ 1 1 _ rfl HR.out H1.out (fun he => by cases he) hmx hbig (Nat.zero_le _) ?_; intro v' w' ho hg hq; rw [HF.out] at ho; have HO := Lib.hid ho; have HG := Lib.hid hg; have HQ := Lib.hid hq; clear ho hg hq)
      go_ret
      exact ⟨_, rfl, HO.out, HG.out, HQ.out⟩
end Go.Proofs.Ytejpjbmbcdgomaa

/- TIns: the rows of pointers. -/
namespace Go.Proofs.Ytejpjbmbcdgomaa
set_option maxRecDepth 100000
open Go.RowKit

theorem overN {w : World} {vb g off m vc lb cb : Nat} {xs cur : Array Value} {T : TypeId} (hvb : w.heap[vb]? = some (.cells xs T (0, 0))) (hg : w.heap[g]? = some (.cells cur 151 (0, 0))) (hc : cur.size ≠ 0) (hne : vb ≠ g) :
    (callFunc 133 #[.slice (some ⟨vb, 0, none⟩) m vc, .slice (some ⟨g, off, none⟩) lb cb]).run Try.prog w = .ok (.value (.bool false)) w := by
  rw [run_callFunc_extern Try.func133 (by kernel_rfl) (by kernel_rfl) (by kernel_rfl) (e := Extern.SlicesOverlaps.overlaps #[153, 153] #[4]) (by kernel_rfl),
    Lib.run_overlaps_apart w 153 4 151 Try.underlying153 1 Try.sizeOf151 ⟨vb, 0, none⟩ ⟨g, off, none⟩ m vc lb cb hne T 151 xs.size cur.size (shape_of hvb) (shape_of hg) hc (frozen_of hvb 0) (frozen_of hvb _)]
  rfl
theorem el_sizeN : (Try.prog.info? 151).map (·.size) = some 1 := by
  obtain ⟨_, h, _, _⟩ := elemPt
  obtain ⟨i, h1, h2⟩ := Option.map_eq_some_iff.1 h
  rw [h1]
  injection h2 with h2
  simp [h2]
/-- At the end. -/
theorem insert_endN {w : World} {v : Value} {n : Nat} {l : List Nat} (h : w.ownsRow 0 151 1 v n (rowV PV l)) (hl : l.length = n) (hn : n ≤ 100000) (x : Nat) (vb : Nat) {T : TypeId} (hvb : w.heap[vb]? = some (.cells (PV x).toArray T (0, 0))) :
    Calls Try.prog 125 #[v, .int .i64 (n : Int), .slice (some ⟨vb, 0, none⟩) 1 1] w fun e w' => ∃ v', e = .returned v' ∧ w'.ownsRow 0 151 1 v' (n + 1) (rowV PV (l.take n ++ x :: l.drop n)) ∧ w.grownBy w' v.ownBlock ∧ ∀ q, v'.ownBlock = some q → v.ownBlock = some q ∨ w.heap.size ≤ q := by
  have hfin : rowV PV l ++ PV x = rowV PV (l.take n ++ x :: l.drop n) := by
    rw [List.take_of_length_le (by omega), List.drop_of_length_le (by omega), rowV_append]
    simp [rowV]
  have HF := Lib.hid hfin
  have HH := Lib.hid h
  have hr : Rdv w (some ⟨vb, 0, none⟩) 1 1 (PV x) := ⟨rfl, fun _ => ⟨vb, 0, rfl, fun j u hj => by
    rw [Nat.zero_add, cell_of_row w vb j _ T (0, 0) hvb]
    simpa using hj⟩⟩
  have HR := Lib.hid hr
  have h1 : ∀ u ∈ PV x, u.oneCell' = true := fun u hu => pt_one [x] u (by simpa [rowV] using hu)
  have H1 := Lib.hid h1
  have hbig : (n + 1) * 8 ≤ 140737488355328 := by omega
  have hmx : n + 1 ≤ maxLen := by unfold maxLen; omega
  clear hfin hr h1 hvb
  rcases h.2 with ⟨rfl, h0⟩ | ⟨g, c, cur, rfl, _, _, hnc, hcm, _⟩
  · have hn0 : (n : Int) = 0 := by omega
    have HE := Lib.hid (show ((n : Int) == 0) = true from by rw [hn0]; rfl)
    subst h0
    clear h
    go_enter Try.func125, Try.ntmps125
    go_wp2_with (at_builtin; refine wpList_append_rowg elemPt rfl _ _ rfl 0 _ 0 _ rfl HH.out _ 1 1 _ rfl HR.out H1.out (fun he => by cases he) hmx hbig (Nat.zero_le _) ?_; intro v' w' ho hg hq; rw [HF.out] at ho; have HO := Lib.hid ho; have HG := Lib.hid hg; have HQ := Lib.hid hq; clear ho hg hq)
    go_ret
    exact ⟨_, rfl, HO.out, HG.out, HQ.out⟩
  · clear h
    by_cases hcn : c = n
    · subst hcn
      go_enter Try.func125, Try.ntmps125
      go_wp2_with (at_builtin; refine wpList_append_rowg elemPt rfl _ _ rfl 0 _ c _ rfl HH.out _ 1 1 _ rfl HR.out H1.out (fun he => by cases he) hmx hbig (Nat.zero_le _) ?_; intro v' w' ho hg hq; rw [HF.out] at ho; have HO := Lib.hid ho; have HG := Lib.hid hg; have HQ := Lib.hid hq; clear ho hg hq)
      go_ret
      exact ⟨_, rfl, HO.out, HG.out, HQ.out⟩
    · go_enter Try.func125, Try.ntmps125
      go_wp2_with (at_builtin; refine wpList_append_rowg elemPt rfl _ _ rfl 0 _ n _ rfl HH.out _ 1 1 _ rfl HR.out H1.out (fun he => by cases he) hmx hbig (Nat.zero_le _) ?_; intro v' w' ho hg hq; rw [HF.out] at ho; have HO := Lib.hid ho; have HG := Lib.hid hg; have HQ := Lib.hid hq; clear ho hg hq)
      go_ret
      exact ⟨_, rfl, HO.out, HG.out, HQ.out⟩
end Go.Proofs.Ytejpjbmbcdgomaa

/- TInsU: the rows of items. -/
namespace Go.Proofs.Ytejpjbmbcdgomaa
set_option maxRecDepth 100000
open Go.RowKit

set_option maxHeartbeats 2000000 in
/-- In the middle, with room. -/
theorem insert_roomI {w : World} {g n c : Nat} {l : List Ix} (h : w.ownsRow 0 166 4 (.slice (some ⟨g, 0, none⟩) n c) n (rowV Ix.vals l)) (hl : l.length = n) (i : Nat) (hi : i < n) (hroom : n + 1 ≤ c) (x : Ix) (vb : Nat) {T : TypeId} (hvb : w.heap[vb]? = some (.cells (Ix.vals x).toArray T (0, 0))) (hne : vb ≠ g) (m : Nat) (hm1 : m = 1) :
    Calls Try.prog 123 #[.slice (some ⟨g, 0, none⟩) n c, .int .i64 (i : Int), .slice (some ⟨vb, 0, none⟩) m m] w fun e w' => e = .returned (.slice (some ⟨g, 0, none⟩) (n + m) c) ∧ w' = (w.drew.setCells g ((i + m) * 4) (rowV Ix.vals (l.drop i))).setCells g (i * 4) (Ix.vals x) := by
  obtain ⟨_, _, hnc, hcm⟩ := own_lt h
  have hc63 : c ≤ 9223372036854775807 := by unfold maxLen at hcm; omega
  obtain ⟨cur, hcur, hcs, _⟩ := own_block h
  have hm : 0 < m := by omega
  have hz1 : ¬ ((m : Int) = 0) := by omega
  have hz2 : ¬ ((i : Int) = (n : Int)) := by omega
  have hsz := el_sizeI
  have hKb : ∀ j, j < (n + 1) * 4 → j < c * 4 := fun j hj => Nat.lt_of_lt_of_le hj (Nat.mul_le_mul_right 4 hroom)
  have hov : ∀ lb cb, (callFunc 131 #[.slice (some ⟨vb, 0, none⟩) m m, .slice (some ⟨g, (i + m) * 4, none⟩) lb cb]).run Try.prog w = .ok (.value (.bool false)) w := fun lb cb => overI hvb hcur (by rw [hcs]; omega) hne
  obtain ⟨_, hdl⟩ := rows_len Ix.vlen hl (Nat.le_of_lt hi) (f := Ix.vals) (k := 4)
  have hxl := Ix.vlen x
  have hw1 : IntKind.i64.wrap ((i : Int) + (m : Int)) = (i : Int) + (m : Int) := by rw [IntKind.wrap_i64]; omega
  have hb1 : (0 : Int) ≤ (i : Int) + (m : Int) := by omega
  have hin : i ≤ n := by omega
  have htn : ((i : Int) + (m : Int)).toNat = i + m := by omega
  have hb2 : ¬ (c = i + m) := by omega
  have hb3 : (i : Int) ≤ (n : Int) + (m : Int) := by omega
  have hb4 : ¬ (c = i) := by omega
  have hcp1 : ∀ ty dc sc, (Builtin.copy_ #[152, 152] ty #[.slice (some ⟨g, (i + m) * 4, none⟩) (n + m - (i + m)) dc, .slice (some ⟨g, i * 4, none⟩) (n + m - i) sc]).run Try.prog w.drew = .ok (goInt ((n - i : Nat) : Int)) (w.drew.setCells g ((i + m) * 4) (rowV Ix.vals (l.drop i))) := fun ty dc sc =>
    run_copy_row w.drew 152 152 ty 166 4 g ((i + m) * 4) (n + m - (i + m)) dc ⟨g, i * 4, none⟩ (n + m - i) sc (n - i) _ Try.underlying152 hsz (by simp only [Nat.min_def]; split <;> omega) hdl
      (fun j v hj => by
        rw [addr_plus]
        rw [← rowV_drop Ix.vlen, List.getElem?_drop] at hj
        exact own_cell h _ v hj)
      (fun j hj => own_some h _ (hKb _ (by rw [hdl] at hj; omega))) (fun j _ => own_frozen h _) (ix_one _)
  obtain ⟨W1, hW1⟩ : ∃ W1, W1 = w.drew.setCells g ((i + m) * 4) (rowV Ix.vals (l.drop i)) := ⟨_, rfl⟩
  have hsp1 : ∀ k, k < (n + 1) * 4 → (W1.cell? ⟨g, k, none⟩).isSome = true := fun k hk => by
    rw [hW1]
    exact isSome_setCells g _ ((i + m) * 4) w.drew (fun j hj => own_some h _ (hKb _ (by rw [hdl] at hj; omega))) _ (own_some h _ (hKb _ hk))
  have hcp2 : ∀ (W : World), (∀ x, W.cell? x = W1.cell? x) → (∀ x, W.frozen? x = W1.frozen? x) → ∀ ty dc, (Builtin.copy_ #[152, 152] ty #[.slice (some ⟨g, i * 4, none⟩) (n + m - i) dc, .slice (some ⟨vb, 0, none⟩) m m]).run Try.prog W = .ok (goInt ((m : Nat) : Int)) (W.setCells g (i * 4) (Ix.vals x)) := fun W hWc hWf ty dc =>
    run_copy_row W 152 152 ty 166 4 g (i * 4) (n + m - i) dc ⟨vb, 0, none⟩ m m m _ Try.underlying152 hsz (by simp only [Nat.min_def]; split <;> omega) (by rw [hxl, hm1, Nat.one_mul])
      (fun j v hj => by
        rw [addr_plus, hWc, hW1, World.cell?_setCells_out g _ _ _ _ (fun h _ => absurd h hne), Nat.zero_add]
        rw [show w.drew.cell? ⟨vb, j, none⟩ = w.cell? ⟨vb, j, none⟩ from rfl, cell_of_row w vb j _ T (0, 0) hvb]
        simpa using hj)
      (fun j hj => by rw [hWc]; exact hsp1 _ (by rw [hxl] at hj; omega)) (fun j _ => by rw [hWf, hW1, World.frozen?_setCells]; exact own_frozen h _) (fun u hu => ix_one [x] u (by simpa [rowV] using hu))
  rw [← hW1] at hcp1 ⊢
  have hroom2 : n + m ≤ c := by omega
  clear hKb hdl hxl h hl hsp1 hvb hcur hcs hm1 hroom
  try simp only [Nat.mul_one] at hcp1 hcp2 hov
  go_enter Try.func123, Try.ntmps123
  go_wp2_with (simp only [hov])
  go_region_law (refine step_copy_runI rfl _ _ 152 152 rfl _ _ (by simp [Act.eval, Act.put]) (by simp [Act.eval, Act.put]) (hcp1 _ _ _) ?_)
  go_wp2_with (at_builtin; refine wpList_copy_runI _ rfl _ _ 152 152 rfl _ _ rfl rfl (hcp2 _ (fun _ => rfl) (fun _ => rfl) _ _) ?_)
  go_ret
  refine ⟨rfl, ?_⟩
  first | (rw [hW1]; done) | (rw [hW1]; simp; done)
end Go.Proofs.Ytejpjbmbcdgomaa

/- TInsU: the rows of pointers. -/
namespace Go.Proofs.Ytejpjbmbcdgomaa
set_option maxRecDepth 100000
open Go.RowKit

set_option maxHeartbeats 2000000 in
/-- In the middle, with room. -/
theorem insert_roomN {w : World} {g n c : Nat} {l : List Nat} (h : w.ownsRow 0 151 1 (.slice (some ⟨g, 0, none⟩) n c) n (rowV PV l)) (hl : l.length = n) (i : Nat) (hi : i < n) (hroom : n + 1 ≤ c) (x : Nat) (vb : Nat) {T : TypeId} (hvb : w.heap[vb]? = some (.cells (PV x).toArray T (0, 0))) (hne : vb ≠ g) (m : Nat) (hm1 : m = 1) :
    Calls Try.prog 125 #[.slice (some ⟨g, 0, none⟩) n c, .int .i64 (i : Int), .slice (some ⟨vb, 0, none⟩) m m] w fun e w' => e = .returned (.slice (some ⟨g, 0, none⟩) (n + m) c) ∧ w' = (w.drew.setCells g ((i + m) * 1) (rowV PV (l.drop i))).setCells g (i * 1) (PV x) := by
  obtain ⟨_, _, hnc, hcm⟩ := own_lt h
  have hc63 : c ≤ 9223372036854775807 := by unfold maxLen at hcm; omega
  obtain ⟨cur, hcur, hcs, _⟩ := own_block h
  have hm : 0 < m := by omega
  have hz1 : ¬ ((m : Int) = 0) := by omega
  have hz2 : ¬ ((i : Int) = (n : Int)) := by omega
  have hsz := el_sizeN
  have hKb : ∀ j, j < (n + 1) * 1 → j < c * 1 := fun j hj => Nat.lt_of_lt_of_le hj (Nat.mul_le_mul_right 1 hroom)
  have hov : ∀ lb cb, (callFunc 133 #[.slice (some ⟨vb, 0, none⟩) m m, .slice (some ⟨g, (i + m) * 1, none⟩) lb cb]).run Try.prog w = .ok (.value (.bool false)) w := fun lb cb => overN hvb hcur (by rw [hcs]; omega) hne
  obtain ⟨_, hdl⟩ := rows_len PV.len hl (Nat.le_of_lt hi) (f := PV) (k := 1)
  have hxl := PV.len x
  have hw1 : IntKind.i64.wrap ((i : Int) + (m : Int)) = (i : Int) + (m : Int) := by rw [IntKind.wrap_i64]; omega
  have hb1 : (0 : Int) ≤ (i : Int) + (m : Int) := by omega
  have hin : i ≤ n := by omega
  have htn : ((i : Int) + (m : Int)).toNat = i + m := by omega
  have hb2 : ¬ (c = i + m) := by omega
  have hb3 : (i : Int) ≤ (n : Int) + (m : Int) := by omega
  have hb4 : ¬ (c = i) := by omega
  have hcp1 : ∀ ty dc sc, (Builtin.copy_ #[153, 153] ty #[.slice (some ⟨g, (i + m) * 1, none⟩) (n + m - (i + m)) dc, .slice (some ⟨g, i * 1, none⟩) (n + m - i) sc]).run Try.prog w.drew = .ok (goInt ((n - i : Nat) : Int)) (w.drew.setCells g ((i + m) * 1) (rowV PV (l.drop i))) := fun ty dc sc =>
    run_copy_row w.drew 153 153 ty 151 1 g ((i + m) * 1) (n + m - (i + m)) dc ⟨g, i * 1, none⟩ (n + m - i) sc (n - i) _ Try.underlying153 hsz (by simp only [Nat.min_def]; split <;> omega) hdl
      (fun j v hj => by
        rw [addr_plus]
        rw [← rowV_drop PV.len, List.getElem?_drop] at hj
        exact own_cell h _ v hj)
      (fun j hj => own_some h _ (hKb _ (by rw [hdl] at hj; omega))) (fun j _ => own_frozen h _) (pt_one _)
  obtain ⟨W1, hW1⟩ : ∃ W1, W1 = w.drew.setCells g ((i + m) * 1) (rowV PV (l.drop i)) := ⟨_, rfl⟩
  have hsp1 : ∀ k, k < (n + 1) * 1 → (W1.cell? ⟨g, k, none⟩).isSome = true := fun k hk => by
    rw [hW1]
    exact isSome_setCells g _ ((i + m) * 1) w.drew (fun j hj => own_some h _ (hKb _ (by rw [hdl] at hj; omega))) _ (own_some h _ (hKb _ hk))
  have hcp2 : ∀ (W : World), (∀ x, W.cell? x = W1.cell? x) → (∀ x, W.frozen? x = W1.frozen? x) → ∀ ty dc, (Builtin.copy_ #[153, 153] ty #[.slice (some ⟨g, i * 1, none⟩) (n + m - i) dc, .slice (some ⟨vb, 0, none⟩) m m]).run Try.prog W = .ok (goInt ((m : Nat) : Int)) (W.setCells g (i * 1) (PV x)) := fun W hWc hWf ty dc =>
    run_copy_row W 153 153 ty 151 1 g (i * 1) (n + m - i) dc ⟨vb, 0, none⟩ m m m _ Try.underlying153 hsz (by simp only [Nat.min_def]; split <;> omega) (by rw [hxl, hm1, Nat.one_mul])
      (fun j v hj => by
        rw [addr_plus, hWc, hW1, World.cell?_setCells_out g _ _ _ _ (fun h _ => absurd h hne), Nat.zero_add]
        rw [show w.drew.cell? ⟨vb, j, none⟩ = w.cell? ⟨vb, j, none⟩ from rfl, cell_of_row w vb j _ T (0, 0) hvb]
        simpa using hj)
      (fun j hj => by rw [hWc]; exact hsp1 _ (by rw [hxl] at hj; omega)) (fun j _ => by rw [hWf, hW1, World.frozen?_setCells]; exact own_frozen h _) (fun u hu => pt_one [x] u (by simpa [rowV] using hu))
  rw [← hW1] at hcp1 ⊢
  have hroom2 : n + m ≤ c := by omega
  clear hKb hdl hxl h hl hsp1 hvb hcur hcs hm1 hroom
  try simp only [Nat.mul_one] at hcp1 hcp2 hov
  go_enter Try.func125, Try.ntmps125
  go_wp2_with (simp only [hov])
  go_region_law (refine step_copy_runI rfl _ _ 153 153 rfl _ _ (by simp [Act.eval, Act.put]) (by simp [Act.eval, Act.put]) (hcp1 _ _ _) ?_)
  go_wp2_with (at_builtin; refine wpList_copy_runI _ rfl _ _ 153 153 rfl _ _ rfl rfl (hcp2 _ (fun _ => rfl) (fun _ => rfl) _ _) ?_)
  go_ret
  refine ⟨rfl, ?_⟩
  first | (rw [hW1]; done) | (rw [hW1]; simp; done)
end Go.Proofs.Ytejpjbmbcdgomaa
