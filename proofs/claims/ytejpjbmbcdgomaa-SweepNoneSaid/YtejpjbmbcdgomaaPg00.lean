/- VIns0, VNo, VNoA: put together. -/
import Derived.Test.YtejpjbmbcdgomaaPe33
/- sort.Search over nothing; slices.Insert at the end of the notes. -/
namespace Go.Proofs.Ytejpjbmbcdgomaa
set_option maxRecDepth 100000
open Go.RowKit

theorem search_none (w : World) (f : Value) : Calls Try.prog 103 #[.int .i64 0, f] w fun e w' => e = .returned (.int .i64 0) ∧ w = w' := by
  go_enter Try.func103, Try.ntmps103
  go_wp2_with fail
  go_loopw [5, 6, 7, 9, 10, 11, 12, 13, 14, 15, 16, 17, 18, 19, 20, 21, 22, 23, 24] (fun lx hx _ _ _ _ _ _ _ _ _ _ _ _ _ _ _ _ _ wr => lx = .int .i64 0 ∧ hx = .int .i64 0 ∧ wr = w) (fun lx hx _ _ _ _ _ _ _ _ _ _ _ _ _ _ _ _ _ wr => 0)
  case atStart => exact ⟨rfl, rfl, rfl⟩
  case round =>
    obtain ⟨rfl, rfl, rfl⟩ := hrel
    go_wp2_with fail
    go_ret
    exact ⟨rfl, rfl⟩
theorem elemNt : ElemT Try.prog 143 149 6 48 :=
  ⟨Try.underlying143, by kernel_rfl, by
    obtain ⟨i, hi, hz, h1, _⟩ := info_parts (show (Try.prog.info? 149).map (fun i => (i.zero, i.size, i.bytes)) = some (some (.agg #[.int .i64 0, .int .i64 0, .int .i64 0, .int .i64 0, .bool false, .bool false]), 6, 48) by kernel_rfl)
    exact ⟨i, _, hi, hz, rfl⟩, by decide⟩
theorem nt1 (x : Nt) : ∀ u ∈ x.vals, u.oneCell' = true := fun u hu => by
  simp [Nt.vals] at hu
  rcases hu with rfl | rfl | rfl | rfl | rfl | rfl <;> rfl
theorem insert_end {w : World} {B : Nat} {v : Value} {NS : List Nt} {x : Nt} {b c2 : Nat} (ho : w.ownsRow B 149 6 v NS.length (rowV Nt.vals NS)) (hx : Rdv w (some ⟨b, 0, none⟩) 1 6 x.vals) (hl : NS.length ≤ 100000) (hB : B ≤ w.heap.size) :
    Calls Try.prog 105 #[v, .int .i64 (NS.length : Int), .slice (some ⟨b, 0, none⟩) 1 c2] w fun e w' => ∃ v', e = .returned v' ∧ w'.ownsRow B 149 6 v' (NS ++ [x]).length (rowV Nt.vals (NS ++ [x])) ∧ w.grownBy w' v.ownBlock ∧ (∀ q, v'.ownBlock = some q → v.ownBlock = some q ∨ w.heap.size ≤ q) := by
  obtain ⟨A, c, hv, _, hnc, hle⟩ := rdv_own ho
  obtain ⟨n, hn⟩ : ∃ n, n = NS.length := ⟨_, rfl⟩
  rw [← hn] at hv hle ho
  subst hv
  have HO := Lib.hid (And.intro ho (And.intro hx (And.intro hB (And.intro hn hl))))
  have HNN : Hid ((NS ++ [x]).length = n + 1 ∧ rowV Nt.vals (NS ++ [x]) = rowV Nt.vals NS ++ x.vals) := Lib.hid ⟨by simp [hn], by rw [rowV_append]; simp [rowV]⟩
  have er : ((n : Int) == (n : Int)) = true := by simp
  rw [← hn]
  have hn18 : n ≤ 100000 := by rw [hn]; exact hl
  clear ho hx hB hn hl
  go_enter Try.func105, Try.ntmps105
  go_wp2_with (at_builtin; refine wpList_append_rowg elemNt rfl (.tmp 23) (.tmp 24) rfl B (.slice A n c) n (rowV Nt.vals NS) rfl HO.out.1 (some ⟨b, 0, none⟩) 1 c2 x.vals rfl HO.out.2.1 (nt1 _) (fun h => by cases h) (by unfold maxLen; omega) (by omega) HO.out.2.2.1 ?_; intro v' w' ho hg hq; have H9 := Lib.hid (And.intro ho (And.intro hg hq)); clear ho hg hq)
  all_goals
    go_ret
    try rw [show (Value.slice A n n).ownBlock = (Value.slice A n c).ownBlock by cases A <;> rfl]
    exact ⟨_, rfl, by rw [HNN.out.2, ← HO.out.2.2.2.1]; exact H9.out.1, H9.out.2.1, H9.out.2.2⟩
end Go.Proofs.Ytejpjbmbcdgomaa

/- A row of notes with an offset; slices.Insert on it. -/
namespace Go.Proofs.Ytejpjbmbcdgomaa
set_option maxRecDepth 100000
open Go.RowKit

/-- A row of notes: its block, where it begins, its room. -/
structure NoR (w : World) (b off c : Nat) (l : List Nt) : Prop where
  blk : ∃ cur, w.heap[b]? = some (.cells cur 149 (0, 0)) ∧ off + c * 6 ≤ cur.size
  cell : ∀ j u, (rowV Nt.vals l)[j]? = some u → w.cell? ⟨b, off + j, none⟩ = some u
  le : l.length ≤ c
  mx : c ≤ maxLen
def NoV (w : World) (v : Value) (l : List Nt) : Prop := (v = .slice none 0 0 ∧ l = []) ∨ ∃ b off c, v = .slice (some ⟨b, off, none⟩) l.length c ∧ NoR w b off c l
section
variable {w w' : World} {b off c : Nat} {l : List Nt} {v : Value}
theorem NoR.lt (h : NoR w b off c l) : b < w.heap.size := by
  obtain ⟨_, e, _⟩ := h.blk
  exact (Array.getElem?_eq_some_iff.1 e).1
theorem NoR.some (h : NoR w b off c l) {j : Nat} (hj : j < c * 6) : (w.cell? ⟨b, off + j, none⟩).isSome = true := by
  obtain ⟨cur, e, hs⟩ := h.blk
  rw [cell_of_row w b _ cur _ (0, 0) e, Array.getElem?_eq_getElem (by omega)]
  rfl
theorem NoR.frozen (h : NoR w b off c l) (j : Nat) : w.frozen? ⟨b, j, none⟩ = false := by
  obtain ⟨cur, e, _⟩ := h.blk
  exact frozen_of e j
theorem NoR.keep (h : NoR w b off c l) (hk : w'.heap[b]? = w.heap[b]?) : NoR w' b off c l := by
  obtain ⟨cur, e, hs⟩ := h.blk
  exact ⟨⟨cur, hk.trans e, hs⟩, fun j u hj => (World.cell?_of_block (a := ⟨b, off + j, none⟩) hk).trans (h.cell j u hj), h.le, h.mx⟩
theorem NoV.keep (h : NoV w v l) (hk : ∀ q, v.ownBlock = some q → w'.heap[q]? = w.heap[q]?) : NoV w' v l := by
  rcases h with h | ⟨b, off, c, rfl, h⟩
  · exact .inl h
  · exact .inr ⟨b, off, c, rfl, h.keep (hk b rfl)⟩
theorem NoV.lt (h : NoV w v l) {q : Nat} (e : v.ownBlock = some q) : q < w.heap.size := by
  rcases h with ⟨rfl, _⟩ | ⟨b, off, c, rfl, h⟩
  · cases e
  · injection e with e; subst e; exact h.lt
theorem NoV.below (h : NoV w v l) (hb : Below w.heap.size w w') : NoV w' v l := h.keep fun q e => hb.block q (h.lt e)
theorem NoV.type (h : NoV w v l) {q : Nat} (e : v.ownBlock = some q) : ∃ cur, w.heap[q]? = some (.cells cur 149 (0, 0)) := by
  rcases h with ⟨rfl, _⟩ | ⟨b, off, c, rfl, h⟩
  · cases e
  · injection e with e
    subst e
    obtain ⟨cur, e, _⟩ := h.blk
    exact ⟨cur, e⟩
theorem NoV.nts {A : Option Addr} {n c2 : Nat} (h : NoV w (.slice A n c2) l) : Nts w A l ∧ n = l.length ∧ l.length ≤ c2 := by
  have hl : (rowV Nt.vals l).length = l.length * 6 := rowV_length Nt.vals 6 Nt.vlen l
  rcases h with ⟨e, rfl⟩ | ⟨b, off, c, e, h⟩
  · injection e with e1 e2 e3
    exact ⟨⟨rfl, hl, fun hn => absurd hn (by decide)⟩, e2, by simp⟩
  · injection e with e1 e2 e3
    subst e1 e2 e3
    exact ⟨⟨rfl, hl, fun _ => ⟨b, off, rfl, h.cell⟩⟩, rfl, h.le⟩
theorem NoV.form (h : NoV w v l) : ∃ A c, v = .slice A l.length c := by
  rcases h with ⟨rfl, rfl⟩ | ⟨b, off, c, rfl, h⟩
  · exact ⟨none, 0, rfl⟩
  · exact ⟨_, _, rfl⟩
end
theorem cells_kept {T : TypeId} (b : Nat) : ∀ (vs : List Value) (o : Nat) (w : World) (cur : Array Value), w.heap[b]? = some (.cells cur T (0, 0)) → ∃ cur', (w.setCells b o vs).heap[b]? = some (.cells cur' T (0, 0)) ∧ cur'.size = cur.size
  | [], _, _, cur, h => ⟨cur, h, rfl⟩
  | v :: vs, o, w, cur, h => by
    obtain ⟨c2, h1, h2⟩ := cells_kept b vs (o + 1) (w.setCell ⟨b, o, none⟩ v) _ (heap_set w b o v h)
    exact ⟨c2, h1, by rw [h2, Array.size_setIfInBounds]⟩
theorem grown_setCells (b : Nat) : ∀ (vs : List Value) (o : Nat) (w : World), w.grownBy (w.setCells b o vs) (some b)
  | [], _, w => grown_refl w _
  | v :: vs, o, w => grown_trans (grown_setCell w b o v) (grown_setCells b vs (o + 1) _)
theorem overNt {w : World} {vb g off m vc lb cb : Nat} {xs cur : Array Value} {T : TypeId} (hvb : w.heap[vb]? = some (.cells xs T (0, 0))) (hg : w.heap[g]? = some (.cells cur 149 (0, 0))) (hc : cur.size ≠ 0) (hne : vb ≠ g) :
    (callFunc 116 #[.slice (some ⟨vb, 0, none⟩) m vc, .slice (some ⟨g, off, none⟩) lb cb]).run Try.prog w = .ok (.value (.bool false)) w := by
  rw [run_callFunc_extern Try.func116 (by kernel_rfl) (by kernel_rfl) (by kernel_rfl) (e := Extern.SlicesOverlaps.overlaps #[143, 143] #[4]) (by kernel_rfl),
    Lib.run_overlaps_apart w 143 4 149 Try.underlying143 6 Try.sizeOf149 ⟨vb, 0, none⟩ ⟨g, off, none⟩ m vc lb cb hne T 149 xs.size cur.size (shape_of hvb) (shape_of hg) hc (frozen_of hvb 0) (frozen_of hvb _)]
  rfl
theorem el_sizeNt : (Try.prog.info? 149).map (·.size) = some 6 := by
  obtain ⟨_, h, _, _⟩ := elemNt
  obtain ⟨i, h1, h2⟩ := Option.map_eq_some_iff.1 h
  rw [h1]
  injection h2 with h2
  simp [h2]
theorem nt_one (l : List Nt) : ∀ u ∈ rowV Nt.vals l, u.oneCell' = true := fun u hu => by
  obtain ⟨x, _, h⟩ := List.mem_flatMap.1 hu
  exact nt1 x u h
set_option maxHeartbeats 2000000 in
/-- In the middle, with room. -/
theorem insert_roomNt {w : World} {g off n c : Nat} {l : List Nt} (h : NoR w g off c l) (hl : l.length = n) (i : Nat) (hi : i < n) (hroom : n + 1 ≤ c) (x : Nt) (vb : Nat) {T : TypeId} (hvb : w.heap[vb]? = some (.cells (Nt.vals x).toArray T (0, 0))) (hne : vb ≠ g) (m : Nat) (hm1 : m = 1) :
    Calls Try.prog 105 #[.slice (some ⟨g, off, none⟩) n c, .int .i64 (i : Int), .slice (some ⟨vb, 0, none⟩) m m] w fun e w' => e = .returned (.slice (some ⟨g, off, none⟩) (n + m) c) ∧ w' = (w.drew.setCells g (off + (i + m) * 6) (rowV Nt.vals (l.drop i))).setCells g (off + i * 6) (Nt.vals x) := by
  have hnc : n ≤ c := by omega
  have hc63 : c ≤ 9223372036854775807 := by have := h.mx; unfold maxLen at this; omega
  obtain ⟨cur, hcur, hcs⟩ := h.blk
  have hm : 0 < m := by omega
  have hz1 : ¬ ((m : Int) = 0) := by omega
  have hz2 : ¬ ((i : Int) = (n : Int)) := by omega
  have hsz := el_sizeNt
  have hKb : ∀ j, j < (n + 1) * 6 → j < c * 6 := fun j hj => Nat.lt_of_lt_of_le hj (Nat.mul_le_mul_right 6 hroom)
  have hov : ∀ lb cb, (callFunc 116 #[.slice (some ⟨vb, 0, none⟩) m m, .slice (some ⟨g, off + (i + m) * 6, none⟩) lb cb]).run Try.prog w = .ok (.value (.bool false)) w := fun lb cb => overNt hvb hcur (by omega) hne
  obtain ⟨_, hdl⟩ := rows_len Nt.vlen hl (Nat.le_of_lt hi) (f := Nt.vals) (k := 6)
  have hxl := Nt.vlen x
  have hw1 : IntKind.i64.wrap ((i : Int) + (m : Int)) = (i : Int) + (m : Int) := by rw [IntKind.wrap_i64]; omega
  have hb1 : (0 : Int) ≤ (i : Int) + (m : Int) := by omega
  have hin : i ≤ n := by omega
  have htn : ((i : Int) + (m : Int)).toNat = i + m := by omega
  have hb2 : ¬ (c = i + m) := by omega
  have hb3 : (i : Int) ≤ (n : Int) + (m : Int) := by omega
  have hb4 : ¬ (c = i) := by omega
  have hcp1 : ∀ ty dc sc, (Builtin.copy_ #[143, 143] ty #[.slice (some ⟨g, off + (i + m) * 6, none⟩) (n + m - (i + m)) dc, .slice (some ⟨g, off + i * 6, none⟩) (n + m - i) sc]).run Try.prog w.drew = .ok (goInt ((n - i : Nat) : Int)) (w.drew.setCells g (off + (i + m) * 6) (rowV Nt.vals (l.drop i))) := fun ty dc sc =>
    run_copy_row w.drew 143 143 ty 149 6 g (off + (i + m) * 6) (n + m - (i + m)) dc ⟨g, off + i * 6, none⟩ (n + m - i) sc (n - i) _ Try.underlying143 hsz (by simp only [Nat.min_def]; split <;> omega) hdl
      (fun j v hj => by
        rw [addr_plus]
        rw [← rowV_drop Nt.vlen, List.getElem?_drop] at hj
        have h9 := h.cell _ v hj
        rw [← Nat.add_assoc] at h9
        exact h9)
      (fun j hj => by rw [Nat.add_assoc]; exact h.some (hKb _ (by rw [hdl] at hj; omega))) (fun j _ => h.frozen _) (nt_one _)
  obtain ⟨W1, hW1⟩ : ∃ W1, W1 = w.drew.setCells g (off + (i + m) * 6) (rowV Nt.vals (l.drop i)) := ⟨_, rfl⟩
  have hsp1 : ∀ k, k < (n + 1) * 6 → (W1.cell? ⟨g, off + k, none⟩).isSome = true := fun k hk => by
    rw [hW1]
    exact isSome_setCells g _ (off + (i + m) * 6) w.drew (fun j hj => by rw [Nat.add_assoc]; exact h.some (hKb _ (by rw [hdl] at hj; omega))) _ (h.some (hKb _ hk))
  have hcp2 : ∀ (W : World), (∀ x, W.cell? x = W1.cell? x) → (∀ x, W.frozen? x = W1.frozen? x) → ∀ ty dc, (Builtin.copy_ #[143, 143] ty #[.slice (some ⟨g, off + i * 6, none⟩) (n + m - i) dc, .slice (some ⟨vb, 0, none⟩) m m]).run Try.prog W = .ok (goInt ((m : Nat) : Int)) (W.setCells g (off + i * 6) (Nt.vals x)) := fun W hWc hWf ty dc =>
    run_copy_row W 143 143 ty 149 6 g (off + i * 6) (n + m - i) dc ⟨vb, 0, none⟩ m m m _ Try.underlying143 hsz (by simp only [Nat.min_def]; split <;> omega) (by rw [hxl, hm1, Nat.one_mul])
      (fun j v hj => by
        rw [addr_plus, hWc, hW1, World.cell?_setCells_out g _ _ _ _ (fun h _ => absurd h hne), Nat.zero_add]
        rw [show w.drew.cell? ⟨vb, j, none⟩ = w.cell? ⟨vb, j, none⟩ from rfl, cell_of_row w vb j _ T (0, 0) hvb]
        simpa using hj)
      (fun j hj => by rw [hWc, Nat.add_assoc]; exact hsp1 _ (by rw [hxl] at hj; omega)) (fun j _ => by rw [hWf, hW1, World.frozen?_setCells]; exact h.frozen _) (fun u hu => nt1 x u hu)
  rw [← hW1] at hcp1 ⊢
  have hroom2 : n + m ≤ c := by omega
  clear hKb hdl hxl h hl hsp1 hvb hcur hcs hm1 hroom
  go_enter Try.func105, Try.ntmps105
  go_wp2_with (simp only [hov])
  go_region_law (refine step_copy_runI rfl _ _ 143 143 rfl _ _ (by simp [Act.eval, Act.put]) (by simp [Act.eval, Act.put]) (hcp1 _ _ _) ?_)
  go_wp2_with (at_builtin; refine wpList_copy_runI _ rfl _ _ 143 143 rfl _ _ rfl rfl (hcp2 _ (fun _ => rfl) (fun _ => rfl) _ _) ?_)
  go_ret
  refine ⟨rfl, ?_⟩
  first | (rw [hW1]; done) | (rw [hW1]; simp; done)
set_option maxHeartbeats 2000000 in
/-- In the middle, without room. -/
theorem insert_growNt {w : World} {g off n c : Nat} {l : List Nt} (h : NoR w g off c l) (hl : l.length = n) (i : Nat) (hi : i < n) (hnn : n ≤ 100000) (hroom : c < n + 1) (x : Nt) (vb : Nat) {T : TypeId} (hvb : w.heap[vb]? = some (.cells (Nt.vals x).toArray T (0, 0))) (m : Nat) (hm1 : m = 1) :
    Calls Try.prog 105 #[.slice (some ⟨g, off, none⟩) n c, .int .i64 (i : Int), .slice (some ⟨vb, 0, none⟩) m m] w fun e w' =>
      e = .returned (.slice (some ⟨w.heap.size, 0, none⟩) (n + m) (grownCap w (n + m) c 149)) ∧
      w' = (((w.alloc (.cells ((rowV Nt.vals (l.take i)).toArray ++ Builtin.zeroCells (Value.agg #[.int .i64 0, .int .i64 0, .int .i64 0, .int .i64 0, .bool false, .bool false]).cells (n + m - i) ++ Builtin.zeroCells (Value.agg #[.int .i64 0, .int .i64 0, .int .i64 0, .int .i64 0, .bool false, .bool false]).cells (grownCap w (n + m) c 149 - (n + m))) 149)).drew.setCells w.heap.size (i * 6) (Nt.vals x)).drew).setCells w.heap.size ((i + m) * 6) (rowV Nt.vals (l.drop i)) := by
  have hgw := h.lt
  have hnc : n ≤ c := by have := h.le; omega
  have hc63 : c ≤ 9223372036854775807 := by have := h.mx; unfold maxLen at this; omega
  have hm : 0 < m := by omega
  have hz1 : ¬ ((m : Int) = 0) := by omega
  have hz2 : ¬ ((i : Int) = (n : Int)) := by omega
  have hz3 : (c : Int) < (n : Int) + (m : Int) := by omega
  have hsz := el_sizeNt
  have hxl := Nt.vlen x
  obtain ⟨htl, hdl⟩ := rows_len Nt.vlen hl (Nat.le_of_lt hi) (f := Nt.vals) (k := 6)
  have hbig : (n + m) * 48 ≤ 140737488355328 := by omega
  have hvw : vb < w.heap.size := (Array.getElem?_eq_some_iff.1 hvb).1
  have hkk : (n : Int) + (m : Int) - (i : Int) = ((n + m - i : Nat) : Int) := by omega
  have hik : i + (n + m - i) = n + m := by omega
  obtain ⟨i0, hi0, hz0, hzs, hzb⟩ := info_parts (show (Try.prog.info? 149).map (fun i => (i.zero, i.size, i.bytes)) = some (some (Value.agg #[.int .i64 0, .int .i64 0, .int .i64 0, .int .i64 0, .bool false, .bool false]), 6, 48) by kernel_rfl)
  have hold : (Builtin.firstCells i0.size i (.slice (some ⟨g, off, none⟩) i c)).run Try.prog w.drew = .ok (rowV Nt.vals (l.take i)).toArray w.drew := by
    rw [hzs]
    exact run_firstCells_some w.drew 6 i ⟨g, off, none⟩ i c _ htl (fun j v hj => by
      rw [addr_plus]
      rw [← rowV_take Nt.vlen, List.getElem?_take] at hj
      split at hj
      · exact h.cell _ v hj
      · cases hj)
  have hrz : ∀ ty, (Builtin.append_ #[143, 3] ty #[.slice (some ⟨g, off, none⟩) i c, .int .i64 ((n : Int) + (m : Int) - (i : Int))]).run Try.prog w =
      .ok (.slice (some ⟨w.heap.size, 0, none⟩) (n + m) (grownCap w (n + m) c 149)) (w.drew.alloc (.cells ((rowV Nt.vals (l.take i)).toArray ++ Builtin.zeroCells (Value.agg #[.int .i64 0, .int .i64 0, .int .i64 0, .int .i64 0, .bool false, .bool false]).cells (n + m - i) ++ Builtin.zeroCells (Value.agg #[.int .i64 0, .int .i64 0, .int .i64 0, .int .i64 0, .bool false, .bool false]).cells (grownCap w (n + m) c 149 - (n + m))) 149)) := fun ty => by
    have h := Lib.run_append_grow_zeros w 143 3 ty 149 i0 _ .i64 .i64 Try.underlying143 Try.underlying3 hi0 hz0 (some ⟨g, off, none⟩) i c (rowV Nt.vals (l.take i)) hold (n + m - i) (by omega) (by omega) (by omega) (by omega) (by rw [hzb]; omega) (by rw [hzb, hik]; exact growslice_fits (by omega) hbig)
    rw [hik] at h
    rw [hkk]
    exact h
  obtain ⟨G, hG⟩ : ∃ G, G = grownCap w (n + m) c 149 := ⟨_, rfl⟩
  obtain ⟨ROW, hROW⟩ : ∃ ROW : Array Value, ROW = (rowV Nt.vals (l.take i)).toArray ++ Builtin.zeroCells (Value.agg #[.int .i64 0, .int .i64 0, .int .i64 0, .int .i64 0, .bool false, .bool false]).cells (n + m - i) ++ Builtin.zeroCells (Value.agg #[.int .i64 0, .int .i64 0, .int .i64 0, .int .i64 0, .bool false, .bool false]).cells (G - (n + m)) := ⟨_, rfl⟩
  rw [← hG] at hrz ⊢
  rw [← hROW] at hrz ⊢
  have hRl : (n + m) * 6 ≤ ROW.size := by
    rw [hROW]
    simp [size_zeroCells, Value.cells]
    omega
  obtain ⟨W1, hW1⟩ : ∃ W1, W1 = w.drew.alloc (.cells ROW 149) := ⟨_, rfl⟩
  rw [← hW1] at hrz
  have hN : ∀ j, j < (n + m) * 6 → (W1.cell? ⟨w.heap.size, j, none⟩).isSome = true := fun j hj => by
    rw [hW1, World.cell?_alloc_at (w := w.drew) ROW _ w.heap.size j rfl, Array.getElem?_eq_getElem (by omega)]; rfl
  have hNf : ∀ j, W1.frozen? ⟨w.heap.size, j, none⟩ = false := fun j => by rw [hW1]; exact World.frozen?_alloc_at (w := w.drew) ROW _ w.heap.size j rfl
  have hOb : ∀ j v, w.cell? ⟨g, j, none⟩ = some v → W1.cell? ⟨g, j, none⟩ = some v := fun j v h => by rw [hW1, World.cell?_alloc_past (w := w.drew) _ g j hgw]; exact h
  have hOv : ∀ j v, w.cell? ⟨vb, j, none⟩ = some v → W1.cell? ⟨vb, j, none⟩ = some v := fun j v h => by rw [hW1, World.cell?_alloc_past (w := w.drew) _ vb j hvw]; exact h
  have hcpA : ∀ (W : World), (∀ x, W.cell? x = W1.cell? x) → (∀ x, W.frozen? x = W1.frozen? x) → ∀ ty dc, (Builtin.copy_ #[143, 143] ty #[.slice (some ⟨w.heap.size, i * 6, none⟩) (n + m - i) dc, .slice (some ⟨vb, 0, none⟩) m m]).run Try.prog W = .ok (goInt ((m : Nat) : Int)) (W.setCells w.heap.size (i * 6) (Nt.vals x)) := fun W hWc hWf ty dc =>
    run_copy_row W 143 143 ty 149 6 w.heap.size (i * 6) (n + m - i) dc ⟨vb, 0, none⟩ m m m _ Try.underlying143 hsz (by simp only [Nat.min_def]; split <;> omega) (by rw [hxl, hm1, Nat.one_mul])
      (fun j v hj => by
        rw [addr_plus, hWc, Nat.zero_add]
        refine hOv _ v ?_
        rw [cell_of_row w vb j _ T (0, 0) hvb]
        simpa using hj)
      (fun j hj => by rw [hWc]; exact hN _ (by omega)) (fun j hj => by rw [hWf]; exact hNf _) (fun u hu => nt1 x u hu)
  have hGn : n + m ≤ G := by rw [hG]; exact grownCap_ge w _ _ _
  have hG63 : G ≤ 9223372036854775807 := by
    have := grownCap_le_maxLen w (n + m) c 149 (by unfold maxLen; omega)
    rw [← hG] at this
    unfold maxLen at this
    omega
  have hGi : ¬ (G = i) := by omega
  have hGim : ¬ (G = i + m) := by omega
  have hci : ¬ (c = i) := by omega
  have hbN : g ≠ w.heap.size := by omega
  have hcpB : ∀ (W : World), (∀ y, W.cell? y = (W1.setCells w.heap.size (i * 6) (Nt.vals x)).cell? y) → (∀ y, W.frozen? y = (W1.setCells w.heap.size (i * 6) (Nt.vals x)).frozen? y) → ∀ ty dc sc, (Builtin.copy_ #[143, 143] ty #[.slice (some ⟨w.heap.size, (i + m) * 6, none⟩) (n + m - (i + m)) dc, .slice (some ⟨g, off + i * 6, none⟩) (n - i) sc]).run Try.prog W = .ok (goInt ((n - i : Nat) : Int)) (W.setCells w.heap.size ((i + m) * 6) (rowV Nt.vals (l.drop i))) := fun W hWc hWf ty dc sc =>
    run_copy_row W 143 143 ty 149 6 w.heap.size ((i + m) * 6) (n + m - (i + m)) dc ⟨g, off + i * 6, none⟩ (n - i) sc (n - i) _ Try.underlying143 hsz (by simp only [Nat.min_def]; split <;> omega) hdl
      (fun j v hj => by
        rw [addr_plus, hWc, World.cell?_setCells_out _ _ _ _ _ (fun h _ => absurd h hbN)]
        rw [← rowV_drop Nt.vlen, List.getElem?_drop] at hj
        have h9 := h.cell _ v hj
        rw [← Nat.add_assoc] at h9
        exact hOb _ v h9)
      (fun j hj => by rw [hWc]; exact isSome_setCells _ _ (i * 6) W1 (fun t ht => hN _ (by omega)) _ (hN _ (by omega)))
      (fun j hj => by rw [hWf, World.frozen?_setCells]; exact hNf _) (nt_one _)
  subst hW1
  have hDA : (w.alloc (.cells ROW 149)).drew = w.drew.alloc (.cells ROW 149) := rfl
  have hDZ : ∀ (Z : World) y, Z.drew.cell? y = Z.cell? y := fun _ _ => rfl
  have hDF : ∀ (Z : World) y, Z.drew.frozen? y = Z.frozen? y := fun _ _ => rfl
  have hE1 : ∀ x, ((w.alloc (.cells ROW 149)).drew).cell? x = (w.drew.alloc (.cells ROW 149)).cell? x := fun x => by rw [hDA]
  have hE2 : ∀ x, ((w.alloc (.cells ROW 149)).drew).frozen? x = (w.drew.alloc (.cells ROW 149)).frozen? x := fun x => by rw [hDA]
  have hF1 : ∀ y, (((w.alloc (.cells ROW 149)).drew.setCells w.heap.size (i * 6) (Nt.vals x)).drew).cell? y = ((w.drew.alloc (.cells ROW 149)).setCells w.heap.size (i * 6) (Nt.vals x)).cell? y := fun y => by rw [hDZ, hDA]
  have hF2 : ∀ y, (((w.alloc (.cells ROW 149)).drew.setCells w.heap.size (i * 6) (Nt.vals x)).drew).frozen? y = ((w.drew.alloc (.cells ROW 149)).setCells w.heap.size (i * 6) (Nt.vals x)).frozen? y := fun y => by rw [hDF, hDA]
  have hF3 : ∀ y, ((w.alloc (.cells ROW 149)).drew.setCells w.heap.size (i * 6) (Nt.vals x)).cell? y = ((w.drew.alloc (.cells ROW 149)).setCells w.heap.size (i * 6) (Nt.vals x)).cell? y := fun y => by rw [hDA]
  have hF4 : ∀ y, ((w.alloc (.cells ROW 149)).drew.setCells w.heap.size (i * 6) (Nt.vals x)).frozen? y = ((w.drew.alloc (.cells ROW 149)).setCells w.heap.size (i * 6) (Nt.vals x)).frozen? y := fun y => by rw [hDA]
  clear hDA hDZ hDF
  have hw1 : IntKind.i64.wrap ((i : Int) + (m : Int)) = (i : Int) + (m : Int) := by rw [IntKind.wrap_i64]; omega
  have hb1 : (0 : Int) ≤ (i : Int) + (m : Int) := by omega
  have hin : i ≤ n := by omega
  have htn : ((i : Int) + (m : Int)).toNat = i + m := by omega
  have hb3 : (i : Int) ≤ (n : Int) := by omega
  clear hkk hik hold hROW hG hRl hroom hm1 hvb h hl hxl htl hdl hN hNf hOb hOv hzs hzb hz0 hi0 hbig
  go_enter Try.func105, Try.ntmps105
  go_wp2_with (first
    | (at_builtin; refine Lib.wpList_append_run _ rfl _ _ _ _ rfl _ _ rfl rfl _ _ (hrz _) ?_)
    | (at_builtin; refine wpList_copy_runI _ rfl _ _ 143 143 rfl _ _ rfl rfl (hcpA _ hE1 hE2 _ _) ?_)
    | (at_builtin; refine wpList_copy_runI _ rfl _ _ 143 143 rfl _ _ rfl rfl (hcpB _ hF3 hF4 _ _ _) ?_))
  go_region_law (refine step_copy_runI rfl _ _ 143 143 rfl _ _ (by simp [Act.eval, Act.put]) (by simp [Act.eval, Act.put]) (hcpB _ hF1 hF2 3 (G - (i + m)) (c - i)) ?_)
  go_wp2_with fail
  go_ret
  refine ⟨rfl, ?_⟩
  first | with_reducible rfl | (simp; done) | rfl
end Go.Proofs.Ytejpjbmbcdgomaa

/- slices.Insert of one more note, anywhere. -/
namespace Go.Proofs.Ytejpjbmbcdgomaa
set_option maxRecDepth 100000
open Go.RowKit

theorem row_mid {l : List Nt} {i : Nat} (hi : i ≤ l.length) (x : Nt) {j : Nat} {u : Value} (hj : (rowV Nt.vals (l.take i ++ x :: l.drop i))[j]? = some u) :
    (j < i * 6 ∧ (rowV Nt.vals (l.take i))[j]? = some u ∧ (rowV Nt.vals l)[j]? = some u) ∨ (i * 6 ≤ j ∧ j < i * 6 + 6 ∧ x.vals[j - i * 6]? = some u) ∨ (i * 6 + 6 ≤ j ∧ (rowV Nt.vals (l.drop i))[j - (i * 6 + 6)]? = some u) := by
  have htl : (rowV Nt.vals (l.take i)).length = i * 6 := by rw [rowV_length Nt.vals 6 Nt.vlen, List.length_take, Nat.min_eq_left hi]
  have e1 : rowV Nt.vals (l.take i ++ x :: l.drop i) = rowV Nt.vals (l.take i) ++ (x.vals ++ rowV Nt.vals (l.drop i)) := by rw [rowV_append]; simp [rowV]
  rw [e1] at hj
  by_cases h1 : j < i * 6
  · rw [List.getElem?_append_left (by rw [htl]; exact h1)] at hj
    refine .inl ⟨h1, hj, ?_⟩
    have e2 : rowV Nt.vals l = rowV Nt.vals (l.take i) ++ rowV Nt.vals (l.drop i) := by rw [← rowV_append, List.take_append_drop]
    rw [e2, List.getElem?_append_left (by rw [htl]; exact h1)]
    exact hj
  · rw [List.getElem?_append_right (by rw [htl]; omega), htl] at hj
    by_cases h2 : j < i * 6 + 6
    · rw [List.getElem?_append_left (by rw [Nt.vlen]; omega)] at hj
      exact .inr (.inl ⟨by omega, h2, hj⟩)
    · rw [List.getElem?_append_right (by rw [Nt.vlen]; omega), Nt.vlen, show j - i * 6 - 6 = j - (i * 6 + 6) by omega] at hj
      exact .inr (.inr ⟨by omega, hj⟩)
theorem own_no {w : World} {B : Nat} {v : Value} {l : List Nt} (h : w.ownsRow B 149 6 v l.length (rowV Nt.vals l)) : NoV w v l := by
  rcases h.2 with ⟨rfl, h0⟩ | ⟨g, c, cur, rfl, _, hg, hnc, hcm, hs, ht⟩
  · exact .inl ⟨rfl, List.eq_nil_of_length_eq_zero h0⟩
  · refine .inr ⟨g, 0, c, rfl, ⟨cur, hg, by rw [hs]; omega⟩, fun j u hj => ?_, hnc, hcm⟩
    rw [Nat.zero_add]
    exact own_cell h j u hj
theorem rdv_nt {w : World} {vb : Nat} {x : Nt} {T : TypeId} (hvb : w.heap[vb]? = some (.cells (Nt.vals x).toArray T (0, 0))) : Rdv w (some ⟨vb, 0, none⟩) 1 6 x.vals := ⟨rfl, fun _ => ⟨vb, 0, rfl, fun j u hj => by
  rw [Nat.zero_add, cell_of_row w vb j _ T (0, 0) hvb]
  simpa using hj⟩⟩
/-- One note more. -/
theorem no_append {W : World} {g off c : Nat} {l : List Nt} (h : NoR W g off c l) (ty : TypeId) (x : Nt) (vb : Nat) {T : TypeId} (hvb : W.heap[vb]? = some (.cells (Nt.vals x).toArray T (0, 0))) (hl : l.length ≤ 100000) :
    ∃ v' W', (Builtin.append_ #[143, 143] ty #[.slice (some ⟨g, off, none⟩) l.length c, .slice (some ⟨vb, 0, none⟩) 1 1]).run Try.prog W = .ok v' W' ∧ NoV W' v' (l ++ [x]) ∧ W.grownBy W' (some g) ∧ ∀ q, v'.ownBlock = some q → some g = some q ∨ W.heap.size ≤ q := by
  obtain ⟨ht, hinfo, ⟨i, z, hi, hz, hzs⟩, hpos⟩ := elemNt
  rw [hi] at hinfo
  simp at hinfo
  have hle := h.le
  have hmx := h.mx
  have hrl : (rowV Nt.vals l).length = l.length * 6 := rowV_length Nt.vals 6 Nt.vlen l
  have hnew : ∀ j u, x.vals[j]? = some u → W.cell? ((⟨vb, 0, none⟩ : Addr).add j) = some u := fun j u hj => by
    rw [addr_plus, Nat.zero_add, cell_of_row W vb j _ _ (0, 0) hvb]
    simpa using hj
  have happ : rowV Nt.vals (l ++ [x]) = rowV Nt.vals l ++ x.vals := by rw [rowV_append]; simp [rowV]
  by_cases hroom : l.length + 1 ≤ c
  · have hr := run_append_room_cells (P := Try.prog) (w := W) 143 ty 149 i ht hi g off l.length c ⟨vb, 0, none⟩ 1 1 x.vals (by rw [hinfo.1]; rfl) hnew (nt1 x) hroom (fun j hj => by
      rw [Nt.vlen] at hj
      rw [hinfo.1, Nat.add_assoc]
      exact h.some (by omega)) (fun j _ => h.frozen _)
    rw [hinfo.1] at hr
    obtain ⟨cur, hcur, hcs⟩ := h.blk
    obtain ⟨cur', k1, k2⟩ := cells_kept g x.vals (off + l.length * 6) W cur hcur
    refine ⟨_, _, hr, .inr ⟨g, off, c, by rw [List.length_append]; rfl, ⟨cur', k1, by omega⟩, fun j u hj => ?_, by rw [List.length_append]; exact hroom, hmx⟩, grown_setCells g _ _ W, fun q e => .inl e⟩
    rw [happ] at hj
    by_cases hjl : j < l.length * 6
    · rw [List.getElem?_append_left (by rw [hrl]; exact hjl)] at hj
      rw [World.cell?_setCells_out _ _ _ _ _ (fun _ _ => .inl (by show off + j < _; omega))]
      exact h.cell j u hj
    · rw [List.getElem?_append_right (by rw [hrl]; omega), hrl] at hj
      have hj6 := (List.getElem?_eq_some_iff.1 hj).1
      have h9 := World.cell?_setCells_in g x.vals (off + l.length * 6) W (fun k hk => by rw [Nt.vlen] at hk; rw [Nat.add_assoc]; exact h.some (by omega)) (j - l.length * 6) hj6
      rw [show off + l.length * 6 + (j - l.length * 6) = off + j by omega] at h9
      rw [h9]
      exact congrArg some (List.getElem?_eq_some_iff.1 hj).2
  · have holds : ∀ j u, (rowV Nt.vals l)[j]? = some u → W.cell? ((⟨g, off, none⟩ : Addr).add j) = some u := fun j u hj => by
      rw [addr_plus]; exact h.cell j u hj
    have hr := run_append_grow (P := Try.prog) W 143 ty 149 i z ht hi hz ⟨g, off, none⟩ l.length c (rowV Nt.vals l) (by rw [hrl, hinfo.1]) holds ⟨vb, 0, none⟩ 1 1 x.vals (by rw [hinfo.1]; rfl) hnew (by omega) (by omega) (growslice_fits (by omega) (by rw [hinfo.2]; omega))
    obtain ⟨gc, hgc⟩ : ∃ gc, gc = grownCap W (l.length + 1) c 149 := ⟨_, rfl⟩
    have hcm : gc ≤ maxLen := by rw [hgc]; exact grownCap_le_maxLen W (l.length + 1) c 149 (by unfold maxLen; omega)
    rw [← hgc] at hr
    have hcl : l.length + 1 ≤ gc := by rw [hgc]; exact grownCap_ge _ _ _ _
    refine ⟨_, _, hr, .inr ⟨W.heap.size, 0, gc, by rw [List.length_append]; rfl, ⟨_, heap_alloc_new W.drew _, ?_⟩, fun j u hj => ?_, by rw [List.length_append]; exact hcl, hcm⟩, grown_below (((Below.refl _ W).drew).alloc (Nat.le_refl _) _) _, fun q e => .inr (Nat.le_of_eq (by simpa [Value.ownBlock] using e))⟩
    · simp only [Array.size_append, List.size_toArray, size_zeroCells, hzs, hrl, Nt.vlen]
      simp
      omega
    · have hbk : (W.drew.alloc (.cells ((rowV Nt.vals l).toArray ++ x.vals.toArray ++ Builtin.zeroCells z.cells (gc - (l.length + 1))) 149)).heap[W.heap.size]? = some (.cells ((rowV Nt.vals l).toArray ++ x.vals.toArray ++ Builtin.zeroCells z.cells (gc - (l.length + 1))) 149 (0, 0)) := heap_alloc_new W.drew _
      rw [cell_of_row _ _ _ _ _ (0, 0) hbk]
      rw [happ] at hj
      have hjl := (List.getElem?_eq_some_iff.1 hj).1
      have e : ((rowV Nt.vals l).toArray ++ x.vals.toArray) = (rowV Nt.vals l ++ x.vals).toArray := by simp
      rw [e, Nat.zero_add, Array.getElem?_append_left (by simpa using hjl)]
      simpa using hj
set_option maxHeartbeats 2000000 in
/-- At the end. -/
theorem insert_endNo {w : World} {g off n c : Nat} {l : List Nt} (h : NoR w g off c l) (hl : l.length = n) (hn : n ≤ 100000) (x : Nt) (vb : Nat) {T : TypeId} (hvb : w.heap[vb]? = some (.cells (Nt.vals x).toArray T (0, 0))) :
    Calls Try.prog 105 #[.slice (some ⟨g, off, none⟩) n c, .int .i64 (n : Int), .slice (some ⟨vb, 0, none⟩) 1 1] w fun e w' => ∃ v', e = .returned v' ∧ NoV w' v' (l ++ [x]) ∧ w.grownBy w' (some g) ∧ ∀ q, v'.ownBlock = some q → some g = some q ∨ w.heap.size ≤ q := by
  have hnc : n ≤ c := by have := h.le; omega
  have hc63 : c ≤ 9223372036854775807 := by have := h.mx; unfold maxLen at this; omega
  have er : ((n : Int) == (n : Int)) = true := by simp
  have HA : Hid (∀ ty, ∃ v' W', (Builtin.append_ #[143, 143] ty #[.slice (some ⟨g, off, none⟩) n c, .slice (some ⟨vb, 0, none⟩) 1 1]).run Try.prog w = .ok v' W' ∧ NoV W' v' (l ++ [x]) ∧ w.grownBy W' (some g) ∧ ∀ q, v'.ownBlock = some q → some g = some q ∨ w.heap.size ≤ q) := Lib.hid fun ty => by
    rw [← hl]
    exact no_append h ty x vb hvb (by omega)
  clear h hl hvb
  by_cases hcn : c = n
  · subst hcn
    go_enter Try.func105, Try.ntmps105
    obtain ⟨v', W', h1, h2⟩ := HA.out 143
    have H2 := Lib.hid h2
    clear h2
    go_wp2_with (at_builtin; refine Lib.wpList_append_run _ rfl _ _ _ _ rfl _ _ rfl rfl _ _ h1 ?_)
    go_ret
    exact ⟨_, rfl, H2.out⟩
  · go_enter Try.func105, Try.ntmps105
    obtain ⟨v', W', h1, h2⟩ := HA.out 143
    have H2 := Lib.hid h2
    clear h2
    go_wp2_with (at_builtin; refine Lib.wpList_append_run _ rfl _ _ _ _ rfl _ _ rfl rfl _ _ h1 ?_)
    go_ret
    exact ⟨_, rfl, H2.out⟩
/-- One note more, anywhere. -/
theorem insert_anyNt {w : World} {v : Value} {l : List Nt} (h : NoV w v l) (i : Nat) (hi : i ≤ l.length) (hn : l.length ≤ 100000) (x : Nt) (vb : Nat) {T : TypeId} (hvb : w.heap[vb]? = some (.cells (Nt.vals x).toArray T (0, 0))) (hne : v.ownBlock ≠ some vb) :
    Calls Try.prog 105 #[v, .int .i64 (i : Int), .slice (some ⟨vb, 0, none⟩) 1 1] w fun e w' => ∃ v', e = .returned v' ∧ NoV w' v' (l.take i ++ x :: l.drop i) ∧ w.grownBy w' v.ownBlock ∧ ∀ q, v'.ownBlock = some q → v.ownBlock = some q ∨ w.heap.size ≤ q := by
  rcases h with ⟨rfl, rfl⟩ | ⟨g, off, c, rfl, h⟩
  · obtain rfl : i = 0 := by simpa using hi
    refine Calls.mono (insert_end (w := w) (B := 0) (NS := []) (x := x) (b := vb) (c2 := 1) (World.ownsRow_nil _ _ _ _) (rdv_nt hvb) (by decide) (Nat.zero_le _)) ?_
    rintro e w' ⟨v', rfl, ho, hg, hq⟩
    exact ⟨v', rfl, own_no ho, hg, hq⟩
  · by_cases hin : i = l.length
    · rw [hin, List.take_length, List.drop_length]
      exact insert_endNo h rfl hn x vb hvb
    · have hlt : i < l.length := by omega
      have hne' : vb ≠ g := fun e => hne (by rw [e]; rfl)
      have hdl : (rowV Nt.vals (l.drop i)).length = (l.length - i) * 6 := by rw [rowV_length Nt.vals 6 Nt.vlen, List.length_drop]
      have htl : (rowV Nt.vals (l.take i)).length = i * 6 := by rw [rowV_length Nt.vals 6 Nt.vlen, List.length_take, Nat.min_eq_left hi]
      have hlen : (l.take i ++ x :: l.drop i).length = l.length + 1 := by simp; omega
      have hx6 := Nt.vlen x
      by_cases hroom : l.length + 1 ≤ c
      · refine Calls.mono (insert_roomNt h rfl i hlt hroom x vb hvb hne' 1 rfl) ?_
        rintro e w' ⟨rfl, rfl⟩
        obtain ⟨cur, hcur, hcs⟩ := h.blk
        obtain ⟨cu1, k1, k2⟩ := cells_kept g (rowV Nt.vals (l.drop i)) (off + (i + 1) * 6) w.drew cur hcur
        obtain ⟨cu2, k3, k4⟩ := cells_kept g (Nt.vals x) (off + i * 6) _ cu1 k1
        have hs1 : ∀ j, j < c * 6 → ((w.drew.setCells g (off + (i + 1) * 6) (rowV Nt.vals (l.drop i))).cell? ⟨g, off + j, none⟩).isSome = true := fun j hj => by
          rw [cell_of_row _ g _ _ _ (0, 0) k1, Array.getElem?_eq_getElem (by omega)]
          rfl
        refine ⟨_, rfl, .inr ⟨g, off, c, by rw [hlen], ⟨cu2, k3, by omega⟩, fun j u hj => ?_, by rw [hlen]; exact hroom, h.mx⟩, grown_trans (grown_drewN w _ 1) (grown_trans (grown_setCells g _ _ _) (grown_setCells g _ _ _)), fun q e => .inl e⟩
        rcases row_mid hi x hj with ⟨j1, _, j3⟩ | ⟨j1, j2, j3⟩ | ⟨j1, j2⟩
        · rw [World.cell?_setCells_out _ _ _ _ _ (fun _ _ => .inl (by show off + j < _; omega)), World.cell?_setCells_out _ _ _ _ _ (fun _ _ => .inl (by show off + j < _; omega))]
          exact h.cell j u j3
        · have h9 := World.cell?_setCells_in g x.vals (off + i * 6) _ (fun k hk => by rw [Nat.add_assoc]; exact hs1 _ (by omega)) (j - i * 6) (by omega)
          rw [show off + i * 6 + (j - i * 6) = off + j by omega] at h9
          rw [h9]
          exact congrArg some (List.getElem?_eq_some_iff.1 j3).2
        · rw [World.cell?_setCells_out _ _ _ _ _ (fun _ _ => .inr (by show _ ≤ off + j; omega))]
          have hjl := (List.getElem?_eq_some_iff.1 j2).1
          have h9 := World.cell?_setCells_in g (rowV Nt.vals (l.drop i)) (off + (i + 1) * 6) w.drew (fun k hk => by rw [Nat.add_assoc]; exact h.some (by omega)) (j - (i * 6 + 6)) hjl
          rw [show off + (i + 1) * 6 + (j - (i * 6 + 6)) = off + j by omega] at h9
          rw [h9]
          exact congrArg some (List.getElem?_eq_some_iff.1 j2).2
      · refine Calls.mono (insert_growNt h rfl i hlt hn (by omega) x vb hvb 1 rfl) ?_
        rintro e w' ⟨rfl, rfl⟩
        have hGn : l.length + 1 ≤ grownCap w (l.length + 1) c 149 := grownCap_ge w _ _ _
        have hGm : grownCap w (l.length + 1) c 149 ≤ maxLen := grownCap_le_maxLen w (l.length + 1) c 149 (by unfold maxLen; omega)
        obtain ⟨G, hG⟩ : ∃ G, G = grownCap w (l.length + 1) c 149 := ⟨_, rfl⟩
        rw [← hG] at hGn hGm ⊢
        obtain ⟨ROW, hROW⟩ : ∃ ROW : Array Value, ROW = (rowV Nt.vals (l.take i)).toArray ++ Builtin.zeroCells (Value.agg #[.int .i64 0, .int .i64 0, .int .i64 0, .int .i64 0, .bool false, .bool false]).cells (l.length + 1 - i) ++ Builtin.zeroCells (Value.agg #[.int .i64 0, .int .i64 0, .int .i64 0, .int .i64 0, .bool false, .bool false]).cells (G - (l.length + 1)) := ⟨_, rfl⟩
        rw [← hROW]
        have hs : ROW.size = G * 6 := by
          rw [hROW]
          simp [size_zeroCells, Value.cells, htl]
          omega
        have hR0 : ∀ j u, (rowV Nt.vals (l.take i))[j]? = some u → ROW[j]? = some u := fun j u hj => by
          have hjl := (List.getElem?_eq_some_iff.1 hj).1
          rw [hROW, Array.getElem?_append_left (by simp; omega), Array.getElem?_append_left (by simpa using hjl)]
          simpa using hj
        clear hROW
        obtain ⟨W1, hW1⟩ : ∃ W1, W1 = (w.alloc (.cells ROW 149)).drew := ⟨_, rfl⟩
        rw [← hW1]
        have hB : Below w.heap.size w W1 := by rw [hW1]; exact (((Below.refl _ w).alloc (Nat.le_refl _) _)).drew
        have hN1 : W1.heap[w.heap.size]? = some (.cells ROW 149 (0, 0)) := by rw [hW1]; exact heap_alloc_new w _
        obtain ⟨cu1, k1, k2⟩ := cells_kept w.heap.size (Nt.vals x) (i * 6) W1 ROW hN1
        have hg1 := grown_setCells w.heap.size (Nt.vals x) (i * 6) W1
        have hc1 : ∀ j, j < i * 6 → (W1.setCells w.heap.size (i * 6) (Nt.vals x)).cell? ⟨w.heap.size, j, none⟩ = ROW[j]? := fun j hj => by
          rw [World.cell?_setCells_out w.heap.size (Nt.vals x) (i * 6) W1 ⟨w.heap.size, j, none⟩ (fun _ _ => .inl hj), cell_of_row _ _ j _ _ (0, 0) hN1]
        have hc2 : ∀ j u, i * 6 ≤ j → x.vals[j - i * 6]? = some u → (W1.setCells w.heap.size (i * 6) (Nt.vals x)).cell? ⟨w.heap.size, j, none⟩ = some u := fun j u j1 j3 => by
          have hjl := (List.getElem?_eq_some_iff.1 j3).1
          have h9 := World.cell?_setCells_in w.heap.size x.vals (i * 6) W1 (fun k hk => by rw [cell_of_row _ _ _ _ _ (0, 0) hN1, Array.getElem?_eq_getElem (by omega)]; rfl) (j - i * 6) hjl
          rw [show i * 6 + (j - i * 6) = j by omega] at h9
          rw [h9]
          exact congrArg some (List.getElem?_eq_some_iff.1 j3).2
        have hdr : ∀ (Z : World) (a : Addr), Z.drew.cell? a = Z.cell? a := fun _ _ => rfl
        obtain ⟨Z, hZ⟩ : ∃ Z, Z = W1.setCells w.heap.size (i * 6) (Nt.vals x) := ⟨_, rfl⟩
        rw [← hZ] at k1 hg1 hc1 hc2 ⊢
        have k1d : Z.drew.heap[w.heap.size]? = some (.cells cu1 149 (0, 0)) := k1
        obtain ⟨cu2, k3, k4⟩ := cells_kept w.heap.size (rowV Nt.vals (l.drop i)) ((i + 1) * 6) Z.drew cu1 k1d
        have hb : Below w.heap.size w Z := hB.trans (below_grown2 hg1 (Nat.le_refl _) hB.size)
        clear hZ
        refine ⟨_, rfl, .inr ⟨w.heap.size, 0, G, by rw [hlen], ⟨cu2, k3, by omega⟩, fun j u hj => ?_, by rw [hlen]; exact hGn, hGm⟩, ?_, fun q e => .inr (Nat.le_of_eq (by simpa [Value.ownBlock] using e))⟩
        · rw [Nat.zero_add]
          rcases row_mid hi x hj with ⟨j1, j2, _⟩ | ⟨j1, j2, j3⟩ | ⟨j1, j2⟩
          · rw [World.cell?_setCells_out w.heap.size _ ((i + 1) * 6) Z.drew ⟨w.heap.size, j, none⟩ (fun _ _ => .inl (Nat.lt_of_lt_of_le j1 (Nat.mul_le_mul_right 6 (Nat.le_succ i)))), hdr, hc1 j j1]
            exact hR0 j u j2
          · rw [World.cell?_setCells_out w.heap.size _ ((i + 1) * 6) Z.drew ⟨w.heap.size, j, none⟩ (fun _ _ => .inl (show j < (i + 1) * 6 by omega)), hdr]
            exact hc2 j u j1 j3
          · have hjl := (List.getElem?_eq_some_iff.1 j2).1
            have h9 := World.cell?_setCells_in w.heap.size (rowV Nt.vals (l.drop i)) ((i + 1) * 6) Z.drew (fun k hk => by rw [cell_of_row _ _ _ _ _ (0, 0) k1d, Array.getElem?_eq_getElem (by omega)]; rfl) (j - (i * 6 + 6)) hjl
            rw [show (i + 1) * 6 + (j - (i * 6 + 6)) = j by omega] at h9
            rw [h9]
            exact congrArg some (List.getElem?_eq_some_iff.1 j2).2
        · have hg2 := grown_setCells w.heap.size (rowV Nt.vals (l.drop i)) ((i + 1) * 6) Z.drew
          exact grown_below ((Below.drew hb).trans (below_grown2 hg2 (Nat.le_refl _) hb.size)) _
end Go.Proofs.Ytejpjbmbcdgomaa
