/- VNo: put together. -/
import Derived.Test.YtejpjbmbcdgomaaPt34
/- A row of notes with an offset; slices.Insert on it. -/
namespace Go.Proofs.Ytejpjbmbcdgomaa
set_option maxRecDepth 100000
open Go.RowKit

/-- A row of notes: its block, where it begins, its room. -/
structure NoR (w : World) (b off c : Nat) (l : List Nt) : Prop where
  blk : ∃ cur, w.heap[b]? = some (.cells cur 149 (0, 0)) ∧ off + c * 6 ≤ cur.size
  cell : ∀ j u, (rowV Nt.vals l)[j]? = some u → w.cell? ⟨b, off + j, none⟩ = some u
  le : l.length ≤ c
  mx : c ≤ maxLen
def NoV (w : World) (v : Value) (l : List Nt) : Prop := (v = .slice none 0 0 ∧ l = []) ∨ ∃ b off c, v = .slice (some ⟨b, off, none⟩) l.length c ∧ NoR w b off c l
section
variable {w w' : World} {b off c : Nat} {l : List Nt} {v : Value}
theorem NoR.lt (h : NoR w b off c l) : b < w.heap.size := by
  obtain ⟨_, e, _⟩ := h.blk
  exact (Array.getElem?_eq_some_iff.1 e).1
theorem NoR.some (h : NoR w b off c l) {j : Nat} (hj : j < c * 6) : (w.cell? ⟨b, off + j, none⟩).isSome = true := by
  obtain ⟨cur, e, hs⟩ := h.blk
  rw [cell_of_row w b _ cur _ (0, 0) e, Array.getElem?_eq_getElem (by omega)]
  rfl
theorem NoR.frozen (h : NoR w b off c l) (j : Nat) : w.frozen? ⟨b, j, none⟩ = false := by
  obtain ⟨cur, e, _⟩ := h.blk
  exact frozen_of e j
theorem NoR.keep (h : NoR w b off c l) (hk : w'.heap[b]? = w.heap[b]?) : NoR w' b off c l := by
  obtain ⟨cur, e, hs⟩ := h.blk
  exact ⟨⟨cur, hk.trans e, hs⟩, fun j u hj => (World.cell?_of_block (a := ⟨b, off + j, none⟩) hk).trans (h.cell j u hj), h.le, h.mx⟩
theorem NoV.keep (h : NoV w v l) (hk : ∀ q, v.ownBlock = some q → w'.heap[q]? = w.heap[q]?) : NoV w' v l := by
  rcases h with h | ⟨b, off, c, rfl, h⟩
  · exact .inl h
  · exact .inr ⟨b, off, c, rfl, h.keep (hk b rfl)⟩
theorem NoV.lt (h : NoV w v l) {q : Nat} (e : v.ownBlock = some q) : q < w.heap.size := by
  rcases h with ⟨rfl, _⟩ | ⟨b, off, c, rfl, h⟩
  · cases e
  · injection e with e; subst e; exact h.lt
theorem NoV.below (h : NoV w v l) (hb : Below w.heap.size w w') : NoV w' v l := h.keep fun q e => hb.block q (h.lt e)
theorem NoV.type (h : NoV w v l) {q : Nat} (e : v.ownBlock = some q) : ∃ cur, w.heap[q]? = some (.cells cur 149 (0, 0)) := by
  rcases h with ⟨rfl, _⟩ | ⟨b, off, c, rfl, h⟩
  · cases e
  · injection e with e
    subst e
    obtain ⟨cur, e, _⟩ := h.blk
    exact ⟨cur, e⟩
theorem NoV.nts {A : Option Addr} {n c2 : Nat} (h : NoV w (.slice A n c2) l) : Nts w A l ∧ n = l.length ∧ l.length ≤ c2 := by
  have hl : (rowV Nt.vals l).length = l.length * 6 := rowV_length Nt.vals 6 Nt.vlen l
  rcases h with ⟨e, rfl⟩ | ⟨b, off, c, e, h⟩
  · injection e with e1 e2 e3
    exact ⟨⟨rfl, hl, fun hn => absurd hn (by decide)⟩, e2, by simp⟩
  · injection e with e1 e2 e3
    subst e1 e2 e3
    exact ⟨⟨rfl, hl, fun _ => ⟨b, off, rfl, h.cell⟩⟩, rfl, h.le⟩
theorem NoV.form (h : NoV w v l) : ∃ A c, v = .slice A l.length c := by
  rcases h with ⟨rfl, rfl⟩ | ⟨b, off, c, rfl, h⟩
  · exact ⟨none, 0, rfl⟩
  · exact ⟨_, _, rfl⟩
end
theorem cells_kept {T : TypeId} (b : Nat) : ∀ (vs : List Value) (o : Nat) (w : World) (cur : Array Value), w.heap[b]? = some (.cells cur T (0, 0)) → ∃ cur', (w.setCells b o vs).heap[b]? = some (.cells cur' T (0, 0)) ∧ cur'.size = cur.size
  | [], _, _, cur, h => ⟨cur, h, rfl⟩
  | v :: vs, o, w, cur, h => by
    obtain ⟨c2, h1, h2⟩ := cells_kept b vs (o + 1) (w.setCell ⟨b, o, none⟩ v) _ (heap_set w b o v h)
    exact ⟨c2, h1, by rw [h2, Array.size_setIfInBounds]⟩
theorem grown_setCells (b : Nat) : ∀ (vs : List Value) (o : Nat) (w : World), w.grownBy (w.setCells b o vs) (some b)
  | [], _, w => grown_refl w _
  | v :: vs, o, w => grown_trans (grown_setCell w b o v) (grown_setCells b vs (o + 1) _)
theorem overNt {w : World} {vb g off m vc lb cb : Nat} {xs cur : Array Value} {T : TypeId} (hvb : w.heap[vb]? = some (.cells xs T (0, 0))) (hg : w.heap[g]? = some (.cells cur 149 (0, 0))) (hc : cur.size ≠ 0) (hne : vb ≠ g) :
    (callFunc 116 #[.slice (some ⟨vb, 0, none⟩) m vc, .slice (some ⟨g, off, none⟩) lb cb]).run Try.prog w = .ok (.value (.bool false)) w := by
  rw [run_callFunc_extern Try.func116 (by kernel_rfl) (by kernel_rfl) (by kernel_rfl) (e := Extern.SlicesOverlaps.overlaps #[143, 143] #[4]) (by kernel_rfl),
    Lib.run_overlaps_apart w 143 4 149 Try.underlying143 6 Try.sizeOf149 ⟨vb, 0, none⟩ ⟨g, off, none⟩ m vc lb cb hne T 149 xs.size cur.size (shape_of hvb) (shape_of hg) hc (frozen_of hvb 0) (frozen_of hvb _)]
  rfl
theorem el_sizeNt : (Try.prog.info? 149).map (·.size) = some 6 := by
  obtain ⟨_, h, _, _⟩ := elemNt
  obtain ⟨i, h1, h2⟩ := Option.map_eq_some_iff.1 h
  rw [h1]
  injection h2 with h2
  simp [h2]
theorem nt_one (l : List Nt) : ∀ u ∈ rowV Nt.vals l, u.oneCell' = true := fun u hu => by
  obtain ⟨x, _, h⟩ := List.mem_flatMap.1 hu
  exact nt1 x u h
set_option maxHeartbeats 2000000 in
/-- In the middle, with room. -/
theorem insert_roomNt {w : World} {g off n c : Nat} {l : List Nt} (h : NoR w g off c l) (hl : l.length = n) (i : Nat) (hi : i < n) (hroom : n + 1 ≤ c) (x : Nt) (vb : Nat) {T : TypeId} (hvb : w.heap[vb]? = some (.cells (Nt.vals x).toArray T (0, 0))) (hne : vb ≠ g) (m : Nat) (hm1 : m = 1) :
    Calls Try.prog 105 #[.slice (some ⟨g, off, none⟩) n c, .int .i64 (i : Int), .slice (some ⟨vb, 0, none⟩) m m] w fun e w' => e = .returned (.slice (some ⟨g, off, none⟩) (n + m) c) ∧ w' = (w.drew.setCells g (off + (i + m) * 6) (rowV Nt.vals (l.drop i))).setCells g (off + i * 6) (Nt.vals x) := by
  have hnc : n ≤ c := by omega
  have hc63 : c ≤ 9223372036854775807 := by have := h.mx; unfold maxLen at this; omega
  obtain ⟨cur, hcur, hcs⟩ := h.blk
  have hm : 0 < m := by omega
  have hz1 : ¬ ((m : Int) = 0) := by omega
  have hz2 : ¬ ((i : Int) = (n : Int)) := by omega
  have hsz := el_sizeNt
  have hKb : ∀ j, j < (n + 1) * 6 → j < c * 6 := fun j hj => Nat.lt_of_lt_of_le hj (Nat.mul_le_mul_right 6 hroom)
  have hov : ∀ lb cb, (callFunc 116 #[.slice (some ⟨vb, 0, none⟩) m m, .slice (some ⟨g, off + (i + m) * 6, none⟩) lb cb]).run Try.prog w = .ok (.value (.bool false)) w := fun lb cb => overNt hvb hcur (by omega) hne
  obtain ⟨_, hdl⟩ := rows_len Nt.vlen hl (Nat.le_of_lt hi) (f := Nt.vals) (k := 6)
  have hxl := Nt.vlen x
  have hw1 : IntKind.i64.wrap ((i : Int) + (m : Int)) = (i : Int) + (m : Int) := by rw [IntKind.wrap_i64]; omega
  have hb1 : (0 : Int) ≤ (i : Int) + (m : Int) := by omega
  have hin : i ≤ n := by omega
  have htn : ((i : Int) + (m : Int)).toNat = i + m := by omega
  have hb2 : ¬ (c = i + m) := by omega
  have hb3 : (i : Int) ≤ (n : Int) + (m : Int) := by omega
  have hb4 : ¬ (c = i) := by omega
  have hcp1 : ∀ ty dc sc, (Builtin.copy_ #[143, 143] ty #[.slice (some ⟨g, off + (i + m) * 6, none⟩) (n + m - (i + m)) dc, .slice (some ⟨g, off + i * 6, none⟩) (n + m - i) sc]).run Try.prog w.drew = .ok (goInt ((n - i : Nat) : Int)) (w.drew.setCells g (off + (i + m) * 6) (rowV Nt.vals (l.drop i))) := fun ty dc sc =>
    run_copy_row w.drew 143 143 ty 149 6 g (off + (i + m) * 6) (n + m - (i + m)) dc ⟨g, off + i * 6, none⟩ (n + m - i) sc (n - i) _ Try.underlying143 hsz (by simp only [Nat.min_def]; split <;> omega) hdl
      (fun j v hj => by
        rw [addr_plus]
        rw [← rowV_drop Nt.vlen, List.getElem?_drop] at hj
        have h9 := h.cell _ v hj
        rw [← Nat.add_assoc] at h9
        exact h9)
      (fun j hj => by rw [Nat.add_assoc]; exact h.some (hKb _ (by rw [hdl] at hj; omega))) (fun j _ => h.frozen _) (nt_one _)
  obtain ⟨W1, hW1⟩ : ∃ W1, W1 = w.drew.setCells g (off + (i + m) * 6) (rowV Nt.vals (l.drop i)) := ⟨_, rfl⟩
  have hsp1 : ∀ k, k < (n + 1) * 6 → (W1.cell? ⟨g, off + k, none⟩).isSome = true := fun k hk => by
    rw [hW1]
    exact isSome_setCells g _ (off + (i + m) * 6) w.drew (fun j hj => by rw [Nat.add_assoc]; exact h.some (hKb _ (by rw [hdl] at hj; omega))) _ (h.some (hKb _ hk))
  have hcp2 : ∀ (W : World), (∀ x, W.cell? x = W1.cell? x) → (∀ x, W.frozen? x = W1.frozen? x) → ∀ ty dc, (Builtin.copy_ #[143, 143] ty #[.slice (some ⟨g, off + i * 6, none⟩) (n + m - i) dc, .slice (some ⟨vb, 0, none⟩) m m]).run Try.prog W = .ok (goInt ((m : Nat) : Int)) (W.setCells g (off + i * 6) (Nt.vals x)) := fun W hWc hWf ty dc =>
    run_copy_row W 143 143 ty 149 6 g (off + i * 6) (n + m - i) dc ⟨vb, 0, none⟩ m m m _ Try.underlying143 hsz (by simp only [Nat.min_def]; split <;> omega) (by rw [hxl, hm1, Nat.one_mul])
      (fun j v hj => by
        rw [addr_plus, hWc, hW1, World.cell?_setCells_out g _ _ _ _ (fun h _ => absurd h hne), Nat.zero_add]
        rw [show w.drew.cell? ⟨vb, j, none⟩ = w.cell? ⟨vb, j, none⟩ from rfl, cell_of_row w vb j _ T (0, 0) hvb]
        simpa using hj)
      (fun j hj => by rw [hWc, Nat.add_assoc]; exact hsp1 _ (by rw [hxl] at hj; omega)) (fun j _ => by rw [hWf, hW1, World.frozen?_setCells]; exact h.frozen _) (fun u hu => nt1 x u hu)
  rw [← hW1] at hcp1 ⊢
  have hroom2 : n + m ≤ c := by omega
  clear hKb hdl hxl h hl hsp1 hvb hcur hcs hm1 hroom
  go_enter Try.func105, Try.ntmps105
  go_wp2_with (simp only [hov])
  go_region_law (refine step_copy_runI rfl _ _ 143 143 rfl _ _ (by simp [Act.eval, Act.put]) (by simp [Act.eval, Act.put]) (hcp1 _ _ _) ?_)
  go_wp2_with (at_builtin; refine wpList_copy_runI _ rfl _ _ 143 143 rfl _ _ rfl rfl (hcp2 _ (fun _ => rfl) (fun _ => rfl) _ _) ?_)
  go_ret
  refine ⟨rfl, ?_⟩
  first | (rw [hW1]; done) | (rw [hW1]; simp; done)
set_option maxHeartbeats 2000000 in
/-- In the middle, without room. -/
theorem insert_growNt {w : World} {g off n c : Nat} {l : List Nt} (h : NoR w g off c l) (hl : l.length = n) (i : Nat) (hi : i < n) (hnn : n ≤ 100000) (hroom : c < n + 1) (x : Nt) (vb : Nat) {T : TypeId} (hvb : w.heap[vb]? = some (.cells (Nt.vals x).toArray T (0, 0))) (m : Nat) (hm1 : m = 1) :
    Calls Try.prog 105 #[.slice (some ⟨g, off, none⟩) n c, .int .i64 (i : Int), .slice (some ⟨vb, 0, none⟩) m m] w fun e w' =>
      e = .returned (.slice (some ⟨w.heap.size, 0, none⟩) (n + m) (grownCap w (n + m) c 149)) ∧
      w' = (((w.alloc (.cells ((rowV Nt.vals (l.take i)).toArray ++ Builtin.zeroCells (Value.agg #[.int .i64 0, .int .i64 0, .int .i64 0, .int .i64 0, .bool false, .bool false]).cells (n + m - i) ++ Builtin.zeroCells (Value.agg #[.int .i64 0, .int .i64 0, .int .i64 0, .int .i64 0, .bool false, .bool false]).cells (grownCap w (n + m) c 149 - (n + m))) 149)).drew.setCells w.heap.size (i * 6) (Nt.vals x)).drew).setCells w.heap.size ((i + m) * 6) (rowV Nt.vals (l.drop i)) := by
  have hgw := h.lt
  have hnc : n ≤ c := by have := h.le; omega
  have hc63 : c ≤ 9223372036854775807 := by have := h.mx; unfold maxLen at this; omega
  have hm : 0 < m := by omega
  have hz1 : ¬ ((m : Int) = 0) := by omega
  have hz2 : ¬ ((i : Int) = (n : Int)) := by omega
  have hz3 : (c : Int) < (n : Int) + (m : Int) := by omega
  have hsz := el_sizeNt
  have hxl := Nt.vlen x
  obtain ⟨htl, hdl⟩ := rows_len Nt.vlen hl (Nat.le_of_lt hi) (f := Nt.vals) (k := 6)
  have hbig : (n + m) * 48 ≤ 140737488355328 := by omega
  have hvw : vb < w.heap.size := (Array.getElem?_eq_some_iff.1 hvb).1
  have hkk : (n : Int) + (m : Int) - (i : Int) = ((n + m - i : Nat) : Int) := by omega
  have hik : i + (n + m - i) = n + m := by omega
  obtain ⟨i0, hi0, hz0, hzs, hzb⟩ := info_parts (show (Try.prog.info? 149).map (fun i => (i.zero, i.size, i.bytes)) = some (some (Value.agg #[.int .i64 0, .int .i64 0, .int .i64 0, .int .i64 0, .bool false, .bool false]), 6, 48) by kernel_rfl)
  have hold : (Builtin.firstCells i0.size i (.slice (some ⟨g, off, none⟩) i c)).run Try.prog w.drew = .ok (rowV Nt.vals (l.take i)).toArray w.drew := by
    rw [hzs]
    exact run_firstCells_some w.drew 6 i ⟨g, off, none⟩ i c _ htl (fun j v hj => by
      rw [addr_plus]
      rw [← rowV_take Nt.vlen, List.getElem?_take] at hj
      split at hj
      · exact h.cell _ v hj
      · cases hj)
  have hrz : ∀ ty, (Builtin.append_ #[143, 3] ty #[.slice (some ⟨g, off, none⟩) i c, .int .i64 ((n : Int) + (m : Int) - (i : Int))]).run Try.prog w =
      .ok (.slice (some ⟨w.heap.size, 0, none⟩) (n + m) (grownCap w (n + m) c 149)) (w.drew.alloc (.cells ((rowV Nt.vals (l.take i)).toArray ++ Builtin.zeroCells (Value.agg #[.int .i64 0, .int .i64 0, .int .i64 0, .int .i64 0, .bool false, .bool false]).cells (n + m - i) ++ Builtin.zeroCells (Value.agg #[.int .i64 0, .int .i64 0, .int .i64 0, .int .i64 0, .bool false, .bool false]).cells (grownCap w (n + m) c 149 - (n + m))) 149)) := fun ty => by
    have h := Lib.run_append_grow_zeros w 143 3 ty 149 i0 _ .i64 .i64 Try.underlying143 Try.underlying3 hi0 hz0 (some ⟨g, off, none⟩) i c (rowV Nt.vals (l.take i)) hold (n + m - i) (by omega) (by omega) (by omega) (by omega) (by rw [hzb]; omega) (by rw [hzb, hik]; exact growslice_fits (by omega) hbig)
    rw [hik] at h
    rw [hkk]
    exact h
  obtain ⟨G, hG⟩ : ∃ G, G = grownCap w (n + m) c 149 := ⟨_, rfl⟩
  obtain ⟨ROW, hROW⟩ : ∃ ROW : Array Value, ROW = (rowV Nt.vals (l.take i)).toArray ++ Builtin.zeroCells (Value.agg #[.int .i64 0, .int .i64 0, .int .i64 0, .int .i64 0, .bool false, .bool false]).cells (n + m - i) ++ Builtin.zeroCells (Value.agg #[.int .i64 0, .int .i64 0, .int .i64 0, .int .i64 0, .bool false, .bool false]).cells (G - (n + m)) := ⟨_, rfl⟩
  rw [← hG] at hrz ⊢
  rw [← hROW] at hrz ⊢
  have hRl : (n + m) * 6 ≤ ROW.size := by
    rw [hROW]
    simp [size_zeroCells, Value.cells]
    omega
  obtain ⟨W1, hW1⟩ : ∃ W1, W1 = w.drew.alloc (.cells ROW 149) := ⟨_, rfl⟩
  rw [← hW1] at hrz
  have hN : ∀ j, j < (n + m) * 6 → (W1.cell? ⟨w.heap.size, j, none⟩).isSome = true := fun j hj => by
    rw [hW1, World.cell?_alloc_at (w := w.drew) ROW _ w.heap.size j rfl, Array.getElem?_eq_getElem (by omega)]; rfl
  have hNf : ∀ j, W1.frozen? ⟨w.heap.size, j, none⟩ = false := fun j => by rw [hW1]; exact World.frozen?_alloc_at (w := w.drew) ROW _ w.heap.size j rfl
  have hOb : ∀ j v, w.cell? ⟨g, j, none⟩ = some v → W1.cell? ⟨g, j, none⟩ = some v := fun j v h => by rw [hW1, World.cell?_alloc_past (w := w.drew) _ g j hgw]; exact h
  have hOv : ∀ j v, w.cell? ⟨vb, j, none⟩ = some v → W1.cell? ⟨vb, j, none⟩ = some v := fun j v h => by rw [hW1, World.cell?_alloc_past (w := w.drew) _ vb j hvw]; exact h
  have hcpA : ∀ (W : World), (∀ x, W.cell? x = W1.cell? x) → (∀ x, W.frozen? x = W1.frozen? x) → ∀ ty dc, (Builtin.copy_ #[143, 143] ty #[.slice (some ⟨w.heap.size, i * 6, none⟩) (n + m - i) dc, .slice (some ⟨vb, 0, none⟩) m m]).run Try.prog W = .ok (goInt ((m : Nat) : Int)) (W.setCells w.heap.size (i * 6) (Nt.vals x)) := fun W hWc hWf ty dc =>
    run_copy_row W 143 143 ty 149 6 w.heap.size (i * 6) (n + m - i) dc ⟨vb, 0, none⟩ m m m _ Try.underlying143 hsz (by simp only [Nat.min_def]; split <;> omega) (by rw [hxl, hm1, Nat.one_mul])
      (fun j v hj => by
        rw [addr_plus, hWc, Nat.zero_add]
        refine hOv _ v ?_
        rw [cell_of_row w vb j _ T (0, 0) hvb]
        simpa using hj)
      (fun j hj => by rw [hWc]; exact hN _ (by omega)) (fun j hj => by rw [hWf]; exact hNf _) (fun u hu => nt1 x u hu)
  have hGn : n + m ≤ G := by rw [hG]; exact grownCap_ge w _ _ _
  have hG63 : G ≤ 9223372036854775807 := by
    have := grownCap_le_maxLen w (n + m) c 149 (by unfold maxLen; omega)
    rw [← hG] at this
    unfold maxLen at this
    omega
  have hGi : ¬ (G = i) := by omega
  have hGim : ¬ (G = i + m) := by omega
  have hci : ¬ (c = i) := by omega
  have hbN : g ≠ w.heap.size := by omega
  have hcpB : ∀ (W : World), (∀ y, W.cell? y = (W1.setCells w.heap.size (i * 6) (Nt.vals x)).cell? y) → (∀ y, W.frozen? y = (W1.setCells w.heap.size (i * 6) (Nt.vals x)).frozen? y) → ∀ ty dc sc, (Builtin.copy_ #[143, 143] ty #[.slice (some ⟨w.heap.size, (i + m) * 6, none⟩) (n + m - (i + m)) dc, .slice (some ⟨g, off + i * 6, none⟩) (n - i) sc]).run Try.prog W = .ok (goInt ((n - i : Nat) : Int)) (W.setCells w.heap.size ((i + m) * 6) (rowV Nt.vals (l.drop i))) := fun W hWc hWf ty dc sc =>
    run_copy_row W 143 143 ty 149 6 w.heap.size ((i + m) * 6) (n + m - (i + m)) dc ⟨g, off + i * 6, none⟩ (n - i) sc (n - i) _ Try.underlying143 hsz (by simp only [Nat.min_def]; split <;> omega) hdl
      (fun j v hj => by
        rw [addr_plus, hWc, World.cell?_setCells_out _ _ _ _ _ (fun h _ => absurd h hbN)]
        rw [← rowV_drop Nt.vlen, List.getElem?_drop] at hj
        have h9 := h.cell _ v hj
        rw [← Nat.add_assoc] at h9
        exact hOb _ v h9)
      (fun j hj => by rw [hWc]; exact isSome_setCells _ _ (i * 6) W1 (fun t ht => hN _ (by omega)) _ (hN _ (by omega)))
      (fun j hj => by rw [hWf, World.frozen?_setCells]; exact hNf _) (nt_one _)
  subst hW1
  have hDA : (w.alloc (.cells ROW 149)).drew = w.drew.alloc (.cells ROW 149) := rfl
  have hDZ : ∀ (Z : World) y, Z.drew.cell? y = Z.cell? y := fun _ _ => rfl
  have hDF : ∀ (Z : World) y, Z.drew.frozen? y = Z.frozen? y := fun _ _ => rfl
  have hE1 : ∀ x, ((w.alloc (.cells ROW 149)).drew).cell? x = (w.drew.alloc (.cells ROW 149)).cell? x := fun x => by rw [hDA]
  have hE2 : ∀ x, ((w.alloc (.cells ROW 149)).drew).frozen? x = (w.drew.alloc (.cells ROW 149)).frozen? x := fun x => by rw [hDA]
  have hF1 : ∀ y, (((w.alloc (.cells ROW 149)).drew.setCells w.heap.size (i * 6) (Nt.vals x)).drew).cell? y = ((w.drew.alloc (.cells ROW 149)).setCells w.heap.size (i * 6) (Nt.vals x)).cell? y := fun y => by rw [hDZ, hDA]
  have hF2 : ∀ y, (((w.alloc (.cells ROW 149)).drew.setCells w.heap.size (i * 6) (Nt.vals x)).drew).frozen? y = ((w.drew.alloc (.cells ROW 149)).setCells w.heap.size (i * 6) (Nt.vals x)).frozen? y := fun y => by rw [hDF, hDA]
  have hF3 : ∀ y, ((w.alloc (.cells ROW 149)).drew.setCells w.heap.size (i * 6) (Nt.vals x)).cell? y = ((w.drew.alloc (.cells ROW 149)).setCells w.heap.size (i * 6) (Nt.vals x)).cell? y := fun y => by rw [hDA]
  have hF4 : ∀ y, ((w.alloc (.cells ROW 149)).drew.setCells w.heap.size (i * 6) (Nt.vals x)).frozen? y = ((w.drew.alloc (.cells ROW 149)).setCells w.heap.size (i * 6) (Nt.vals x)).frozen? y := fun y => by rw [hDA]
  clear hDA hDZ hDF
  have hw1 : IntKind.i64.wrap ((i : Int) + (m : Int)) = (i : Int) + (m : Int) := by rw [IntKind.wrap_i64]; omega
  have hb1 : (0 : Int) ≤ (i : Int) + (m : Int) := by omega
  have hin : i ≤ n := by omega
  have htn : ((i : Int) + (m : Int)).toNat = i + m := by omega
  have hb3 : (i : Int) ≤ (n : Int) := by omega
  clear hkk hik hold hROW hG hRl hroom hm1 hvb h hl hxl htl hdl hN hNf hOb hOv hzs hzb hz0 hi0 hbig
  go_enter Try.func105, Try.ntmps105
  go_wp2_with (first
    | (at_builtin; refine Lib.wpList_append_run _ rfl _ _ _ _ rfl _ _ rfl rfl _ _ (hrz _) ?_)
    | (at_builtin; refine wpList_copy_runI _ rfl _ _ 143 143 rfl _ _ rfl rfl (hcpA _ hE1 hE2 _ _) ?_)
    | (at_builtin; refine wpList_copy_runI _ rfl _ _ 143 143 rfl _ _ rfl rfl (hcpB _ hF3 hF4 _ _ _) ?_))
  go_region_law (refine step_copy_runI rfl _ _ 143 143 rfl _ _ (by simp [Act.eval, Act.put]) (by simp [Act.eval, Act.put]) (hcpB _ hF1 hF2 3 (G - (i + m)) (c - i)) ?_)
  go_wp2_with fail
  go_ret
  refine ⟨rfl, ?_⟩
  first | with_reducible rfl | (simp; done) | rfl
end Go.Proofs.Ytejpjbmbcdgomaa
