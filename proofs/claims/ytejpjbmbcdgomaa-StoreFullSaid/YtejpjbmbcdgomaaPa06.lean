/- TInsGI: put together. -/
import Derived.Test.YtejpjbmbcdgomaaPa05
/- TInsG: the rows of items. -/
namespace Go.Proofs.Ytejpjbmbcdgomaa
set_option maxRecDepth 100000
open Go.RowKit

set_option maxHeartbeats 2000000 in
/-- In the middle, without room. -/
theorem insert_growI {w : World} {g n c : Nat} {l : List Ix} (h : w.ownsRow 0 166 4 (.slice (some ⟨g, 0, none⟩) n c) n (rowV Ix.vals l)) (hl : l.length = n) (i : Nat) (hi : i < n) (hnn : n ≤ 100000) (hroom : c < n + 1) (x : Ix) (vb : Nat) {T : TypeId} (hvb : w.heap[vb]? = some (.cells (Ix.vals x).toArray T (0, 0))) (m : Nat) (hm1 : m = 1) :
    Calls Try.prog 123 #[.slice (some ⟨g, 0, none⟩) n c, .int .i64 (i : Int), .slice (some ⟨vb, 0, none⟩) m m] w fun e w' =>
      e = .returned (.slice (some ⟨w.heap.size, 0, none⟩) (n + m) (grownCap w (n + m) c 166)) ∧
      w' = (((w.alloc (.cells ((rowV Ix.vals (l.take i)).toArray ++ Builtin.zeroCells (Value.agg #[.int .i64 0, .int .i64 0, .bool false, .int .i64 0]).cells (n + m - i) ++ Builtin.zeroCells (Value.agg #[.int .i64 0, .int .i64 0, .bool false, .int .i64 0]).cells (grownCap w (n + m) c 166 - (n + m))) 166)).drew.setCells w.heap.size (i * 4) (Ix.vals x)).drew).setCells w.heap.size ((i + m) * 4) (rowV Ix.vals (l.drop i)) := by
  obtain ⟨_, hgw, hnc, hcm⟩ := own_lt h
  have hc63 : c ≤ 9223372036854775807 := by unfold maxLen at hcm; omega
  have hm : 0 < m := by omega
  have hz1 : ¬ ((m : Int) = 0) := by omega
  have hz2 : ¬ ((i : Int) = (n : Int)) := by omega
  have hz3 : (c : Int) < (n : Int) + (m : Int) := by omega
  have hsz := el_sizeI
  have hxl := Ix.vlen x
  obtain ⟨htl, hdl⟩ := rows_len Ix.vlen hl (Nat.le_of_lt hi) (f := Ix.vals) (k := 4)
  have hbig : (n + m) * 32 ≤ 140737488355328 := by omega
  have hvw : vb < w.heap.size := (Array.getElem?_eq_some_iff.1 hvb).1
  have hkk : (n : Int) + (m : Int) - (i : Int) = ((n + m - i : Nat) : Int) := by omega
  have hik : i + (n + m - i) = n + m := by omega
  obtain ⟨i0, hi0, hz0, hzs, hzb⟩ := info_parts (show (Try.prog.info? 166).map (fun i => (i.zero, i.size, i.bytes)) = some (some (Value.agg #[.int .i64 0, .int .i64 0, .bool false, .int .i64 0]), 4, 32) by kernel_rfl)
  have hold : (Builtin.firstCells i0.size i (.slice (some ⟨g, 0, none⟩) i c)).run Try.prog w.drew = .ok (rowV Ix.vals (l.take i)).toArray w.drew := by
    rw [hzs]
    exact run_firstCells_some w.drew 4 i ⟨g, 0, none⟩ i c _ htl (fun j v hj => by
      rw [addr_plus, Nat.zero_add]
      rw [← rowV_take Ix.vlen, List.getElem?_take] at hj
      split at hj
      · exact own_cell h _ v hj
      · cases hj)
  have hrz : ∀ ty, (Builtin.append_ #[152, 3] ty #[.slice (some ⟨g, 0, none⟩) i c, .int .i64 ((n : Int) + (m : Int) - (i : Int))]).run Try.prog w =
      .ok (.slice (some ⟨w.heap.size, 0, none⟩) (n + m) (grownCap w (n + m) c 166)) (w.drew.alloc (.cells ((rowV Ix.vals (l.take i)).toArray ++ Builtin.zeroCells (Value.agg #[.int .i64 0, .int .i64 0, .bool false, .int .i64 0]).cells (n + m - i) ++ Builtin.zeroCells (Value.agg #[.int .i64 0, .int .i64 0, .bool false, .int .i64 0]).cells (grownCap w (n + m) c 166 - (n + m))) 166)) := fun ty => by
    have h := Lib.run_append_grow_zeros w 152 3 ty 166 i0 _ .i64 .i64 Try.underlying152 Try.underlying3 hi0 hz0 (some ⟨g, 0, none⟩) i c (rowV Ix.vals (l.take i)) hold (n + m - i) (by omega) (by omega) (by omega) (by omega) (by rw [hzb]; omega) (by rw [hzb, hik]; exact growslice_fits (by omega) hbig)
    rw [hik] at h
    rw [hkk]
    exact h
  obtain ⟨G, hG⟩ : ∃ G, G = grownCap w (n + m) c 166 := ⟨_, rfl⟩
  obtain ⟨ROW, hROW⟩ : ∃ ROW : Array Value, ROW = (rowV Ix.vals (l.take i)).toArray ++ Builtin.zeroCells (Value.agg #[.int .i64 0, .int .i64 0, .bool false, .int .i64 0]).cells (n + m - i) ++ Builtin.zeroCells (Value.agg #[.int .i64 0, .int .i64 0, .bool false, .int .i64 0]).cells (G - (n + m)) := ⟨_, rfl⟩
  rw [← hG] at hrz ⊢
  rw [← hROW] at hrz ⊢
  have hRl : (n + m) * 4 ≤ ROW.size := by
    rw [hROW]
    simp [size_zeroCells, Value.cells]
    omega
  obtain ⟨W1, hW1⟩ : ∃ W1, W1 = w.drew.alloc (.cells ROW 166) := ⟨_, rfl⟩
  rw [← hW1] at hrz
  have hN : ∀ j, j < (n + m) * 4 → (W1.cell? ⟨w.heap.size, j, none⟩).isSome = true := fun j hj => by
    rw [hW1, World.cell?_alloc_at (w := w.drew) ROW _ w.heap.size j rfl, Array.getElem?_eq_getElem (by omega)]; rfl
  have hNf : ∀ j, W1.frozen? ⟨w.heap.size, j, none⟩ = false := fun j => by rw [hW1]; exact World.frozen?_alloc_at (w := w.drew) ROW _ w.heap.size j rfl
  have hOb : ∀ j v, w.cell? ⟨g, j, none⟩ = some v → W1.cell? ⟨g, j, none⟩ = some v := fun j v h => by rw [hW1, World.cell?_alloc_past (w := w.drew) _ g j hgw]; exact h
  have hOv : ∀ j v, w.cell? ⟨vb, j, none⟩ = some v → W1.cell? ⟨vb, j, none⟩ = some v := fun j v h => by rw [hW1, World.cell?_alloc_past (w := w.drew) _ vb j hvw]; exact h
  have hcpA : ∀ (W : World), (∀ x, W.cell? x = W1.cell? x) → (∀ x, W.frozen? x = W1.frozen? x) → ∀ ty dc, (Builtin.copy_ #[152, 152] ty #[.slice (some ⟨w.heap.size, i * 4, none⟩) (n + m - i) dc, .slice (some ⟨vb, 0, none⟩) m m]).run Try.prog W = .ok (goInt ((m : Nat) : Int)) (W.setCells w.heap.size (i * 4) (Ix.vals x)) := fun W hWc hWf ty dc =>
    run_copy_row W 152 152 ty 166 4 w.heap.size (i * 4) (n + m - i) dc ⟨vb, 0, none⟩ m m m _ Try.underlying152 hsz (by simp only [Nat.min_def]; split <;> omega) (by rw [hxl, hm1, Nat.one_mul])
      (fun j v hj => by
        rw [addr_plus, hWc, Nat.zero_add]
        refine hOv _ v ?_
        rw [cell_of_row w vb j _ T (0, 0) hvb]
        simpa using hj)
      (fun j hj => by rw [hWc]; exact hN _ (by omega)) (fun j hj => by rw [hWf]; exact hNf _) (fun u hu => ix_one [x] u (by simpa [rowV] using hu))
  have hGn : n + m ≤ G := by rw [hG]; exact grownCap_ge w _ _ _
  have hG63 : G ≤ 9223372036854775807 := by
    have := grownCap_le_maxLen w (n + m) c 166 (by unfold maxLen; omega)
    rw [← hG] at this
    unfold maxLen at this
    omega
  have hGi : ¬ (G = i) := by omega
  have hGim : ¬ (G = i + m) := by omega
  have hci : ¬ (c = i) := by omega
  have hbN : g ≠ w.heap.size := by omega
  have hcpB : ∀ (W : World), (∀ y, W.cell? y = (W1.setCells w.heap.size (i * 4) (Ix.vals x)).cell? y) → (∀ y, W.frozen? y = (W1.setCells w.heap.size (i * 4) (Ix.vals x)).frozen? y) → ∀ ty dc sc, (Builtin.copy_ #[152, 152] ty #[.slice (some ⟨w.heap.size, (i + m) * 4, none⟩) (n + m - (i + m)) dc, .slice (some ⟨g, i * 4, none⟩) (n - i) sc]).run Try.prog W = .ok (goInt ((n - i : Nat) : Int)) (W.setCells w.heap.size ((i + m) * 4) (rowV Ix.vals (l.drop i))) := fun W hWc hWf ty dc sc =>
    run_copy_row W 152 152 ty 166 4 w.heap.size ((i + m) * 4) (n + m - (i + m)) dc ⟨g, i * 4, none⟩ (n - i) sc (n - i) _ Try.underlying152 hsz (by simp only [Nat.min_def]; split <;> omega) hdl
      (fun j v hj => by
        rw [addr_plus, hWc, World.cell?_setCells_out _ _ _ _ _ (fun h _ => absurd h hbN)]
        rw [← rowV_drop Ix.vlen, List.getElem?_drop] at hj
        exact hOb _ v (own_cell h _ v hj))
      (fun j hj => by rw [hWc]; exact isSome_setCells _ _ (i * 4) W1 (fun t ht => hN _ (by omega)) _ (hN _ (by omega)))
      (fun j hj => by rw [hWf, World.frozen?_setCells]; exact hNf _) (ix_one _)
  subst hW1
  have hE1 : ∀ x, ((w.alloc (.cells ROW 166)).drew).cell? x = (w.drew.alloc (.cells ROW 166)).cell? x := fun x => rfl
  have hE2 : ∀ x, ((w.alloc (.cells ROW 166)).drew).frozen? x = (w.drew.alloc (.cells ROW 166)).frozen? x := fun x => rfl
  have hF1 : ∀ y, (((w.alloc (.cells ROW 166)).drew.setCells w.heap.size (i * 4) (Ix.vals x)).drew).cell? y = ((w.drew.alloc (.cells ROW 166)).setCells w.heap.size (i * 4) (Ix.vals x)).cell? y := fun y => rfl
  have hF2 : ∀ y, (((w.alloc (.cells ROW 166)).drew.setCells w.heap.size (i * 4) (Ix.vals x)).drew).frozen? y = ((w.drew.alloc (.cells ROW 166)).setCells w.heap.size (i * 4) (Ix.vals x)).frozen? y := fun y => rfl
  have hw1 : IntKind.i64.wrap ((i : Int) + (m : Int)) = (i : Int) + (m : Int) := by rw [IntKind.wrap_i64]; omega
  have hb1 : (0 : Int) ≤ (i : Int) + (m : Int) := by omega
  have hin : i ≤ n := by omega
  have htn : ((i : Int) + (m : Int)).toNat = i + m := by omega
  have hb3 : (i : Int) ≤ (n : Int) := by omega
  clear hkk hik hold hROW hG hRl hroom hm1 hvb h hl hxl htl hdl hN hNf hOb hOv hzs hzb hz0 hi0 hbig
  try simp only [Nat.mul_one] at hcpA hcpB hF1 hF2
  go_enter Try.func123, Try.ntmps123
  go_wp2_with (first
    | (at_builtin; refine Lib.wpList_append_run _ rfl _ _ _ _ rfl _ _ rfl rfl _ _ (hrz _) ?_)
    | (at_builtin; refine wpList_copy_runI _ rfl _ _ 152 152 rfl _ _ rfl rfl (hcpA _ hE1 hE2 _ _) ?_)
    | (at_builtin; refine wpList_copy_runI _ rfl _ _ 152 152 rfl _ _ rfl rfl (hcpB _ (fun _ => rfl) (fun _ => rfl) _ _ _) ?_))
  go_region_law (refine step_copy_runI rfl _ _ 152 152 rfl _ _ (by simp [Act.eval, Act.put]) (by simp [Act.eval, Act.put]) (hcpB _ hF1 hF2 3 (G - (i + m)) (c - i)) ?_)
  go_wp2_with fail
  go_ret
  refine ⟨rfl, ?_⟩
  first | with_reducible rfl | (simp; done) | rfl
end Go.Proofs.Ytejpjbmbcdgomaa
