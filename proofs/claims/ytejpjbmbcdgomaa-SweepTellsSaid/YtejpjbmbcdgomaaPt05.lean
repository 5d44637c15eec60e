/- TInsGN, ZJ: put together. -/
import Derived.Test.YtejpjbmbcdgomaaPt04
import Derived.Test.YtejpjbmbcdgomaaPt03
/- TInsG: the rows of pointers. -/
namespace Go.Proofs.Ytejpjbmbcdgomaa
set_option maxRecDepth 100000
open Go.RowKit

set_option maxHeartbeats 2000000 in
/-- In the middle, without room. -/
theorem insert_growN {w : World} {g n c : Nat} {l : List Nat} (h : w.ownsRow 0 151 1 (.slice (some ⟨g, 0, none⟩) n c) n (rowV PV l)) (hl : l.length = n) (i : Nat) (hi : i < n) (hnn : n ≤ 100000) (hroom : c < n + 1) (x : Nat) (vb : Nat) {T : TypeId} (hvb : w.heap[vb]? = some (.cells (PV x).toArray T (0, 0))) (m : Nat) (hm1 : m = 1) :
    Calls Try.prog 125 #[.slice (some ⟨g, 0, none⟩) n c, .int .i64 (i : Int), .slice (some ⟨vb, 0, none⟩) m m] w fun e w' =>
      e = .returned (.slice (some ⟨w.heap.size, 0, none⟩) (n + m) (grownCap w (n + m) c 151)) ∧
      w' = (((w.alloc (.cells ((rowV PV (l.take i)).toArray ++ Builtin.zeroCells (Value.pointer none).cells (n + m - i) ++ Builtin.zeroCells (Value.pointer none).cells (grownCap w (n + m) c 151 - (n + m))) 151)).drew.setCells w.heap.size (i * 1) (PV x)).drew).setCells w.heap.size ((i + m) * 1) (rowV PV (l.drop i)) := by
  obtain ⟨_, hgw, hnc, hcm⟩ := own_lt h
  have hc63 : c ≤ 9223372036854775807 := by unfold maxLen at hcm; omega
  have hm : 0 < m := by omega
  have hz1 : ¬ ((m : Int) = 0) := by omega
  have hz2 : ¬ ((i : Int) = (n : Int)) := by omega
  have hz3 : (c : Int) < (n : Int) + (m : Int) := by omega
  have hsz := el_sizeN
  have hxl := PV.len x
  obtain ⟨htl, hdl⟩ := rows_len PV.len hl (Nat.le_of_lt hi) (f := PV) (k := 1)
  have hbig : (n + m) * 8 ≤ 140737488355328 := by omega
  have hvw : vb < w.heap.size := (Array.getElem?_eq_some_iff.1 hvb).1
  have hkk : (n : Int) + (m : Int) - (i : Int) = ((n + m - i : Nat) : Int) := by omega
  have hik : i + (n + m - i) = n + m := by omega
  obtain ⟨i0, hi0, hz0, hzs, hzb⟩ := info_parts (show (Try.prog.info? 151).map (fun i => (i.zero, i.size, i.bytes)) = some (some (Value.pointer none), 1, 8) by kernel_rfl)
  have hold : (Builtin.firstCells i0.size i (.slice (some ⟨g, 0, none⟩) i c)).run Try.prog w.drew = .ok (rowV PV (l.take i)).toArray w.drew := by
    rw [hzs]
    exact run_firstCells_some w.drew 1 i ⟨g, 0, none⟩ i c _ htl (fun j v hj => by
      rw [addr_plus, Nat.zero_add]
      rw [← rowV_take PV.len, List.getElem?_take] at hj
      split at hj
      · exact own_cell h _ v hj
      · cases hj)
  have hrz : ∀ ty, (Builtin.append_ #[153, 3] ty #[.slice (some ⟨g, 0, none⟩) i c, .int .i64 ((n : Int) + (m : Int) - (i : Int))]).run Try.prog w =
      .ok (.slice (some ⟨w.heap.size, 0, none⟩) (n + m) (grownCap w (n + m) c 151)) (w.drew.alloc (.cells ((rowV PV (l.take i)).toArray ++ Builtin.zeroCells (Value.pointer none).cells (n + m - i) ++ Builtin.zeroCells (Value.pointer none).cells (grownCap w (n + m) c 151 - (n + m))) 151)) := fun ty => by
    have h := Lib.run_append_grow_zeros w 153 3 ty 151 i0 _ .i64 .i64 Try.underlying153 Try.underlying3 hi0 hz0 (some ⟨g, 0, none⟩) i c (rowV PV (l.take i)) hold (n + m - i) (by omega) (by omega) (by omega) (by omega) (by rw [hzb]; omega) (by rw [hzb, hik]; exact growslice_fits (by omega) hbig)
    rw [hik] at h
    rw [hkk]
    exact h
  obtain ⟨G, hG⟩ : ∃ G, G = grownCap w (n + m) c 151 := ⟨_, rfl⟩
  obtain ⟨ROW, hROW⟩ : ∃ ROW : Array Value, ROW = (rowV PV (l.take i)).toArray ++ Builtin.zeroCells (Value.pointer none).cells (n + m - i) ++ Builtin.zeroCells (Value.pointer none).cells (G - (n + m)) := ⟨_, rfl⟩
  rw [← hG] at hrz ⊢
  rw [← hROW] at hrz ⊢
  have hRl : (n + m) * 1 ≤ ROW.size := by
    rw [hROW]
    simp [size_zeroCells, Value.cells]
    omega
  obtain ⟨W1, hW1⟩ : ∃ W1, W1 = w.drew.alloc (.cells ROW 151) := ⟨_, rfl⟩
  rw [← hW1] at hrz
  have hN : ∀ j, j < (n + m) * 1 → (W1.cell? ⟨w.heap.size, j, none⟩).isSome = true := fun j hj => by
    rw [hW1, World.cell?_alloc_at (w := w.drew) ROW _ w.heap.size j rfl, Array.getElem?_eq_getElem (by omega)]; rfl
  have hNf : ∀ j, W1.frozen? ⟨w.heap.size, j, none⟩ = false := fun j => by rw [hW1]; exact World.frozen?_alloc_at (w := w.drew) ROW _ w.heap.size j rfl
  have hOb : ∀ j v, w.cell? ⟨g, j, none⟩ = some v → W1.cell? ⟨g, j, none⟩ = some v := fun j v h => by rw [hW1, World.cell?_alloc_past (w := w.drew) _ g j hgw]; exact h
  have hOv : ∀ j v, w.cell? ⟨vb, j, none⟩ = some v → W1.cell? ⟨vb, j, none⟩ = some v := fun j v h => by rw [hW1, World.cell?_alloc_past (w := w.drew) _ vb j hvw]; exact h
  have hcpA : ∀ (W : World), (∀ x, W.cell? x = W1.cell? x) → (∀ x, W.frozen? x = W1.frozen? x) → ∀ ty dc, (Builtin.copy_ #[153, 153] ty #[.slice (some ⟨w.heap.size, i * 1, none⟩) (n + m - i) dc, .slice (some ⟨vb, 0, none⟩) m m]).run Try.prog W = .ok (goInt ((m : Nat) : Int)) (W.setCells w.heap.size (i * 1) (PV x)) := fun W hWc hWf ty dc =>
    run_copy_row W 153 153 ty 151 1 w.heap.size (i * 1) (n + m - i) dc ⟨vb, 0, none⟩ m m m _ Try.underlying153 hsz (by simp only [Nat.min_def]; split <;> omega) (by rw [hxl, hm1, Nat.one_mul])
      (fun j v hj => by
        rw [addr_plus, hWc, Nat.zero_add]
        refine hOv _ v ?_
        rw [cell_of_row w vb j _ T (0, 0) hvb]
        simpa using hj)
      (fun j hj => by rw [hWc]; exact hN _ (by omega)) (fun j hj => by rw [hWf]; exact hNf _) (fun u hu => pt_one [x] u (by simpa [rowV] using hu))
  have hGn : n + m ≤ G := by rw [hG]; exact grownCap_ge w _ _ _
  have hG63 : G ≤ 9223372036854775807 := by
    have := grownCap_le_maxLen w (n + m) c 151 (by unfold maxLen; omega)
    rw [← hG] at this
    unfold maxLen at this
    omega
  have hGi : ¬ (G = i) := by omega
  have hGim : ¬ (G = i + m) := by omega
  have hci : ¬ (c = i) := by omega
  have hbN : g ≠ w.heap.size := by omega
  have hcpB : ∀ (W : World), (∀ y, W.cell? y = (W1.setCells w.heap.size (i * 1) (PV x)).cell? y) → (∀ y, W.frozen? y = (W1.setCells w.heap.size (i * 1) (PV x)).frozen? y) → ∀ ty dc sc, (Builtin.copy_ #[153, 153] ty #[.slice (some ⟨w.heap.size, (i + m) * 1, none⟩) (n + m - (i + m)) dc, .slice (some ⟨g, i * 1, none⟩) (n - i) sc]).run Try.prog W = .ok (goInt ((n - i : Nat) : Int)) (W.setCells w.heap.size ((i + m) * 1) (rowV PV (l.drop i))) := fun W hWc hWf ty dc sc =>
    run_copy_row W 153 153 ty 151 1 w.heap.size ((i + m) * 1) (n + m - (i + m)) dc ⟨g, i * 1, none⟩ (n - i) sc (n - i) _ Try.underlying153 hsz (by simp only [Nat.min_def]; split <;> omega) hdl
      (fun j v hj => by
        rw [addr_plus, hWc, World.cell?_setCells_out _ _ _ _ _ (fun h _ => absurd h hbN)]
        rw [← rowV_drop PV.len, List.getElem?_drop] at hj
        exact hOb _ v (own_cell h _ v hj))
      (fun j hj => by rw [hWc]; exact isSome_setCells _ _ (i * 1) W1 (fun t ht => hN _ (by omega)) _ (hN _ (by omega)))
      (fun j hj => by rw [hWf, World.frozen?_setCells]; exact hNf _) (pt_one _)
  subst hW1
  have hE1 : ∀ x, ((w.alloc (.cells ROW 151)).drew).cell? x = (w.drew.alloc (.cells ROW 151)).cell? x := fun x => rfl
  have hE2 : ∀ x, ((w.alloc (.cells ROW 151)).drew).frozen? x = (w.drew.alloc (.cells ROW 151)).frozen? x := fun x => rfl
  have hF1 : ∀ y, (((w.alloc (.cells ROW 151)).drew.setCells w.heap.size (i * 1) (PV x)).drew).cell? y = ((w.drew.alloc (.cells ROW 151)).setCells w.heap.size (i * 1) (PV x)).cell? y := fun y => rfl
  have hF2 : ∀ y, (((w.alloc (.cells ROW 151)).drew.setCells w.heap.size (i * 1) (PV x)).drew).frozen? y = ((w.drew.alloc (.cells ROW 151)).setCells w.heap.size (i * 1) (PV x)).frozen? y := fun y => rfl
  have hw1 : IntKind.i64.wrap ((i : Int) + (m : Int)) = (i : Int) + (m : Int) := by rw [IntKind.wrap_i64]; omega
  have hb1 : (0 : Int) ≤ (i : Int) + (m : Int) := by omega
  have hin : i ≤ n := by omega
  have htn : ((i : Int) + (m : Int)).toNat = i + m := by omega
  have hb3 : (i : Int) ≤ (n : Int) := by omega
  clear hkk hik hold hROW hG hRl hroom hm1 hvb h hl hxl htl hdl hN hNf hOb hOv hzs hzb hz0 hi0 hbig
  try simp only [Nat.mul_one] at hcpA hcpB hF1 hF2
  go_enter Try.func125, Try.ntmps125
  go_wp2_with (first
    | (at_builtin; refine Lib.wpList_append_run _ rfl _ _ _ _ rfl _ _ rfl rfl _ _ (hrz _) ?_)
    | (at_builtin; refine wpList_copy_runI _ rfl _ _ 153 153 rfl _ _ rfl rfl (hcpA _ hE1 hE2 _ _) ?_)
    | (at_builtin; refine wpList_copy_runI _ rfl _ _ 153 153 rfl _ _ rfl rfl (hcpB _ (fun _ => rfl) (fun _ => rfl) _ _ _) ?_))
  go_region_law (refine step_copy_runI rfl _ _ 153 153 rfl _ _ (by simp [Act.eval, Act.put]) (by simp [Act.eval, Act.put]) (hcpB _ hF1 hF2 3 (G - (i + m)) (c - i)) ?_)
  go_wp2_with fail
  go_ret
  refine ⟨rfl, ?_⟩
  first | with_reducible rfl | (simp; done) | rfl
end Go.Proofs.Ytejpjbmbcdgomaa

/- TInsAI, TInsAN, TDelI, TDelN, TClnI, TClnN: put together. -/
/- TInsA: the rows of items. -/
namespace Go.Proofs.Ytejpjbmbcdgomaa
set_option maxRecDepth 100000
open Go.RowKit

theorem below_drewI {w w2 : World} {B : Nat} (h : Below B w w2) : Below B w w2.drew := ⟨h.os, h.tape, h.output, h.size, h.block⟩
/-- slices.Insert of one more. -/
theorem insert_anyI {w : World} {v : Value} {n : Nat} {l : List Ix} (h : w.ownsRow 0 166 4 v n (rowV Ix.vals l)) (hl : l.length = n) (i : Nat) (hi : i ≤ n) (hn : n ≤ 100000) (x : Ix) (vb : Nat) {T : TypeId} (hvb : w.heap[vb]? = some (.cells (Ix.vals x).toArray T (0, 0))) (hne : v.ownBlock ≠ some vb) :
    Calls Try.prog 123 #[v, .int .i64 (i : Int), .slice (some ⟨vb, 0, none⟩) 1 1] w fun e w' => ∃ v', e = .returned v' ∧ w'.ownsRow 0 166 4 v' (n + 1) (rowV Ix.vals (l.take i ++ x :: l.drop i)) ∧ w.grownBy w' v.ownBlock ∧ ∀ q, v'.ownBlock = some q → v.ownBlock = some q ∨ w.heap.size ≤ q := by
  by_cases hin : i = n
  · subst hin
    exact insert_endI h hl hn x vb hvb
  · have hlt : i < n := by omega
    obtain ⟨g, c, rfl⟩ : ∃ g c, v = .slice (some ⟨g, 0, none⟩) n c := by
      rcases h.2 with ⟨rfl, h0⟩ | ⟨g, c, cur, rfl, _⟩
      · omega
      · exact ⟨g, c, rfl⟩
    have hne' : vb ≠ g := fun e => hne (by rw [e]; rfl)
    by_cases hroom : n + 1 ≤ c
    · refine Calls.mono (insert_roomI h hl i hlt hroom x vb hvb hne' 1 rfl) ?_
      rintro e w' ⟨rfl, rfl⟩
      obtain ⟨ys, h1, h2, h3⟩ := own_more h hroom
      obtain ⟨h4, h5⟩ := own_setCells (w := w.drew) (rowV Ix.vals (l.drop i)) ((i + 1) * 4) h1
      obtain ⟨h6, h7⟩ := own_setCells (Ix.vals x) (i * 4) h4
      rw [up_then Ix.vlen hl hi h2 h3 x] at h6
      exact ⟨_, rfl, h6, grown_trans (grown_drewN w _ 1) (grown_trans h5 h7), fun q hq => .inl hq⟩
    · refine Calls.mono (insert_growI h hl i hlt hn (by omega) x vb hvb 1 rfl) ?_
      rintro e w' ⟨rfl, rfl⟩
      obtain ⟨_, _, hnc, _⟩ := own_lt h
      obtain ⟨htl, hdl⟩ := rows_len Ix.vlen hl hi (f := Ix.vals) (k := 4)
      have hGn : n + 1 ≤ grownCap w (n + 1) c 166 := grownCap_ge w _ _ _
      have hGm : grownCap w (n + 1) c 166 ≤ maxLen := grownCap_le_maxLen w (n + 1) c 166 (by unfold maxLen; omega)
      obtain ⟨G, hG⟩ : ∃ G, G = grownCap w (n + 1) c 166 := ⟨_, rfl⟩
      rw [← hG] at hGn hGm ⊢
      obtain ⟨ROW, hROW⟩ : ∃ ROW : Array Value, ROW = (rowV Ix.vals (l.take i)).toArray ++ Builtin.zeroCells (Value.agg #[.int .i64 0, .int .i64 0, .bool false, .int .i64 0]).cells (n + 1 - i) ++ Builtin.zeroCells (Value.agg #[.int .i64 0, .int .i64 0, .bool false, .int .i64 0]).cells (G - (n + 1)) := ⟨_, rfl⟩
      rw [← hROW]
      have hs : ROW.size = G * 4 := by
        rw [hROW]
        simp [size_zeroCells, Value.cells, htl]
        omega
      have ht : ROW.toList.take (i * 4) = rowV Ix.vals (l.take i) := by
        rw [hROW]
        simp only [Array.toList_append, List.append_assoc]
        rw [List.take_append_of_le_length (by rw [htl]; exact Nat.le_refl _), List.take_of_length_le (by rw [htl]; exact Nat.le_refl _)]
      have hle : (n + 1) * 4 ≤ G * 4 := Nat.mul_le_mul_right 4 hGn
      have hle2 : i * 4 ≤ (n + 1) * 4 := Nat.mul_le_mul_right 4 (by omega)
      obtain ⟨ys, hys⟩ : ∃ ys, ys = ROW.toList.take ((n + 1) * 4) := ⟨_, rfl⟩
      have hyl : ys.length = (n + 1) * 4 := by rw [hys, List.length_take, Array.length_toList, hs, Nat.min_eq_left hle]
      have hyt : ys.take (i * 4) = rowV Ix.vals (l.take i) := by rw [hys, List.take_take, Nat.min_eq_left hle2, ht]
      obtain ⟨W1, hW1⟩ : ∃ W1, W1 = (w.alloc (.cells ROW 166)).drew := ⟨_, rfl⟩
      have h1 : W1.ownsRow 0 166 4 (.slice (some ⟨w.heap.size, 0, none⟩) (n + 1) G) (n + 1) ys := by
        rw [hW1]
        exact ⟨hyl, .inr ⟨w.heap.size, G, ROW, rfl, Nat.zero_le _, heap_alloc_new w _, hGn, hGm, hs, hys.symm⟩⟩
      rw [← hW1]
      have hB : Below w.heap.size w W1 := by rw [hW1]; exact below_drewI ((Below.refl _ w).alloc (Nat.le_refl _) _)
      have hsz : W1.heap.size = w.heap.size + 1 := by rw [hW1]; exact World.size_alloc w _
      obtain ⟨h4, h5⟩ := own_setCells (Ix.vals x) (i * 4) h1
      obtain ⟨h6, h7⟩ := own_setCells (w := (W1.setCells w.heap.size (i * 4) (Ix.vals x)).drew) (rowV Ix.vals (l.drop i)) ((i + 1) * 4) h4
      rw [lay_then Ix.vlen hl hi hyl hyt x] at h6
      refine ⟨_, rfl, h6, ?_, fun q hq => .inr (Nat.le_of_eq (by simpa [Value.ownBlock] using hq))⟩
      have hb : Below w.heap.size w (W1.setCells w.heap.size (i * 4) (Ix.vals x)) := hB.trans (below_grown2 h5 (Nat.le_refl _) (by omega))
      have hb2 := (below_drewI hb).trans (below_grown2 h7 (Nat.le_refl _) hb.size)
      exact grown_below hb2 _
end Go.Proofs.Ytejpjbmbcdgomaa

/- TInsA: the rows of pointers. -/
namespace Go.Proofs.Ytejpjbmbcdgomaa
set_option maxRecDepth 100000
open Go.RowKit

theorem below_drewN {w w2 : World} {B : Nat} (h : Below B w w2) : Below B w w2.drew := ⟨h.os, h.tape, h.output, h.size, h.block⟩
/-- slices.Insert of one more. -/
theorem insert_anyN {w : World} {v : Value} {n : Nat} {l : List Nat} (h : w.ownsRow 0 151 1 v n (rowV PV l)) (hl : l.length = n) (i : Nat) (hi : i ≤ n) (hn : n ≤ 100000) (x : Nat) (vb : Nat) {T : TypeId} (hvb : w.heap[vb]? = some (.cells (PV x).toArray T (0, 0))) (hne : v.ownBlock ≠ some vb) :
    Calls Try.prog 125 #[v, .int .i64 (i : Int), .slice (some ⟨vb, 0, none⟩) 1 1] w fun e w' => ∃ v', e = .returned v' ∧ w'.ownsRow 0 151 1 v' (n + 1) (rowV PV (l.take i ++ x :: l.drop i)) ∧ w.grownBy w' v.ownBlock ∧ ∀ q, v'.ownBlock = some q → v.ownBlock = some q ∨ w.heap.size ≤ q := by
  by_cases hin : i = n
  · subst hin
    exact insert_endN h hl hn x vb hvb
  · have hlt : i < n := by omega
    obtain ⟨g, c, rfl⟩ : ∃ g c, v = .slice (some ⟨g, 0, none⟩) n c := by
      rcases h.2 with ⟨rfl, h0⟩ | ⟨g, c, cur, rfl, _⟩
      · omega
      · exact ⟨g, c, rfl⟩
    have hne' : vb ≠ g := fun e => hne (by rw [e]; rfl)
    by_cases hroom : n + 1 ≤ c
    · refine Calls.mono (insert_roomN h hl i hlt hroom x vb hvb hne' 1 rfl) ?_
      rintro e w' ⟨rfl, rfl⟩
      obtain ⟨ys, h1, h2, h3⟩ := own_more h hroom
      obtain ⟨h4, h5⟩ := own_setCells (w := w.drew) (rowV PV (l.drop i)) ((i + 1) * 1) h1
      obtain ⟨h6, h7⟩ := own_setCells (PV x) (i * 1) h4
      rw [up_then PV.len hl hi h2 h3 x] at h6
      exact ⟨_, rfl, h6, grown_trans (grown_drewN w _ 1) (grown_trans h5 h7), fun q hq => .inl hq⟩
    · refine Calls.mono (insert_growN h hl i hlt hn (by omega) x vb hvb 1 rfl) ?_
      rintro e w' ⟨rfl, rfl⟩
      obtain ⟨_, _, hnc, _⟩ := own_lt h
      obtain ⟨htl, hdl⟩ := rows_len PV.len hl hi (f := PV) (k := 1)
      have hGn : n + 1 ≤ grownCap w (n + 1) c 151 := grownCap_ge w _ _ _
      have hGm : grownCap w (n + 1) c 151 ≤ maxLen := grownCap_le_maxLen w (n + 1) c 151 (by unfold maxLen; omega)
      obtain ⟨G, hG⟩ : ∃ G, G = grownCap w (n + 1) c 151 := ⟨_, rfl⟩
      rw [← hG] at hGn hGm ⊢
      obtain ⟨ROW, hROW⟩ : ∃ ROW : Array Value, ROW = (rowV PV (l.take i)).toArray ++ Builtin.zeroCells (Value.pointer none).cells (n + 1 - i) ++ Builtin.zeroCells (Value.pointer none).cells (G - (n + 1)) := ⟨_, rfl⟩
      rw [← hROW]
      have hs : ROW.size = G * 1 := by
        rw [hROW]
        simp [size_zeroCells, Value.cells, htl]
        omega
      have ht : ROW.toList.take (i * 1) = rowV PV (l.take i) := by
        rw [hROW]
        simp only [Array.toList_append, List.append_assoc]
        rw [List.take_append_of_le_length (by rw [htl]; exact Nat.le_refl _), List.take_of_length_le (by rw [htl]; exact Nat.le_refl _)]
      have hle : (n + 1) * 1 ≤ G * 1 := Nat.mul_le_mul_right 1 hGn
      have hle2 : i * 1 ≤ (n + 1) * 1 := Nat.mul_le_mul_right 1 (by omega)
      obtain ⟨ys, hys⟩ : ∃ ys, ys = ROW.toList.take ((n + 1) * 1) := ⟨_, rfl⟩
      have hyl : ys.length = (n + 1) * 1 := by rw [hys, List.length_take, Array.length_toList, hs, Nat.min_eq_left hle]
      have hyt : ys.take (i * 1) = rowV PV (l.take i) := by rw [hys, List.take_take, Nat.min_eq_left hle2, ht]
      obtain ⟨W1, hW1⟩ : ∃ W1, W1 = (w.alloc (.cells ROW 151)).drew := ⟨_, rfl⟩
      have h1 : W1.ownsRow 0 151 1 (.slice (some ⟨w.heap.size, 0, none⟩) (n + 1) G) (n + 1) ys := by
        rw [hW1]
        exact ⟨hyl, .inr ⟨w.heap.size, G, ROW, rfl, Nat.zero_le _, heap_alloc_new w _, hGn, hGm, hs, hys.symm⟩⟩
      rw [← hW1]
      have hB : Below w.heap.size w W1 := by rw [hW1]; exact below_drewN ((Below.refl _ w).alloc (Nat.le_refl _) _)
      have hsz : W1.heap.size = w.heap.size + 1 := by rw [hW1]; exact World.size_alloc w _
      obtain ⟨h4, h5⟩ := own_setCells (PV x) (i * 1) h1
      obtain ⟨h6, h7⟩ := own_setCells (w := (W1.setCells w.heap.size (i * 1) (PV x)).drew) (rowV PV (l.drop i)) ((i + 1) * 1) h4
      rw [lay_then PV.len hl hi hyl hyt x] at h6
      refine ⟨_, rfl, h6, ?_, fun q hq => .inr (Nat.le_of_eq (by simpa [Value.ownBlock] using hq))⟩
      have hb : Below w.heap.size w (W1.setCells w.heap.size (i * 1) (PV x)) := hB.trans (below_grown2 h5 (Nat.le_refl _) (by omega))
      have hb2 := (below_drewN hb).trans (below_grown2 h7 (Nat.le_refl _) hb.size)
      exact grown_below hb2 _
end Go.Proofs.Ytejpjbmbcdgomaa

/- TDel: the rows of items. -/
namespace Go.Proofs.Ytejpjbmbcdgomaa
set_option maxRecDepth 100000
open Go.RowKit

end Go.Proofs.Ytejpjbmbcdgomaa

/- TDel: the rows of pointers. -/
namespace Go.Proofs.Ytejpjbmbcdgomaa
set_option maxRecDepth 100000
open Go.RowKit

end Go.Proofs.Ytejpjbmbcdgomaa

/- TCln: the rows of items. -/
namespace Go.Proofs.Ytejpjbmbcdgomaa
set_option maxRecDepth 100000
open Go.RowKit

set_option maxHeartbeats 2000000 in
theorem clone_anyI {w : World} {A : Option Addr} {n c : Nat} {l : List Ix} (hr : Rdv w A n 4 (rowV Ix.vals l)) (hnil : A = none → c = 0) (hle : n ≤ c) (hn : n ≤ 100000) :
    Calls Try.prog 113 #[.slice A n c] w fun e w' => ∃ v', e = .returned v' ∧ w'.ownsRow w.heap.size 166 4 v' n (rowV Ix.vals l) ∧ Below w.heap.size w w' := by
  rcases A with _ | ad
  · obtain rfl := hnil rfl
    have hn0 : n = 0 := by omega
    subst hn0
    have HX := Lib.hid (show rowV Ix.vals l = [] from List.eq_nil_of_length_eq_zero (by have := hr.1; omega))
    clear hr hnil hle
    have hq := fun w => Go.Lib.run_eql_slice_nil (P := Try.prog) w 152 166 none 0 0 0 0 Try.underlying152
    go_enter Try.func113, Try.ntmps113
    go_wp2_with fail
    go_ret
    exact ⟨_, rfl, by rw [HX.out]; exact World.ownsRow_nil _ _ _ _, Below.refl _ _⟩
  · have HR := Lib.hid hr
    clear hr hnil
    have hq := fun w => Go.Lib.run_eql_slice_nil (P := Try.prog) w 152 166 (some ad) n c 0 0 Try.underlying152
    go_enter Try.func113, Try.ntmps113
    go_wp2_with (at_builtin; refine wpList_append_copy elemIx rfl (.tmp 5) (.tmp 6) rfl rfl (some ad) n c (rowV Ix.vals l) rfl HR.out (ix_one _) (fun h => by cases h) (by unfold maxLen; omega) (by omega) ?_; intro b5 c5 w5 hown5 hb5 hbl5)
    go_ret
    exact ⟨_, rfl, hown5, hbl5⟩
end Go.Proofs.Ytejpjbmbcdgomaa

/- TCln: the rows of pointers. -/
namespace Go.Proofs.Ytejpjbmbcdgomaa
set_option maxRecDepth 100000
open Go.RowKit

set_option maxHeartbeats 2000000 in
theorem clone_anyN {w : World} {A : Option Addr} {n c : Nat} {l : List Nat} (hr : Rdv w A n 1 (rowV PV l)) (hnil : A = none → c = 0) (hle : n ≤ c) (hn : n ≤ 100000) :
    Calls Try.prog 124 #[.slice A n c] w fun e w' => ∃ v', e = .returned v' ∧ w'.ownsRow w.heap.size 151 1 v' n (rowV PV l) ∧ Below w.heap.size w w' := by
  rcases A with _ | ad
  · obtain rfl := hnil rfl
    have hn0 : n = 0 := by omega
    subst hn0
    have HX := Lib.hid (show rowV PV l = [] from List.eq_nil_of_length_eq_zero (by have := hr.1; omega))
    clear hr hnil hle
    have hq := fun w => Go.Lib.run_eql_slice_nil (P := Try.prog) w 153 151 none 0 0 0 0 Try.underlying153
    go_enter Try.func124, Try.ntmps124
    go_wp2_with fail
    go_ret
    exact ⟨_, rfl, by rw [HX.out]; exact World.ownsRow_nil _ _ _ _, Below.refl _ _⟩
  · have HR := Lib.hid hr
    clear hr hnil
    have hq := fun w => Go.Lib.run_eql_slice_nil (P := Try.prog) w 153 151 (some ad) n c 0 0 Try.underlying153
    go_enter Try.func124, Try.ntmps124
    go_wp2_with (at_builtin; refine wpList_append_copy elemPt rfl (.tmp 5) (.tmp 6) rfl rfl (some ad) n c (rowV PV l) rfl HR.out (pt_one _) (fun h => by cases h) (by unfold maxLen; omega) (by omega) ?_; intro b5 c5 w5 hown5 hb5 hbl5)
    go_ret
    exact ⟨_, rfl, hown5, hbl5⟩
end Go.Proofs.Ytejpjbmbcdgomaa
