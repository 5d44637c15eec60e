/- The fixed fact of layer 19. -/
import Derived.Test.YtgdkgoiagjjccaaGLst
import Derived.Test.YtgdkgoiagjjccaaGLeans
import Derived.Test.YtgdkgoiagjjccaaZB
namespace Go.Proofs.Ytgdkgoiagjjccaa
set_option maxRecDepth 100000
open Go.RowKit Go.Shelf

def ft1 : Ft := ⟨[], [], [⟨1, 2⟩]⟩
def lv3 : List (List Int) := [[], [0], [0, 1]]
theorem leans3 : leansL [ft1, ft1, ft1] = lv3 := by decide
theorem least3 : leastL lv3 = [[], [0], [1]] := by decide
theorem good3 : GoodL lv3 := by rw [← leans3]; exact leansL_good _
theorem fits3 (j : Nat) : ∀ x ∈ lv3.getD j [], Fits x := fun x hx => by
  have := good3.mem hx
  have h2 : j < 3 := by
    rcases Nat.lt_or_ge j 3 with h | h
    · exact h
    · rw [List.getD_eq_getElem?_getD, List.getElem?_eq_none (by exact h)] at hx
      cases hx
  unfold Fits
  omega
theorem small3 (j : Nat) : (lv3.getD j []).length ≤ 9223372036854775807 := by
  have := row_len good3 j
  rcases Nat.lt_or_ge j 3 with h | h
  · omega
  · rw [List.getD_eq_getElem?_getD, List.getElem?_eq_none (by exact h)]
    simp
def alW (w : World) : World := ((w.alloc (.cells #[.int .i64 1, .int .i64 2] 104)).alloc (.cells #[.slice none 0 0, .slice none 0 0, .slice (some ⟨w.heap.size, 0, none⟩) 1 1] 55)).alloc (.cells #[.slice none 0 0, .slice none 0 0, .slice (some ⟨w.heap.size, 0, none⟩) 1 1, .slice none 0 0, .slice none 0 0, .slice (some ⟨w.heap.size, 0, none⟩) 1 1, .slice none 0 0, .slice none 0 0, .slice (some ⟨w.heap.size, 0, none⟩) 1 1] 55)
theorem alW_feet (w : World) : Fts (alW w) (some ⟨w.heap.size + 1 + 1, 0, none⟩) 3 [ft1, ft1, ft1] ∧ Below w.heap.size w (alW w) := by
  obtain ⟨a0, a1, a2, hz, hb⟩ := alloc3_at w (.cells #[.int .i64 1, .int .i64 2] 104) (.cells #[.slice none 0 0, .slice none 0 0, .slice (some ⟨w.heap.size, 0, none⟩) 1 1] 55) (.cells #[.slice none 0 0, .slice none 0 0, .slice (some ⟨w.heap.size, 0, none⟩) 1 1, .slice none 0 0, .slice none 0 0, .slice (some ⟨w.heap.size, 0, none⟩) 1 1, .slice none 0 0, .slice none 0 0, .slice (some ⟨w.heap.size, 0, none⟩) 1 1] 55)
  refine ⟨⟨rfl, by decide, fun _ => ⟨_, _, rfl, fun j hj => ⟨⟨none, 0, 0, none, 0, 0, some ⟨w.heap.size, 0, none⟩, 1, 1⟩, ?_, ?_⟩⟩⟩, hb⟩
  · have e : [ft1, ft1, ft1].getD j noFt = ft1 := by
      rcases j with _ | _ | _ | j
      · rfl
      · rfl
      · rfl
      · omega
    rw [e]
    refine ⟨⟨rfl, rfl, fun h => absurd h (Nat.lt_irrefl 0)⟩, ⟨rfl, rfl, fun h => absurd h (Nat.lt_irrefl 0)⟩, ⟨rfl, rfl, fun _ => ⟨_, _, rfl, fun i u hi => ?_⟩⟩, ⟨Nat.zero_le _, Nat.zero_le _, show 1 ≤ 9223372036854775807 by decide⟩⟩
    rcases i with _ | _ | i
    · cases hi; exact cell_of_row _ _ 0 _ 104 (0, 0) a0
    · cases hi; exact cell_of_row _ _ 1 _ 104 (0, 0) a0
    · cases hi
  · rcases j with _ | _ | _ | j
    · exact ⟨cell_of_row _ _ 0 _ 55 (0, 0) a2, cell_of_row _ _ 1 _ 55 (0, 0) a2, cell_of_row _ _ 2 _ 55 (0, 0) a2⟩
    · exact ⟨cell_of_row _ _ 3 _ 55 (0, 0) a2, cell_of_row _ _ 4 _ 55 (0, 0) a2, cell_of_row _ _ 5 _ 55 (0, 0) a2⟩
    · exact ⟨cell_of_row _ _ 6 _ 55 (0, 0) a2, cell_of_row _ _ 7 _ 55 (0, 0) a2, cell_of_row _ _ 8 _ 55 (0, 0) a2⟩
    · omega
theorem nums2 (w : World) : Nums (w.alloc (.cells #[.int .i64 0, .int .i64 1] 3)) (some ⟨w.heap.size, 0, none⟩) 2 [0, 1] :=
  ⟨rfl, by decide, fun _ => ⟨_, _, rfl, fun j hj => by
    rcases j with _ | _ | j
    · exact cell_of_row _ _ 0 _ 3 (0, 0) (heap_alloc_new w _)
    · exact cell_of_row _ _ 1 _ 3 (0, 0) (heap_alloc_new w _)
    · omega⟩⟩
theorem nums1 (w : World) : Nums (w.alloc (.cells #[.int .i64 1] 3)) (some ⟨w.heap.size, 0, none⟩) 1 [1] :=
  ⟨rfl, by decide, fun _ => ⟨_, _, rfl, fun j hj => by
    rcases j with _ | j
    · exact cell_of_row _ _ 0 _ 3 (0, 0) (heap_alloc_new w _)
    · omega⟩⟩
set_option maxHeartbeats 4000000 in
theorem galive_any (w : World) : Calls Try.prog 27 #[] w fun e w' => e = .returned (.bool true) ∧ Below w.heap.size w w' := by
  have HF := Lib.hid (alW_feet w)
  have HC := Lib.hid (leans_any (some ⟨w.heap.size + 1 + 1, 0, none⟩) 3 3 [ft1, ft1, ft1] (alW w) HF.out.1 (by decide))
  go_enter Try.func27, Try.ntmps27
  go_wp2_with fail
  refine Calls.mono HC.out ?_
  rintro e w1 ⟨v, rfl, ra, rc, A', c', rfl, C⟩
  rw [leans3] at C
  have hrw := rows_own C rfl (by decide) fits3 small3
  have HR := Lib.hid hrw
  have HB1 := Lib.hid (HF.out.2.trans (C.below.mono HF.out.2.size))
  clear C hrw
  go_wp2_with fail
  refine Calls.mono (least_ok A' 3 c' lv3 w1 HR.out good3 (by decide)) ?_
  rintro e w2 ⟨rfl, ra2, rc2, hM⟩
  rw [least3] at hM
  have HM := Lib.hid hM
  obtain ⟨b, off, rfl, hrow⟩ := (HR.out.below hM.below).2.2 (by decide)
  obtain ⟨B1, d1, q1, q2, _⟩ := hrow 2 (by decide)
  have q1 : w2.cell? ⟨b, off + 2, none⟩ = some (.slice B1 2 d1) := q1
  have HN := Lib.hid (show Nums w2 B1 2 [0, 1] from q2)
  clear hM hrow q2
  go_wp2_with fail
  refine Calls.mono (ints_same B1 2 d1 _ 2 [0, 1] _ (HN.out.ext (stays_w ((Below.refl _ w2).alloc (Nat.le_refl _) _))) (nums2 w2) (by decide)) ?_
  rintro e w3 ⟨rfl, hb3⟩
  have HB3 := Lib.hid (((Below.refl _ w2).alloc (Nat.le_refl _) (.cells #[.int .i64 0, .int .i64 1] 3)).trans (hb3.mono (by rw [World.size_alloc]; omega)))
  clear hb3 q1
  have cm := HM.out.cells 2 (by decide)
  have cm : w2.cell? ⟨w1.heap.size + 3, 2, none⟩ = some (.slice (ra2 2) 1 (rc2 2)) := cm
  replace cm := (stays_w HB3.out _ (World.block_lt_of_cell? _ _ cm)).trans cm
  have HN2 := Lib.hid (show Nums w3 (ra2 2) 1 [1] from ((HM.out.rows 2 (by decide)).nums (by decide)).ext (stays_w HB3.out))
  go_wp2_with fail
  refine Calls.mono (ints_same (ra2 2) 1 (rc2 2) _ 1 [1] _ (HN2.out.ext (stays_w ((Below.refl _ w3).alloc (Nat.le_refl _) _))) (nums1 w3) (by decide)) ?_
  rintro e w4 ⟨rfl, hb4⟩
  have HB4 := Lib.hid (((Below.refl _ w3).alloc (Nat.le_refl _) (.cells #[.int .i64 1] 3)).trans (hb4.mono (by rw [World.size_alloc]; omega)))
  clear hb4 cm
  have C := goodg_any (some ⟨b, off, none⟩) 3 c' lv3 w4 (((HR.out.below HM.out.below).below HB3.out).below HB4.out)
  rw [decide_eq_true good3] at C
  go_wp2_with fail
  refine Calls.mono C ?_
  rintro e w5 ⟨rfl, rfl⟩
  go_wp2_with fail
  go_ret
  have h1 := HB1.out
  have h2 := h1.trans (HM.out.below.mono h1.size)
  have h3 := h2.trans (HB3.out.mono h2.size)
  exact ⟨rfl, h3.trans (HB4.out.mono h3.size)⟩
end Go.Proofs.Ytgdkgoiagjjccaa
