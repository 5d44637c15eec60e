/- How spans are ordered. -/
import Derived.Test.YtmicheheibkmjaaFCmp
namespace Go.Proofs.Ytmicheheibkmjaa
set_option maxRecDepth 100000
open Go.RowKit

def compS (x y : Sp) : Int := if cmpI x.t y.t ≠ 0 then cmpI x.t y.t else cmpI x.lo y.lo
set_option maxHeartbeats 2000000 in
theorem compareS_any (x y : Sp) (w : World) : Calls Try.prog 71 #[x.val, y.val] w fun e w' => e = .returned (.int .i64 (compS x y)) ∧ Below w.heap.size w w' ∧ w.drawn ≤ w'.drawn := by
  have hb1 := ((Below.refl w.heap.size w).alloc (Nat.le_refl _) (.cells #[.int .i64 x.t, .int .i64 x.lo, .int .i64 x.hi] 54))
  have hb2 := hb1.alloc (by rw [World.size_alloc]; omega) (.cells #[.int .i64 y.t, .int .i64 y.lo, .int .i64 y.hi] 54)
  have hx1 := (heap_alloc_old (w.alloc (.cells #[.int .i64 x.t, .int .i64 x.lo, .int .i64 x.hi] 54)) (.cells #[.int .i64 y.t, .int .i64 y.lo, .int .i64 y.hi] 54) (by simp)).trans (heap_alloc_new w (.cells #[.int .i64 x.t, .int .i64 x.lo, .int .i64 x.hi] 54))
  have hy1 := heap_alloc_new (w.alloc (.cells #[.int .i64 x.t, .int .i64 x.lo, .int .i64 x.hi] 54)) (.cells #[.int .i64 y.t, .int .i64 y.lo, .int .i64 y.hi] 54)
  rw [World.size_alloc] at hy1
  have HC1 := Lib.hid (cmp_any x.t y.t)
  have HC2 := Lib.hid (cmp_any x.lo y.lo)
  have HOR := Lib.hid (fun (g : Nat) => or_any g (cmpI x.t y.t) (cmpI x.lo y.lo))
  unfold compS Sp.val
  obtain ⟨c1, hc1⟩ : ∃ c, c = cmpI x.t y.t := ⟨_, rfl⟩
  obtain ⟨c2, hc2⟩ : ∃ c, c = cmpI x.lo y.lo := ⟨_, rfl⟩
  rw [← hc1] at HC1 HOR ⊢
  rw [← hc2] at HC2 HOR ⊢
  obtain ⟨R, hR⟩ : ∃ R, R = (if c1 ≠ 0 then c1 else c2) := ⟨_, rfl⟩
  rw [← hR] at HOR ⊢
  clear hc1 hc2 hb1 hR
  go_enter Try.func71, Try.ntmps71
  go_wp2_with fail
  obtain ⟨W, hW⟩ : ∃ W, W = (w.alloc (.cells #[.int .i64 x.t, .int .i64 x.lo, .int .i64 x.hi] 54)).alloc (.cells #[.int .i64 y.t, .int .i64 y.lo, .int .i64 y.hi] 54) := ⟨_, rfl⟩
  have HD := Lib.hid (show w.drawn ≤ W.drawn by rw [hW]; exact Nat.le_refl _)
  rw [← hW] at hb2 hx1 hy1 ⊢
  clear hW
  have HB2 := Lib.hid hb2.drew
  have x0 : W.drew.cell? ⟨w.heap.size, 0, none⟩ = some (.int .i64 x.t) := cell_of_row W _ 0 _ 54 (0, 0) hx1
  have x1 : W.drew.cell? ⟨w.heap.size, 1, none⟩ = some (.int .i64 x.lo) := cell_of_row W _ 1 _ 54 (0, 0) hx1
  have y0 : W.drew.cell? ⟨w.heap.size + 1, 0, none⟩ = some (.int .i64 y.t) := cell_of_row W _ 0 _ 54 (0, 0) hy1
  have y1 : W.drew.cell? ⟨w.heap.size + 1, 1, none⟩ = some (.int .i64 y.lo) := cell_of_row W _ 1 _ 54 (0, 0) hy1
  clear hb2 hx1 hy1
  go_region_law (first | (go_simp; go_at_call 73; (first | (with_reducible refine Calls.mono (HC1.out _) ?_) | (with_reducible refine Calls.mono (HC2.out _) ?_)); rintro e w5 ⟨rfl, rfl⟩) | (go_simp; go_at_call 72; refine Calls.mono (HOR.out W.drew.heap.size _ (cell_of_row _ _ 0 _ 3 (0, 0) (heap_alloc_new _ _)) (cell_of_row _ _ 1 _ 3 (0, 0) (heap_alloc_new _ _))) ?_; rintro e w6 ⟨rfl, rfl⟩))
  all_goals
    go_wp2_with fail
    go_ret
    exact ⟨rfl, HB2.out.alloc HB2.out.size _, Nat.le_succ_of_le HD.out⟩
end Go.Proofs.Ytmicheheibkmjaa
