/- How keys are ordered: cmp.Compare, cmp.Or, compare, Less. -/
import Derived.Test.YtmicheheibkmjaaFHas
import Derived.Deep.RegionLaw
namespace Go.Proofs.Ytmicheheibkmjaa
set_option maxRecDepth 100000
open Go.RowKit

theorem nan_any (a : Int) (w : World) : Calls Try.prog 91 #[.int .i64 a] w fun e w' => e = .returned (.bool false) ∧ w = w' := by
  go_enter Try.func91, Try.ntmps91
  go_wp2_with fail
  go_ret
  exact ⟨by simp, rfl⟩
def cmpI (a b : Int) : Int := if a < b then -1 else if b < a then 1 else 0
theorem cmp_any (a b : Int) (w : World) : Calls Try.prog 73 #[.int .i64 a, .int .i64 b] w fun e w' => e = .returned (.int .i64 (cmpI a b)) ∧ w = w' := by
  have HN1 := Lib.hid (nan_any a w)
  have HN2 := Lib.hid (nan_any b w)
  unfold cmpI
  by_cases h1 : a < b
  · rw [if_pos h1]
    have d1 : decide (a < b) = true := decide_eq_true h1
    clear h1
    go_enter Try.func73, Try.ntmps73
    go_wp2_with fail
    refine Calls.mono HN1.out ?_
    rintro e w' ⟨rfl, rfl⟩
    go_wp2_with fail
    refine Calls.mono HN2.out ?_
    rintro e w' ⟨rfl, rfl⟩
    go_wp2_with fail
    go_ret
    exact ⟨rfl, rfl⟩
  · rw [if_neg h1]
    have d1 : decide (a < b) = false := decide_eq_false h1
    by_cases h2 : b < a
    · rw [if_pos h2]
      have d2 : decide (b < a) = true := decide_eq_true h2
      clear h1
      go_enter Try.func73, Try.ntmps73
      go_wp2_with fail
      refine Calls.mono HN1.out ?_
      rintro e w' ⟨rfl, rfl⟩
      go_wp2_with fail
      refine Calls.mono HN2.out ?_
      rintro e w' ⟨rfl, rfl⟩
      go_wp2_with fail
      go_ret
      exact ⟨rfl, rfl⟩
    · rw [if_neg h2]
      have d2 : decide (b < a) = false := decide_eq_false h2
      clear h1 h2
      go_enter Try.func73, Try.ntmps73
      go_wp2_with fail
      refine Calls.mono HN1.out ?_
      rintro e w' ⟨rfl, rfl⟩
      go_wp2_with fail
      refine Calls.mono HN2.out ?_
      rintro e w' ⟨rfl, rfl⟩
      go_wp2_with fail
      go_ret
      exact ⟨rfl, rfl⟩
theorem or_any (g : Nat) (a b : Int) (w : World) (h0 : w.cell? ⟨g, 0, none⟩ = some (.int .i64 a)) (h1 : w.cell? ⟨g, 1, none⟩ = some (.int .i64 b)) : Calls Try.prog 72 #[.slice (some ⟨g, 0, none⟩) 2 2] w fun e w' => e = .returned (.int .i64 (if a ≠ 0 then a else b)) ∧ w = w' := by
  by_cases ha : a = 0
  · have d1 : (a != 0) = false := by rw [ha]; rfl
    rw [if_neg (fun q => q ha)]
    by_cases hb : b = 0
    · have d2 : (b != 0) = false := by rw [hb]; rfl
      go_enter Try.func72, Try.ntmps72
      go_wp2_with fail
      refine wp_loop_rounds 3 ?_
      rw [rounds_succ]
      go_wp2_with fail
      rw [rounds_succ]
      go_wp2_with fail
      rw [rounds_succ]
      go_wp2_with fail
      go_ret
      exact ⟨by rw [hb]; exact rfl, rfl⟩
    · have d2 : (b != 0) = true := by rw [bne_iff_ne]; exact hb
      go_enter Try.func72, Try.ntmps72
      go_wp2_with fail
      refine wp_loop_rounds 3 ?_
      rw [rounds_succ]
      go_wp2_with fail
      rw [rounds_succ]
      go_wp2_with fail
      go_ret
      exact ⟨rfl, rfl⟩
  · have d1 : (a != 0) = true := by rw [bne_iff_ne]; exact ha
    rw [if_pos ha]
    go_enter Try.func72, Try.ntmps72
    go_wp2_with fail
    refine wp_loop_rounds 3 ?_
    rw [rounds_succ]
    go_wp2_with fail
    go_ret
    exact ⟨rfl, rfl⟩
def compK (x y : K) : Int := if cmpI x.t y.t ≠ 0 then cmpI x.t y.t else cmpI x.k y.k
set_option maxHeartbeats 2000000 in
theorem compare_any (x y : K) (w : World) : Calls Try.prog 47 #[x.val, y.val] w fun e w' => e = .returned (.int .i64 (compK x y)) ∧ Below w.heap.size w w' ∧ w.drawn ≤ w'.drawn := by
  have hb1 := ((Below.refl w.heap.size w).alloc (Nat.le_refl _) (.cells #[.int .i64 x.t, .int .i64 x.k] 24))
  have hb2 := hb1.alloc (by rw [World.size_alloc]; omega) (.cells #[.int .i64 y.t, .int .i64 y.k] 24)
  have hx1 := (heap_alloc_old (w.alloc (.cells #[.int .i64 x.t, .int .i64 x.k] 24)) (.cells #[.int .i64 y.t, .int .i64 y.k] 24) (by simp)).trans (heap_alloc_new w (.cells #[.int .i64 x.t, .int .i64 x.k] 24))
  have hy1 := heap_alloc_new (w.alloc (.cells #[.int .i64 x.t, .int .i64 x.k] 24)) (.cells #[.int .i64 y.t, .int .i64 y.k] 24)
  rw [World.size_alloc] at hy1
  have HC1 := Lib.hid (cmp_any x.t y.t)
  have HC2 := Lib.hid (cmp_any x.k y.k)
  have HOR := Lib.hid (fun (g : Nat) => or_any g (cmpI x.t y.t) (cmpI x.k y.k))
  unfold compK K.val
  obtain ⟨c1, hc1⟩ : ∃ c, c = cmpI x.t y.t := ⟨_, rfl⟩
  obtain ⟨c2, hc2⟩ : ∃ c, c = cmpI x.k y.k := ⟨_, rfl⟩
  rw [← hc1] at HC1 HOR ⊢
  rw [← hc2] at HC2 HOR ⊢
  obtain ⟨R, hR⟩ : ∃ R, R = (if c1 ≠ 0 then c1 else c2) := ⟨_, rfl⟩
  rw [← hR] at HOR ⊢
  clear hc1 hc2 hb1 hR
  go_enter Try.func47, Try.ntmps47
  go_wp2_with fail
  obtain ⟨W, hW⟩ : ∃ W, W = (w.alloc (.cells #[.int .i64 x.t, .int .i64 x.k] 24)).alloc (.cells #[.int .i64 y.t, .int .i64 y.k] 24) := ⟨_, rfl⟩
  have HD := Lib.hid (show w.drawn ≤ W.drawn by rw [hW]; exact Nat.le_refl _)
  rw [← hW] at hb2 hx1 hy1 ⊢
  clear hW
  have HB2 := Lib.hid hb2.drew
  have x0 : W.drew.cell? ⟨w.heap.size, 0, none⟩ = some (.int .i64 x.t) := cell_of_row W _ 0 _ 24 (0, 0) hx1
  have x1 : W.drew.cell? ⟨w.heap.size, 1, none⟩ = some (.int .i64 x.k) := cell_of_row W _ 1 _ 24 (0, 0) hx1
  have y0 : W.drew.cell? ⟨w.heap.size + 1, 0, none⟩ = some (.int .i64 y.t) := cell_of_row W _ 0 _ 24 (0, 0) hy1
  have y1 : W.drew.cell? ⟨w.heap.size + 1, 1, none⟩ = some (.int .i64 y.k) := cell_of_row W _ 1 _ 24 (0, 0) hy1
  clear hb2 hx1 hy1
  go_region_law (first | (go_simp; go_at_call 73; (first | (with_reducible refine Calls.mono (HC1.out _) ?_) | (with_reducible refine Calls.mono (HC2.out _) ?_)); rintro e w5 ⟨rfl, rfl⟩) | (go_simp; go_at_call 72; refine Calls.mono (HOR.out W.drew.heap.size _ (cell_of_row _ _ 0 _ 3 (0, 0) (heap_alloc_new _ _)) (cell_of_row _ _ 1 _ 3 (0, 0) (heap_alloc_new _ _))) ?_; rintro e w6 ⟨rfl, rfl⟩))
  all_goals
    go_wp2_with fail
    go_ret
    exact ⟨rfl, HB2.out.alloc HB2.out.size _, Nat.le_succ_of_le HD.out⟩
end Go.Proofs.Ytmicheheibkmjaa
