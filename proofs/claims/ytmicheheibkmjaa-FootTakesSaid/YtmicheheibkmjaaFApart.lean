/- Does a span lie behind another one, with a number of no one between. -/
import Derived.Test.YtmicheheibkmjaaFJoinM
import Derived.Test.YtmicheheibkmjaaGRead
namespace Go.Proofs.Ytmicheheibkmjaa
set_option maxRecDepth 100000
open Go.RowKit

/-- A span of 64-bit numbers. -/
def FitS (x : Sp) : Prop := -9223372036854775808 ≤ x.lo ∧ x.lo ≤ 9223372036854775807 ∧ -9223372036854775808 ≤ x.hi ∧ x.hi ≤ 9223372036854775807
theorem plus1 {a : Int} (h0 : -9223372036854775808 ≤ a) (h1 : a < 9223372036854775807) : wrap64 (a + 1) = a + 1 := by
  unfold wrap64

  omega
theorem sbox2 (w : World) (x y : Sp) : Below w.heap.size w ((w.alloc (.cells #[.int .i64 x.t, .int .i64 x.lo, .int .i64 x.hi] 54)).alloc (.cells #[.int .i64 y.t, .int .i64 y.lo, .int .i64 y.hi] 54)) :=
  ((Below.refl _ w).alloc (Nat.le_refl _) _).alloc (by simp) _
set_option maxHeartbeats 1000000 in
theorem apart_any (x y : Sp) (hx : FitS x) (hy : FitS y) (w : World) : Calls Try.prog 44 #[x.val, y.val] w fun e w' => e = .returned (.bool (decide (ap x y))) ∧ Below w.heap.size w w' := by
  have HB := Lib.hid (sbox2 w x y)
  unfold FitS at hx hy
  unfold Sp.val
  by_cases ht : x.t = y.t
  · have e1 : (x.t != y.t) = false := by rw [ht]; simp
    by_cases h1 : x.hi < y.lo
    · have hw : wrap64 (x.hi + 1) = x.hi + 1 := plus1 hx.2.2.1 (by omega)
      have HE := Lib.hid (show decide (ap x y) = decide (x.hi + 1 < y.lo) by
        rw [decide_eq_decide]; unfold ap; omega)
      have HT := Lib.hid ht
      clear ht hx hy
      go_enter Try.func44, Try.ntmps44
      go_wp2_with fail
      go_ret
      exact ⟨by rw [HE.out]; rfl, HB.out⟩
    · have HE := Lib.hid (show decide (ap x y) = false by
        rw [decide_eq_false_iff_not]; unfold ap; omega)
      have HT := Lib.hid ht
      clear ht hx hy
      go_enter Try.func44, Try.ntmps44
      go_wp2_with fail
      go_ret
      exact ⟨by rw [HE.out]; rfl, HB.out⟩
  · have e1 : (x.t != y.t) = true := by simpa using ht
    have HE := Lib.hid (show decide (ap x y) = decide (x.t < y.t) by
        rw [decide_eq_decide]; unfold ap; omega)
    clear ht hx hy
    go_enter Try.func44, Try.ntmps44
    go_wp2_with fail
    go_ret
    exact ⟨by rw [HE.out]; rfl, HB.out⟩
end Go.Proofs.Ytmicheheibkmjaa
