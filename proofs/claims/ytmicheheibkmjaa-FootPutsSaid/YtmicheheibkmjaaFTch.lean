/- The document's touch. -/
import Derived.Test.YtmicheheibkmjaaFRise
namespace Go.Proofs.Ytmicheheibkmjaa
set_option maxRecDepth 100000
open Go.RowKit

set_option maxHeartbeats 2000000 in
theorem touchS_any (x y : Sp) (hx : FitS x) (hy : FitS y) (w : World) : Calls Try.prog 74 #[x.val, y.val] w fun e w' => e = .returned (.bool (decide (tch x y))) ∧ Below w.heap.size w w' := by
  have HB := Lib.hid (sbox2 w x y)
  have H1 := Lib.hid (betw_any x.hi y.lo hx.2.2.1 hy.2.1)
  have H2 := Lib.hid (betw_any y.hi x.lo hy.2.2.1 hx.2.1)
  unfold Sp.val
  clear hx hy
  by_cases ht : x.t = y.t
  · have e1 : (x.t == y.t) = true := beq_iff_eq.2 ht
    have HT := Lib.hid ht
    clear ht
    by_cases h1 : x.hi + 1 < y.lo
    · have HE := Lib.hid (show decide (tch x y) = false by rw [decide_eq_false_iff_not]; unfold tch; omega)
      rw [decide_eq_true h1] at H1
      clear h1
      go_enter Try.func74, Try.ntmps74
      go_wp2_with fail
      refine Calls.mono (H1.out _) ?_
      rintro e w1 ⟨rfl, rfl⟩
      go_wp2_with fail
      go_ret
      exact ⟨by rw [HE.out]; rfl, HB.out⟩
    · rw [decide_eq_false h1] at H1
      have HE := Lib.hid (show decide (tch x y) = !decide (y.hi + 1 < x.lo) by
        have := HT.out
        rw [Bool.eq_iff_iff]
        simp only [decide_eq_true_iff, Bool.not_eq_true', decide_eq_false_iff_not]
        unfold tch
        omega)
      clear h1
      obtain ⟨r, hr⟩ : ∃ r, r = decide (y.hi + 1 < x.lo) := ⟨_, rfl⟩
      rw [← hr] at H2 HE
      clear hr
      go_enter Try.func74, Try.ntmps74
      go_wp2_with fail
      refine Calls.mono (H1.out _) ?_
      rintro e w1 ⟨rfl, rfl⟩
      go_wp2_with fail
      refine Calls.mono (H2.out _) ?_
      rintro e w1 ⟨rfl, rfl⟩
      go_wp2_with fail
      go_ret
      exact ⟨by rw [HE.out]; rfl, HB.out⟩
  · have e1 : (x.t == y.t) = false := beq_eq_false_iff_ne.2 ht
    have HE := Lib.hid (show decide (tch x y) = false by rw [decide_eq_false_iff_not]; unfold tch; omega)
    clear ht
    go_enter Try.func74, Try.ntmps74
    go_wp2_with fail
    go_ret
    exact ⟨by rw [HE.out]; rfl, HB.out⟩
end Go.Proofs.Ytmicheheibkmjaa
