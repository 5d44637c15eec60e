/- Plain numbers: a whole number as two halves of 64 bits. -/
namespace Go.Proofs.Ytgdkgoiagjjccaa
set_option maxRecDepth 100000
def hi (z : Int) : Int := z / 18446744073709551616 % 18446744073709551616
def lo (z : Int) : Int := z % 18446744073709551616
def Word (z : Int) : Prop := 0 ≤ z ∧ z < 18446744073709551616
def Fits (z : Int) : Prop := -9223372036854775808 ≤ z ∧ z ≤ 9223372036854775807
/-- Within 127 bits and a sign. -/
def Wide (z : Int) : Prop := -170141183460469231731687303715884105728 ≤ z ∧ z < 170141183460469231731687303715884105728
theorem hi_word (z : Int) : Word (hi z) := by unfold Word hi; omega
theorem lo_word (z : Int) : Word (lo z) := by unfold Word lo; omega
def carry (a b : Int) : Int := (lo a + lo b) / 18446744073709551616
theorem carry_is (a b : Int) : carry a b = 0 ∨ carry a b = 1 := by unfold carry lo; omega
theorem lo_add (a b : Int) : (lo a + lo b) % 18446744073709551616 = lo (a + b) := by unfold lo; omega
theorem hi_add (a b : Int) : (hi a + hi b + carry a b) % 18446744073709551616 = hi (a + b) := by unfold hi carry lo; omega
theorem lo_not (a : Int) : 18446744073709551615 - lo a = lo (-a - 1) := by unfold lo; omega
theorem hi_not (a : Int) : 18446744073709551615 - hi a = hi (-a - 1) := by unfold hi; omega
theorem neg_is (a : Int) : (-a - 1) + 1 = -a := by omega
theorem hi_below {a : Int} (h : Wide a) (h0 : a < 0) : hi a / 9223372036854775808 = 1 := by unfold Wide at h; unfold hi; omega
theorem hi_over {a : Int} (h : Wide a) (h0 : ¬ a < 0) : hi a / 9223372036854775808 = 0 := by unfold Wide at h; unfold hi; omega
theorem fits_wide {a : Int} (h : Fits a) : Wide a := by unfold Fits at h; unfold Wide; omega
theorem sum_wide {a b : Int} (h : Fits a) (k : Fits b) : Wide (a + b) := by unfold Fits at h k; unfold Wide; omega
theorem neg_wide {a b : Int} (h : Fits a) (k : Fits b) : Wide (a + -b) := by unfold Fits at h k; unfold Wide; omega
theorem hi_fits {a : Int} (h : Fits a) : hi a = if a < 0 then 18446744073709551615 else 0 := by unfold Fits at h; unfold hi; split <;> omega
/-- What number() tests. -/
theorem back_iff {z n : Int} (hz : Wide z) (hn : n = (z + 9223372036854775808) % 18446744073709551616 - 9223372036854775808) : (hi n = hi z ∧ lo n = lo z) ↔ Fits z := by
  unfold Wide at hz; unfold Fits hi lo; omega
end Go.Proofs.Ytgdkgoiagjjccaa
