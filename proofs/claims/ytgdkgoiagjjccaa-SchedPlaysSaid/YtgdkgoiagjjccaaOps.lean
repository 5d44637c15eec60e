/- The contracts of arith.Add, Sub, Mul. -/
import Derived.Test.YtgdkgoiagjjccaaProduct
namespace Go.Proofs.Ytgdkgoiagjjccaa
set_option maxRecDepth 100000
open Go.RowKit

/-- What a call answers of a whole number: it, or ErrOver. -/
def numV (z : Int) : Value := if -9223372036854775808 ≤ z ∧ z ≤ 9223372036854775807 then .tuple #[.int .i64 z, .nilIface] else .tuple #[.int .i64 0, over]
theorem numV_yes {z : Int} (h : Fits z) : numV z = .tuple #[.int .i64 z, .nilIface] := if_pos h
theorem numV_no {z : Int} (h : ¬ Fits z) : numV z = .tuple #[.int .i64 0, over] := if_neg h
/-- The value and the error by themselves. -/
def numN (z : Int) : Int := if -9223372036854775808 ≤ z ∧ z ≤ 9223372036854775807 then z else 0
def numE (z : Int) : Value := if -9223372036854775808 ≤ z ∧ z ≤ 9223372036854775807 then .nilIface else over
theorem numV_eq (z : Int) : numV z = .tuple #[.int .i64 (numN z), numE z] := by
  unfold numV numN numE; split <;> rfl
theorem number_any (z : Int) (hz : Wide z) (w : World) :
    Calls Try.prog 91 #[wideV z] w fun e w' => e = .returned (.tuple #[.int .i64 (numN z), numE z]) ∧ Below w.heap.size w w' := by
  rw [← numV_eq]
  by_cases h : Fits z
  · rw [numV_yes h]; exact number_yes z h w
  · rw [numV_no h]; exact number_no z hz h w

theorem prod_wide {a b : Int} (ha : Fits a) (hb : Fits b) : Wide (a * b) := by
  have h : (a * b).natAbs ≤ 9223372036854775808 * 9223372036854775808 := by
    rw [Int.natAbs_mul]
    exact Nat.mul_le_mul (by unfold Fits at ha; omega) (by unfold Fits at hb; omega)
  have e : 9223372036854775808 * 9223372036854775808 = 85070591730234615865843651857942052864 := by decide
  rw [e] at h
  unfold Wide; omega

set_option maxHeartbeats 400000 in
theorem mul_any (a b : Int) (ha : Fits a) (hb : Fits b) (w : World) :
    Calls Try.prog 76 #[.int .i64 a, .int .i64 b] w fun e w' => e = .returned (numV (a * b)) ∧ Below w.heap.size w w' := by
  have P := fun w => product_any a b ha hb w
  have N := fun w => number_any (a * b) (prod_wide ha hb) w
  rw [numV_eq]
  obtain ⟨n, hn⟩ : ∃ n, n = numN (a * b) := ⟨_, rfl⟩
  obtain ⟨v, hv⟩ : ∃ v, v = numE (a * b) := ⟨_, rfl⟩
  obtain ⟨s, hs⟩ : ∃ s, s = a * b := ⟨_, rfl⟩
  rw [← hn, ← hv] at N ⊢
  rw [← hs] at P N
  have H3 := Lib.hid P
  have H4 := Lib.hid N
  clear P N hn hv hs
  go_enter Try.func76, Try.ntmps76
  go_wp2_with fail
  refine Calls.mono (H3.out _) ?_
  rintro e w1 ⟨rfl, hb1⟩
  go_wp2_with fail
  refine Calls.mono (H4.out _) ?_
  rintro e w2 ⟨rfl, hb2⟩
  have hbw := hb1.trans (hb2.mono hb1.size)
  have HB := Lib.hid hbw
  clear hb1 hb2 hbw
  go_wp2_with fail
  go_ret2
  exact ⟨rfl, HB.out⟩
end Go.Proofs.Ytgdkgoiagjjccaa
