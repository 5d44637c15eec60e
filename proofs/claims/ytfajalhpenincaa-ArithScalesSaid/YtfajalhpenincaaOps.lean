/- The contracts of arith.Add, Sub, Mul. -/
import Derived.Test.YtfajalhpenincaaProduct
namespace Go.Proofs.Ytfajalhpenincaa
open Go.RowKit

/-- What a call answers of a whole number: it, or ErrOver. -/
def numV (z : Int) : Value := if -9223372036854775808 ≤ z ∧ z ≤ 9223372036854775807 then .tuple #[.int .i64 z, .nilIface] else .tuple #[.int .i64 0, over]
theorem numV_yes {z : Int} (h : Fits z) : numV z = .tuple #[.int .i64 z, .nilIface] := if_pos h
theorem numV_no {z : Int} (h : ¬ Fits z) : numV z = .tuple #[.int .i64 0, over] := if_neg h
/-- The value and the error by themselves. -/
def numN (z : Int) : Int := if -9223372036854775808 ≤ z ∧ z ≤ 9223372036854775807 then z else 0
def numE (z : Int) : Value := if -9223372036854775808 ≤ z ∧ z ≤ 9223372036854775807 then .nilIface else over
theorem numV_eq (z : Int) : numV z = .tuple #[.int .i64 (numN z), numE z] := by
  unfold numV numN numE; split <;> rfl
theorem number_any (z : Int) (hz : Wide z) (w : World) :
    Calls Try.prog 29 #[wideV z] w fun e w' => e = .returned (.tuple #[.int .i64 (numN z), numE z]) ∧ Below w.heap.size w w' := by
  rw [← numV_eq]
  by_cases h : Fits z
  · rw [numV_yes h]; exact number_yes z h w
  · rw [numV_no h]; exact number_no z hz h w

theorem prod_wide {a b : Int} (ha : Fits a) (hb : Fits b) : Wide (a * b) := by
  have h : (a * b).natAbs ≤ 9223372036854775808 * 9223372036854775808 := by
    rw [Int.natAbs_mul]
    exact Nat.mul_le_mul (by unfold Fits at ha; omega) (by unfold Fits at hb; omega)
  have e : 9223372036854775808 * 9223372036854775808 = 85070591730234615865843651857942052864 := by decide
  rw [e] at h
  unfold Wide; omega

set_option maxHeartbeats 400000 in
theorem add_any (a b : Int) (ha : Fits a) (hb : Fits b) (w : World) :
    Calls Try.prog 11 #[.int .i64 a, .int .i64 b] w fun e w' => e = .returned (numV (a + b)) ∧ Below w.heap.size w w' := by
  have W1 := fun w => widen_any a ha w
  have W2 := fun w => widen_any b hb w
  have P := fun w => plus_any a b w
  have N := fun w => number_any (a + b) (sum_wide ha hb) w
  rw [numV_eq]
  obtain ⟨n, hn⟩ : ∃ n, n = numN (a + b) := ⟨_, rfl⟩
  obtain ⟨v, hv⟩ : ∃ v, v = numE (a + b) := ⟨_, rfl⟩
  obtain ⟨s, hs⟩ : ∃ s, s = a + b := ⟨_, rfl⟩
  rw [← hn, ← hv] at N ⊢
  rw [← hs] at P N
  have H1 := Lib.hid W1
  have H2 := Lib.hid W2
  have H3 := Lib.hid P
  have H4 := Lib.hid N
  clear W1 W2 P N hn hv hs
  go_enter Try.func11, Try.ntmps11
  go_wp2_with fail
  refine Calls.mono (H1.out _) ?_
  rintro e w1 ⟨rfl, hb1⟩
  go_wp2_with fail
  refine Calls.mono (H2.out _) ?_
  rintro e w2 ⟨rfl, hb2⟩
  go_wp2_with fail
  refine Calls.mono (H3.out _) ?_
  rintro e w3 ⟨rfl, hb3⟩
  go_wp2_with fail
  refine Calls.mono (H4.out _) ?_
  rintro e w4 ⟨rfl, hb4⟩
  have s1 := hb1.size
  have s2 := hb2.size
  have s3 := hb3.size
  have hbw := ((hb1.trans (hb2.mono s1)).trans (hb3.mono (Nat.le_trans s1 s2))).trans (hb4.mono (by omega))
  have HB := Lib.hid hbw
  clear hb1 hb2 hb3 hb4 hbw
  go_wp2_with fail
  go_ret2
  exact ⟨rfl, HB.out⟩

set_option maxHeartbeats 400000 in
theorem sub_any (a b : Int) (ha : Fits a) (hb : Fits b) (w : World) :
    Calls Try.prog 12 #[.int .i64 a, .int .i64 b] w fun e w' => e = .returned (numV (a - b)) ∧ Below w.heap.size w w' := by
  rw [Int.sub_eq_add_neg]
  have W1 := fun w => widen_any a ha w
  have W2 := fun w => widen_any b hb w
  have O := fun w => opposite_any b w
  have P := fun w => plus_any a (-b) w
  have N := fun w => number_any (a + -b) (neg_wide ha hb) w
  rw [numV_eq]
  obtain ⟨n, hn⟩ : ∃ n, n = numN (a + -b) := ⟨_, rfl⟩
  obtain ⟨v, hv⟩ : ∃ v, v = numE (a + -b) := ⟨_, rfl⟩
  obtain ⟨s, hs⟩ : ∃ s, s = a + -b := ⟨_, rfl⟩
  obtain ⟨t, ht⟩ : ∃ t, t = -b := ⟨_, rfl⟩
  rw [← hn, ← hv] at N ⊢
  rw [← hs] at P N
  rw [← ht] at O P
  have H1 := Lib.hid W1
  have H2 := Lib.hid W2
  have H3 := Lib.hid P
  have H4 := Lib.hid N
  have H5 := Lib.hid O
  clear W1 W2 P N O hn hv hs ht
  go_enter Try.func12, Try.ntmps12
  go_wp2_with fail
  refine Calls.mono (H1.out _) ?_
  rintro e w1 ⟨rfl, hb1⟩
  go_wp2_with fail
  refine Calls.mono (H2.out _) ?_
  rintro e w2 ⟨rfl, hb2⟩
  go_wp2_with fail
  refine Calls.mono (H5.out _) ?_
  rintro e w5 ⟨rfl, hb5⟩
  go_wp2_with fail
  refine Calls.mono (H3.out _) ?_
  rintro e w3 ⟨rfl, hb3⟩
  go_wp2_with fail
  refine Calls.mono (H4.out _) ?_
  rintro e w4 ⟨rfl, hb4⟩
  have s1 := hb1.size
  have s2 := hb2.size
  have s5 := hb5.size
  have s3 := hb3.size
  have hbw := (((hb1.trans (hb2.mono s1)).trans (hb5.mono (by omega))).trans (hb3.mono (by omega))).trans (hb4.mono (by omega))
  have HB := Lib.hid hbw
  clear hb1 hb2 hb3 hb4 hb5 hbw
  go_wp2_with fail
  go_ret2
  exact ⟨rfl, HB.out⟩

set_option maxHeartbeats 400000 in
theorem mul_any (a b : Int) (ha : Fits a) (hb : Fits b) (w : World) :
    Calls Try.prog 13 #[.int .i64 a, .int .i64 b] w fun e w' => e = .returned (numV (a * b)) ∧ Below w.heap.size w w' := by
  have P := fun w => product_any a b ha hb w
  have N := fun w => number_any (a * b) (prod_wide ha hb) w
  rw [numV_eq]
  obtain ⟨n, hn⟩ : ∃ n, n = numN (a * b) := ⟨_, rfl⟩
  obtain ⟨v, hv⟩ : ∃ v, v = numE (a * b) := ⟨_, rfl⟩
  obtain ⟨s, hs⟩ : ∃ s, s = a * b := ⟨_, rfl⟩
  rw [← hn, ← hv] at N ⊢
  rw [← hs] at P N
  have H3 := Lib.hid P
  have H4 := Lib.hid N
  clear P N hn hv hs
  go_enter Try.func13, Try.ntmps13
  go_wp2_with fail
  refine Calls.mono (H3.out _) ?_
  rintro e w1 ⟨rfl, hb1⟩
  go_wp2_with fail
  refine Calls.mono (H4.out _) ?_
  rintro e w2 ⟨rfl, hb2⟩
  have hbw := hb1.trans (hb2.mono hb1.size)
  have HB := Lib.hid hbw
  clear hb1 hb2 hbw
  go_wp2_with fail
  go_ret2
  exact ⟨rfl, HB.out⟩
end Go.Proofs.Ytfajalhpenincaa
