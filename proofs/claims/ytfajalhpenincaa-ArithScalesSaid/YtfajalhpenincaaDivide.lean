/- The contracts of arith.Div and arith.Mod. -/
import Derived.Test.YtfajalhpenincaaScale2
namespace Go.Proofs.Ytfajalhpenincaa
open Go.RowKit

theorem nat_small {a : Int} (h : Fits a) : a.natAbs ≤ 9223372036854775808 := by unfold Fits at h; omega
theorem lo_nat {n : Nat} (h : n ≤ 9223372036854775808) : lo (n : Int) = (n : Int) := by unfold lo; omega
theorem hi_nat {n : Nat} (h : n ≤ 9223372036854775808) : hi (n : Int) = 0 := by unfold hi; omega
theorem one_fits : Fits 1 := by unfold Fits; decide
theorem quot_wide {a b : Int} (ha : Fits a) : Wide (a.tdiv b) := by
  have h1 : (a.tdiv b).natAbs ≤ a.natAbs := by rw [Int.natAbs_tdiv]; exact Nat.div_le_self _ _
  have := nat_small ha
  unfold Wide; omega
theorem quot_sign {a b : Int} (hb : b ≠ 0) : a.tdiv b = if (decide (a < 0) == decide (b < 0)) = true then ((a.natAbs / b.natAbs : Nat) : Int) else -((a.natAbs / b.natAbs : Nat) : Int) := by
  rcases Int.natAbs_eq a with ha | ha <;> rcases Int.natAbs_eq b with hb2 | hb2
  · have e : a.tdiv b = ((a.natAbs / b.natAbs : Nat) : Int) := by
      conv => lhs; rw [ha, hb2]
      rfl
    have h1 : ¬ a < 0 := by omega
    have h2 : ¬ b < 0 := by omega
    simp [e, h1, h2]
  · have e : a.tdiv b = -((a.natAbs / b.natAbs : Nat) : Int) := by
      conv => lhs; rw [ha, hb2, Int.tdiv_neg]
      rfl
    have h1 : ¬ a < 0 := by omega
    have h2 : b < 0 := by omega
    simp [e, h1, h2]
  · have e : a.tdiv b = -((a.natAbs / b.natAbs : Nat) : Int) := by
      conv => lhs; rw [ha, hb2, Int.neg_tdiv]
      rfl
    have h2 : ¬ b < 0 := by omega
    by_cases h1 : a < 0
    · simp [e, h1, h2]
    · have h0 : a.natAbs = 0 := by omega
      rw [e, h0]; simp
  · have e : a.tdiv b = ((a.natAbs / b.natAbs : Nat) : Int) := by
      conv => lhs; rw [ha, hb2, Int.neg_tdiv, Int.tdiv_neg, Int.neg_neg]
      rfl
    have h2 : b < 0 := by omega
    by_cases h1 : a < 0
    · simp [e, h1, h2]
    · have h0 : a.natAbs = 0 := by omega
      rw [e, h0]; simp
theorem scale_one (a b : Int) (ha : Fits a) (hb : Fits b) (h0 : b ≠ 0) (w : World) :
    Calls Try.prog 26 #[.int .i64 a, .int .i64 1, .int .i64 b] w fun e w' => e = .returned (.tuple #[.int .i64 (numN (a.tdiv b)), numE (a.tdiv b)]) ∧ Below w.heap.size w w' := by
  have hm : a * 1 = a := Int.mul_one a
  have na := nat_small ha
  have nb := nat_small hb
  have nq : a.natAbs / b.natAbs ≤ 9223372036854775808 := Nat.le_trans (Nat.div_le_self _ _) na
  refine scale_num a 1 b ha one_fits hb (by rw [hm, hi_nat na, lo_nat nb]; omega) ((a.natAbs / b.natAbs : Nat) : Int) ((a.natAbs % b.natAbs : Nat) : Int) (a.tdiv b) (hi_nat nq) (by rw [hm]; exact quot_sign h0) (quot_wide ha) (fun w => ?_) w
  rw [hm, hi_nat na, lo_nat na, lo_nat nb, lo_nat nq]
  have h := div64_low (a.natAbs : Int) (b.natAbs : Int) ⟨by omega, by omega⟩ (by omega) w
  exact h
theorem scale_zero (a : Int) (ha : Fits a) (w : World) :
    Calls Try.prog 26 #[.int .i64 a, .int .i64 1, .int .i64 0] w fun e w' => e = .returned (.tuple #[.int .i64 0, over]) ∧ Below w.heap.size w w' := by
  refine scale_over a 1 0 ha one_fits (by unfold Fits; decide) ?_ w
  rw [Int.mul_one, hi_nat (nat_small ha)]
  decide
set_option maxHeartbeats 400000 in
theorem div_num (a b : Int) (ha : Fits a) (hb : Fits b) (h0 : b ≠ 0) (w : World) :
    Calls Try.prog 18 #[.int .i64 a, .int .i64 b] w fun e w' => e = .returned (.tuple #[.int .i64 (numN (a.tdiv b)), numE (a.tdiv b)]) ∧ Below w.heap.size w w' := by
  have C := fun w => scale_one a b ha hb h0 w
  obtain ⟨n, hn⟩ : ∃ n, n = numN (a.tdiv b) := ⟨_, rfl⟩
  obtain ⟨v, hv⟩ : ∃ v, v = numE (a.tdiv b) := ⟨_, rfl⟩
  rw [← hn, ← hv] at C ⊢
  have HC := Lib.hid C
  clear C hn hv h0
  go_enter Try.func18, Try.ntmps18
  go_wp2_with fail
  refine Calls.mono (HC.out _) ?_
  rintro e w1 ⟨rfl, hb1⟩
  go_wp2_with fail
  go_ret2
  exact ⟨rfl, hb1⟩
set_option maxHeartbeats 400000 in
theorem div_zero (a : Int) (ha : Fits a) (w : World) :
    Calls Try.prog 18 #[.int .i64 a, .int .i64 0] w fun e w' => e = .returned (.tuple #[.int .i64 0, over]) ∧ Below w.heap.size w w' := by
  have C := fun w => scale_zero a ha w
  obtain ⟨v, hv⟩ : ∃ v, v = over := ⟨_, rfl⟩
  rw [← hv] at C ⊢
  have HC := Lib.hid C
  clear C hv
  go_enter Try.func18, Try.ntmps18
  go_wp2_with fail
  refine Calls.mono (HC.out _) ?_
  rintro e w1 ⟨rfl, hb1⟩
  go_wp2_with fail
  go_ret2
  exact ⟨rfl, hb1⟩
set_option maxHeartbeats 400000 in
theorem mod_num (a b : Int) (h0 : b ≠ 0) (w : World) :
    Calls Try.prog 19 #[.int .i64 a, .int .i64 b] w fun e w' => e = .returned (.tuple #[.int .i64 (a.tmod b), .nilIface]) ∧ w = w' := by
  have e0 : (b == 0) = false := by rw [beq_eq_false_iff_ne]; exact h0
  go_enter Try.func19, Try.ntmps19
  go_wp2
  go_ret2
  exact ⟨rfl, rfl⟩
set_option maxHeartbeats 400000 in
theorem mod_zero (a : Int) (w : World) :
    Calls Try.prog 19 #[.int .i64 a, .int .i64 0] w fun e w' => e = .returned (.tuple #[.int .i64 0, over]) ∧ w = w' := by
  unfold over
  go_enter Try.func19, Try.ntmps19
  go_wp2
  go_ret2
  exact ⟨rfl, rfl⟩
end Go.Proofs.Ytfajalhpenincaa
