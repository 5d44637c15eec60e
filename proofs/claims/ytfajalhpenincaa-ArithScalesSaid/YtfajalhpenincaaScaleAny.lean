/- The contract of arith.Scale, of whatever three numbers. -/
import Derived.Test.YtfajalhpenincaaDiv64
import Derived.Test.YtfajalhpenincaaScale2
import Derived.Test.YtfajalhpenincaaDivide
import Derived.Test.YtfajalhpenincaaBackWalk
namespace Go.Proofs.Ytfajalhpenincaa
set_option maxRecDepth 100000
open Go.RowKit

theorem join_two {U T P1 P0 r1 r0 : Nat} (d1 : U * 4294967296 + T / 4294967296 = P1 + r1) (d0 : r1 * 4294967296 + T % 4294967296 = P0 + r0) : U * 18446744073709551616 + T = r0 + (P1 * 4294967296 + P0) := by
  obtain ⟨t1, h1⟩ : ∃ t, t = T / 4294967296 := ⟨_, rfl⟩
  obtain ⟨t0, h0⟩ : ∃ t, t = T % 4294967296 := ⟨_, rfl⟩
  have hT : T = t1 * 4294967296 + t0 := by rw [h1, h0, Nat.mul_comm]; exact (Nat.div_add_mod T 4294967296).symm
  rw [← h1] at d1
  rw [← h0] at d0
  have d2 : (U * 4294967296 + t1) * 4294967296 = (P1 + r1) * 4294967296 := by rw [d1]
  rw [Nat.add_mul, Nat.add_mul, Nat.mul_assoc, show 4294967296 * 4294967296 = 18446744073709551616 from rfl] at d2
  rw [hT, ← Nat.add_assoc, d2, Nat.add_assoc, d0, ← Nat.add_assoc, Nat.add_comm]
theorem ret_two {m n : Nat} {r : Int} (h : m = n) : Ending.returned (.tuple #[.int .u64 (m : Int), .int .u64 r]) = .returned (.tuple #[.int .u64 (n : Int), .int .u64 r]) := by rw [h]
theorem div64_all (x l y : Nat) (hxy : x < y) (hl : l < 18446744073709551616) (hy : y < 18446744073709551616) :
    ∃ r : Int, ∀ w, Calls Try.prog 39 #[.int .u64 (x : Int), .int .u64 (l : Int), .int .u64 (y : Int)] w fun e w' => e = .returned (.tuple #[.int .u64 (((x * 18446744073709551616 + l) / y : Nat) : Int), .int .u64 r]) ∧ ∃ n, w' = w.drewN n := by
  rcases Nat.eq_zero_or_pos x with h0 | h0
  · subst h0
    refine ⟨((l % y : Nat) : Int), fun w => ?_⟩
    have h := div64_low (l : Int) (y : Int) ⟨by omega, by omega⟩ (by omega) w
    rw [Nat.zero_mul, Nat.zero_add]
    exact h
  · obtain ⟨s, hs, hlz, hY1, hY2⟩ := shift_up (y := y) (by omega) hy
    obtain ⟨p1, p2, p3, p4⟩ := low_part (s := s) hxy (by omega) hY2 hl
    have hP : 0 < 2 ^ s := Nat.pow_pos (by decide)
    obtain ⟨Y, eY⟩ : ∃ Y, Y = y * 2 ^ s := ⟨_, rfl⟩
    obtain ⟨U, eU⟩ : ∃ U, U = x * 2 ^ s + l / 2 ^ (64 - s) := ⟨_, rfl⟩
    obtain ⟨T, eT⟩ : ∃ T, T = (l * 2 ^ s) % 18446744073709551616 := ⟨_, rfl⟩
    rw [← eY] at p1 hY1 hY2
    rw [← eU] at p1 p2 p3
    rw [← eT] at p2
    have hTm : T < 18446744073709551616 := by rw [eT]; exact Nat.mod_lt _ (by decide)
    have hYp : 0 < Y := by omega
    have hU2 : l / 2 ^ (64 - s) < 18446744073709551616 := Nat.lt_of_le_of_lt (Nat.div_le_self _ _) hl
    have D1 : Digit U (T / 4294967296) (Y / 4294967296) (Y % 4294967296) Y ((U * 4294967296 + T / 4294967296) / Y) ((U * 4294967296 + T / 4294967296) % Y) :=
      ⟨by omega, by omega, by omega, by omega, p1, by omega, by rw [Nat.mul_comm _ Y]; exact (Nat.div_add_mod _ _).symm, Nat.mod_lt _ hYp⟩
    obtain ⟨q1, hq1⟩ : ∃ q, q = (U * 4294967296 + T / 4294967296) / Y := ⟨_, rfl⟩
    obtain ⟨r1, hr1⟩ : ∃ r, r = (U * 4294967296 + T / 4294967296) % Y := ⟨_, rfl⟩
    rw [← hq1, ← hr1] at D1
    have D0 : Digit r1 (T % 4294967296) (Y / 4294967296) (Y % 4294967296) Y ((r1 * 4294967296 + T % 4294967296) / Y) ((r1 * 4294967296 + T % 4294967296) % Y) :=
      ⟨by omega, by omega, by omega, by omega, D1.rest, by omega, by rw [Nat.mul_comm _ Y]; exact (Nat.div_add_mod _ _).symm, Nat.mod_lt _ hYp⟩
    obtain ⟨q0, hq0⟩ : ∃ q, q = (r1 * 4294967296 + T % 4294967296) / Y := ⟨_, rfl⟩
    obtain ⟨r0, hr0⟩ : ∃ r, r = (r1 * 4294967296 + T % 4294967296) % Y := ⟨_, rfl⟩
    rw [← hq0, ← hr0] at D0
    refine ⟨(r0 : Int) / 2 ^ s, fun w => ?_⟩
    have h := div64_norm x l y s U T Y _ _ _ _ q1 r1 q0 r0 h0 hxy hy hs hlz eY.symm hY2 p3 p4 hU2 eT.symm rfl rfl rfl rfl D1 D0 w
    have hq : (x * 18446744073709551616 + l) / y = q1 * 4294967296 + q0 := by
      have e1 : (x * 18446744073709551616 + l) / y = (U * 18446744073709551616 + T) / Y := by
        rw [p2, eY, Nat.mul_div_mul_right _ _ hP]
      rw [e1]
      have d1 := D1.eq
      have d0 := D0.eq
      have d2 := D0.rest
      have e2 : U * 18446744073709551616 + T = r0 + Y * (q1 * 4294967296 + q0) := by
        have e3 : Y * (q1 * 4294967296 + q0) = q1 * Y * 4294967296 + q0 * Y := by
          rw [Nat.mul_add, Nat.mul_comm Y q0, ← Nat.mul_assoc, Nat.mul_comm Y q1]
        rw [e3]
        exact join_two d1 d0
      rw [e2, Nat.add_mul_div_left _ _ hYp, Nat.div_eq_of_lt d2, Nat.zero_add]
    exact h.mono fun e w' hh => ⟨hh.1.trans (ret_two hq.symm), 0, hh.2.symm⟩

theorem word_nat {n : Nat} (h : n < 340282366920938463463374607431768211456) : hi (n : Int) = ((n / 18446744073709551616 : Nat) : Int) ∧ lo (n : Int) = ((n % 18446744073709551616 : Nat) : Int) := by
  unfold hi lo; omega
theorem scale_any (a b c : Int) (ha : Fits a) (hb : Fits b) (hc : Fits c) (h0 : c ≠ 0) (w : World) :
    Calls Try.prog 26 #[.int .i64 a, .int .i64 b, .int .i64 c] w fun e w' => e = .returned (.tuple #[.int .i64 (numN ((a * b).tdiv c)), numE ((a * b).tdiv c)]) ∧ Below w.heap.size w w' := by
  have nc := nat_small hc
  have np : (a * b).natAbs ≤ 85070591730234615865843651857942052864 := by
    rw [Int.natAbs_mul]
    exact Nat.le_trans (Nat.mul_le_mul (nat_small ha) (nat_small hb)) (by decide)
  obtain ⟨w1, w2⟩ := word_nat (n := (a * b).natAbs) (by omega)
  have hq := Int.natAbs_tdiv (a * b) c
  by_cases hlt : (a * b).natAbs / 18446744073709551616 < c.natAbs
  · obtain ⟨r, hr⟩ := div64_all ((a * b).natAbs / 18446744073709551616) ((a * b).natAbs % 18446744073709551616) c.natAbs hlt (Nat.mod_lt _ (by decide)) (by omega)
    have e1 : (a * b).natAbs / 18446744073709551616 * 18446744073709551616 + (a * b).natAbs % 18446744073709551616 = (a * b).natAbs := by omega
    rw [e1] at hr
    have hlt2 : (a * b).natAbs < c.natAbs * 18446744073709551616 := by omega
    have hqb : (a * b).natAbs / c.natAbs < 18446744073709551616 := by
      rw [Nat.div_lt_iff_lt_mul (by omega), Nat.mul_comm]; exact hlt2
    have hsg := quot_sign (a := a * b) h0
    have h1 : ((a * b).tdiv c).natAbs = (a * b).natAbs / c.natAbs := hq
    obtain ⟨Q, hQ⟩ : ∃ Q, Q = (a * b).natAbs / c.natAbs := ⟨_, rfl⟩
    rw [← hQ] at hsg h1 hqb hr
    refine scale_num a b c ha hb hc (by rw [w1, lo_nat nc]; omega) (Q : Int) r ((a * b).tdiv c) (by unfold hi; omega) hsg (by unfold Wide; omega) (fun w => ?_) w
    rw [w1, w2, lo_nat nc]
    have e2 : lo (Q : Int) = (Q : Int) := by unfold lo; omega
    rw [e2]
    exact hr w
  · have hno : ¬ Fits ((a * b).tdiv c) := by
      have h1 : c.natAbs * 18446744073709551616 ≤ (a * b).natAbs := by omega
      have h2 : 18446744073709551616 ≤ (a * b).natAbs / c.natAbs := by
        rw [Nat.le_div_iff_mul_le (by omega), Nat.mul_comm]; exact h1
      have h3 : ((a * b).tdiv c).natAbs = (a * b).natAbs / c.natAbs := hq
      unfold Fits; omega
    rw [show numN ((a * b).tdiv c) = 0 from if_neg hno, numE_no hno]
    exact scale_over a b c ha hb hc (by rw [w1, lo_nat nc]; omega) w
end Go.Proofs.Ytfajalhpenincaa
