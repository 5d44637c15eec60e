/- The reckoning of bits.Div64: two figures of 32 bits, each by an estimate that is put right. -/
import Derived.Test.YtfajalhpenincaaLz
namespace Go.Proofs.Ytfajalhpenincaa
open Go.RowKit

/-- One figure: what is told of it. -/
structure Digit (U u V1 V0 Y q r : Nat) : Prop where
  parts : Y = V1 * 4294967296 + V0
  high : 2147483648 ≤ V1
  top : V1 < 4294967296
  low : V0 < 4294967296
  less : U < Y
  small : u < 4294967296
  eq : U * 4294967296 + u = q * Y + r
  rest : r < Y
theorem Digit.lt {U u V1 V0 Y q r : Nat} (h : Digit U u V1 V0 Y q r) : q < 4294967296 := by
  rcases Nat.lt_or_ge q 4294967296 with h1 | h1
  · exact h1
  · have h2 : 4294967296 * Y ≤ q * Y := Nat.mul_le_mul_right Y h1
    have := h.eq; have := h.less; have := h.small
    omega
theorem Digit.prod {U u V1 V0 Y q r : Nat} (h : Digit U u V1 V0 Y q r) (Q : Nat) : Q * Y = 4294967296 * (Q * V1) + Q * V0 := by
  rw [h.parts, Nat.mul_add, ← Nat.mul_assoc, Nat.mul_comm (Q * V1)]
theorem Digit.done {U u V1 V0 Y q r Q R : Nat} (h : Digit U u V1 V0 Y q r) (he : Q * V1 + R = U) (hle : Q * V0 ≤ 4294967296 * R + u) (hq : q ≤ Q) : Q = q := by
  have h1 := h.prod Q
  have h2 : Q * Y < (q + 1) * Y := by
    rw [Nat.succ_mul]
    have := h.eq; have := h.rest
    omega
  have := Nat.lt_of_mul_lt_mul_right h2
  omega
theorem Digit.more {U u V1 V0 Y q r Q R : Nat} (h : Digit U u V1 V0 Y q r) (he : Q * V1 + R = U) (hq : q ≤ Q) (hc : 4294967296 ≤ Q ∨ 4294967296 * R + u < Q * V0) : q + 1 ≤ Q := by
  rcases hc with hc | hc
  · have := h.lt; omega
  · have h1 := h.prod Q
    have h2 : q * Y < Q * Y := by have := h.eq; omega
    exact Nat.lt_of_mul_lt_mul_right h2
theorem Digit.stop {U u V1 V0 Y q r Q R : Nat} (h : Digit U u V1 V0 Y q r) (he : Q * V1 + R = U) (hq : q ≤ Q) (hQ : Q ≤ 4294967296) (hR : 4294967296 ≤ R) : Q = q := by
  refine h.done he ?_ hq
  have h1 : Q * V0 ≤ 4294967296 * V0 := Nat.mul_le_mul_right V0 hQ
  have h2 := h.low
  omega
theorem Digit.first {U u V1 V0 Y q r : Nat} (h : Digit U u V1 V0 Y q r) : q ≤ U / V1 ∧ U / V1 ≤ 4294967297 ∧ U % V1 < 4294967296 ∧ U / V1 * V1 + U % V1 = U := by
  have hV : 0 < V1 := by have := h.high; omega
  have h1 := h.prod q
  refine ⟨?_, ?_, ?_, ?_⟩
  · rw [Nat.le_div_iff_mul_le hV]
    have := h.eq; have := h.small
    omega
  · have h2 : U / V1 < 4294967298 := by
      rw [Nat.div_lt_iff_lt_mul hV]
      have := h.less; have := h.parts; have := h.high; have := h.low
      omega
    omega
  · have := Nat.mod_lt U hV; have := h.top; omega
  · rw [Nat.mul_comm]; exact Nat.div_add_mod U V1

theorem bitLen_spec : ∀ (n x : Nat), x < n → x ≠ 0 → x < 2 ^ 64 → 1 ≤ Lib.bitLen x ∧ 2 ^ (Lib.bitLen x - 1) ≤ x ∧ x < 2 ^ Lib.bitLen x
  | 0, x, h, _, _ => absurd h (by omega)
  | n + 1, x, h, h0, h64 => by
    rw [Lib.bitLen_half x h0 h64]
    by_cases h1 : x / 2 = 0
    · have hx : x = 1 := by omega
      subst hx
      decide
    · obtain ⟨i1, i2, i3⟩ := bitLen_spec n (x / 2) (by omega) h1 (by omega)
      obtain ⟨k, hk⟩ : ∃ k, Lib.bitLen (x / 2) = k + 1 := ⟨Lib.bitLen (x / 2) - 1, by omega⟩
      rw [hk] at i2 i3 ⊢
      refine ⟨by omega, ?_, ?_⟩
      · have e : 1 + (k + 1) - 1 = k + 1 := by omega
        rw [e, Nat.pow_succ]
        have e2 : k + 1 - 1 = k := by omega
        rw [e2] at i2
        omega
      · have e : 1 + (k + 1) = (k + 1) + 1 := by omega
        rw [e, Nat.pow_succ]
        omega
/-- How far a number is moved up, and what it comes to. -/
theorem shift_up {y : Nat} (h0 : y ≠ 0) (h : y < 2 ^ 64) : ∃ s : Nat, s < 64 ∧ (64 - (Lib.bitLen y : Int)) = (s : Int) ∧ 9223372036854775808 ≤ y * 2 ^ s ∧ y * 2 ^ s < 18446744073709551616 := by
  obtain ⟨i1, i2, i3⟩ := bitLen_spec (y + 1) y (by omega) h0 h
  have i4 := Lib.bitLen_le y 64 (Nat.le_refl _) h
  obtain ⟨k, hk⟩ : ∃ k, Lib.bitLen y = k + 1 := ⟨Lib.bitLen y - 1, by omega⟩
  rw [hk] at i2 i3 i4 ⊢
  refine ⟨63 - k, by omega, by omega, ?_, ?_⟩
  · have h1 : 2 ^ k * 2 ^ (63 - k) ≤ y * 2 ^ (63 - k) := Nat.mul_le_mul_right _ i2
    rw [← Nat.pow_add, show k + (63 - k) = 63 by omega] at h1
    exact h1
  · have h1 : y * 2 ^ (63 - k) < 2 ^ (k + 1) * 2 ^ (63 - k) := Nat.mul_lt_mul_of_pos_right i3 (Nat.pow_pos (by decide))
    rw [← Nat.pow_add, show k + 1 + (63 - k) = 64 by omega] at h1
    exact h1
theorem low_part {x l y s : Nat} (hxy : x < y) (hs : s ≤ 64) (hY : y * 2 ^ s < 18446744073709551616) (hl : l < 18446744073709551616) :
    x * 2 ^ s + l / 2 ^ (64 - s) < y * 2 ^ s ∧ (x * 2 ^ s + l / 2 ^ (64 - s)) * 18446744073709551616 + (l * 2 ^ s) % 18446744073709551616 = (x * 18446744073709551616 + l) * 2 ^ s ∧ (x * 2 ^ s) ||| (l / 2 ^ (64 - s)) = x * 2 ^ s + l / 2 ^ (64 - s) ∧ x * 2 ^ s < 18446744073709551616 := by
  have hP : 0 < 2 ^ s := Nat.pow_pos (by decide)
  have e64 : 18446744073709551616 = 2 ^ (64 - s) * 2 ^ s := by rw [← Nat.pow_add, show 64 - s + s = 64 by omega]
  have hL : l / 2 ^ (64 - s) < 2 ^ s := by
    rw [Nat.div_lt_iff_lt_mul (Nat.pow_pos (by decide)), Nat.mul_comm, ← e64]
    exact hl
  have h1 : (x + 1) * 2 ^ s ≤ y * 2 ^ s := Nat.mul_le_mul_right _ hxy
  rw [Nat.succ_mul] at h1
  refine ⟨by omega, ?_, ?_, by omega⟩
  · have e1 : l * 2 ^ s / 18446744073709551616 = l / 2 ^ (64 - s) := by
      rw [e64, Nat.mul_div_mul_right _ _ hP]
    have e2 := Nat.div_add_mod (l * 2 ^ s) 18446744073709551616
    rw [e1] at e2
    rw [Nat.add_mul (x * 18446744073709551616), Nat.mul_right_comm x]
    omega
  · rw [Nat.mul_comm, ← Nat.two_pow_add_eq_or_of_lt hL]
end Go.Proofs.Ytfajalhpenincaa
