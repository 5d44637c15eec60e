/- Plain facts: the register bit by bit is the register by halves of bytes; both keep exclusive or. -/
import Derived.Test.YtfajalhpenincaaDoorMath
namespace Go.Proofs.YtfajalhpenincaaDoor
def poly : Nat := 3988292384
def bit (r : Nat) : Nat := if r % 2 = 1 then (r / 2) ^^^ poly else r / 2
theorem poly_lt : poly < 4294967296 := by decide
theorem bit_lt {r : Nat} (h : r < 4294967296) : bit r < 4294967296 := by
  unfold bit
  split
  · exact xor_lt32 (by omega) poly_lt
  · omega
theorem xor_div2 (a b : Nat) : (a ^^^ b) / 2 = a / 2 ^^^ b / 2 := by
  apply Nat.eq_of_testBit_eq
  intro i
  rw [Nat.testBit_xor, Nat.testBit_div_two, Nat.testBit_div_two, Nat.testBit_div_two, Nat.testBit_xor]
theorem xor_mod2 (a b : Nat) : (a ^^^ b) % 2 = (a % 2 + b % 2) % 2 := by
  have h := Nat.xor_mod_two_eq_one (a := a) (b := b)
  have ha := Nat.mod_two_eq_zero_or_one a
  have hb := Nat.mod_two_eq_zero_or_one b
  have hc := Nat.mod_two_eq_zero_or_one (a ^^^ b)
  omega
theorem bit_xor (a b : Nat) : bit (a ^^^ b) = bit a ^^^ bit b := by
  unfold bit
  rw [xor_mod2, xor_div2]
  have ha := Nat.mod_two_eq_zero_or_one a
  have hb := Nat.mod_two_eq_zero_or_one b
  rcases ha with ha | ha <;> rcases hb with hb | hb <;> rw [ha, hb] <;> simp
  · rw [Nat.xor_assoc]
  · rw [Nat.xor_assoc, Nat.xor_assoc, Nat.xor_comm poly]
  · rw [Nat.xor_assoc, ← Nat.xor_assoc poly, Nat.xor_comm poly, Nat.xor_assoc (b / 2), Nat.xor_self, Nat.xor_zero]
theorem iter_xor {f : Nat → Nat} (h : ∀ a b, f (a ^^^ b) = f a ^^^ f b) (n a b : Nat) : iter f n (a ^^^ b) = iter f n a ^^^ iter f n b := by
  induction n with
  | zero => rfl
  | succ n ih => show f (iter f n (a ^^^ b)) = _; rw [ih, h]; rfl
theorem iter_add (f : Nat → Nat) (m n a : Nat) : iter f (m + n) a = iter f m (iter f n a) := by
  induction m with
  | zero => rw [Nat.zero_add]; rfl
  | succ m ih => rw [Nat.succ_add]; show f (iter f (m + n) a) = f _; rw [ih]
theorem split16 (r : Nat) : (16 * (r / 16)) ^^^ (r % 16) = r := by
  apply Nat.eq_of_testBit_eq
  intro i
  rw [Nat.testBit_xor, show 16 = 2 ^ 4 from rfl, Nat.testBit_two_pow_mul, Nat.testBit_div_two_pow, Nat.testBit_mod_two_pow]
  by_cases h : i < 4
  · have h2 : ¬ 4 ≤ i := by omega
    simp [h, h2]
  · have h2 : 4 ≤ i := by omega
    simp [h, h2]
theorem bit_even (h : Nat) : bit (2 * h) = h := by
  unfold bit
  rw [if_neg (by omega)]; omega
theorem bit4_16 (h : Nat) : iter bit 4 (16 * h) = h := by
  show bit (bit (bit (bit (16 * h)))) = h
  rw [show 16 * h = 2 * (8 * h) by omega, bit_even, show 8 * h = 2 * (4 * h) by omega, bit_even, show 4 * h = 2 * (2 * h) by omega, bit_even, bit_even]
theorem bit4_low : ∀ l, l < 16 → iter bit 4 l = tabN.getD l 0 := by decide
theorem nib_bit (r : Nat) : nib r = iter bit 4 r := by
  have h := iter_xor bit_xor 4 (16 * (r / 16)) (r % 16)
  have h16 : r % 16 < 16 := Nat.mod_lt _ (by omega)
  rw [split16, bit4_16, bit4_low (r % 16) h16] at h
  rw [h, nib, Nat.xor_comm]
theorem nib_xor (a b : Nat) : nib (a ^^^ b) = nib a ^^^ nib b := by rw [nib_bit, nib_bit, nib_bit]; exact iter_xor bit_xor 4 a b
theorem feed1_bit (r x : Nat) : feed1 r x = iter bit 8 (r ^^^ x) := by
  unfold feed1
  rw [nib_bit, nib_bit, ← iter_add]
end Go.Proofs.YtfajalhpenincaaDoor
