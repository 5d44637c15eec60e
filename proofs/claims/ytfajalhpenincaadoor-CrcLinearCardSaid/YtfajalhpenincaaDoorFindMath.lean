/- Plain facts: the register keeps exclusive or, and unlike registers stay unlike; so four bytes changed side by side are found. -/
import Derived.Test.YtfajalhpenincaaDoorBits
namespace Go.Proofs.YtfajalhpenincaaDoor
theorem xor_eq_zero {a b : Nat} (h : a ^^^ b = 0) : a = b := by
  have h2 : a ^^^ b ^^^ b = 0 ^^^ b := by rw [h]
  rwa [Nat.xor_assoc, Nat.xor_self, Nat.xor_zero, Nat.zero_xor] at h2
theorem bit_zero {r : Nat} (hr : r < 4294967296) (h : bit r = 0) : r = 0 := by
  unfold bit at h
  split at h
  · have := xor_eq_zero h
    unfold poly at this
    omega
  · omega
theorem iter_lt {r : Nat} (hr : r < 4294967296) (n : Nat) : iter bit n r < 4294967296 := by
  induction n with
  | zero => exact hr
  | succ n ih => exact bit_lt ih
theorem iter_zero {r : Nat} (hr : r < 4294967296) (n : Nat) (h : iter bit n r = 0) : r = 0 := by
  induction n with
  | zero => exact h
  | succ n ih => exact ih (bit_zero (iter_lt hr n) h)
def xorL : List Nat → List Nat → List Nat
  | x :: xs, y :: ys => (x ^^^ y) :: xorL xs ys
  | _, _ => []
theorem xor4 (a b c d : Nat) : (a ^^^ b) ^^^ (c ^^^ d) = (a ^^^ c) ^^^ (b ^^^ d) := by
  rw [Nat.xor_assoc, Nat.xor_assoc, ← Nat.xor_assoc b, Nat.xor_comm b, Nat.xor_assoc c]
theorem feed1_xor (r s x y : Nat) : feed1 (r ^^^ s) (x ^^^ y) = feed1 r x ^^^ feed1 s y := by
  rw [feed1_bit, feed1_bit, feed1_bit, ← iter_xor bit_xor, xor4]
theorem feedL_xor (r s : Nat) (xs ys : List Nat) (h : xs.length = ys.length) : feedL (r ^^^ s) (xorL xs ys) = feedL r xs ^^^ feedL s ys := by
  induction xs generalizing r s ys with
  | nil => cases ys with
    | nil => rfl
    | cons y ys => simp at h
  | cons x xs ih => cases ys with
    | nil => simp at h
    | cons y ys =>
      show feedL (feed1 (r ^^^ s) (x ^^^ y)) (xorL xs ys) = feedL (feed1 r x) xs ^^^ feedL (feed1 s y) ys
      rw [feed1_xor]
      exact ih _ _ ys (by simpa using h)
theorem feed1_inj {r s x : Nat} (hr : r < 4294967296) (hs : s < 4294967296) (h : feed1 r x = feed1 s x) : r = s := by
  have h2 : feed1 (r ^^^ s) (x ^^^ x) = 0 := by rw [feed1_xor, h, Nat.xor_self]
  rw [feed1_bit, Nat.xor_self, Nat.xor_zero] at h2
  exact xor_eq_zero (iter_zero (xor_lt32 hr hs) 8 h2)
theorem feedL_inj {xs : List Nat} (hx : Small xs) : ∀ {r s : Nat}, r < 4294967296 → s < 4294967296 → feedL r xs = feedL s xs → r = s := by
  induction xs with
  | nil => intro r s _ _ h; exact h
  | cons x xs ih =>
    intro r s hr hs h
    have hx0 : x < 256 := hx x (List.mem_cons_self)
    exact feed1_inj hr hs (ih (fun y hy => hx y (List.mem_cons_of_mem _ hy)) (feed1_lt hr hx0) (feed1_lt hs hx0) h)
theorem split256 (r : Nat) : (256 * (r / 256)) ^^^ (r % 256) = r := by
  apply Nat.eq_of_testBit_eq
  intro i
  rw [Nat.testBit_xor, show 256 = 2 ^ 8 from rfl, Nat.testBit_two_pow_mul, Nat.testBit_div_two_pow, Nat.testBit_mod_two_pow]
  by_cases h : i < 8
  · have h2 : ¬ 8 ≤ i := by omega
    simp [h, h2]
  · have h2 : 8 ≤ i := by omega
    simp [h, h2]
theorem bit8_256 (h : Nat) : iter bit 8 (256 * h) = h := by
  rw [show 8 = 4 + 4 from rfl, iter_add, show 256 * h = 16 * (16 * h) by omega, bit4_16, bit4_16]
theorem bit8_step (h t : Nat) : iter bit 8 (h ^^^ t) = h / 256 ^^^ iter bit 8 ((h % 256) ^^^ t) := by
  have e : h ^^^ t = (256 * (h / 256)) ^^^ ((h % 256) ^^^ t) := by rw [← Nat.xor_assoc, split256]
  rw [e, iter_xor bit_xor, bit8_256]
def xb (b i : Nat) : Nat := b / 256 ^ i % 256
theorem xb_lt (b i : Nat) : xb b i < 256 := Nat.mod_lt _ (by omega)
theorem feed_word {b : Nat} (hb : b < 4294967296) : feedL 0 [xb b 0, xb b 1, xb b 2, xb b 3] = iter bit 32 b := by
  have h1 := bit8_step b 0
  rw [Nat.xor_zero, Nat.xor_zero] at h1
  have h2 := bit8_step (b / 256) (iter bit 8 (b % 256))
  have h3 := bit8_step (b / 256 / 256) (iter bit 8 ((b / 256 % 256) ^^^ iter bit 8 (b % 256)))
  have h4 := bit8_step (b / 256 / 256 / 256) (iter bit 8 ((b / 256 / 256 % 256) ^^^ iter bit 8 ((b / 256 % 256) ^^^ iter bit 8 (b % 256))))
  have e : iter bit 32 b = iter bit 8 (iter bit 8 (iter bit 8 (iter bit 8 b))) := by
    rw [← iter_add, ← iter_add, ← iter_add]
  have h0 : b / 256 / 256 / 256 / 256 = 0 := by omega
  rw [e, h1, h2, h3, h4, h0, Nat.zero_xor]
  show feed1 (feed1 (feed1 (feed1 0 (xb b 0)) (xb b 1)) (xb b 2)) (xb b 3) = _
  have x0 : xb b 0 = b % 256 := by unfold xb; omega
  have x1 : xb b 1 = b / 256 % 256 := by unfold xb; omega
  have x2 : xb b 2 = b / 256 / 256 % 256 := by unfold xb; omega
  have x3 : xb b 3 = b / 256 / 256 / 256 % 256 := by unfold xb; omega
  rw [feed1_bit, feed1_bit, feed1_bit, feed1_bit, Nat.zero_xor, x0, x1, x2, x3]
  rw [Nat.xor_comm (b / 256 / 256 / 256 % 256), Nat.xor_comm (b / 256 / 256 % 256), Nat.xor_comm (b / 256 % 256)]
/-- The text with bits changed in the first i of four bytes from k on. -/
def fnd (xs : List Nat) (k b : Nat) : Nat → List Nat
  | 0 => xs
  | i + 1 => (fnd xs k b i).set (k + i) ((fnd xs k b i).getD (k + i) 0 ^^^ xb b i)
theorem fnd_length (xs : List Nat) (k b i : Nat) : (fnd xs k b i).length = xs.length := by
  induction i with
  | zero => rfl
  | succ i ih => show ((fnd xs k b i).set _ _).length = _; rw [List.length_set, ih]
theorem fnd_small {xs : List Nat} (h : Small xs) (k b i : Nat) : Small (fnd xs k b i) := by
  induction i with
  | zero => exact h
  | succ i ih =>
    intro x hx
    rcases List.mem_or_eq_of_mem_set hx with hx | rfl
    · exact ih x hx
    · exact Nat.xor_lt_two_pow (n := 8) (getD_small ih _) (xb_lt b i)
theorem fnd_parts (P S : List Nat) (a b c d y : Nat) : fnd (P ++ (a :: b :: c :: d :: S)) P.length y 4 = P ++ ((a ^^^ xb y 0) :: (b ^^^ xb y 1) :: (c ^^^ xb y 2) :: (d ^^^ xb y 3) :: S) := by
  simp [fnd, List.getD_eq_getElem?_getD, List.set_append_right]
theorem fnd_unlike {xs : List Nat} (hx : Small xs) {k y r : Nat} (hk : k + 4 ≤ xs.length) (hy : y < 4294967296) (h0 : y ≠ 0) (hr : r < 4294967296) : feedL r (fnd xs k y 4) ≠ feedL r xs := by
  obtain ⟨P, a, b, c, d, S, rfl, rfl⟩ : ∃ P a b c d S, xs = P ++ (a :: b :: c :: d :: S) ∧ P.length = k := by
    refine ⟨xs.take k, xs[k], xs[k+1], xs[k+2], xs[k+3], xs.drop (k + 4), ?_, by simp; omega⟩
    rw [← List.drop_eq_getElem_cons, ← List.drop_eq_getElem_cons, ← List.drop_eq_getElem_cons, ← List.drop_eq_getElem_cons, List.take_append_drop]
  intro h
  rw [fnd_parts, feedL_append, feedL_append] at h
  have hP : Small P := fun z hz => hx z (List.mem_append_left _ hz)
  have hmem : ∀ z ∈ (a :: b :: c :: d :: S), z < 256 := fun z hz => hx z (List.mem_append_right _ hz)
  have hS : Small S := fun z hz => hmem z (by simp [hz])
  obtain ⟨q, hq⟩ : ∃ q, q = feedL r P := ⟨_, rfl⟩
  have hq32 : q < 4294967296 := by rw [hq]; exact feedL_lt hr hP
  rw [← hq] at h
  have ha := hmem a (by simp)
  have hb := hmem b (by simp)
  have hc := hmem c (by simp)
  have hd := hmem d (by simp)
  have s1 : Small [a, b, c, d] := by intro z hz; simp at hz; rcases hz with rfl | rfl | rfl | rfl <;> assumption
  have s2 : Small [a ^^^ xb y 0, b ^^^ xb y 1, c ^^^ xb y 2, d ^^^ xb y 3] := by
    intro z hz; simp at hz
    rcases hz with rfl | rfl | rfl | rfl
    · exact Nat.xor_lt_two_pow (n := 8) ha (xb_lt _ _)
    · exact Nat.xor_lt_two_pow (n := 8) hb (xb_lt _ _)
    · exact Nat.xor_lt_two_pow (n := 8) hc (xb_lt _ _)
    · exact Nat.xor_lt_two_pow (n := 8) hd (xb_lt _ _)
  have h' : feedL (feedL q [a ^^^ xb y 0, b ^^^ xb y 1, c ^^^ xb y 2, d ^^^ xb y 3]) S = feedL (feedL q [a, b, c, d]) S := h
  have h2 := feedL_inj hS (feedL_lt hq32 s2) (feedL_lt hq32 s1) h'
  have h3 := feedL_xor q 0 [a, b, c, d] [xb y 0, xb y 1, xb y 2, xb y 3] rfl
  rw [Nat.xor_zero, feed_word hy] at h3
  have h4 : feedL q [a, b, c, d] = feedL q [a, b, c, d] ^^^ iter bit 32 y := h2.symm.trans h3
  have h5 : iter bit 32 y = 0 := by
    have := congrArg (feedL q [a, b, c, d] ^^^ ·) h4
    simp only [Nat.xor_self, ← Nat.xor_assoc, Nat.zero_xor] at this
    exact this.symm
  exact h0 (iter_zero hy 32 h5)
end Go.Proofs.YtfajalhpenincaaDoor
