/- The mathematics of crc.Turn: maps of registers that keep exclusive or, by their 32 columns. -/
import Derived.Test.YtfajalhpenincaaDoorFindMath
namespace Go.Proofs.YtfajalhpenincaaDoor

/-- What the first k columns make of a register. -/
def ofK (m : List Nat) (r : Nat) : Nat → Nat
  | 0 => 0
  | k + 1 => if r / 2 ^ k % 2 = 1 then ofK m r k ^^^ m.getD k 0 else ofK m r k
def ofL (m : List Nat) (r : Nat) : Nat := ofK m r 32
def Words (m : List Nat) : Prop := ∀ x ∈ m, x < 4294967296
theorem getD_words {m : List Nat} (h : Words m) (k : Nat) : m.getD k 0 < 4294967296 := by
  rw [List.getD_eq_getElem?_getD]
  rcases hk : m[k]? with _ | x
  · decide
  · exact h x (List.mem_of_getElem? hk)
theorem ofK_lt {m : List Nat} (h : Words m) (r k : Nat) : ofK m r k < 4294967296 := by
  induction k with
  | zero => exact (by decide : 0 < 4294967296)
  | succ k ih =>
    unfold ofK
    split
    · exact xor_lt32 ih (getD_words h k)
    · exact ih
theorem ofL_lt {m : List Nat} (h : Words m) (r : Nat) : ofL m r < 4294967296 := ofK_lt h r 32
theorem xor_bitAt (a b k : Nat) : (a ^^^ b) / 2 ^ k % 2 = (a / 2 ^ k % 2 + b / 2 ^ k % 2) % 2 := by
  have h : (a ^^^ b) / 2 ^ k = a / 2 ^ k ^^^ b / 2 ^ k := by
    rw [← Nat.shiftRight_eq_div_pow, ← Nat.shiftRight_eq_div_pow, ← Nat.shiftRight_eq_div_pow, Nat.shiftRight_xor_distrib]
  rw [h, xor_mod2]
theorem ofK_xor (m : List Nat) (a b k : Nat) : ofK m (a ^^^ b) k = ofK m a k ^^^ ofK m b k := by
  induction k with
  | zero => exact (Nat.xor_self 0).symm
  | succ k ih =>
    have hx := xor_bitAt a b k
    have ha := Nat.mod_two_eq_zero_or_one (a / 2 ^ k)
    have hb := Nat.mod_two_eq_zero_or_one (b / 2 ^ k)
    unfold ofK
    rw [hx, ih]
    rcases ha with ha | ha <;> rcases hb with hb | hb <;> rw [ha, hb] <;> simp
    · rw [Nat.xor_assoc]
    · rw [Nat.xor_assoc, Nat.xor_assoc, Nat.xor_comm (ofK m b k)]
    · rw [xor4, Nat.xor_self, Nat.xor_zero]
theorem ofL_xor (m : List Nat) (a b : Nat) : ofL m (a ^^^ b) = ofL m a ^^^ ofL m b := ofK_xor m a b 32
theorem ofK_zero (m : List Nat) (k : Nat) : ofK m 0 k = 0 := by
  induction k with
  | zero => rfl
  | succ k ih => unfold ofK; rw [ih]; simp
theorem ofL_zero (m : List Nat) : ofL m 0 = 0 := ofK_zero m 32

/-- The map done twice. -/
def tw (m : List Nat) : List Nat := m.map (ofL m)
theorem tw_words {m : List Nat} (h : Words m) : Words (tw m) := by
  intro x hx
  obtain ⟨y, _, rfl⟩ := List.mem_map.1 hx
  exact ofL_lt h y
theorem tw_length (m : List Nat) : (tw m).length = m.length := by simp [tw]
theorem tw_getD (m : List Nat) (k : Nat) : (tw m).getD k 0 = ofL m (m.getD k 0) := by
  rw [List.getD_eq_getElem?_getD, List.getD_eq_getElem?_getD, tw, List.getElem?_map]
  rcases m[k]? with _ | x
  · exact (ofL_zero m).symm
  · rfl
theorem ofK_tw (m : List Nat) (r k : Nat) : ofK (tw m) r k = ofL m (ofK m r k) := by
  induction k with
  | zero => exact (ofL_zero m).symm
  | succ k ih =>
    unfold ofK
    rw [ih, tw_getD]
    split
    · rw [ofL_xor]
    · rfl
theorem ofL_tw (m : List Nat) (r : Nat) : ofL (tw m) r = ofL m (ofL m r) := ofK_tw m r 32

/-- What a byte 0 does, by its columns. -/
def oneN : List Nat := (List.range 32).map fun i => feedL (2 ^ i) [0]
theorem oneN_length : oneN.length = 32 := by simp [oneN]
theorem oneN_getD (k : Nat) (h : k < 32) : oneN.getD k 0 = feedL (2 ^ k) [0] := by
  rw [List.getD_eq_getElem?_getD, oneN, List.getElem?_map, List.getElem?_range h]; rfl
theorem two_pow_lt {k : Nat} (h : k < 32) : 2 ^ k < 4294967296 := Nat.pow_lt_pow_right (by decide) h
theorem small_zero : Small [0] := by intro x hx; simp at hx; subst hx; decide
theorem oneN_words : Words oneN := by
  intro x hx
  obtain ⟨i, hi, rfl⟩ := List.mem_map.1 hx
  exact feedL_lt (two_pow_lt (List.mem_range.1 hi)) small_zero
theorem feed_zero_xor (a b : Nat) (n : Nat) : feedL (a ^^^ b) (List.replicate n 0) = feedL a (List.replicate n 0) ^^^ feedL b (List.replicate n 0) := by
  have e : xorL (List.replicate n 0) (List.replicate n 0) = List.replicate n 0 := by
    induction n with
    | zero => rfl
    | succ n ih => rw [List.replicate_succ]; show (0 ^^^ 0) :: xorL _ _ = _; rw [ih]; rfl
  have h := feedL_xor a b (List.replicate n 0) (List.replicate n 0) rfl
  rw [e] at h
  exact h
theorem mod_bitAt (r k : Nat) : r % 2 ^ (k + 1) = if r / 2 ^ k % 2 = 1 then r % 2 ^ k ^^^ 2 ^ k else r % 2 ^ k := by
  apply Nat.eq_of_testBit_eq
  intro i
  have hb : r.testBit k = decide (r / 2 ^ k % 2 = 1) := Nat.testBit_eq_decide_div_mod_eq
  split <;> rename_i h <;> simp only [Nat.testBit_xor, Nat.testBit_mod_two_pow, Nat.testBit_two_pow]
  · rw [decide_eq_true h] at hb
    by_cases hik : i = k
    · subst hik; simp [hb]
    · have h1 : decide (k = i) = false := decide_eq_false (fun h => hik h.symm)
      rw [h1]
      by_cases hlt : i < k
      · simp [hlt, Nat.lt_succ_of_lt hlt]
      · have : ¬ i < k + 1 := by omega
        simp [hlt, this]
  · rw [decide_eq_false h] at hb
    by_cases hik : i = k
    · subst hik; simp [hb]
    · by_cases hlt : i < k
      · simp [hlt, Nat.lt_succ_of_lt hlt]
      · have : ¬ i < k + 1 := by omega
        simp [hlt, this]
theorem feed_zero0 (n : Nat) : feedL 0 (List.replicate n 0) = 0 := by
  have h := feed_zero_xor 0 0 n
  rw [Nat.xor_self, Nat.xor_self] at h
  exact h
theorem ofK_one (r k : Nat) (h : k ≤ 32) : ofK oneN r k = feedL (r % 2 ^ k) [0] := by
  induction k with
  | zero => rw [show r % 2 ^ 0 = 0 from Nat.mod_one r]; exact (feed_zero0 1).symm
  | succ k ih =>
    unfold ofK
    rw [ih (by omega), oneN_getD k (by omega), mod_bitAt]
    split
    · exact (feed_zero_xor _ _ 1).symm
    · rfl
theorem ofL_one {r : Nat} (h : r < 4294967296) : ofL oneN r = feedL r [0] := by
  rw [ofL, ofK_one r 32 (by omega), Nat.mod_eq_of_lt h]

/-- What many bytes 0 do, by squaring. -/
def nl : Nat → List Nat → Nat → Nat → Nat
  | 0, _, _, r => r
  | f + 1, m, n, r => if n = 0 then r else nl f (tw m) (n / 2) (if n % 2 = 1 then ofL m r else r)
theorem nl_done (f : Nat) (m : List Nat) (r : Nat) : nl f m 0 r = r := by cases f <;> simp [nl]
theorem nl_xor (f : Nat) (m : List Nat) (n a b : Nat) : nl f m n (a ^^^ b) = nl f m n a ^^^ nl f m n b := by
  induction f generalizing m n a b with
  | zero => rfl
  | succ f ih =>
    unfold nl
    by_cases h : n = 0
    · simp [h]
    · rw [if_neg h, if_neg h, if_neg h]
      by_cases h1 : n % 2 = 1
      · rw [if_pos h1, if_pos h1, if_pos h1, ofL_xor, ih]
      · rw [if_neg h1, if_neg h1, if_neg h1, ih]
theorem nl_zero (f : Nat) (m : List Nat) (n : Nat) : nl f m n 0 = 0 := by
  have h := nl_xor f m n 0 0
  rw [Nat.xor_self, Nat.xor_self] at h
  exact h
theorem iter_tw (m : List Nat) (n r : Nat) : iter (ofL (tw m)) n r = iter (ofL m) (2 * n) r := by
  induction n with
  | zero => rfl
  | succ n ih =>
    show ofL (tw m) (iter (ofL (tw m)) n r) = ofL m (ofL m (iter (ofL m) (2 * n) r))
    rw [ih, ofL_tw]
theorem nl_iter (f : Nat) (m : List Nat) (n r : Nat) (h : n < 2 ^ f) : nl f m n r = iter (ofL m) n r := by
  induction f generalizing m n r with
  | zero => obtain rfl : n = 0 := by simpa using h
            rfl
  | succ f ih =>
    unfold nl
    by_cases h0 : n = 0
    · subst h0; rfl
    · rw [if_neg h0, ih _ _ _ (by rw [Nat.pow_succ] at h; omega), iter_tw]
      by_cases h1 : n % 2 = 1
      · rw [if_pos h1, show ofL m r = iter (ofL m) 1 r from rfl, ← iter_add]
        congr 1; omega
      · rw [if_neg h1]
        congr 1; omega
theorem iter_one {r : Nat} (h : r < 4294967296) (n : Nat) : iter (ofL oneN) n r = feedL r (List.replicate n 0) ∧ feedL r (List.replicate n 0) < 4294967296 := by
  induction n with
  | zero => exact ⟨rfl, h⟩
  | succ n ih =>
    have e : feedL r (List.replicate (n + 1) 0) = feedL (feedL r (List.replicate n 0)) [0] := by
      rw [List.replicate_succ', feedL_append]
    rw [e]
    refine ⟨?_, feedL_lt ih.2 small_zero⟩
    show ofL oneN (iter (ofL oneN) n r) = _
    rw [ih.1, ofL_one ih.2]
theorem nl_feed {r : Nat} (h : r < 4294967296) (n : Nat) (hn : n < 2 ^ 64) : nl 64 oneN n r = feedL r (List.replicate n 0) := by
  rw [nl_iter 64 oneN n r hn, (iter_one h n).1]
theorem nl_lt {m : List Nat} (hm : Words m) (f n : Nat) {r : Nat} (h : r < 4294967296) : nl f m n r < 4294967296 := by
  induction f generalizing m n r with
  | zero => exact h
  | succ f ih =>
    unfold nl
    split
    · exact h
    · refine ih (tw_words hm) _ ?_
      split
      · exact ofL_lt hm r
      · exact h

/-- What Turn answers. -/
def turnN (s : Nat) (ys : List Nat) (b : Nat) : Nat := s ^^^ nl 64 oneN b (feedL 0 ys)
end Go.Proofs.YtfajalhpenincaaDoor
