/- What turning bytes of a text does to its check sum. -/
import Derived.Test.YtfajalhpenincaaDoorLinMath
import Derived.Test.YtfajalhpenincaaDoorAdd
namespace Go.Proofs.YtfajalhpenincaaDoor

theorem xorL_append (a b c d : List Nat) (h : a.length = c.length) : xorL (a ++ b) (c ++ d) = xorL a c ++ xorL b d := by
  induction a generalizing c with
  | nil => cases c with
    | nil => rfl
    | cons y c => simp at h
  | cons x a ih => cases c with
    | nil => simp at h
    | cons y c =>
      show (x ^^^ y) :: xorL (a ++ b) (c ++ d) = (x ^^^ y) :: (xorL a c ++ xorL b d)
      rw [ih c (by simpa using h)]
theorem xorL_length (a c : List Nat) (h : a.length = c.length) : (xorL a c).length = a.length := by
  induction a generalizing c with
  | nil => cases c with
    | nil => rfl
    | cons y c => simp at h
  | cons x a ih => cases c with
    | nil => simp at h
    | cons y c =>
      show (xorL a c).length + 1 = a.length + 1
      rw [ih c (by simpa using h)]
theorem xorL_zeros (S : List Nat) : xorL S (List.replicate S.length 0) = S := by
  induction S with
  | nil => rfl
  | cons x S ih =>
    rw [List.length_cons, List.replicate_succ]
    show (x ^^^ 0) :: xorL S _ = x :: S
    rw [ih, Nat.xor_zero]
theorem xorL_small (a c : List Nat) (ha : Small a) (hc : Small c) : Small (xorL a c) := by
  induction a generalizing c with
  | nil => intro x hx; cases c <;> simp [xorL] at hx
  | cons x a ih => cases c with
    | nil => intro y hy; simp [xorL] at hy
    | cons y c =>
      intro z hz
      rcases List.mem_cons.1 hz with rfl | hz
      · exact Nat.xor_lt_two_pow (n := 8) (ha x (by simp)) (hc y (by simp))
      · exact ih c (fun u hu => ha u (by simp [hu])) (fun u hu => hc u (by simp [hu])) z hz

/-- The text behind k turned bytes. -/
def trn (xs : List Nat) (at_ : Nat) (ys : List Nat) : Nat → List Nat
  | 0 => xs
  | k + 1 => (trn xs at_ ys k).set (at_ + k) ((trn xs at_ ys k).getD (at_ + k) 0 ^^^ ys.getD k 0)
theorem trn_length (xs : List Nat) (at_ : Nat) (ys : List Nat) (k : Nat) : (trn xs at_ ys k).length = xs.length := by
  induction k with
  | zero => rfl
  | succ k ih => show (List.set _ _ _).length = _; rw [List.length_set, ih]
theorem trn_small {xs ys : List Nat} (hx : Small xs) (hy : Small ys) (at_ k : Nat) : Small (trn xs at_ ys k) := by
  induction k with
  | zero => exact hx
  | succ k ih =>
    intro z hz
    rcases List.mem_or_eq_of_mem_set hz with h | h
    · exact ih z h
    · rw [h]; exact Nat.xor_lt_two_pow (n := 8) (getD_small ih _) (getD_small hy _)
theorem trn_parts (P Q S ys : List Nat) (h : Q.length = ys.length) (k : Nat) (hk : k ≤ ys.length) :
    trn (P ++ Q ++ S) P.length ys k = P ++ (xorL (Q.take k) (ys.take k) ++ (Q.drop k ++ S)) := by
  induction k with
  | zero => simp [trn, xorL]
  | succ k ih =>
    have hq : k < Q.length := by omega
    have hl : (xorL (Q.take k) (ys.take k)).length = k := by rw [xorL_length _ _ (by simp [h])]; simp; omega
    have hd : Q.drop k = Q.getD k 0 :: Q.drop (k + 1) := by
      rw [List.drop_eq_getElem_cons hq]; simp [List.getD_eq_getElem?_getD, hq]
    show (trn (P ++ Q ++ S) P.length ys k).set (P.length + k) ((trn (P ++ Q ++ S) P.length ys k).getD (P.length + k) 0 ^^^ ys.getD k 0) = _
    rw [ih (by omega)]
    have hg : (P ++ (xorL (Q.take k) (ys.take k) ++ (Q.drop k ++ S))).getD (P.length + k) 0 = Q.getD k 0 := by
      rw [List.getD_eq_getElem?_getD, List.getElem?_append_right (by omega), Nat.add_sub_cancel_left, List.getElem?_append_right (by omega), hl, Nat.sub_self, hd]
      simp
    rw [hg, List.set_append_right _ _ (by omega), Nat.add_sub_cancel_left, List.set_append_right _ _ (by omega), hl, Nat.sub_self, hd, List.cons_append, List.set_cons_zero,
      take_succ_getD Q k hq, take_succ_getD ys k (by omega), xorL_append _ _ _ _ (by simp [h])]
    simp [xorL]
theorem inv_xor (a b : Nat) : inv (a ^^^ b) = inv a ^^^ b := by rw [inv_eq, inv_eq, Nat.xor_assoc]
theorem turned {xs ys : List Nat} (hx : Small xs) (hy : Small ys) (at_ behind : Nat) (h : at_ + ys.length + behind = xs.length) (hb : behind < 2 ^ 64) :
    addN 0 (trn xs at_ ys ys.length) = turnN (addN 0 xs) ys behind := by
  obtain ⟨P, Q, S, rfl, hP, hQ, hS⟩ : ∃ P Q S, xs = P ++ Q ++ S ∧ P.length = at_ ∧ Q.length = ys.length ∧ S.length = behind :=
    ⟨xs.take at_, (xs.drop at_).take ys.length, (xs.drop at_).drop ys.length, by rw [List.append_assoc, List.take_append_drop, List.take_append_drop], by simp; omega, by simp; omega, by simp; omega⟩
  subst hP hS
  have hf : feedL 0 ys < 4294967296 := feedL_lt (by decide) hy
  rw [trn_parts P Q S ys hQ ys.length (Nat.le_refl _), turnN, nl_feed hf _ hb, List.take_of_length_le (by omega), List.take_of_length_le (Nat.le_refl _), List.drop_eq_nil_of_le (by omega), List.nil_append]
  unfold addN
  rw [← inv_xor]
  congr 1
  rw [feedL_append, feedL_append, List.append_assoc, feedL_append, feedL_append]
  have h1 := feedL_xor (feedL (inv 0) P) 0 Q ys hQ
  rw [Nat.xor_zero] at h1
  rw [h1]
  have h2 := feedL_xor (feedL (feedL (inv 0) P) Q) (feedL 0 ys) S (List.replicate S.length 0) (by simp)
  rw [xorL_zeros] at h2
  exact h2
end Go.Proofs.YtfajalhpenincaaDoor
