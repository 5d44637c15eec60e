/- What is read of values' bytes, and of beginnings of them. -/
import Derived.Test.YtlegaajacmjejaaBack
namespace Go.Proofs.Ytlegaajacmjejaa
set_option maxRecDepth 100000
open Go.RowKit

theorem cntN_prefix (m q : Nat) (hm : m < 18446744073709551616) (hq : q < (cntN m).length) : rcount ((cntN m).take q) = (0, [], true) := by
  obtain ⟨p, l, e, _, hp⟩ := cntN_shape (m + 1) m (by omega) hm
  have hpl : q ≤ p.length := by rw [e] at hq; simp at hq; omega
  have e2 : (cntN m).take q = p.take q := by rw [e, List.take_append_of_le_length hpl]
  have hall : ∀ x ∈ (cntN m).take q, 128 ≤ x := fun x hx => by rw [e2] at hx; exact hp x (List.mem_of_mem_take hx)
  have hsm : ∀ x ∈ (cntN m).take q, x < 256 := fun x hx => cntN_small_all m x (List.mem_of_mem_take hx)
  refine rcount_no (k := ((cntN m).take q).length) hsm (fun j hj _ => ?_) (.inl (Nat.le_refl _))
  exact hall _ (List.getElem_mem hj)
theorem enc_len (v : VV) (hl : v.ys.length ≤ 300) (hu : v.u < 18446744073709551616) (hn : Fits v.n) : 1 ≤ v.enc.length ∧ v.enc.length ≤ 310 := by
  have h1 := cntN_length v.u hu
  have h2 := cntN_length (foldN v.n) (foldN_lt hn)
  have h3 := cntN_length v.ys.length (by omega)
  have s1 := (size_spec v.u hu).1
  have s2 := (size_spec (foldN v.n) (foldN_lt hn)).1
  have s3 := (size_spec v.ys.length (by omega)).1
  unfold VV.enc enc
  by_cases c1 : v.k = 1
  · rw [if_pos c1]; omega
  rw [if_neg c1]
  by_cases c2 : v.k = 2
  · rw [if_pos c2]; simp
  rw [if_neg c2]
  by_cases c3 : v.k = 3
  · rw [if_pos c3, List.length_append]; omega
  rw [if_neg c3]
  by_cases c4 : v.k = 4
  · rw [if_pos c4, List.length_append]; omega
  rw [if_neg c4]
  by_cases c5 : v.k = 5
  · rw [if_pos c5]; simp
  rw [if_neg c5]
  omega
theorem bytes_no (ys : List Nat) (q : Nat) (hl : ys.length < 18446744073709551616) (hq : q < (cntN ys.length ++ ys).length) : bytesRest ((cntN ys.length ++ ys).take q) = [] ∧ bytesBad ((cntN ys.length ++ ys).take q) = true := by
  unfold bytesRest bytesBad
  rcases Nat.lt_or_ge q (cntN ys.length).length with h | h
  · rw [List.take_append_of_le_length (by omega), cntN_prefix _ _ hl h]
    exact ⟨rfl, rfl⟩
  · rw [List.take_append, List.take_of_length_le h, rcount_cntN _ hl]
    rw [List.length_append] at hq
    have hf : failT (ys.take (q - (cntN ys.length).length)) false ys.length = true := by simp [failT]; omega
    refine ⟨?_, hf⟩
    show restT (ys.take (q - (cntN ys.length).length)) false ys.length = []
    unfold restT
    rw [hf]
    rfl
theorem stepR_yes (v : VV) (rest : List Nat) (hl : v.ys.length ≤ 300) (hu : v.u < 18446744073709551616) (hn : Fits v.n) : stepR v.k (v.enc ++ rest) false = (rest, false) := by
  obtain ⟨b1, b2, b3⟩ := bytes_back v.ys rest (by omega)
  unfold VV.enc enc stepR
  by_cases c1 : v.k = 1
  · rw [if_pos c1, if_pos c1, rcount_cntN _ (foldN_lt hn)]
  rw [if_neg c1, if_neg c1]
  by_cases c2 : v.k = 2
  · rw [if_pos c2, if_pos c2]
    cases decide (v.n = 1) <;> rfl
  rw [if_neg c2, if_neg c2]
  by_cases c3 : v.k = 3
  · rw [if_pos c3, if_pos c3, b2, b3]
  rw [if_neg c3, if_neg c3]
  by_cases c4 : v.k = 4
  · rw [if_pos c4, if_pos c4, b2, b3]
  rw [if_neg c4, if_neg c4]
  by_cases c5 : v.k = 5
  · rw [if_pos c5, if_pos c5]
    simp
  rw [if_neg c5, if_neg c5, rcount_cntN _ hu]
theorem stepR_no (v : VV) (q : Nat) (hl : v.ys.length ≤ 300) (hu : v.u < 18446744073709551616) (hn : Fits v.n) (hq : q < v.enc.length) : stepR v.k (v.enc.take q) false = ([], true) := by
  unfold VV.enc enc at hq ⊢
  unfold stepR
  by_cases c1 : v.k = 1
  · rw [if_pos c1] at hq
    rw [if_pos c1, if_pos c1, cntN_prefix _ _ (foldN_lt hn) hq]
  rw [if_neg c1] at hq
  rw [if_neg c1, if_neg c1]
  by_cases c2 : v.k = 2
  · rw [if_pos c2] at hq
    obtain rfl : q = 0 := by simpa using hq
    rw [if_pos c2, if_pos c2]
    rfl
  rw [if_neg c2] at hq
  rw [if_neg c2, if_neg c2]
  by_cases c3 : v.k = 3
  · rw [if_pos c3] at hq
    obtain ⟨b1, b2⟩ := bytes_no v.ys q (by omega) hq
    rw [if_pos c3, if_pos c3, b1, b2]
  rw [if_neg c3] at hq
  rw [if_neg c3, if_neg c3]
  by_cases c4 : v.k = 4
  · rw [if_pos c4] at hq
    obtain ⟨b1, b2⟩ := bytes_no v.ys q (by omega) hq
    rw [if_pos c4, if_pos c4, b1, b2]
  rw [if_neg c4] at hq
  rw [if_neg c4, if_neg c4]
  by_cases c5 : v.k = 5
  · rw [if_pos c5] at hq
    obtain rfl : q = 0 := by simpa using hq
    rw [if_pos c5, if_pos c5]
    rfl
  rw [if_neg c5] at hq
  rw [if_neg c5, if_neg c5, cntN_prefix _ _ hu hq]
/-- All values' bytes. -/
def encs : List VV → List Nat
  | [] => []
  | v :: t => v.enc ++ encs t
theorem encs_append (a b : List VV) : encs (a ++ b) = encs a ++ encs b := by
  induction a with
  | nil => rfl
  | cons v t ih => show v.enc ++ encs (t ++ b) = (v.enc ++ encs t) ++ encs b; rw [ih, List.append_assoc]
theorem encs_take (vs : List VV) (k : Nat) (h : k < vs.length) : encs (vs.take (k + 1)) = encs (vs.take k) ++ vs[k].enc := by
  rw [List.take_succ_eq_append_getElem h, encs_append]
  show _ ++ (vs[k].enc ++ []) = _
  rw [List.append_nil]
theorem encs_drop (vs : List VV) (k : Nat) (h : k < vs.length) : encs (vs.drop k) = vs[k].enc ++ encs (vs.drop (k + 1)) := by
  rw [List.drop_eq_getElem_cons h]
  rfl
theorem enc_small (v : VV) (h : ∀ y ∈ v.ys, y < 256) : ∀ x ∈ v.enc, x < 256 := by
  unfold VV.enc enc
  by_cases c1 : v.k = 1
  · rw [if_pos c1]; exact cntN_small_all _
  rw [if_neg c1]
  by_cases c2 : v.k = 2
  · rw [if_pos c2]
    intro x hx
    rw [List.mem_singleton] at hx
    subst hx
    unfold flagN; split <;> omega
  rw [if_neg c2]
  by_cases c3 : v.k = 3
  · rw [if_pos c3]
    intro x hx
    rw [List.mem_append] at hx
    rcases hx with hx | hx
    · exact cntN_small_all _ x hx
    · exact h x hx
  rw [if_neg c3]
  by_cases c4 : v.k = 4
  · rw [if_pos c4]
    intro x hx
    rw [List.mem_append] at hx
    rcases hx with hx | hx
    · exact cntN_small_all _ x hx
    · exact h x hx
  rw [if_neg c4]
  by_cases c5 : v.k = 5
  · rw [if_pos c5]
    intro x hx
    rw [List.mem_singleton] at hx
    omega
  rw [if_neg c5]
  exact cntN_small_all _
theorem encs_small (vs : List VV) (h : ∀ v ∈ vs, ∀ y ∈ v.ys, y < 256) : ∀ x ∈ encs vs, x < 256 := by
  induction vs with
  | nil => intro x hx; cases hx
  | cons v t ih =>
    intro x hx
    have hx' : x ∈ v.enc ++ encs t := hx
    rw [List.mem_append] at hx'
    rcases hx' with hx' | hx'
    · exact enc_small v (h v (List.mem_cons_self ..)) x hx'
    · exact ih (fun u hu => h u (List.mem_cons_of_mem _ hu)) x hx'
/-- What is known of a value's size. -/
def Sized (v : VV) : Prop := v.ys.length ≤ 300 ∧ v.u < 18446744073709551616 ∧ Fits v.n
theorem encs_len (vs : List VV) (h : ∀ v ∈ vs, Sized v) : vs.length ≤ (encs vs).length ∧ (encs vs).length ≤ 310 * vs.length := by
  induction vs with
  | nil => exact ⟨by simp, by simp [encs]⟩
  | cons v t ih =>
    obtain ⟨h1, h2, h3⟩ := h v (List.mem_cons_self ..)
    have := enc_len v h1 h2 h3
    have := ih (fun x hx => h x (List.mem_cons_of_mem _ hx))
    show t.length + 1 ≤ (v.enc ++ encs t).length ∧ (v.enc ++ encs t).length ≤ 310 * (t.length + 1)
    rw [List.length_append]
    omega
/-- Where a reader of a true beginning of all stands behind k values. -/
def Cut (vs : List VV) (k : Nat) (bs : List Nat) (bad : Bool) : Prop := (bad = true ∧ bs = []) ∨ (bad = false ∧ ∃ q, q < (encs (vs.drop k)).length ∧ bs = (encs (vs.drop k)).take q)
theorem Cut.next {vs : List VV} {k : Nat} {bs : List Nat} {bad : Bool} (h : Cut vs k bs bad) (hk : k < vs.length) (hs : Sized vs[k]) : Cut vs (k + 1) (stepR vs[k].k bs bad).1 (stepR vs[k].k bs bad).2 := by
  obtain ⟨h1, h2, h3⟩ := hs
  rcases h with ⟨rfl, rfl⟩ | ⟨rfl, q, hq, rfl⟩
  · rw [show stepR vs[k].k [] true = ([], true) from by unfold stepR; split; rfl; split; rfl; split; rfl; split; rfl; split <;> rfl]
    exact .inl ⟨rfl, rfl⟩
  · rw [encs_drop vs k hk] at hq ⊢
    rcases Nat.lt_or_ge q vs[k].enc.length with h | h
    · rw [List.take_append_of_le_length (by omega), stepR_no _ _ h1 h2 h3 h]
      exact .inl ⟨rfl, rfl⟩
    · rw [List.take_append, List.take_of_length_le h, stepR_yes _ _ h1 h2 h3]
      rw [List.length_append] at hq
      exact .inr ⟨rfl, q - vs[k].enc.length, by omega, rfl⟩
theorem Cut.done {vs : List VV} {k : Nat} {bs : List Nat} {bad : Bool} (h : Cut vs k bs bad) (hk : vs.length ≤ k) : bad = true ∧ bs = [] := by
  rcases h with h | ⟨_, q, hq, _⟩
  · exact h
  · rw [List.drop_eq_nil_of_le hk] at hq
    simp [encs] at hq
end Go.Proofs.Ytlegaajacmjejaa
