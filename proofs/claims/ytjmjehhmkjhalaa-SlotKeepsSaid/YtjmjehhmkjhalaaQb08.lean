/- WRfMath: put together. -/
import Derived.Test.YtjmjehhmkjhalaaQb07
/- The document's count, read from its last group, and the program's, read from its first one: the same. -/
namespace Go.Proofs.Ytjmjehhmkjhalaa
set_option maxRecDepth 100000
open Go.RowKit

def valH : List Nat → Nat
  | [] => 0
  | b :: t => b % 128 + 128 * valH t
theorem valH_cntN : ∀ (k m : Nat), m < k → m < 18446744073709551616 → valH (cntN m) = m
  | 0, m, h, _ => absurd h (by omega)
  | k + 1, m, h, h64 => by
    by_cases hm : m < 128
    · rw [cntN_small m hm]; simp only [valH]; omega
    · rw [cntN_big m (by omega) h64]
      simp only [valH]
      rw [valH_cntN k (m / 128) (by omega) (by omega)]
      omega
/-- A count's bytes: all but the last one are 128 or more. -/
theorem cntN_shape : ∀ (k m : Nat), m < k → m < 18446744073709551616 → ∃ p q, cntN m = p ++ [q] ∧ q < 128 ∧ ∀ x ∈ p, 128 ≤ x
  | 0, m, h, _ => absurd h (by omega)
  | k + 1, m, h, h64 => by
    by_cases hm : m < 128
    · exact ⟨[], m, by rw [cntN_small m hm]; rfl, hm, fun x hx => by cases hx⟩
    · obtain ⟨p, q, e, hq, hp⟩ := cntN_shape k (m / 128) (by omega) (by omega)
      refine ⟨(m % 128 + 128) :: p, q, by rw [cntN_big m (by omega) h64, e]; rfl, hq, fun x hx => ?_⟩
      rw [List.mem_cons] at hx
      rcases hx with rfl | hx
      · omega
      · exact hp x hx
theorem rcnt_ways (f : Nat) : ∀ (i n : Nat) (bs : List Nat), rcnt f i n bs = (0, [], true) ∨ ∃ x rest, rcnt f i n bs = (x, rest, false) := by
  induction f with
  | zero => intro i n bs; exact .inr ⟨n, bs, by cases bs <;> rfl⟩
  | succ f ih =>
    intro i n bs
    rcases bs with _ | ⟨b, t⟩
    · exact .inl rfl
    · simp only [rcnt]
      by_cases hC : (i = 9 ∧ 1 < b) ∨ (0 < i ∧ b = 0)
      · rw [if_pos hC]; exact .inl rfl
      · rw [if_neg hC]
        by_cases hb : b < 128
        · rw [if_pos hb]; exact .inr ⟨_, _, rfl⟩
        · rw [if_neg hb]; exact ih _ _ _
theorem rcnt_yes (f : Nat) : ∀ (i n x : Nat) (bs rest : List Nat), f + i = 10 → 0 < f → (∀ b ∈ bs, b < 256) → rcnt f i n bs = (x, rest, false) → ∃ m, bs = cntN m ++ rest ∧ (0 < i → 0 < m) ∧ m < 2 ^ (64 - 7 * i) := by
  induction f with
  | zero => intro i n x bs rest _ h; exact absurd h (by omega)
  | succ f ih =>
    intro i n x bs rest hi _ hs h
    rcases bs with _ | ⟨b, t⟩
    · simp [rcnt] at h
    · simp only [rcnt] at h
      have hb256 := hs b (List.mem_cons_self ..)
      by_cases hC : (i = 9 ∧ 1 < b) ∨ (0 < i ∧ b = 0)
      · rw [if_pos hC] at h; cases h
      · rw [if_neg hC] at h
        by_cases hb : b < 128
        · rw [if_pos hb] at h
          injection h with _ h
          injection h with h _
          refine ⟨b, by rw [cntN_small b hb, ← h]; rfl, fun h0 => by omega, ?_⟩
          rcases Nat.lt_or_ge i 9 with h9 | h9
          · calc b < 2 ^ 7 := by omega
              _ ≤ 2 ^ (64 - 7 * i) := Nat.pow_le_pow_right (by omega) (by omega)
          · obtain rfl : i = 9 := by omega
            have : ¬ 1 < b := fun h => hC (.inl ⟨rfl, h⟩)
            show b < 2 ^ 1
            omega
        · rw [if_neg hb] at h
          have h9 : i < 9 := by
            rcases Nat.lt_or_ge i 9 with h9 | h9
            · exact h9
            · exact absurd (.inl ⟨by omega, by omega⟩) hC
          obtain ⟨m, e, h0, hm⟩ := ih (i + 1) _ x t rest (by omega) (by omega) (fun y hy => hs y (List.mem_cons_of_mem _ hy)) h
          have h0' := h0 (by omega)
          have hpow : (2 : Nat) ^ (64 - 7 * i) = 2 ^ (64 - 7 * (i + 1)) * 128 := by
            rw [show 64 - 7 * i = (64 - 7 * (i + 1)) + 7 by omega, Nat.pow_add]
          have hM : m * 128 + b % 128 < 2 ^ (64 - 7 * i) := by
            rw [hpow]
            have : (m + 1) * 128 ≤ 2 ^ (64 - 7 * (i + 1)) * 128 := Nat.mul_le_mul hm (Nat.le_refl _)
            omega
          refine ⟨m * 128 + b % 128, ?_, fun _ => by omega, hM⟩
          have h64 : m * 128 + b % 128 < 18446744073709551616 := by
            have : (2 : Nat) ^ (64 - 7 * i) ≤ 2 ^ 64 := Nat.pow_le_pow_right (by omega) (by omega)
            exact Nat.lt_of_lt_of_le hM this
          rw [cntN_big _ (by omega) h64, show (m * 128 + b % 128) / 128 = m by omega, show (m * 128 + b % 128) % 128 + 128 = b by omega, e]
          rfl
theorem rcount_yes {bs rest : List Nat} {x : Nat} (hs : ∀ b ∈ bs, b < 256) (h : rcount bs = (x, rest, false)) : bs = cntN x ++ rest ∧ x < 18446744073709551616 := by
  obtain ⟨m, e, _, hm⟩ := rcnt_yes 10 0 0 x bs rest rfl (by omega) hs h
  have h2 := rcount_cntN m hm rest
  rw [← e, h] at h2
  obtain rfl := (Prod.mk.inj h2).1
  exact ⟨e, hm⟩
/-- Where there is no last group there is no count. -/
theorem rcount_no {bs : List Nat} {k : Nat} (hs : ∀ b ∈ bs, b < 256) (hk : ∀ j (h : j < bs.length), j < k → 128 ≤ bs[j]) (hend : bs.length ≤ k ∨ 10 ≤ k) : rcount bs = (0, [], true) := by
  rcases rcnt_ways 10 0 0 bs with h | ⟨x, rest, h⟩
  · exact h
  · obtain ⟨e, hx⟩ := rcount_yes hs h
    obtain ⟨p, q, e2, hq, _⟩ := cntN_shape (x + 1) x (by omega) hx
    have hl := (cntN_length x hx).2
    rw [e2] at e hl
    simp at hl
    have hlt : p.length < bs.length := by rw [e]; simp
    have h1 := hk p.length hlt (by omega)
    have h2 : bs[p.length] = q := by
      have : bs[p.length]? = some q := by rw [e]; simp
      rw [List.getElem?_eq_getElem hlt] at this
      injection this
    omega
/-- Where the last group is the k-th one, the count is what is written so again. -/
theorem rcount_at {bs : List Nat} {k : Nat} (hs : ∀ b ∈ bs, b < 256) (hlt : k < bs.length) (hk : ∀ j (h : j < bs.length), j < k → 128 ≤ bs[j]) (hq : bs[k] < 128) (u : Nat) (hu : u = valH (bs.take (k + 1)) % 18446744073709551616) :
    rcount bs = if cntN u = bs.take (k + 1) then (u, bs.drop (k + 1), false) else (0, [], true) := by
  have hu64 : u < 18446744073709551616 := by omega
  by_cases he : cntN u = bs.take (k + 1)
  · rw [if_pos he]
    have := rcount_cntN u hu64 (bs.drop (k + 1))
    rw [he, List.take_append_drop] at this
    exact this
  · rw [if_neg he]
    rcases rcnt_ways 10 0 0 bs with h | ⟨x, rest, h⟩
    · exact h
    · obtain ⟨e, hx⟩ := rcount_yes hs h
      obtain ⟨p, q, e2, hq2, hp⟩ := cntN_shape (x + 1) x (by omega) hx
      have hpl : p.length < bs.length := by rw [e, e2]; simp
      have hbp : bs[p.length] = q := by
        have : bs[p.length]? = some q := by rw [e, e2]; simp
        rw [List.getElem?_eq_getElem hpl] at this
        injection this
      have hpk : p.length = k := by
        rcases Nat.lt_trichotomy p.length k with h1 | h1 | h1
        · have := hk p.length hpl h1; omega
        · exact h1
        · have hb : bs[k] = p[k] := by
            have : bs[k]? = some p[k] := by rw [e, e2, List.append_assoc, List.getElem?_append_left h1, List.getElem?_eq_getElem h1]
            rw [List.getElem?_eq_getElem hlt] at this
            injection this
          have := hp p[k] (List.getElem_mem h1)
          omega
      have ht : bs.take (k + 1) = cntN x := by
        have hl : (cntN x).length = k + 1 := by rw [e2]; simp [hpk]
        rw [e, ← hl, List.take_left]
      rw [ht, valH_cntN (x + 1) x (by omega) hx] at hu
      exact absurd (by rw [ht, hu, Nat.mod_eq_of_lt hx]) he
theorem valH_step (l : List Nat) (j : Nat) (h : j < l.length) : valH (l.drop j) = l[j] % 128 + 128 * valH (l.drop (j + 1)) := by
  rw [List.drop_eq_getElem_cons h]
  rfl
end Go.Proofs.Ytjmjehhmkjhalaa
