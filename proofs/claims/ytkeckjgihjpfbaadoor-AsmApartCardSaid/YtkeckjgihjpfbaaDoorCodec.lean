/- Counts and numbers, there and back. -/
import Derived.Test.YtkeckjgihjpfbaaDoorRefW
namespace Go.Proofs.YtkeckjgihjpfbaaDoor
set_option maxRecDepth 100000
open Go.RowKit

theorem cntN_small (n : Nat) (h : n < 128) : cntN n = [n] := by
  have key : ∀ y : Fin 128, cntN y.val = [y.val] := by decide +kernel
  exact key ⟨n, h⟩
theorem preN_cons (n k : Nat) : preN n (k + 1) = (n % 128 + 128) :: preN (n / 128) k := by
  unfold preN
  rw [List.range_succ_eq_map, List.map_cons, List.map_map]
  congr 1
  · simp
  · refine List.map_congr_left fun i _ => ?_
    simp only [Function.comp]
    rw [Nat.pow_succ, Nat.mul_comm, Nat.div_div_eq_div_mul]
theorem cntN_big (n : Nat) (h : 128 ≤ n) (hn : n < 18446744073709551616) : cntN n = (n % 128 + 128) :: cntN (n / 128) := by
  have hs : sizeN n = sizeN (n / 128) + 1 := by
    have h1 := Lib.bitLen_shift 7 n h hn
    have h2 : 1 ≤ Lib.bitLen (n / 128) := (bitLen_spec (n / 128 + 1) (n / 128) (by omega) (by omega) (by omega)).1
    unfold sizeN
    rw [h1, show (2 : Nat) ^ 7 = 128 from rfl]
    omega
  have h1 : 1 ≤ sizeN (n / 128) := by unfold sizeN; omega
  obtain ⟨s, e⟩ : ∃ s, sizeN (n / 128) = s + 1 := ⟨sizeN (n / 128) - 1, by omega⟩
  unfold cntN
  rw [hs, e, show s + 1 + 1 - 1 = s + 1 from rfl, show s + 1 - 1 = s from rfl, preN_cons, List.cons_append]
  congr 3
  rw [Nat.pow_succ, Nat.mul_comm, Nat.div_div_eq_div_mul]
theorem rcnt_cntN (f : Nat) : ∀ (i acc m : Nat) (rest : List Nat), f + i = 10 → m < 2 ^ (64 - 7 * i) → (0 < i → 0 < m) → (0 < f) → rcnt f i acc (cntN m ++ rest) = (acc + m * 128 ^ i, rest, false) := by
  induction f with
  | zero => intro i acc m rest _ _ _ h; exact absurd h (by omega)
  | succ f ih =>
    intro i acc m rest hi hm hp _
    have h64 : m < 18446744073709551616 := Nat.lt_of_lt_of_le hm (Nat.le_trans (Nat.pow_le_pow_right (by omega) (show 64 - 7 * i ≤ 64 by omega)) (by decide))
    have h9 : i = 9 → m < 2 := fun h => by subst h; exact hm
    by_cases hs : m < 128
    · rw [cntN_small m hs]
      show (if (i = 9 ∧ 1 < m) ∨ (0 < i ∧ m = 0) then (0, [], true) else if m < 128 then (acc + m % 128 * 128 ^ i, rest, false) else _) = _
      rw [if_neg (by omega), if_pos hs, Nat.mod_eq_of_lt hs]
    · rw [cntN_big m (by omega) h64]
      show (if (i = 9 ∧ 1 < m % 128 + 128) ∨ (0 < i ∧ m % 128 + 128 = 0) then (0, [], true) else if m % 128 + 128 < 128 then _ else rcnt f (i + 1) (acc + (m % 128 + 128) % 128 * 128 ^ i) (cntN (m / 128) ++ rest)) = _
      rw [if_neg (by omega), if_neg (by omega)]
      have hi9 : i < 9 := by
        rcases Nat.lt_or_ge i 9 with h | h
        · exact h
        · have := h9 (by omega); omega
      rw [ih (i + 1) _ (m / 128) rest (by omega) ?_ (fun _ => by omega) (by omega)]
      · congr 1
        have e : (128 : Nat) ^ (i + 1) = 128 * 128 ^ i := by rw [Nat.pow_succ, Nat.mul_comm]
        rw [show (m % 128 + 128) % 128 = m % 128 by omega, e, Nat.add_assoc, ← Nat.mul_assoc, ← Nat.add_mul]
        congr 2
        omega
      · have e : 64 - 7 * i = (64 - 7 * (i + 1)) + 7 := by omega
        rw [e, Nat.pow_add] at hm
        rw [Nat.div_lt_iff_lt_mul (by omega)]
        exact hm
theorem rcount_cntN (n : Nat) (h : n < 18446744073709551616) (rest : List Nat) : rcount (cntN n ++ rest) = (n, rest, false) := by
  unfold rcount
  rw [rcnt_cntN 10 0 0 n rest rfl h (fun h => absurd h (by omega)) (by omega)]
  simp
theorem unfold_fold {z : Int} (h : Fits z) : unfoldN (foldN z) = z := by
  unfold Fits at h
  unfold unfoldN foldN
  split <;> split <;> omega
theorem fold_inj {a b : Int} (ha : Fits a) (hb : Fits b) (h : foldN a = foldN b) : a = b := by rw [← unfold_fold ha, ← unfold_fold hb, h]
/-- No count's bytes begin another one's. -/
theorem cntN_apart {m n : Nat} (hm : m < 18446744073709551616) (hn : n < 18446744073709551616) (h : m ≠ n) (k : Nat) (hk : k = min (cntN m).length (cntN n).length) : (cntN m).take k ≠ (cntN n).take k := by
  have key : ∀ m n : Nat, m < 18446744073709551616 → n < 18446744073709551616 → (cntN m).length ≤ (cntN n).length → (cntN m).take (cntN m).length = (cntN n).take (cntN m).length → m = n := by
    intro m n hm hn hl he
    rw [List.take_length] at he
    have e1 : cntN n = cntN m ++ (cntN n).drop (cntN m).length := by
      rw [he, List.length_take, show min (cntN m).length (cntN n).length = (cntN m).length by omega]
      exact (List.take_append_drop _ _).symm
    have h1 := rcount_cntN m hm ((cntN n).drop (cntN m).length)
    rw [← e1] at h1
    have h2 := rcount_cntN n hn []
    rw [List.append_nil, h1] at h2
    exact (Prod.mk.inj h2).1
  intro he
  rcases Nat.le_total (cntN m).length (cntN n).length with hl | hl
  · rw [Nat.min_eq_left hl] at hk
    subst hk
    exact h (key m n hm hn hl he)
  · rw [Nat.min_eq_right hl] at hk
    subst hk
    exact h (key n m hn hm hl he.symm).symm
theorem size_mono {u v : Nat} (hu : u < 18446744073709551616) (hv : v < 18446744073709551616) (h : u ≤ v) : sizeN u ≤ sizeN v := by
  obtain ⟨a1, a2, a3, a4⟩ := size_spec u hu
  obtain ⟨b1, b2, b3, b4⟩ := size_spec v hv
  rcases Nat.lt_or_ge (sizeN v) (sizeN u) with hlt | hge
  · have h1 := a4 (by omega)
    have h2 : 128 ^ sizeN v ≤ 128 ^ (sizeN u - 1) := Nat.pow_le_pow_right (by omega) (by omega)
    omega
  · exact hge
theorem cntN_small_all (n : Nat) : ∀ x ∈ cntN n, x < 256 := by
  intro x hx
  unfold cntN preN at hx
  rw [List.mem_append, List.mem_map] at hx
  rcases hx with ⟨i, _, rfl⟩ | hx
  · omega
  · rw [List.mem_singleton] at hx; omega
end Go.Proofs.YtkeckjgihjpfbaaDoor
