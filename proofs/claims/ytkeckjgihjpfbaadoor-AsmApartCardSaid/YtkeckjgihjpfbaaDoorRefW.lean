/- The contracts of the document's writer: Count, Num, Flag, Bytes. -/
import Derived.Test.YtkeckjgihjpfbaaDoorChunk
namespace Go.Proofs.YtkeckjgihjpfbaaDoor
set_option maxRecDepth 100000
open Go.RowKit

theorem bitLen_spec : ∀ (n x : Nat), x < n → x ≠ 0 → x < 2 ^ 64 → 1 ≤ Lib.bitLen x ∧ 2 ^ (Lib.bitLen x - 1) ≤ x ∧ x < 2 ^ Lib.bitLen x
  | 0, x, h, _, _ => absurd h (by omega)
  | n + 1, x, h, h0, h64 => by
    rw [Lib.bitLen_half x h0 h64]
    by_cases h1 : x / 2 = 0
    · have hx : x = 1 := by omega
      subst hx
      decide
    · obtain ⟨i1, i2, i3⟩ := bitLen_spec n (x / 2) (by omega) h1 (by omega)
      obtain ⟨k, hk⟩ : ∃ k, Lib.bitLen (x / 2) = k + 1 := ⟨Lib.bitLen (x / 2) - 1, by omega⟩
      rw [hk] at i2 i3 ⊢
      refine ⟨by omega, ?_, ?_⟩
      · have e : 1 + (k + 1) - 1 = k + 1 := by omega
        rw [e, Nat.pow_succ]
        have e2 : k + 1 - 1 = k := by omega
        rw [e2] at i2
        omega
      · have e : 1 + (k + 1) = (k + 1) + 1 := by omega
        rw [e, Nat.pow_succ]
        omega
/-- A count's size: the least number of groups that hold it. -/
theorem size_spec (n : Nat) (h : n < 18446744073709551616) : 1 ≤ sizeN n ∧ sizeN n ≤ 10 ∧ n < 128 ^ sizeN n ∧ (2 ≤ sizeN n → 128 ^ (sizeN n - 1) ≤ n) := by
  have hl := Lib.bitLen_le n 64 (Nat.le_refl _) h
  have e : ∀ k, (128 : Nat) ^ k = 2 ^ (7 * k) := fun k => by rw [Nat.pow_mul]
  by_cases h0 : n = 0
  · subst h0; decide
  · obtain ⟨i1, i2, i3⟩ := bitLen_spec (n + 1) n (by omega) h0 h
    have hs : sizeN n = max 1 ((Lib.bitLen n + 6) / 7) := rfl
    refine ⟨by omega, by omega, ?_, fun h2 => ?_⟩
    · rw [e]
      exact Nat.lt_of_lt_of_le i3 (Nat.pow_le_pow_right (by omega) (by omega))
    · rw [e]
      exact Nat.le_trans (Nat.pow_le_pow_right (by omega) (by omega)) i2
theorem round_more (n k : Nat) (h : n < 18446744073709551616) (hk : k ≤ sizeN n - 1) : 128 ≤ n / 128 ^ k ↔ k < sizeN n - 1 := by
  obtain ⟨h1, h2, h3, h4⟩ := size_spec n h
  have hp : 0 < 128 ^ k := Nat.pow_pos (by omega)
  rw [Nat.le_div_iff_mul_le hp, Nat.mul_comm, ← Nat.pow_succ]
  constructor
  · intro h5
    rcases Nat.lt_or_ge k (sizeN n - 1) with h6 | h6
    · exact h6
    · have : 128 ^ sizeN n ≤ 128 ^ (k + 1) := Nat.pow_le_pow_right (by omega) (by omega)
      omega
  · intro h5
    exact Nat.le_trans (Nat.pow_le_pow_right (by omega) (by omega)) (h4 (by omega))
/-- A row of bytes of one's own. -/
def OwnB (w : World) (B : Nat) (v : Value) (xs : List Nat) : Prop := w.ownsRow B 5 1 v xs.length (valsB xs)
theorem ownB_of {w : World} {B n : Nat} {v : Value} {xs : List Nat} (h : w.ownsRow B 5 1 v n (valsB xs)) (hn : n = xs.length) : OwnB w B v xs := by subst hn; exact h
theorem OwnB.rdv {w : World} {B : Nat} {v : Value} {xs : List Nat} (h : OwnB w B v xs) : ∃ A c, v = .slice A xs.length c ∧ Rdv w A xs.length 1 (valsB xs) ∧ (A = none → c = 0) ∧ xs.length ≤ c := rdv_own h
theorem wpList_appB {w : World} {ops : Array Oper} {rest : List Oper} {o : Oper} {a : Act} {Q : Exit → Act → World → Prop} (hgd : o.guard = none) (s x : Operand)
    (ho : o.op = .call { callee := .builtin .append, args := #[s, x], argTypes := #[28, 28] })
    (B : Nat) (v : Value) (xs : List Nat) (hs : a.eval s = v) (hown : OwnB w B v xs)
    (A : Option Addr) (m c : Nat) (ys : List Nat) (hx : a.eval x = .slice A m c) (hr : Rdv w A m 1 (valsB ys)) (hnil : A = none → c = 0)
    (hmx : xs.length + m ≤ 17592186044416) (hbase : B ≤ w.heap.size)
    (h : ∀ v' w', OwnB w' B v' (xs ++ ys) → Below B w w' → Touch w w' w'.heap.size v.ownBlock → (v'.ownBlock = v.ownBlock ∨ v'.ownBlock = some w.heap.size) → wpList Tryd.prog ops Q rest (a.put o.dst v') w') : wpList Tryd.prog ops Q (o :: rest) a w := by
  refine wpList_append_rowv elemB hgd s x ho B v xs.length (valsB xs) hs hown A m c (valsB ys) hx hr (valsB_one _) hnil (by unfold maxLen; omega) (by omega) hbase fun v' w' h1 h2 h3 => h v' w' ?_ ?_ ?_ h3
  · have hl : ys.length = m := by have := hr.1; rw [valsB_length] at this; omega
    rw [← valsB_append] at h1
    exact ownB_of h1 (by rw [List.length_append, hl])
  · exact (Below.refl B w).grown h2 hbase (fun k hk => (hown.lt k hk).1)
  · exact ⟨h2.os, h2.tape, h2.output, h2.size, fun k hk _ hr => h2.block k hk (fun e => hr e.symm)⟩

set_option maxHeartbeats 1000000 in
theorem refCount_any (n : Nat) (hn : n < 18446744073709551616) (w : World) :
    Calls Tryd.prog 47 #[.int .u64 (n : Int)] w fun e w' => ∃ v, e = .returned v ∧ OwnB w' w.heap.size v (cntN n) ∧ Below w.heap.size w w' := by
  have hc : cntN n = preN n (sizeN n - 1) ++ [n / 128 ^ (sizeN n - 1) % 256] := rfl
  have hmore := round_more n
  have hs10 : sizeN n - 1 ≤ 9 := by have := (size_spec n hn).2.1; omega
  obtain ⟨s, hs⟩ : ∃ s, s = sizeN n - 1 := ⟨_, rfl⟩
  rw [← hs] at hc hs10
  have hmore : ∀ k, k ≤ s → (128 ≤ n / 128 ^ k ↔ k < s) := fun k hk => by have := hmore k hn (by omega); rw [← hs] at this; exact this
  rw [hc]
  obtain ⟨L, hL⟩ : ∃ L, L = n / 128 ^ s % 256 := ⟨_, rfl⟩
  rw [← hL]
  have HL := Lib.hid hL
  have HM := Lib.hid hmore
  clear hc hmore hs hL
  go_enter Tryd.func47, Tryd.ntmps47
  go_wp2_with fail
  go_loopw [0, 3] (fun x v wr => ∃ (k : Nat) (v' : Value), x = .int .u64 ((n / 128 ^ k : Nat) : Int) ∧ v = v' ∧ k ≤ s ∧ OwnB wr w.heap.size v' (preN n k) ∧ Below w.heap.size w wr) (fun x _ _ => (intOf x).toNat)
  case atStart => exact ⟨0, _, by simp, rfl, by omega, by rw [show preN n 0 = [] from rfl]; exact World.ownsRow_nil _ _ _ _, Below.refl _ _⟩
  case round =>
    obtain ⟨k, v, rfl, rfl, hk, hown, hb⟩ := hrel
    have hsz := hb.size
    have hpl : (preN n k).length = k := preN_length n k
    obtain ⟨N, hN⟩ : ∃ N, N = n / 128 ^ k := ⟨_, rfl⟩
    have hsucc := preN_succ n k
    have hdiv : n / 128 ^ (k + 1) = N / 128 := by rw [hN, Nat.pow_succ, Nat.div_div_eq_div_mul]
    have hmk := HM.out k hk
    rw [← hN] at hsucc hmk ⊢
    by_cases hlt : k < s
    · have hge : 128 ≤ N := hmk.2 hlt
      obtain ⟨X, hX⟩ : ∃ X, X = N % 128 + 128 := ⟨_, rfl⟩
      rw [← hX] at hsucc
      have e1 : (N : Int) % 128 + 128 = (X : Int) := by omega
      have hX255 : X ≤ 255 := by omega
      have e2 : (N : Int) / 128 = ((N / 128 : Nat) : Int) := rfl
      obtain ⟨M, hM⟩ : ∃ M, M = N / 128 := ⟨_, rfl⟩
      rw [← hM] at e2 hdiv
      have hMN : M < N := by omega
      have hN64 : N < 18446744073709551616 := by rw [hN]; exact Nat.lt_of_le_of_lt (Nat.div_le_self _ _) hn
      have HO := Lib.hid hown
      have HB := Lib.hid hb
      have HSU := Lib.hid hsucc
      have HDI := Lib.hid hdiv
      have HPL := Lib.hid hpl
      clear hown hb hsucc hdiv hpl hmk hX hM hN
      go_wp2_with (at_builtin; refine wpList_appB rfl (.tmp 6) (.tmp 11) rfl w.heap.size _ (preN n k) rfl (World.ownsRow.alloc HO.out _) _ 1 1 [X] rfl (rdv_one wr X) (fun h => by cases h) (by have := HPL.out; omega) (by rw [World.size_alloc]; omega) ?_; intro v3 w3 hown3 hb3 _ _; have HO3 := Lib.hid hown3; have HB3 := Lib.hid ((HB.out.alloc hsz _).trans hb3); clear hown3 hb3)
      go_roundw
      case rel => exact ⟨k + 1, v3, by rw [HDI.out], rfl, by omega, by rw [HSU.out]; exact HO3.out, HB3.out⟩
      case measure => simp [intOf]; omega
    · obtain rfl : k = s := by omega
      have hge : ¬ 128 ≤ N := fun h => hlt (hmk.1 h)
      have hX255 : N ≤ 255 := by omega
      have hLN : L = N := by rw [HL.out, ← hN]; omega
      have HLN := Lib.hid hLN
      have HO := Lib.hid hown
      have HB := Lib.hid hb
      have HPL := Lib.hid hpl
      clear hown hb hsucc hdiv hpl hmk hLN hN
      go_wp2_with (at_builtin; refine wpList_appB rfl (.tmp 15) (.tmp 18) rfl w.heap.size _ (preN n k) rfl (World.ownsRow.alloc HO.out _) _ 1 1 [N] rfl (rdv_one wr N) (fun h => by cases h) (by have := HPL.out; omega) (by rw [World.size_alloc]; omega) ?_; intro v3 w3 hown3 hb3 _ _; have HO3 := Lib.hid hown3; have HB3 := Lib.hid ((HB.out.alloc hsz _).trans hb3); clear hown3 hb3)
      go_ret
      exact ⟨_, rfl, by rw [HLN.out]; exact HO3.out, HB3.out⟩

set_option maxHeartbeats 400000 in
theorem folded_any (z : Int) (hz : Fits z) (w : World) :
    Calls Tryd.prog 77 #[.int .i64 z] w fun e w' => e = .returned (.int .u64 ((foldN z : Nat) : Int)) ∧ w = w' := by
  have hf : foldN z = if z < 0 then (2 * (-(z + 1)) + 1).toNat else (2 * z).toNat := rfl
  obtain ⟨F, hF⟩ : ∃ F, F = foldN z := ⟨_, rfl⟩
  rw [← hF] at hf ⊢
  unfold Fits at hz
  obtain ⟨h1, h2⟩ := hz
  by_cases h0 : z < 0
  · rw [if_pos h0] at hf
    have HF := Lib.hid (show (F : Int) = 2 * (-(z + 1)) + 1 by omega)
    clear hf hF
    go_enter Tryd.func77, Tryd.ntmps77
    go_wp2_with fail
    go_ret
    have := HF.out
    exact ⟨by rw [this]; go_num, rfl⟩
  · rw [if_neg h0] at hf
    have HF := Lib.hid (show (F : Int) = 2 * z by omega)
    clear hf hF
    go_enter Tryd.func77, Tryd.ntmps77
    go_wp2_with fail
    go_ret
    have := HF.out
    exact ⟨by rw [this]; go_num, rfl⟩
set_option maxHeartbeats 400000 in
theorem refNum_any (z : Int) (hz : Fits z) (w : World) :
    Calls Tryd.prog 48 #[.int .i64 z] w fun e w' => ∃ v, e = .returned v ∧ OwnB w' w.heap.size v (cntN (foldN z)) ∧ Below w.heap.size w w' := by
  have HF := Lib.hid (folded_any z hz w)
  have HC := Lib.hid (refCount_any (foldN z) (foldN_lt hz) w)
  clear hz
  go_enter Tryd.func48, Tryd.ntmps48
  go_wp2_with fail
  refine Calls.mono HF.out ?_
  rintro e w1 ⟨rfl, rfl⟩
  go_wp2_with fail
  refine Calls.mono HC.out ?_
  rintro e w1 ⟨v, rfl, h1, h2⟩
  have H1 := Lib.hid h1
  have H2 := Lib.hid h2
  clear h1 h2
  go_wp2_with fail
  go_ret
  exact ⟨_, rfl, H1.out, H2.out⟩
/-- A new row of one byte. -/
theorem ownB_one (w : World) (x : Nat) : OwnB (w.alloc (.cells #[.int .u8 (x : Int)] 5)) w.heap.size (.slice (some ⟨w.heap.size, 0, none⟩) 1 1) [x] := by
  refine ⟨rfl, .inr ⟨w.heap.size, 1, #[.int .u8 (x : Int)], rfl, Nat.le_refl _, heap_alloc_new w _, ?_⟩⟩
  simp [valsB, maxLen]
theorem cntN_length (n : Nat) (h : n < 18446744073709551616) : (cntN n).length = sizeN n ∧ (cntN n).length ≤ 10 := by
  obtain ⟨h1, h2, _⟩ := size_spec n h
  unfold cntN
  rw [List.length_append, preN_length]
  simp
  omega
end Go.Proofs.YtkeckjgihjpfbaaDoor
