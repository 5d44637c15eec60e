/- The contracts of a reader's Num, Flag, Bytes, Text; and the new reader. -/
import Derived.Test.YtkeckjgihjpfbaaDoorRCount
namespace Go.Proofs.YtkeckjgihjpfbaaDoor
set_option maxRecDepth 100000
open Go.RowKit

theorem rcnt_lt (f : Nat) : ∀ (i n : Nat) (bs : List Nat), f + i = 10 → n < 128 ^ i → (∀ x ∈ bs, x < 256) → (i = 10 → n < 18446744073709551616) → (rcnt f i n bs).1 < 18446744073709551616 := by
  induction f with
  | zero => intro i n bs hi hn _ h; exact h (by omega)
  | succ f ih =>
    intro i n bs hi hn hs _
    rcases bs with _ | ⟨b, t⟩
    · simp [rcnt]
    · simp only [rcnt]
      by_cases hC : (i = 9 ∧ 1 < b) ∨ (0 < i ∧ b = 0)
      · rw [if_pos hC]; decide
      · rw [if_neg hC]
        have hb9 : i = 9 → b % 128 ≤ 1 := by omega
        have hlt : n + b % 128 * 128 ^ i < 18446744073709551616 := by
          rcases Nat.lt_or_ge i 9 with h | h
          · have h8 : (128 : Nat) ^ i ≤ 128 ^ 8 := Nat.pow_le_pow_right (by omega) (by omega)
            have : b % 128 * 128 ^ i ≤ 127 * 128 ^ 8 := Nat.mul_le_mul (by omega) h8
            omega
          · obtain rfl : i = 9 := by omega
            have := hb9 rfl
            have : b % 128 * 128 ^ 9 ≤ 1 * 128 ^ 9 := Nat.mul_le_mul this (Nat.le_refl _)
            omega
        have hn' : n + b % 128 * 128 ^ i < 128 ^ (i + 1) := by
          have : b % 128 * 128 ^ i ≤ 127 * 128 ^ i := Nat.mul_le_mul (by omega) (Nat.le_refl _)
          rw [Nat.pow_succ]; omega
        split
        · exact hlt
        · exact ih (i + 1) _ t (by omega) hn' (fun x hx => hs x (List.mem_cons_of_mem _ hx)) (fun _ => hlt)
theorem rcount_lt (bs : List Nat) (hs : ∀ x ∈ bs, x < 256) : (rcount bs).1 < 18446744073709551616 := rcnt_lt 10 0 0 bs rfl (by decide) hs (fun h => by cases h)
/-- The number of a count. -/
def unfoldN (n : Nat) : Int := if n % 2 = 1 then -((n / 2 : Nat) : Int) - 1 else ((n / 2 : Nat) : Int)

theorem unfold_bits (n : Nat) (h : n < 18446744073709551616) : bits BinOp.xor IntKind.i64 ((n : Int) / 2) (wrap64 (-wrap64 (bits BinOp.and IntKind.u64 (n : Int) 1))) = unfoldN n := by
  rw [Go.Lib.u64_and1 (n : Int) (by omega) (by omega)]
  have e0 : (n : Int) / 2 = ((n / 2 : Nat) : Int) := by omega
  unfold unfoldN
  by_cases h1 : n % 2 = 1
  · rw [if_pos h1, show (n : Int) % 2 = 1 by omega, show wrap64 (-wrap64 1) = -1 by decide +kernel, e0]
    show IntKind.i64.wrap ((BitVec.ofInt 64 ((n / 2 : Nat) : Int) ^^^ BitVec.ofInt 64 (-1)).toNat : Int) = _
    have h1 : (BitVec.ofInt 64 (-1)).toNat = 2 ^ 64 - 1 := by decide
    have h2 : (BitVec.ofInt 64 ((n / 2 : Nat) : Int)).toNat = n / 2 := by
      rw [BitVec.ofInt_natCast, BitVec.toNat_ofNat]; exact Nat.mod_eq_of_lt (by omega)
    rw [BitVec.toNat_xor, h1, h2, Nat.xor_comm, Go.Lib.xor_ones64 (n / 2) (by omega), IntKind.wrap_i64]
    omega
  · rw [if_neg h1, show (n : Int) % 2 = 0 by omega, show wrap64 (-wrap64 0) = 0 by decide +kernel, e0]
    show IntKind.i64.wrap ((BitVec.ofInt 64 ((n / 2 : Nat) : Int) ^^^ BitVec.ofInt 64 0).toNat : Int) = _
    have h1 : (BitVec.ofInt 64 0).toNat = 0 := by decide
    have h2 : (BitVec.ofInt 64 ((n / 2 : Nat) : Int)).toNat = n / 2 := by
      rw [BitVec.ofInt_natCast, BitVec.toNat_ofNat]; exact Nat.mod_eq_of_lt (by omega)
    rw [BitVec.toNat_xor, h1, h2, Nat.xor_zero, IntKind.wrap_i64]
    omega
set_option maxHeartbeats 400000 in
theorem rnum_any (B : Nat → Prop) (V : Value) (bs : List Nat) (bad : Bool) (w : World) (h : Rdr w B V bs bad) :
    Calls Tryd.prog 76 #[V] w fun e w' => e = .returned (.int .i64 (unfoldN (rcount bs).1)) ∧ Rdr w' B V (rcount bs).2.1 (rcount bs).2.2 ∧ Only w w' V := by
  have HC := Lib.hid (rcount_any B V bs bad w h)
  have hlt := rcount_lt bs h.small'
  obtain ⟨n, hn⟩ : ∃ n, n = (rcount bs).1 := ⟨_, rfl⟩
  rw [← hn] at HC hlt ⊢
  obtain ⟨U, hU⟩ : ∃ U, U = unfoldN n := ⟨_, rfl⟩
  rw [← hU]
  have HU := Lib.hid ((unfold_bits n hlt).trans hU.symm)
  clear h hn hU
  go_enter Tryd.func76, Tryd.ntmps76
  go_wp2_with fail
  refine Calls.mono HC.out ?_
  rintro e w1 ⟨rfl, h1, h2⟩
  have H1 := Lib.hid h1
  have H2 := Lib.hid h2
  clear h1 h2
  go_wp2_with fail
  go_ret
  exact ⟨by rw [HU.out]; rfl, H1.out, H2.out⟩

/-- What Flag leaves. -/
def flagRest (bs : List Nat) : List Nat := if byteT bs > 1 then [] else bs.drop 1
def flagBad (bs : List Nat) (bad : Bool) : Bool := decide (byteT bs > 1) || (bad || decide (bs.length = 0))
theorem ret_bool {a b : Bool} (h : a = b) : Ending.returned (.bool a) = .returned (.bool b) := by rw [h]
/-- What Bytes answers, and leaves. -/
def bytesOut (bs : List Nat) : List Nat := outT (rcount bs).2.1 (rcount bs).2.2 (rcount bs).1
def bytesRest (bs : List Nat) : List Nat := restT (rcount bs).2.1 (rcount bs).2.2 (rcount bs).1
def bytesBad (bs : List Nat) : Bool := failT (rcount bs).2.1 (rcount bs).2.2 (rcount bs).1
theorem Rdr.len' {w : World} {B : Nat → Prop} {V : Value} {bs : List Nat} {bad : Bool} (h : Rdr w B V bs bad) : bs.length ≤ 140737488355328 := by
  cases h with
  | none => simp
  | some _ A n c _ _ low block row lies hbad small len => have := row.1; rw [valsB_length] at this; omega
theorem outT_len (bs : List Nat) (bad : Bool) (m : Nat) : (outT bs bad m).length ≤ bs.length := by
  unfold outT
  split
  · simp
  · rw [List.length_take]; omega
end Go.Proofs.YtkeckjgihjpfbaaDoor
