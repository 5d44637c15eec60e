/- WRCount, WRNum, WStr: put together. -/
import Derived.Test.YtejpjbmbcdgomaaPe25
import Derived.Laws.BytesArg
import Derived.Lib.ConvBytes
/- The contract of a reader's Count. -/
namespace Go.Proofs.Ytejpjbmbcdgomaa
set_option maxRecDepth 100000
open Go.RowKit

/-- What Count comes to behind i groups, of which n was made. -/
def rcnt : Nat → Nat → Nat → List Nat → Nat × List Nat × Bool
  | 0, _, n, bs => (n, bs, false)
  | _ + 1, _, _, [] => (0, [], true)
  | f + 1, i, n, b :: t =>
    if (i = 9 ∧ 1 < b) ∨ (0 < i ∧ b = 0) then (0, [], true)
    else if b < 128 then (n + b % 128 * 128 ^ i, t, false) else rcnt f (i + 1) (n + b % 128 * 128 ^ i) t
def rcount (bs : List Nat) : Nat × List Nat × Bool := rcnt 10 0 0 bs
theorem and127 (b : Nat) (hb : b < 256) : bits BinOp.and IntKind.u8 (b : Int) 127 = ((b % 128 : Nat) : Int) := by
  have key : ∀ y : Fin 256, bits BinOp.and IntKind.u8 (y.val : Int) 127 = ((y.val % 128 : Nat) : Int) := by decide +kernel
  exact key ⟨b, hb⟩
theorem or_shift (n b k : Nat) (hn : n < 128 ^ k) (hk : k < 10) (hb : b < 128) (h9 : k = 9 → b ≤ 1) : bits BinOp.or IntKind.u64 (n : Int) (((b * 128 ^ k : Nat) : Int)) = ((n + b * 128 ^ k : Nat) : Int) := by
  have hp : (128 : Nat) ^ k ≤ 128 ^ 9 := Nat.pow_le_pow_right (by omega) (by omega)
  have h2 : b * 128 ^ k < 18446744073709551616 := by
    rcases Nat.lt_or_ge k 9 with h | h
    · have : (128 : Nat) ^ k ≤ 128 ^ 8 := Nat.pow_le_pow_right (by omega) (by omega)
      calc b * 128 ^ k ≤ 127 * 128 ^ 8 := Nat.mul_le_mul (by omega) this
        _ < _ := by decide
    · obtain rfl : k = 9 := by omega
      have := h9 rfl
      calc b * 128 ^ 9 ≤ 1 * 128 ^ 9 := Nat.mul_le_mul this (Nat.le_refl _)
        _ < _ := by decide
  have h1 : n < 18446744073709551616 := Nat.lt_of_lt_of_le hn (Nat.le_trans hp (by decide))
  rw [bits_or_u64_nat n (b * 128 ^ k) h1 h2]
  congr 1
  have e : (128 : Nat) ^ k = 2 ^ (7 * k) := by rw [Nat.pow_mul]
  rw [e] at hn ⊢
  rw [Nat.or_comm, Nat.mul_comm b, ← Nat.two_pow_add_eq_or_of_lt hn]
  omega
theorem or_group (n b k : Nat) (hn : n < 128 ^ k) (hk : k < 10) (hb : b < 128) (h9 : k = 9 → b ≤ 1) : bits BinOp.or IntKind.u64 (n : Int) (IntKind.u64.wrap (IntKind.u64.wrap (b : Int) * 2 ^ (7 * k))) = ((n + b * 128 ^ k : Nat) : Int) := by
  have h2 : b * 128 ^ k < 18446744073709551616 := by
    rcases Nat.lt_or_ge k 9 with h | h
    · have : (128 : Nat) ^ k ≤ 128 ^ 8 := Nat.pow_le_pow_right (by omega) (by omega)
      calc b * 128 ^ k ≤ 127 * 128 ^ 8 := Nat.mul_le_mul (by omega) this
        _ < _ := by decide
    · obtain rfl : k = 9 := by omega
      have := h9 rfl
      calc b * 128 ^ 9 ≤ 1 * 128 ^ 9 := Nat.mul_le_mul this (Nat.le_refl _)
        _ < _ := by decide
  have e0 : IntKind.u64.wrap (b : Int) = ((b : Nat) : Int) := by rw [IntKind.wrap_u64]; omega
  have e1 : ((b : Nat) : Int) * 2 ^ (7 * k) = ((b * 128 ^ k : Nat) : Int) := by
    rw [show (128 : Nat) ^ k = 2 ^ (7 * k) by rw [Nat.pow_mul], Int.natCast_mul, Int.natCast_pow]
    rfl
  rw [e0, e1]
  have e2 : IntKind.u64.wrap ((b * 128 ^ k : Nat) : Int) = ((b * 128 ^ k : Nat) : Int) := by rw [IntKind.wrap_u64]; omega
  rw [e2]
  exact or_shift n b k hn hk hb h9

set_option maxHeartbeats 2000000 in
theorem rcount_any (B : Nat → Prop) (V : Value) (bs : List Nat) (bad : Bool) (w : World) (h : Rdr w B V bs bad) :
    Calls Try.prog 58 #[V] w fun e w' => e = .returned (.int .u64 (((rcount bs).1 : Nat) : Int)) ∧ Rdr w' B V (rcount bs).2.1 (rcount bs).2.2 ∧ Only w w' V := by
  obtain ⟨R, hR⟩ : ∃ R, R = rcount bs := ⟨_, rfl⟩
  rw [← hR]
  have HH := Lib.hid h
  have HR := Lib.hid hR
  clear h hR
  go_enter Try.func58, Try.ntmps58
  go_wp2_with fail
  go_loopw [3, 6] (fun x i wr => ∃ (k n : Nat) (cs : List Nat) (bad' : Bool), x = .int .u64 (n : Int) ∧ i = .int .i64 (k : Int) ∧ k ≤ 10 ∧ n < 128 ^ k ∧ Rdr wr B V cs bad' ∧ Only w wr V ∧ R = rcnt (10 - k) k n cs ∧ (0 < k → bad' = false)) (fun _ i _ => 10 - (intOf i).toNat)
  case atStart => exact ⟨0, 0, bs, bad, rfl, rfl, by omega, by decide, HH.out, Only.refl _ _, HR.out, fun h => absurd h (by omega)⟩
  case round =>
    obtain ⟨k, n, cs, bad', rfl, rfl, hk, hn, hr, ho, he, hb⟩ := hrel
    have HO := Lib.hid ho
    by_cases hk10 : k = 10
    · subst hk10
      obtain rfl := hb (by omega)
      have HRR := Lib.hid hr
      have HE := Lib.hid he
      clear hr he hb ho hn HH HR
      go_wp2_with fail
      go_ret
      have e := HE.out
      rw [e]
      exact ⟨rfl, HRR.out, HO.out⟩
    · have hlt : k < 10 := by omega
      have HY := Lib.hid (rbyte_any B V cs bad' wr hr)
      rcases cs with _ | ⟨b, t⟩
      · have hy := HY.out
        rw [show ([] : List Nat).drop 1 = [] from rfl, show (bad' || decide (([] : List Nat).length = 0)) = true by cases bad' <;> rfl, show byteT [] = 0 from rfl] at hy
        have HY := Lib.hid hy
        have he2 : R = (0, [], true) := by rw [he, show 10 - k = (9 - k) + 1 by omega]; rfl
        have HE := Lib.hid he2
        clear hy he he2 hn hb hr ho HH HR
        rcases Nat.eq_zero_or_pos k with rfl | hkp
        · go_wp2_with fail
          refine Calls.mono HY.out ?_
          rintro e w1 ⟨rfl, h1, h2⟩
          have H2 := Lib.hid h2
          have H1 := Lib.hid h1
          have HI := Lib.hid (isBad_any B V [] true w1 h1)
          clear h1 h2
          go_wp2_with fail
          refine Calls.mono HI.out ?_
          rintro e w2 ⟨rfl, rfl⟩
          go_wp2_with fail
          go_ret
          rw [HE.out]
          exact ⟨rfl, H1.out, HO.out.trans H2.out⟩
        · go_wp2_with fail
          refine Calls.mono HY.out ?_
          rintro e w1 ⟨rfl, h1, h2⟩
          have H2 := Lib.hid h2
          have HS := Lib.hid (spoil_any B V [] true w1 h1)
          clear h1 h2
          go_wp2_with fail
          all_goals
            refine Calls.mono HS.out ?_
            rintro e w2 ⟨rfl, h3, h4⟩
            have H3 := Lib.hid h3
            have H4 := Lib.hid h4
            have HI := Lib.hid (isBad_any B V [] true w2 h3)
            clear h3 h4
            go_wp2_with fail
            refine Calls.mono HI.out ?_
            rintro e w3 ⟨rfl, rfl⟩
            go_wp2_with fail
            go_ret
            rw [HE.out]
            exact ⟨rfl, H3.out, (HO.out.trans H2.out).trans H4.out⟩
      · obtain rfl : bad' = false := by
          cases bad' with
          | false => rfl
          | true => have := hr.empty; cases this
        have hb256 : b < 256 := hr.small' b (List.mem_cons_self ..)
        have hy := HY.out
        rw [show (b :: t).drop 1 = t from rfl, show (false || decide ((b :: t).length = 0)) = false by simp, show byteT (b :: t) = b from rfl] at hy
        clear HY
        have HY := Lib.hid hy
        rw [show 10 - k = (9 - k) + 1 by omega] at he
        by_cases hC : (k = 9 ∧ 1 < b) ∨ (0 < k ∧ b = 0)
        · have he2 : R = (0, [], true) := by rw [he]; simp only [rcnt]; rw [if_pos hC]
          have HE := Lib.hid he2
          clear hy he he2 hn hb hr ho HH HR
          rcases hC with ⟨hC1, hC2⟩ | ⟨hC1, hC2⟩
          all_goals
            go_wp2_with fail
          all_goals
            refine Calls.mono HY.out ?_
            rintro e w1 ⟨rfl, h1, h2⟩
            have H2 := Lib.hid h2
            have HS := Lib.hid (spoil_any B V t false w1 h1)
            clear h1 h2
            go_wp2_with fail
          all_goals
            refine Calls.mono HS.out ?_
            rintro e w2 ⟨rfl, h3, h4⟩
            have H3 := Lib.hid h3
            have H4 := Lib.hid h4
            have HI := Lib.hid (isBad_any B V [] true w2 h3)
            clear h3 h4
            go_wp2_with fail
            refine Calls.mono HI.out ?_
            rintro e w3 ⟨rfl, rfl⟩
            go_wp2_with fail
            go_ret
            rw [HE.out]
            exact ⟨rfl, H3.out, (HO.out.trans H2.out).trans H4.out⟩
        · have hx1 : k ≠ 9 ∨ b ≤ 1 := by omega
          have hx2 : k = 0 ∨ 0 < b := by omega
          have he2 : R = if b < 128 then (n + b % 128 * 128 ^ k, t, false) else rcnt (9 - k) (k + 1) (n + b % 128 * 128 ^ k) t := by rw [he]; simp only [rcnt]; rw [if_neg hC]
          have e1 := and127 b hb256
          have hb9 : k = 9 → b % 128 ≤ 1 := by omega
          have e2 := or_group n (b % 128) k hn hlt (by omega) hb9
          have hn' : n + b % 128 * 128 ^ k < 128 ^ (k + 1) := by
            have : b % 128 * 128 ^ k ≤ 127 * 128 ^ k := Nat.mul_le_mul (by omega) (Nat.le_refl _)
            rw [Nat.pow_succ]; omega
          obtain ⟨N, hN⟩ : ∃ N, N = n + b % 128 * 128 ^ k := ⟨_, rfl⟩
          rw [← hN] at e2 he2 hn'
          obtain ⟨X, hX⟩ : ∃ X, X = b % 128 := ⟨_, rfl⟩
          rw [← hX] at e1 e2
          have HE := Lib.hid he2
          have HN' := Lib.hid hn'
          have HE2 := Lib.hid e2
          clear hy he he2 hn hb hr ho HH HR hC hN hX hn' hb9 e2
          have hsplit : ¬ 0 < k ∨ (8 < k ∧ b < 2 ∧ 0 < b) ∨ (0 < k ∧ k < 9 ∧ 0 < b) := by omega
          clear hx1 hx2
          rcases hsplit with hs1 | ⟨hs1, hs2, hs3⟩ | ⟨hs1, hs2, hs3⟩
          · go_wp2_with fail
            refine Calls.mono HY.out ?_
            rintro e w1 ⟨rfl, h1, h2⟩
            have H2 := Lib.hid (HO.out.trans h2)
            have H1 := Lib.hid h1
            have HI := Lib.hid (isBad_any B V t false w1 h1)
            clear h1 h2
            go_wp2_with fail
            refine Calls.mono HI.out ?_
            rintro e w3 ⟨rfl, rfl⟩
            by_cases hb128 : b < 128
            · have he3 := HE.out
              rw [if_pos hb128] at he3
              have HE3 := Lib.hid he3
              clear he3
              go_wp2_with fail
              go_ret
              rw [HE3.out, HE2.out]
              exact ⟨rfl, H1.out, H2.out⟩
            · have he3 := HE.out
              rw [if_neg hb128] at he3
              have HE3 := Lib.hid he3
              clear he3
              go_wp2_with fail
              rw [HE2.out]
              exact ⟨⟨k + 1, N, t, false, rfl, by go_num, by omega, HN'.out, H1.out, H2.out, by rw [HE3.out, show 10 - (k + 1) = 9 - k by omega], fun _ => rfl⟩, by simp [intOf]; omega⟩
          · have hbz : ((b : Int) == 0) = false := by simp; omega
            obtain rfl : k = 9 := by omega
            have HE2 : _ := HE2.out
            rw [show (2 : Int) ^ (7 * 9) = 9223372036854775808 from rfl] at HE2
            have HE2 := Lib.hid HE2
            go_wp2_with fail
            refine Calls.mono HY.out ?_
            rintro e w1 ⟨rfl, h1, h2⟩
            have H2 := Lib.hid (HO.out.trans h2)
            have H1 := Lib.hid h1
            have HI := Lib.hid (isBad_any B V t false w1 h1)
            clear h1 h2
            go_wp2_with fail
            refine Calls.mono HI.out ?_
            rintro e w3 ⟨rfl, rfl⟩
            by_cases hb128 : b < 128
            · have he3 := HE.out
              rw [if_pos hb128] at he3
              have HE3 := Lib.hid he3
              clear he3
              go_wp2_with fail
              go_ret
              rw [HE3.out]
              exact ⟨rfl, H1.out, H2.out⟩
            · omega
          · go_wp2_with fail
            refine Calls.mono HY.out ?_
            rintro e w1 ⟨rfl, h1, h2⟩
            have H2 := Lib.hid (HO.out.trans h2)
            have H1 := Lib.hid h1
            have HI := Lib.hid (isBad_any B V t false w1 h1)
            clear h1 h2
            go_wp2_with fail
            refine Calls.mono HI.out ?_
            rintro e w3 ⟨rfl, rfl⟩
            by_cases hb128 : b < 128
            · have he3 := HE.out
              rw [if_pos hb128] at he3
              have HE3 := Lib.hid he3
              clear he3
              go_wp2_with fail
              go_ret
              rw [HE3.out, HE2.out]
              exact ⟨rfl, H1.out, H2.out⟩
            · have he3 := HE.out
              rw [if_neg hb128] at he3
              have HE3 := Lib.hid he3
              clear he3
              go_wp2_with fail
              rw [HE2.out]
              exact ⟨⟨k + 1, N, t, false, rfl, by go_num, by omega, HN'.out, H1.out, H2.out, by rw [HE3.out, show 10 - (k + 1) = 9 - k by omega], fun _ => rfl⟩, by simp [intOf]; omega⟩
end Go.Proofs.Ytejpjbmbcdgomaa

/- The contracts of a reader's Num, Flag, Bytes, Text; and the new reader. -/
namespace Go.Proofs.Ytejpjbmbcdgomaa
set_option maxRecDepth 100000
open Go.RowKit

theorem rcnt_lt (f : Nat) : ∀ (i n : Nat) (bs : List Nat), f + i = 10 → n < 128 ^ i → (∀ x ∈ bs, x < 256) → (i = 10 → n < 18446744073709551616) → (rcnt f i n bs).1 < 18446744073709551616 := by
  induction f with
  | zero => intro i n bs hi hn _ h; exact h (by omega)
  | succ f ih =>
    intro i n bs hi hn hs _
    rcases bs with _ | ⟨b, t⟩
    · simp [rcnt]
    · simp only [rcnt]
      by_cases hC : (i = 9 ∧ 1 < b) ∨ (0 < i ∧ b = 0)
      · rw [if_pos hC]; decide
      · rw [if_neg hC]
        have hb9 : i = 9 → b % 128 ≤ 1 := by omega
        have hlt : n + b % 128 * 128 ^ i < 18446744073709551616 := by
          rcases Nat.lt_or_ge i 9 with h | h
          · have h8 : (128 : Nat) ^ i ≤ 128 ^ 8 := Nat.pow_le_pow_right (by omega) (by omega)
            have : b % 128 * 128 ^ i ≤ 127 * 128 ^ 8 := Nat.mul_le_mul (by omega) h8
            omega
          · obtain rfl : i = 9 := by omega
            have := hb9 rfl
            have : b % 128 * 128 ^ 9 ≤ 1 * 128 ^ 9 := Nat.mul_le_mul this (Nat.le_refl _)
            omega
        have hn' : n + b % 128 * 128 ^ i < 128 ^ (i + 1) := by
          have : b % 128 * 128 ^ i ≤ 127 * 128 ^ i := Nat.mul_le_mul (by omega) (Nat.le_refl _)
          rw [Nat.pow_succ]; omega
        split
        · exact hlt
        · exact ih (i + 1) _ t (by omega) hn' (fun x hx => hs x (List.mem_cons_of_mem _ hx)) (fun _ => hlt)
theorem rcount_lt (bs : List Nat) (hs : ∀ x ∈ bs, x < 256) : (rcount bs).1 < 18446744073709551616 := rcnt_lt 10 0 0 bs rfl (by decide) hs (fun h => by cases h)
/-- The number of a count. -/
def unfoldN (n : Nat) : Int := if n % 2 = 1 then -((n / 2 : Nat) : Int) - 1 else ((n / 2 : Nat) : Int)

theorem unfold_bits (n : Nat) (h : n < 18446744073709551616) : bits BinOp.xor IntKind.i64 ((n : Int) / 2) (wrap64 (-wrap64 (bits BinOp.and IntKind.u64 (n : Int) 1))) = unfoldN n := by
  rw [Go.Lib.u64_and1 (n : Int) (by omega) (by omega)]
  have e0 : (n : Int) / 2 = ((n / 2 : Nat) : Int) := by omega
  unfold unfoldN
  by_cases h1 : n % 2 = 1
  · rw [if_pos h1, show (n : Int) % 2 = 1 by omega, show wrap64 (-wrap64 1) = -1 by decide +kernel, e0]
    show IntKind.i64.wrap ((BitVec.ofInt 64 ((n / 2 : Nat) : Int) ^^^ BitVec.ofInt 64 (-1)).toNat : Int) = _
    have h1 : (BitVec.ofInt 64 (-1)).toNat = 2 ^ 64 - 1 := by decide
    have h2 : (BitVec.ofInt 64 ((n / 2 : Nat) : Int)).toNat = n / 2 := by
      rw [BitVec.ofInt_natCast, BitVec.toNat_ofNat]; exact Nat.mod_eq_of_lt (by omega)
    rw [BitVec.toNat_xor, h1, h2, Nat.xor_comm, Go.Lib.xor_ones64 (n / 2) (by omega), IntKind.wrap_i64]
    omega
  · rw [if_neg h1, show (n : Int) % 2 = 0 by omega, show wrap64 (-wrap64 0) = 0 by decide +kernel, e0]
    show IntKind.i64.wrap ((BitVec.ofInt 64 ((n / 2 : Nat) : Int) ^^^ BitVec.ofInt 64 0).toNat : Int) = _
    have h1 : (BitVec.ofInt 64 0).toNat = 0 := by decide
    have h2 : (BitVec.ofInt 64 ((n / 2 : Nat) : Int)).toNat = n / 2 := by
      rw [BitVec.ofInt_natCast, BitVec.toNat_ofNat]; exact Nat.mod_eq_of_lt (by omega)
    rw [BitVec.toNat_xor, h1, h2, Nat.xor_zero, IntKind.wrap_i64]
    omega
set_option maxHeartbeats 400000 in
theorem rnum_any (B : Nat → Prop) (V : Value) (bs : List Nat) (bad : Bool) (w : World) (h : Rdr w B V bs bad) :
    Calls Try.prog 59 #[V] w fun e w' => e = .returned (.int .i64 (unfoldN (rcount bs).1)) ∧ Rdr w' B V (rcount bs).2.1 (rcount bs).2.2 ∧ Only w w' V := by
  have HC := Lib.hid (rcount_any B V bs bad w h)
  have hlt := rcount_lt bs h.small'
  obtain ⟨n, hn⟩ : ∃ n, n = (rcount bs).1 := ⟨_, rfl⟩
  rw [← hn] at HC hlt ⊢
  obtain ⟨U, hU⟩ : ∃ U, U = unfoldN n := ⟨_, rfl⟩
  rw [← hU]
  have HU := Lib.hid ((unfold_bits n hlt).trans hU.symm)
  clear h hn hU
  go_enter Try.func59, Try.ntmps59
  go_wp2_with fail
  refine Calls.mono HC.out ?_
  rintro e w1 ⟨rfl, h1, h2⟩
  have H1 := Lib.hid h1
  have H2 := Lib.hid h2
  clear h1 h2
  go_wp2_with fail
  go_ret
  exact ⟨by rw [HU.out]; rfl, H1.out, H2.out⟩

/-- What Flag leaves. -/
def flagRest (bs : List Nat) : List Nat := if byteT bs > 1 then [] else bs.drop 1
def flagBad (bs : List Nat) (bad : Bool) : Bool := decide (byteT bs > 1) || (bad || decide (bs.length = 0))
theorem ret_bool {a b : Bool} (h : a = b) : Ending.returned (.bool a) = .returned (.bool b) := by rw [h]
/-- What Bytes answers, and leaves. -/
def bytesOut (bs : List Nat) : List Nat := outT (rcount bs).2.1 (rcount bs).2.2 (rcount bs).1
def bytesRest (bs : List Nat) : List Nat := restT (rcount bs).2.1 (rcount bs).2.2 (rcount bs).1
def bytesBad (bs : List Nat) : Bool := failT (rcount bs).2.1 (rcount bs).2.2 (rcount bs).1
theorem Rdr.len' {w : World} {B : Nat → Prop} {V : Value} {bs : List Nat} {bad : Bool} (h : Rdr w B V bs bad) : bs.length ≤ 140737488355328 := by
  cases h with
  | none => simp
  | some _ A n c _ _ low block row lies hbad small len => have := row.1; rw [valsB_length] at this; omega
theorem outT_len (bs : List Nat) (bad : Bool) (m : Nat) : (outT bs bad m).length ≤ bs.length := by
  unfold outT
  split
  · simp
  · rw [List.length_take]; omega
end Go.Proofs.Ytejpjbmbcdgomaa

/- Strings of bytes; the contracts of num.Same, of a reader's Text, of the new reader, and of a writer's Bytes and Text. -/
namespace Go.Proofs.Ytejpjbmbcdgomaa
set_option maxRecDepth 100000
open Go.RowKit

/-- What string(b) is. -/
def strN (xs : List Nat) : ByteArray := strOfNums (xs.map fun (x : Nat) => (x : Int))
theorem strN_size (xs : List Nat) : (strN xs).size = xs.length := by simp [strN, strOfNums_size]
theorem strN_data (xs : List Nat) : (strN xs).data.toList = xs.map UInt8.ofNat := by
  unfold strN
  rw [strOfNums_data, List.map_map]
  exact List.map_congr_left fun x _ => by simp
theorem strN_toList (xs : List Nat) : (strN xs).toList = xs.map UInt8.ofNat := by rw [ByteArray.toList_eq, strN_data]
theorem map_byte_inj : ∀ (xs ys : List Nat), (∀ x ∈ xs, x < 256) → (∀ x ∈ ys, x < 256) → xs.map UInt8.ofNat = ys.map UInt8.ofNat → xs = ys
  | [], [], _, _, _ => rfl
  | [], _ :: _, _, _, h => by simp at h
  | _ :: _, [], _, _, h => by simp at h
  | x :: xs, y :: ys, hx, hy, h => by
    simp only [List.map_cons, List.cons.injEq] at h
    have e1 := congrArg UInt8.toNat h.1
    rw [UInt8.toNat_ofNat', UInt8.toNat_ofNat'] at e1
    have h1 := hx x (List.mem_cons_self ..)
    have h2 := hy y (List.mem_cons_self ..)
    rw [map_byte_inj xs ys (fun a ha => hx a (List.mem_cons_of_mem _ ha)) (fun a ha => hy a (List.mem_cons_of_mem _ ha)) h.2]
    congr 1
    omega
theorem strN_beq (xs ys : List Nat) (hx : ∀ x ∈ xs, x < 256) (hy : ∀ x ∈ ys, x < 256) : ((strN xs).toList == (strN ys).toList) = decide (xs = ys) := by
  rw [strN_toList, strN_toList]
  by_cases h : xs = ys
  · subst h; simp
  · rw [decide_eq_false h]
    exact beq_eq_false_iff_ne.2 fun he => h (map_byte_inj xs ys hx hy he)
theorem run_str (w : World) (A : Option Addr) (n c : Nat) (xs : List Nat) (h : Rdv w A n 1 (valsB xs)) : (convert 57 9 (.slice A n c)).run Try.prog w = .ok (.string (strN xs)) w := by
  obtain ⟨hl, hc⟩ := h
  rw [valsB_length, Nat.mul_one] at hl
  rcases Nat.eq_zero_or_pos n with h0 | h0
  · subst h0
    obtain rfl : xs = [] := List.eq_nil_of_length_eq_zero hl
    rw [run_convert_bytes_string w 57 9 5 _ 0 c Try.underlying57 Try.underlying5 Try.underlying9]
    rcases A with _ | ad
    · rfl
    · rw [run_bytesToString w ad 0 c [] (by simpa using run_loadCells_list (P := Try.prog) w ad [] (fun j v hj => by simp at hj))]
      rfl
  · obtain ⟨b, off, rfl, hc'⟩ := hc h0
    exact run_convert_bytes_arg w 57 5 Try.underlying57 Try.underlying5 b off n c (xs.map fun (x : Nat) => (x : Int)) (by simp [hl]) (fun i hi => by
      rw [hc' i _ (show (valsB xs)[i]? = some (.int .u8 ((xs.getD i 0 : Nat) : Int)) by rw [valsB_get]; simp [List.getD_eq_getElem?_getD, show i < xs.length by omega])]
      simp [List.getD_eq_getElem?_getD, show i < xs.length by omega]) 9 Try.underlying9

set_option maxHeartbeats 400000 in
theorem same_any (A A' : Option Addr) (n c n' c' : Nat) (xs ys : List Nat) (w : World) (h1 : Rdv w A n 1 (valsB xs)) (h2 : Rdv w A' n' 1 (valsB ys)) (hx : ∀ x ∈ xs, x < 256) (hy : ∀ x ∈ ys, x < 256) :
    Calls Try.prog 27 #[.slice A n c, .slice A' n' c'] w fun e w' => e = .returned (.bool (decide (xs = ys))) ∧ w = w' := by
  have e1 := run_str w A n c xs h1
  have e2 := run_str w A' n' c' ys h2
  have e3 := strN_beq xs ys hx hy
  obtain ⟨s, hs⟩ : ∃ s, s = strN xs := ⟨_, rfl⟩
  obtain ⟨t, ht⟩ : ∃ t, t = strN ys := ⟨_, rfl⟩
  rw [← hs] at e1 e3
  rw [← ht] at e2 e3
  have H3 := Lib.hid e3
  clear h1 h2 hs ht e3
  go_enter Try.func27, Try.ntmps27
  go_wp2_with fail
  go_ret
  exact ⟨ret_bool H3.out, rfl⟩

set_option maxHeartbeats 400000 in
theorem newReader_any (A : Option Addr) (n c : Nat) (ys : List Nat) (w : World) (hr : Rdv w A n 1 (valsB ys)) (hnil : A = none → c = 0 ∧ n = 0) (hn : n ≤ 140737488355328) (hs : ∀ x ∈ ys, x < 256) :
    Calls Try.prog 57 #[.slice A n c] w fun e w' => ∃ g, e = .returned (.pointer (some ⟨g, 0, none⟩)) ∧ Rdr w' (fun k => w.heap.size ≤ k ∧ k < w'.heap.size) (.pointer (some ⟨g, 0, none⟩)) ys false ∧ Below w.heap.size w w' := by
  have HC := Lib.hid (clone_any A n c ys w hr hnil hn)
  have HS := Lib.hid hs
  clear hr hs hnil
  go_enter Try.func57, Try.ntmps57
  go_wp2_with fail
  refine Calls.mono HC.out ?_
  rintro e w1 ⟨_, rfl, A', c', rfl, h1, h2, h3⟩
  have H1 := Lib.hid h1
  have H2 := Lib.hid h2
  have H3 := Lib.hid h3
  clear h1 h2 h3
  go_wp2_with fail
  go_ret
  have hb := Below.alloc (Below.refl w1.heap.size w1) (Nat.le_refl _) (.cells #[.slice A' n c', .bool false] 171 (0, 0))
  refine ⟨_, rfl, .some _ A' n c' ys false ⟨H3.out.size, by rw [World.size_alloc]; omega⟩ (heap_alloc_new w1 _) (H1.out.ext (stays_b hb)) ?_ (fun h => by cases h) HS.out hn, (H3.out.alloc H3.out.size _)⟩
  rcases H2.out with h | ⟨b, e, h1, h2, h3, _⟩
  · exact .inl h
  · exact .inr ⟨b, 0, e, ⟨h1, by rw [World.size_alloc]; omega⟩, by omega, by rw [World.size_alloc]; omega, h3⟩
end Go.Proofs.Ytejpjbmbcdgomaa
