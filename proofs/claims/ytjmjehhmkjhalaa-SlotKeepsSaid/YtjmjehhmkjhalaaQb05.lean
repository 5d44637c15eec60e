/- WRCount, WRNum: put together. -/
import Derived.Test.YtjmjehhmkjhalaaQb04
/- The contract of a reader's Count. -/
namespace Go.Proofs.Ytjmjehhmkjhalaa
set_option maxRecDepth 100000
open Go.RowKit

/-- What Count comes to behind i groups, of which n was made. -/
def rcnt : Nat → Nat → Nat → List Nat → Nat × List Nat × Bool
  | 0, _, n, bs => (n, bs, false)
  | _ + 1, _, _, [] => (0, [], true)
  | f + 1, i, n, b :: t =>
    if (i = 9 ∧ 1 < b) ∨ (0 < i ∧ b = 0) then (0, [], true)
    else if b < 128 then (n + b % 128 * 128 ^ i, t, false) else rcnt f (i + 1) (n + b % 128 * 128 ^ i) t
def rcount (bs : List Nat) : Nat × List Nat × Bool := rcnt 10 0 0 bs
theorem and127 (b : Nat) (hb : b < 256) : bits BinOp.and IntKind.u8 (b : Int) 127 = ((b % 128 : Nat) : Int) := by
  have key : ∀ y : Fin 256, bits BinOp.and IntKind.u8 (y.val : Int) 127 = ((y.val % 128 : Nat) : Int) := by decide +kernel
  exact key ⟨b, hb⟩
theorem or_shift (n b k : Nat) (hn : n < 128 ^ k) (hk : k < 10) (hb : b < 128) (h9 : k = 9 → b ≤ 1) : bits BinOp.or IntKind.u64 (n : Int) (((b * 128 ^ k : Nat) : Int)) = ((n + b * 128 ^ k : Nat) : Int) := by
  have hp : (128 : Nat) ^ k ≤ 128 ^ 9 := Nat.pow_le_pow_right (by omega) (by omega)
  have h2 : b * 128 ^ k < 18446744073709551616 := by
    rcases Nat.lt_or_ge k 9 with h | h
    · have : (128 : Nat) ^ k ≤ 128 ^ 8 := Nat.pow_le_pow_right (by omega) (by omega)
      calc b * 128 ^ k ≤ 127 * 128 ^ 8 := Nat.mul_le_mul (by omega) this
        _ < _ := by decide
    · obtain rfl : k = 9 := by omega
      have := h9 rfl
      calc b * 128 ^ 9 ≤ 1 * 128 ^ 9 := Nat.mul_le_mul this (Nat.le_refl _)
        _ < _ := by decide
  have h1 : n < 18446744073709551616 := Nat.lt_of_lt_of_le hn (Nat.le_trans hp (by decide))
  rw [bits_or_u64_nat n (b * 128 ^ k) h1 h2]
  congr 1
  have e : (128 : Nat) ^ k = 2 ^ (7 * k) := by rw [Nat.pow_mul]
  rw [e] at hn ⊢
  rw [Nat.or_comm, Nat.mul_comm b, ← Nat.two_pow_add_eq_or_of_lt hn]
  omega
theorem or_group (n b k : Nat) (hn : n < 128 ^ k) (hk : k < 10) (hb : b < 128) (h9 : k = 9 → b ≤ 1) : bits BinOp.or IntKind.u64 (n : Int) (IntKind.u64.wrap (IntKind.u64.wrap (b : Int) * 2 ^ (7 * k))) = ((n + b * 128 ^ k : Nat) : Int) := by
  have h2 : b * 128 ^ k < 18446744073709551616 := by
    rcases Nat.lt_or_ge k 9 with h | h
    · have : (128 : Nat) ^ k ≤ 128 ^ 8 := Nat.pow_le_pow_right (by omega) (by omega)
      calc b * 128 ^ k ≤ 127 * 128 ^ 8 := Nat.mul_le_mul (by omega) this
        _ < _ := by decide
    · obtain rfl : k = 9 := by omega
      have := h9 rfl
      calc b * 128 ^ 9 ≤ 1 * 128 ^ 9 := Nat.mul_le_mul this (Nat.le_refl _)
        _ < _ := by decide
  have e0 : IntKind.u64.wrap (b : Int) = ((b : Nat) : Int) := by rw [IntKind.wrap_u64]; omega
  have e1 : ((b : Nat) : Int) * 2 ^ (7 * k) = ((b * 128 ^ k : Nat) : Int) := by
    rw [show (128 : Nat) ^ k = 2 ^ (7 * k) by rw [Nat.pow_mul], Int.natCast_mul, Int.natCast_pow]
    rfl
  rw [e0, e1]
  have e2 : IntKind.u64.wrap ((b * 128 ^ k : Nat) : Int) = ((b * 128 ^ k : Nat) : Int) := by rw [IntKind.wrap_u64]; omega
  rw [e2]
  exact or_shift n b k hn hk hb h9

set_option maxHeartbeats 2000000 in
theorem rcount_any (B : Nat → Prop) (V : Value) (bs : List Nat) (bad : Bool) (w : World) (h : Rdr w B V bs bad) :
    Calls Try.prog 120 #[V] w fun e w' => e = .returned (.int .u64 (((rcount bs).1 : Nat) : Int)) ∧ Rdr w' B V (rcount bs).2.1 (rcount bs).2.2 ∧ Only w w' V := by
  obtain ⟨R, hR⟩ : ∃ R, R = rcount bs := ⟨_, rfl⟩
  rw [← hR]
  have HH := Lib.hid h
  have HR := Lib.hid hR
  clear h hR
  go_enter Try.func120, Try.ntmps120
  go_wp2_with fail
  go_loopw [3, 6] (fun x i wr => ∃ (k n : Nat) (cs : List Nat) (bad' : Bool), x = .int .u64 (n : Int) ∧ i = .int .i64 (k : Int) ∧ k ≤ 10 ∧ n < 128 ^ k ∧ Rdr wr B V cs bad' ∧ Only w wr V ∧ R = rcnt (10 - k) k n cs ∧ (0 < k → bad' = false)) (fun _ i _ => 10 - (intOf i).toNat)
  case atStart => exact ⟨0, 0, bs, bad, rfl, rfl, by omega, by decide, HH.out, Only.refl _ _, HR.out, fun h => absurd h (by omega)⟩
  case round =>
    obtain ⟨k, n, cs, bad', rfl, rfl, hk, hn, hr, ho, he, hb⟩ := hrel
    have HO := Lib.hid ho
    by_cases hk10 : k = 10
    · subst hk10
      obtain rfl := hb (by omega)
      have HRR := Lib.hid hr
      have HE := Lib.hid he
      clear hr he hb ho hn HH HR
      go_wp2_with fail
      go_ret
      have e := HE.out
      rw [e]
      exact ⟨rfl, HRR.out, HO.out⟩
    · have hlt : k < 10 := by omega
      have HY := Lib.hid (rbyte_any B V cs bad' wr hr)
      rcases cs with _ | ⟨b, t⟩
      · have hy := HY.out
        rw [show ([] : List Nat).drop 1 = [] from rfl, show (bad' || decide (([] : List Nat).length = 0)) = true by cases bad' <;> rfl, show byteT [] = 0 from rfl] at hy
        have HY := Lib.hid hy
        have he2 : R = (0, [], true) := by rw [he, show 10 - k = (9 - k) + 1 by omega]; rfl
        have HE := Lib.hid he2
        clear hy he he2 hn hb hr ho HH HR
        rcases Nat.eq_zero_or_pos k with rfl | hkp
        · go_wp2_with fail
          refine Calls.mono HY.out ?_
          rintro e w1 ⟨rfl, h1, h2⟩
          have H2 := Lib.hid h2
          have H1 := Lib.hid h1
          have HI := Lib.hid (isBad_any B V [] true w1 h1)
          clear h1 h2
          go_wp2_with fail
          refine Calls.mono HI.out ?_
          rintro e w2 ⟨rfl, rfl⟩
          go_wp2_with fail
          go_ret
          rw [HE.out]
          exact ⟨rfl, H1.out, HO.out.trans H2.out⟩
        · go_wp2_with fail
          refine Calls.mono HY.out ?_
          rintro e w1 ⟨rfl, h1, h2⟩
          have H2 := Lib.hid h2
          have HS := Lib.hid (spoil_any B V [] true w1 h1)
          clear h1 h2
          go_wp2_with fail
          all_goals
            refine Calls.mono HS.out ?_
            rintro e w2 ⟨rfl, h3, h4⟩
            have H3 := Lib.hid h3
            have H4 := Lib.hid h4
            have HI := Lib.hid (isBad_any B V [] true w2 h3)
            clear h3 h4
            go_wp2_with fail
            refine Calls.mono HI.out ?_
            rintro e w3 ⟨rfl, rfl⟩
            go_wp2_with fail
            go_ret
            rw [HE.out]
            exact ⟨rfl, H3.out, (HO.out.trans H2.out).trans H4.out⟩
      · obtain rfl : bad' = false := by
          cases bad' with
          | false => rfl
          | true => have := hr.empty; cases this
        have hb256 : b < 256 := hr.small' b (List.mem_cons_self ..)
        have hy := HY.out
        rw [show (b :: t).drop 1 = t from rfl, show (false || decide ((b :: t).length = 0)) = false by simp, show byteT (b :: t) = b from rfl] at hy
        clear HY
        have HY := Lib.hid hy
        rw [show 10 - k = (9 - k) + 1 by omega] at he
        by_cases hC : (k = 9 ∧ 1 < b) ∨ (0 < k ∧ b = 0)
        · have he2 : R = (0, [], true) := by rw [he]; simp only [rcnt]; rw [if_pos hC]
          have HE := Lib.hid he2
          clear hy he he2 hn hb hr ho HH HR
          rcases hC with ⟨hC1, hC2⟩ | ⟨hC1, hC2⟩
          all_goals
            go_wp2_with fail
          all_goals
            refine Calls.mono HY.out ?_
            rintro e w1 ⟨rfl, h1, h2⟩
            have H2 := Lib.hid h2
            have HS := Lib.hid (spoil_any B V t false w1 h1)
            clear h1 h2
            go_wp2_with fail
          all_goals
            refine Calls.mono HS.out ?_
            rintro e w2 ⟨rfl, h3, h4⟩
            have H3 := Lib.hid h3
            have H4 := Lib.hid h4
            have HI := Lib.hid (isBad_any B V [] true w2 h3)
            clear h3 h4
            go_wp2_with fail
            refine Calls.mono HI.out ?_
            rintro e w3 ⟨rfl, rfl⟩
            go_wp2_with fail
            go_ret
            rw [HE.out]
            exact ⟨rfl, H3.out, (HO.out.trans H2.out).trans H4.out⟩
        · have hx1 : k ≠ 9 ∨ b ≤ 1 := by omega
          have hx2 : k = 0 ∨ 0 < b := by omega
          have he2 : R = if b < 128 then (n + b % 128 * 128 ^ k, t, false) else rcnt (9 - k) (k + 1) (n + b % 128 * 128 ^ k) t := by rw [he]; simp only [rcnt]; rw [if_neg hC]
          have e1 := and127 b hb256
          have hb9 : k = 9 → b % 128 ≤ 1 := by omega
          have e2 := or_group n (b % 128) k hn hlt (by omega) hb9
          have hn' : n + b % 128 * 128 ^ k < 128 ^ (k + 1) := by
            have : b % 128 * 128 ^ k ≤ 127 * 128 ^ k := Nat.mul_le_mul (by omega) (Nat.le_refl _)
            rw [Nat.pow_succ]; omega
          obtain ⟨N, hN⟩ : ∃ N, N = n + b % 128 * 128 ^ k := ⟨_, rfl⟩
          rw [← hN] at e2 he2 hn'
          obtain ⟨X, hX⟩ : ∃ X, X = b % 128 := ⟨_, rfl⟩
          rw [← hX] at e1 e2
          have HE := Lib.hid he2
          have HN' := Lib.hid hn'
          have HE2 := Lib.hid e2
          clear hy he he2 hn hb hr ho HH HR hC hN hX hn' hb9 e2
          have hsplit : ¬ 0 < k ∨ (8 < k ∧ b < 2 ∧ 0 < b) ∨ (0 < k ∧ k < 9 ∧ 0 < b) := by omega
          clear hx1 hx2
          rcases hsplit with hs1 | ⟨hs1, hs2, hs3⟩ | ⟨hs1, hs2, hs3⟩
          · go_wp2_with fail
            refine Calls.mono HY.out ?_
            rintro e w1 ⟨rfl, h1, h2⟩
            have H2 := Lib.hid (HO.out.trans h2)
            have H1 := Lib.hid h1
            have HI := Lib.hid (isBad_any B V t false w1 h1)
            clear h1 h2
            go_wp2_with fail
            refine Calls.mono HI.out ?_
            rintro e w3 ⟨rfl, rfl⟩
            by_cases hb128 : b < 128
            · have he3 := HE.out
              rw [if_pos hb128] at he3
              have HE3 := Lib.hid he3
              clear he3
              go_wp2_with fail
              go_ret
              rw [HE3.out, HE2.out]
              exact ⟨rfl, H1.out, H2.out⟩
            · have he3 := HE.out
              rw [if_neg hb128] at he3
              have HE3 := Lib.hid he3
              clear he3
              go_wp2_with fail
              rw [HE2.out]
              exact ⟨⟨k + 1, N, t, false, rfl, by go_num, by omega, HN'.out, H1.out, H2.out, by rw [HE3.out, show 10 - (k + 1) = 9 - k by omega], fun _ => rfl⟩, by simp [intOf]; omega⟩
          · have hbz : ((b : Int) == 0) = false := by simp; omega
            obtain rfl : k = 9 := by omega
            have HE2 : _ := HE2.out
            rw [show (2 : Int) ^ (7 * 9) = 9223372036854775808 from rfl] at HE2
            have HE2 := Lib.hid HE2
            go_wp2_with fail
            refine Calls.mono HY.out ?_
            rintro e w1 ⟨rfl, h1, h2⟩
            have H2 := Lib.hid (HO.out.trans h2)
            have H1 := Lib.hid h1
            have HI := Lib.hid (isBad_any B V t false w1 h1)
            clear h1 h2
            go_wp2_with fail
            refine Calls.mono HI.out ?_
            rintro e w3 ⟨rfl, rfl⟩
            by_cases hb128 : b < 128
            · have he3 := HE.out
              rw [if_pos hb128] at he3
              have HE3 := Lib.hid he3
              clear he3
              go_wp2_with fail
              go_ret
              rw [HE3.out]
              exact ⟨rfl, H1.out, H2.out⟩
            · omega
          · go_wp2_with fail
            refine Calls.mono HY.out ?_
            rintro e w1 ⟨rfl, h1, h2⟩
            have H2 := Lib.hid (HO.out.trans h2)
            have H1 := Lib.hid h1
            have HI := Lib.hid (isBad_any B V t false w1 h1)
            clear h1 h2
            go_wp2_with fail
            refine Calls.mono HI.out ?_
            rintro e w3 ⟨rfl, rfl⟩
            by_cases hb128 : b < 128
            · have he3 := HE.out
              rw [if_pos hb128] at he3
              have HE3 := Lib.hid he3
              clear he3
              go_wp2_with fail
              go_ret
              rw [HE3.out, HE2.out]
              exact ⟨rfl, H1.out, H2.out⟩
            · have he3 := HE.out
              rw [if_neg hb128] at he3
              have HE3 := Lib.hid he3
              clear he3
              go_wp2_with fail
              rw [HE2.out]
              exact ⟨⟨k + 1, N, t, false, rfl, by go_num, by omega, HN'.out, H1.out, H2.out, by rw [HE3.out, show 10 - (k + 1) = 9 - k by omega], fun _ => rfl⟩, by simp [intOf]; omega⟩
end Go.Proofs.Ytjmjehhmkjhalaa

/- The contracts of a reader's Num, Flag, Bytes, Text; and the new reader. -/
namespace Go.Proofs.Ytjmjehhmkjhalaa
set_option maxRecDepth 100000
open Go.RowKit

/-- The number of a count. -/
def unfoldN (n : Nat) : Int := if n % 2 = 1 then -((n / 2 : Nat) : Int) - 1 else ((n / 2 : Nat) : Int)

/-- What Flag leaves. -/
def flagRest (bs : List Nat) : List Nat := if byteT bs > 1 then [] else bs.drop 1
def flagBad (bs : List Nat) (bad : Bool) : Bool := decide (byteT bs > 1) || (bad || decide (bs.length = 0))
theorem ret_bool {a b : Bool} (h : a = b) : Ending.returned (.bool a) = .returned (.bool b) := by rw [h]
/-- What Bytes answers, and leaves. -/
def bytesOut (bs : List Nat) : List Nat := outT (rcount bs).2.1 (rcount bs).2.2 (rcount bs).1
def bytesRest (bs : List Nat) : List Nat := restT (rcount bs).2.1 (rcount bs).2.2 (rcount bs).1
def bytesBad (bs : List Nat) : Bool := failT (rcount bs).2.1 (rcount bs).2.2 (rcount bs).1
end Go.Proofs.Ytjmjehhmkjhalaa
