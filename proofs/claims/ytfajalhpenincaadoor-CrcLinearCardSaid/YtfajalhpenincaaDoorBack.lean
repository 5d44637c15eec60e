/- The contract of crc.back: the register ahead of four bytes 0. -/
import Derived.Test.YtfajalhpenincaaDoorFindMath
import Derived.Test.YtfajalhpenincaaDoorApp
namespace Go.Proofs.YtfajalhpenincaaDoor
open Go.RowKit

/-- The step back. -/
def ub (r : Nat) : Nat := if r / 2147483648 = 1 then 2 * (r ^^^ poly) + 1 else 2 * r
theorem xor_high {r : Nat} (h : r / 2147483648 = 1) : r ^^^ poly < 2147483648 := by
  have e : (r ^^^ poly) / 2 ^ 31 = 0 := by
    rw [← Nat.shiftRight_eq_div_pow, Nat.shiftRight_xor_distrib, Nat.shiftRight_eq_div_pow, Nat.shiftRight_eq_div_pow]
    have h1 : r / 2 ^ 31 = 1 := h
    have h2 : poly / 2 ^ 31 = 1 := by decide
    rw [h1, h2]
    rfl
  have e2 : (r ^^^ poly) / 2147483648 = 0 := e
  omega
theorem ub_lt {r : Nat} (h : r < 4294967296) : ub r < 4294967296 := by
  unfold ub
  split
  · rename_i h1; have := xor_high h1; omega
  · omega
theorem bit_ub (r : Nat) : bit (ub r) = r := by
  unfold ub
  split
  · rename_i h1
    unfold bit
    rw [if_pos (by omega), show (2 * (r ^^^ poly) + 1) / 2 = r ^^^ poly by omega, Nat.xor_assoc, Nat.xor_self, Nat.xor_zero]
  · unfold bit
    rw [if_neg (by omega)]; omega
theorem iter_ub_lt {r : Nat} (h : r < 4294967296) (k : Nat) : iter ub k r < 4294967296 := by
  induction k with
  | zero => exact h
  | succ k ih => exact ub_lt ih
theorem iter_succ' (f : Nat → Nat) (k a : Nat) : iter f (k + 1) a = iter f k (f a) := by
  induction k with
  | zero => rfl
  | succ k ih => show f (iter f (k + 1) a) = f _; rw [ih]
theorem iter_back (r k : Nat) : iter bit k (iter ub k r) = r := by
  induction k with
  | zero => rfl
  | succ k ih =>
    rw [iter_succ' bit]
    show iter bit k (bit (ub (iter ub k r))) = r
    rw [bit_ub, ih]

set_option maxHeartbeats 400000 in
theorem back_any (r : Nat) (hr : r < 4294967296) (w : World) :
    Calls Tryd.prog 22 #[.int .u32 (r : Int)] w fun e w' => e = .returned (.int .u32 ((iter ub 32 r : Nat) : Int)) ∧ w = w' := by
  go_enter Tryd.func22, Tryd.ntmps22
  go_wp2
  go_loop [0, 3] (fun g i => ∃ k : Nat, k ≤ 32 ∧ i = .int .i64 k ∧ g = .int .u32 ((iter ub k r : Nat) : Int) ∧ iter ub k r < 4294967296) (fun _ i => 32 - (intOf i).toNat)
  case atStart => exact ⟨0, Nat.zero_le _, rfl, rfl, hr⟩
  case round =>
    obtain ⟨k, hk, rfl, rfl, hg⟩ := hrel
    by_cases hlt : k < 32
    · obtain ⟨g, hge⟩ : ∃ g, g = iter ub k r := ⟨_, rfl⟩
      rw [← hge] at hg ⊢
      have hn : ub g = iter ub (k + 1) r := by rw [hge]; rfl
      have hb := ub_lt hg
      have HN := Lib.hid hn
      clear hn hge
      by_cases hodd : g / 2147483648 = 1
      · have e1 : (((g : Int) / 2147483648) == 1) = true := by rw [beq_iff_eq]; omega
        have hx := xor_high hodd
        have e2 : bits BinOp.xor IntKind.u32 (g : Int) 3988292384 = ((g ^^^ poly : Nat) : Int) := u32_xor_nat g poly hg poly_lt
        obtain ⟨x, hxe⟩ : ∃ x, x = g ^^^ poly := ⟨_, rfl⟩
        rw [← hxe] at e2 hx
        have hu : ub g = 2 * x + 1 := by unfold ub; rw [if_pos hodd, ← hxe]
        have e3 : bits BinOp.or IntKind.u32 ((x : Int) * 2) 1 = ((2 * x + 1 : Nat) : Int) := by
          have h := u32_or_nat (2 * x) 1 (by omega) (by decide)
          rw [nat_join 1 (2 * x) 1 (by omega) (by decide)] at h
          rw [← h]
          congr 1
          omega
        obtain ⟨y, hye⟩ : ∃ y, y = 2 * x + 1 := ⟨_, rfl⟩
        rw [← hye] at e3
        have hyn : y = iter ub (k + 1) r := by rw [hye, ← hu, HN.out]
        have HY := Lib.hid hyn
        clear hodd hb hxe hu hye hyn
        go_wp2
        go_round
        case rel => exact ⟨k + 1, by omega, by go_num, by rw [HY.out], by rw [← HN.out]; exact ub_lt hg⟩
        case measure => simp [intOf]; omega
      · have e1 : (((g : Int) / 2147483648) == 1) = false := by rw [beq_eq_false_iff_ne]; omega
        have e2 : ub g = 2 * g := by unfold ub; rw [if_neg hodd]
        have HE := Lib.hid e2
        clear hodd hb e2
        go_wp2
        go_round
        case rel =>
          refine ⟨k + 1, by omega, by go_num, ?_, by rw [← HN.out]; exact ub_lt hg⟩
          have hl : ub g < 4294967296 := ub_lt hg
          rw [← HN.out]
          rw [HE.out] at hl ⊢
          exact congrArg (fun z : Int => Value.int .u32 z) (by omega)
        case measure => simp [intOf]; omega
    · obtain rfl : k = 32 := by omega
      go_wp2
      go_ret
      exact ⟨rfl, rfl⟩
end Go.Proofs.YtfajalhpenincaaDoor
