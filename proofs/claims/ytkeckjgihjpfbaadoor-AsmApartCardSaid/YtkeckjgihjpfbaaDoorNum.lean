/- The contracts of a writer's Num, Byte, Flag, Out; and the new writer. -/
import Derived.Test.YtkeckjgihjpfbaaDoorCount
import Derived.Lib.Zigzag
import Derived.Laws.Bits64
namespace Go.Proofs.YtkeckjgihjpfbaaDoor
set_option maxRecDepth 100000
open Go.RowKit

/-- A number, folded. -/
def foldN (z : Int) : Nat := if z < 0 then (2 * (-(z + 1)) + 1).toNat else (2 * z).toNat
def Fits (z : Int) : Prop := -9223372036854775808 ≤ z ∧ z ≤ 9223372036854775807
theorem foldN_lt {z : Int} (h : Fits z) : foldN z < 18446744073709551616 := by unfold foldN; unfold Fits at h; split <;> omega

theorem fold_bits {z : Int} (h : Fits z) : bits BinOp.xor IntKind.u64 (IntKind.u64.wrap (IntKind.u64.wrap z * 2)) (IntKind.u64.wrap (z / 9223372036854775808)) = ((foldN z : Nat) : Int) := by
  unfold Fits at h
  rw [IntKind.wrap_u64, IntKind.wrap_u64, IntKind.wrap_u64]
  by_cases h0 : z < 0
  · have e1 : z % 18446744073709551616 * 2 % 18446744073709551616 = ((2 * z + 18446744073709551616).toNat : Int) := by omega
    have e2 : z / 9223372036854775808 % 18446744073709551616 = ((18446744073709551615 : Nat) : Int) := by omega
    obtain ⟨a, ha⟩ : ∃ a, a = (2 * z + 18446744073709551616).toNat := ⟨_, rfl⟩
    rw [← ha] at e1
    rw [e1, e2, bits_xor_u64_nat a 18446744073709551615 (by omega) (by omega)]
    have hx : a ^^^ 18446744073709551615 = 18446744073709551615 - a := by
      rw [Nat.xor_comm]
      exact Go.Lib.xor_ones64 a (by omega)
    rw [hx]
    unfold foldN
    rw [if_pos h0]
    omega
  · have e1 : z % 18446744073709551616 * 2 % 18446744073709551616 = ((2 * z).toNat : Int) := by omega
    have e2 : z / 9223372036854775808 % 18446744073709551616 = ((0 : Nat) : Int) := by omega
    obtain ⟨a, ha⟩ : ∃ a, a = (2 * z).toNat := ⟨_, rfl⟩
    rw [← ha] at e1
    rw [e1, e2, bits_xor_u64_nat a 0 (by omega) (by omega), Nat.xor_zero]
    unfold foldN
    rw [if_neg h0, ha]

set_option maxHeartbeats 400000 in
theorem num_any (B g : Nat) (v : Value) (xs : List Nat) (z : Int) (hz : Fits z) (w : World) (hw : Wtr w B g v xs) (hmx : xs.length ≤ 8796093022208) :
    Calls Tryd.prog 68 #[.pointer (some ⟨g, 0, none⟩), .int .i64 z] w fun e w' => e = .returned (.tuple #[]) ∧ ∃ v', Wrote w w' B g v v' (xs ++ cntN (foldN z)) := by
  have C := count_any B g v xs (foldN z) (foldN_lt hz) w hw hmx
  have HC := Lib.hid C
  have hf := fold_bits hz
  clear C hw hmx hz
  go_enter Tryd.func68, Tryd.ntmps68
  go_wp2_with fail
  refine Calls.mono HC.out ?_
  rintro e w1 ⟨rfl, v', hw'⟩
  have HW := Lib.hid hw'
  clear hw'
  go_wp2_with fail
  exact bodyPost_end (v := .tuple #[]) (by simp [results, Tryd.results68, go_sem]) rfl ⟨rfl, v', HW.out⟩
set_option maxHeartbeats 400000 in
theorem byte_any (B g : Nat) (v : Value) (xs : List Nat) (x : Nat) (w : World) (hw : Wtr w B g v xs) (hmx : xs.length ≤ 8796093022208) :
    Calls Tryd.prog 67 #[.pointer (some ⟨g, 0, none⟩), .int .u8 (x : Int)] w fun e w' => e = .returned (.tuple #[]) ∧ ∃ v', Wrote w w' B g v v' (xs ++ [x]) := by
  have HP := Lib.hid (put_one B g v xs x w hw (by omega))
  clear hw hmx
  go_enter Tryd.func67, Tryd.ntmps67
  go_wp2_with fail
  refine Calls.mono HP.out ?_
  rintro e w1 ⟨rfl, v', hw'⟩
  have HW := Lib.hid hw'
  clear hw'
  go_wp2_with fail
  exact bodyPost_end (v := .tuple #[]) (by simp [results, Tryd.results67, go_sem]) rfl ⟨rfl, v', HW.out⟩
def flagN (f : Bool) : Nat := if f then 1 else 0
end Go.Proofs.YtkeckjgihjpfbaaDoor
