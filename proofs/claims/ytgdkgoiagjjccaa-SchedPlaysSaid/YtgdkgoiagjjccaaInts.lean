/- The contracts of num.Ints at like numbers, and of num.Num at what arith answers. -/
import Derived.Test.YtgdkgoiagjjccaaPlace
import Derived.Test.YtgdkgoiagjjccaaErr
import Derived.Deep.QuietTactic
namespace Go.Proofs.Ytgdkgoiagjjccaa
set_option maxRecDepth 100000
open Go.RowKit

set_option maxHeartbeats 1000000 in
theorem ints_same (A : Option Addr) (n c : Nat) (A2 : Option Addr) (c2 : Nat) (xs : List Int) (w : World) (ha : Nums w A n xs) (hb : Nums w A2 n xs) (hn : n ≤ 9223372036854775807) :
    Calls Try.prog 26 #[.slice A n c, .slice A2 n c2] w fun e w' => e = .returned (.bool true) ∧ Below w.heap.size w w' := by
  have HA := Lib.hid ha
  have HB := Lib.hid hb
  clear ha hb
  go_enter Try.func26, Try.ntmps26
  go_wp2_with fail
  go_loopw [5, 13] (fun _ i wr => ∃ k : Nat, i = .int .i64 (k : Int) ∧ k ≤ n ∧ Below w.heap.size w wr) (fun _ i _ => n - (intOf i).toNat)
  case atStart => exact ⟨0, rfl, by omega, Below.refl _ _⟩
  case round =>
    obtain ⟨k, rfl, hk, hbr⟩ := hrel
    by_cases hlt : k < n
    · obtain ⟨b, off, rfl, hc⟩ := (HA.out.ext (stays_w hbr)).2.2 (by omega)
      obtain ⟨b2, off2, rfl, hc2⟩ := (HB.out.ext (stays_w hbr)).2.2 (by omega)
      have c1 := hc k hlt
      have c2' := hc2 k hlt
      obtain ⟨x, hx⟩ : ∃ x, x = xs.getD k 0 := ⟨_, rfl⟩
      rw [← hx] at c1 c2'
      have HR := Lib.hid hbr
      clear hc hc2 hx hbr HA HB
      go_wp2_with fail
      go_quiet (fail)
      have hbd : Below w.heap.size w (wr.drewN nq) := ⟨HR.out.os, HR.out.tape, HR.out.output, HR.out.size, HR.out.block⟩
      go_wp2_with fail
      go_roundw
      case rel => exact ⟨k + 1, by go_num, by omega, hbd⟩
      case measure => simp [intOf]; omega
    · obtain rfl : k = n := by omega
      go_wp2_with fail
      go_ret
      exact ⟨rfl, hbr⟩

/-- An error's number. -/
def numC (z : Int) : Int := if -9223372036854775808 ≤ z ∧ z ≤ 9223372036854775807 then 0 else 7
theorem num_any (z : Int) (w : World) : Calls Try.prog 23 #[numE z] w fun e w' => e = .returned (.int .i64 (numC z)) ∧ w = w' := by
  unfold numE numC
  by_cases h : -9223372036854775808 ≤ z ∧ z ≤ 9223372036854775807
  · rw [if_pos h, if_pos h]; exact num_nil w
  · rw [if_neg h, if_neg h]; exact num_over w
end Go.Proofs.Ytgdkgoiagjjccaa
