/- The contract of bits.Div64: where the upper half is 0; and at the chapter's example. -/
import Derived.Test.YtfajalhpenincaaOps
import Derived.BigQuiet
import Derived.Deep.QuietTactic
namespace Go.Proofs.Ytfajalhpenincaa
open Go.RowKit

set_option maxHeartbeats 1000000 in
theorem div64_low (x y : Int) (hx : Word x) (h0 : 0 < y) (w : World) :
    Calls Try.prog 39 #[.int .u64 0, .int .u64 x, .int .u64 y] w fun e w' => e = .returned (.tuple #[.int .u64 (x / y), .int .u64 (x % y)]) ∧ ∃ n, w' = w.drewN n := by
  have e1 : (y == 0) = false := by rw [beq_eq_false_iff_ne]; omega
  have e2 : decide (y ≤ 0) = false := by simp; omega
  have e3 : IntKind.u64.wrap (x / y) = x / y := by
    rw [IntKind.wrap_u64]
    have h1 : 0 ≤ x / y := Int.ediv_nonneg hx.1 (by omega)
    have h2 : x / y ≤ x := Int.ediv_le_self _ hx.1
    have := hx.2
    exact Int.emod_eq_of_lt h1 (by omega)
  have q : x.tdiv y = x / y := Int.tdiv_eq_ediv_of_nonneg hx.1
  have r : x.tmod y = x % y := Int.tmod_eq_emod_of_nonneg hx.1
  go_enter Try.func39, Try.ntmps39
  go_wp2
  go_quiet (fail)
  go_wp2
  go_ret2
  exact ⟨rfl, _, rfl⟩
theorem ret_i64 {a b : Int} (h : a = b) : Ending.returned (.int .i64 a) = .returned (.int .i64 b) := by rw [h]
set_option maxRecDepth 100000 in
theorem lz8 (w : World) : Calls Try.prog 44 #[.int .u64 8] w fun e w' => e = .returned (.int .i64 60) ∧ w = w' := by
  go_enter Try.func44, Try.ntmps44
  go_wp2
  go_ret
  refine ⟨ret_i64 ?_, rfl⟩
  decide +kernel
set_option maxHeartbeats 1000000 in
set_option maxRecDepth 100000 in
theorem div64_ex (w : World) :
    Calls Try.prog 39 #[.int .u64 1, .int .u64 9223372036854775808, .int .u64 8] w fun e w' => e = .returned (.tuple #[.int .u64 3458764513820540928, .int .u64 0]) ∧ ∃ n, w' = w.drewN n := by
  have b1 : bits BinOp.and IntKind.u64 9223372036854775808 4294967295 = 0 := by decide +kernel
  have b2 : bits BinOp.or IntKind.u64 1152921504606846976 576460752303423488 = 1729382256910270464 := by decide +kernel
  have b3 : IntKind.u64.wrap 10633823966279326983230456482242756608 = 0 := by decide +kernel
  have b4 : bits BinOp.and IntKind.u64 0 4294967295 = 0 := by decide +kernel
  go_enter Try.func39, Try.ntmps39
  go_wp2_with (go_at_call 44; refine Calls.mono (lz8 _) ?_; rintro e w9 ⟨rfl, rfl⟩)
  clear b1 b2 b3
  have b5 : IntKind.u64.wrap 7427640235712281649394745344 = 0 := by decide +kernel
  have b6 : IntKind.u64.wrap 3458764513820540928 = 3458764513820540928 := by decide +kernel
  refine wp_loop_rounds 1 ?_
  rw [rounds_succ]
  go_wp2
  refine wp_loop_rounds 1 ?_
  rw [rounds_succ]
  go_wp2
  go_ret2
  exact ⟨rfl, 0, rfl⟩
end Go.Proofs.Ytfajalhpenincaa
