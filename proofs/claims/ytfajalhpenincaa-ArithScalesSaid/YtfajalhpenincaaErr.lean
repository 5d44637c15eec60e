/- The contracts of num.Num and num.Is at no error and at ErrOver. -/
import Derived.Test.YtfajalhpenincaaOps
namespace Go.Proofs.Ytfajalhpenincaa
open Go.RowKit

theorem as37 (v : Value) (w : World) : (Instr.typeAssert (.iface 37 v) 28 37 true).run Try.prog w = .ok (.tuple #[v, .bool true]) w := by kernel_rfl

set_option maxHeartbeats 1000000 in
theorem num_over (w : World) : Calls Try.prog 25 #[over] w fun e w' => e = .returned (.int .i64 7) ∧ w = w' := by
  have h1 := as37
  unfold over
  go_enter Try.func25, Try.ntmps25
  go_wp2
  refine wp_loop_rounds 1 ?_
  rw [rounds_succ]
  go_wp2
  go_ret
  exact ⟨rfl, rfl⟩
set_option maxHeartbeats 1000000 in
theorem num_nil (w : World) : Calls Try.prog 25 #[.nilIface] w fun e w' => e = .returned (.int .i64 0) ∧ w = w' := by
  go_enter Try.func25, Try.ntmps25
  go_wp2
  refine wp_loop_rounds 1 ?_
  rw [rounds_succ]
  go_wp2
  go_ret
  exact ⟨rfl, rfl⟩
set_option maxHeartbeats 400000 in
theorem is_over (w : World) : Calls Try.prog 21 #[over, .int .i64 7] w fun e w' => e = .returned (.bool true) ∧ w = w' := by
  have C := fun w => num_over w
  unfold over at C ⊢
  have HC := Lib.hid C
  clear C
  go_enter Try.func21, Try.ntmps21
  go_wp2_with fail
  refine Calls.mono (HC.out _) ?_
  rintro e w' ⟨rfl, rfl⟩
  go_wp2_with fail
  go_ret
  exact ⟨rfl, rfl⟩
set_option maxHeartbeats 400000 in
theorem is_nil (w : World) : Calls Try.prog 21 #[.nilIface, .int .i64 7] w fun e w' => e = .returned (.bool false) ∧ w = w' := by
  have C := fun w => num_nil w
  have HC := Lib.hid C
  clear C
  go_enter Try.func21, Try.ntmps21
  go_wp2_with fail
  refine Calls.mono (HC.out _) ?_
  rintro e w' ⟨rfl, rfl⟩
  go_wp2_with fail
  go_ret
  exact ⟨rfl, rfl⟩
end Go.Proofs.Ytfajalhpenincaa
