/- The contracts of num.Num and num.Is at no error and at ErrOver. -/
import Derived.Test.YtgdkgoiagjjccaaOps
namespace Go.Proofs.Ytgdkgoiagjjccaa
set_option maxRecDepth 100000
open Go.RowKit

theorem as37 (v : Value) (w : World) : (Instr.typeAssert (.iface 34 v) 28 34 true).run Try.prog w = .ok (.tuple #[v, .bool true]) w := by kernel_rfl

set_option maxHeartbeats 1000000 in
theorem num_over (w : World) : Calls Try.prog 23 #[over] w fun e w' => e = .returned (.int .i64 7) ∧ w = w' := by
  have h1 := as37
  unfold over
  go_enter Try.func23, Try.ntmps23
  go_wp2
  refine wp_loop_rounds 1 ?_
  rw [rounds_succ]
  go_wp2
  go_ret
  exact ⟨rfl, rfl⟩
set_option maxHeartbeats 1000000 in
theorem num_nil (w : World) : Calls Try.prog 23 #[.nilIface] w fun e w' => e = .returned (.int .i64 0) ∧ w = w' := by
  go_enter Try.func23, Try.ntmps23
  go_wp2
  refine wp_loop_rounds 1 ?_
  rw [rounds_succ]
  go_wp2
  go_ret
  exact ⟨rfl, rfl⟩
set_option maxHeartbeats 400000 in
theorem is_over (w : World) : Calls Try.prog 18 #[over, .int .i64 7] w fun e w' => e = .returned (.bool true) ∧ w = w' := by
  have C := fun w => num_over w
  unfold over at C ⊢
  have HC := Lib.hid C
  clear C
  go_enter Try.func18, Try.ntmps18
  go_wp2_with fail
  refine Calls.mono (HC.out _) ?_
  rintro e w' ⟨rfl, rfl⟩
  go_wp2_with fail
  go_ret
  exact ⟨rfl, rfl⟩
set_option maxHeartbeats 400000 in
theorem is_nil (w : World) : Calls Try.prog 18 #[.nilIface, .int .i64 7] w fun e w' => e = .returned (.bool false) ∧ w = w' := by
  have C := fun w => num_nil w
  have HC := Lib.hid C
  clear C
  go_enter Try.func18, Try.ntmps18
  go_wp2_with fail
  refine Calls.mono (HC.out _) ?_
  rintro e w' ⟨rfl, rfl⟩
  go_wp2_with fail
  go_ret
  exact ⟨rfl, rfl⟩
end Go.Proofs.Ytgdkgoiagjjccaa
