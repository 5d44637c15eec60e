/- The contracts of num.Num and num.Is at ErrForm. -/
import Derived.Test.YtlegaajacmjejaaRead
namespace Go.Proofs.Ytlegaajacmjejaa
set_option maxRecDepth 100000
open Go.RowKit

def eForm : Value := .iface 51 (.int .i64 2)
theorem as51 (v : Value) (w : World) : (Instr.typeAssert (.iface 51 v) 48 51 true).run Try.prog w = .ok (.tuple #[v, .bool true]) w := by kernel_rfl
set_option maxHeartbeats 1000000 in
theorem num_form (w : World) : Calls Try.prog 70 #[eForm] w fun e w' => e = .returned (.int .i64 2) ∧ w = w' := by
  have h1 := as51
  unfold eForm
  go_enter Try.func70, Try.ntmps70
  go_wp2
  refine wp_loop_rounds 1 ?_
  rw [rounds_succ]
  go_wp2
  go_ret
  exact ⟨rfl, rfl⟩
set_option maxHeartbeats 400000 in
theorem is_form (w : World) : Calls Try.prog 28 #[eForm, .int .i64 2] w fun e w' => e = .returned (.bool true) ∧ w = w' := by
  have C := fun w => num_form w
  unfold eForm at C ⊢
  have HC := Lib.hid C
  clear C
  go_enter Try.func28, Try.ntmps28
  go_wp2_with fail
  refine Calls.mono (HC.out _) ?_
  rintro e w' ⟨rfl, rfl⟩
  go_wp2_with fail
  go_ret
  exact ⟨rfl, rfl⟩
theorem endV_bad (bs : List Nat) : endV bs true = eForm := rfl
theorem stepR_bad (k : Int) : stepR k [] true = ([], true) := by
  unfold stepR
  split
  · rfl
  split
  · rfl
  split
  · rfl
  split
  · rfl
  split
  · rfl
  · rfl
end Go.Proofs.Ytlegaajacmjejaa
