/- The contracts of num.Num, num.Is and num.At. -/
import Derived.Test.YtkeckjgihjpfbaaDoorCheck
namespace Go.Proofs.YtkeckjgihjpfbaaDoor
set_option maxRecDepth 100000
open Go.RowKit

theorem as36 (v : Value) (w : World) : (Instr.typeAssert (.iface 36 v) 30 36 true).run Tryd.prog w = .ok (.tuple #[v, .bool true]) w := by kernel_rfl
theorem as72n (v : Value) (w : World) : (Instr.typeAssert (.iface 72 v) 30 36 true).run Tryd.prog w = .ok (.tuple #[.int .i64 0, .bool false]) w := by kernel_rfl
theorem as72 (v : Value) (w : World) : (Instr.typeAssert (.iface 72 v) 30 72 true).run Tryd.prog w = .ok (.tuple #[v, .bool true]) w := by kernel_rfl
theorem as36n (v : Value) (w : World) : (Instr.typeAssert (.iface 36 v) 30 72 true).run Tryd.prog w = .ok (.tuple #[.pointer none, .bool false]) w := by kernel_rfl
theorem asniln (w : World) : (Instr.typeAssert .nilIface 30 72 true).run Tryd.prog w = .ok (.tuple #[.pointer none, .bool false]) w := by kernel_rfl
set_option maxHeartbeats 1000000 in
theorem num_errno (k : Int) (hk : k ≠ 0) (w : World) : Calls Tryd.prog 42 #[.iface 36 (.int .i64 k)] w fun e w' => e = .returned (.int .i64 k) ∧ w = w' := by
  have h1 := as36
  have h2 : (k != 0) = true := by rw [bne_iff_ne]; exact hk
  clear hk
  go_enter Tryd.func42, Tryd.ntmps42
  go_wp2
  refine wp_loop_rounds 1 ?_
  rw [rounds_succ]
  go_wp2
  go_ret
  exact ⟨rfl, rfl⟩
set_option maxHeartbeats 1000000 in
theorem num_nil (w : World) : Calls Tryd.prog 42 #[.nilIface] w fun e w' => e = .returned (.int .i64 0) ∧ w = w' := by
  go_enter Tryd.func42, Tryd.ntmps42
  go_wp2
  refine wp_loop_rounds 1 ?_
  rw [rounds_succ]
  go_wp2
  go_ret
  exact ⟨rfl, rfl⟩
set_option maxHeartbeats 1000000 in
theorem num_fault (b : Nat) (v : Int) (w : World) (hf : FaultAt w b v) : Calls Tryd.prog 42 #[.iface 72 (.pointer (some ⟨b, 0, none⟩))] w fun e w' => e = .returned (.int .i64 5) ∧ w = w' := by
  have h1 := as36
  have h2 := as72n
  have h3 := as72
  have h4 : ((5 : Int) != 0) = true := rfl
  have c1 : w.cell? ⟨b, 1, none⟩ = some (.iface 36 (.int .i64 5)) := cell_of_row w b 1 _ 75 (0, 0) hf
  clear hf
  go_enter Tryd.func42, Tryd.ntmps42
  go_wp2
  refine wp_loop_rounds 2 ?_
  rw [rounds_succ]
  go_wp2
  rw [rounds_succ]
  go_wp2
  go_ret
  exact ⟨rfl, rfl⟩
set_option maxHeartbeats 400000 in
theorem is_fault (b : Nat) (v : Int) (w : World) (hf : FaultAt w b v) : Calls Tryd.prog 17 #[.iface 72 (.pointer (some ⟨b, 0, none⟩)), .int .i64 5] w fun e w' => e = .returned (.bool true) ∧ w = w' := by
  have HC := Lib.hid (num_fault b v w hf)
  clear hf
  go_enter Tryd.func17, Tryd.ntmps17
  go_wp2_with fail
  refine Calls.mono HC.out ?_
  rintro e w' ⟨rfl, rfl⟩
  go_wp2_with fail
  go_ret
  exact ⟨rfl, rfl⟩
set_option maxHeartbeats 400000 in
theorem is_errno (k : Int) (hk : k ≠ 0) (w : World) : Calls Tryd.prog 17 #[.iface 36 (.int .i64 k), .int .i64 k] w fun e w' => e = .returned (.bool true) ∧ w = w' := by
  have HC := Lib.hid (num_errno k hk w)
  clear hk
  go_enter Tryd.func17, Tryd.ntmps17
  go_wp2_with fail
  refine Calls.mono HC.out ?_
  rintro e w' ⟨rfl, rfl⟩
  go_wp2_with fail
  go_ret
  exact ⟨ret_bool' (by simp), rfl⟩
set_option maxHeartbeats 1000000 in
theorem at_fault (b : Nat) (v : Int) (w : World) (hf : FaultAt w b v) : Calls Tryd.prog 18 #[.iface 72 (.pointer (some ⟨b, 0, none⟩))] w fun e w' => e = .returned (.int .i64 v) ∧ w = w' := by
  have h3 := as72
  have c0 : w.cell? ⟨b, 0, none⟩ = some (.int .i64 v) := cell_of_row w b 0 _ 75 (0, 0) hf
  clear hf
  go_enter Tryd.func18, Tryd.ntmps18
  go_wp2_with fail
  go_ret
  exact ⟨rfl, rfl⟩
end Go.Proofs.YtkeckjgihjpfbaaDoor
