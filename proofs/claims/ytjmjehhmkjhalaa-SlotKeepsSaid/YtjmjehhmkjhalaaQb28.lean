/- LAlive: put together. -/
import Derived.Test.YtjmjehhmkjhalaaQb27
import Derived.Lib.SlBytesConst
import Derived.Deep.WholeRow
/- The contracts of num.Num, num.Is, slab.Is and of the law's alive. -/
namespace Go.Proofs.Ytjmjehhmkjhalaa
set_option maxRecDepth 100000
open Go.RowKit

theorem as71 (v : Value) (w : World) : (Instr.typeAssert (.iface 43 v) 30 43 true).run Try.prog w = .ok (.tuple #[v, .bool true]) w := by kernel_rfl
set_option maxHeartbeats 1000000 in
theorem num_errno (k : Int) (hk : k ≠ 0) (w : World) : Calls Try.prog 18 #[.iface 43 (.int .i64 k)] w fun e w' => e = .returned (.int .i64 k) ∧ w = w' := by
  have h1 := as71
  have h2 : (k != 0) = true := by rw [bne_iff_ne]; exact hk
  go_enter Try.func18, Try.ntmps18
  go_wp2
  refine wp_loop_rounds 1 ?_
  rw [rounds_succ]
  go_wp2
  go_ret
  exact ⟨rfl, rfl⟩
set_option maxHeartbeats 400000 in
theorem is_errno (k : Int) (hk : k ≠ 0) (w : World) : Calls Try.prog 20 #[.iface 43 (.int .i64 k), .int .i64 k] w fun e w' => e = .returned (.bool true) ∧ w = w' := by
  have HC := Lib.hid (num_errno k hk w)
  go_enter Try.func20, Try.ntmps20
  go_wp2_with fail
  refine Calls.mono HC.out ?_
  rintro e w' ⟨rfl, rfl⟩
  go_wp2_with fail
  go_ret
  exact ⟨ret_bool (by simp), rfl⟩
theorem NewAt.later {w w' : World} {A : Option Addr} {n c : Nat} (h : NewAt w w' A n c) (o : Obj) : NewAt w (w'.alloc o) A n c := by
  rcases h with h | ⟨b, e, h1, h2, h3, h4⟩
  · exact .inl h
  · refine .inr ⟨b, e, h1, by rw [World.size_alloc]; omega, h3, fun hn => ?_⟩
    obtain ⟨cs, h5⟩ := h4 hn
    exact ⟨cs, (heap_alloc_old w' o h2).trans h5⟩
/-- What Is answers. -/
def IsE (l : List Nat) (st kd : Int) (w : World) (e : Ending) (w' : World) : Prop :=
  (∃ (d : List Nat) (A : Option Addr) (c a k : Nat), openN l = some (a, k, d) ∧ (a : Int) = st ∧ (k : Int) = kd ∧ e = .returned (.tuple #[.slice A d.length c, .bool true]) ∧ Rdv w' A d.length 1 (valsB d) ∧ NewAt w w' A d.length c) ∨
  ((∀ a k d, openN l = some (a, k, d) → ¬ ((a : Int) = st ∧ (k : Int) = kd)) ∧ e = .returned (.tuple #[.slice none 0 0, .bool false]))
theorem store_new (w1 : World) (l : List Nat) (hl : l.length = 64) : (storeCells ⟨w1.heap.size, 0, none⟩ (secV l).toList).run Try.prog (w1.alloc (.cells #[.int .u8 0, .int .u8 0, .int .u8 0, .int .u8 0, .int .u8 0, .int .u8 0, .int .u8 0, .int .u8 0, .int .u8 0, .int .u8 0, .int .u8 0, .int .u8 0, .int .u8 0, .int .u8 0, .int .u8 0, .int .u8 0, .int .u8 0, .int .u8 0, .int .u8 0, .int .u8 0, .int .u8 0, .int .u8 0, .int .u8 0, .int .u8 0, .int .u8 0, .int .u8 0, .int .u8 0, .int .u8 0, .int .u8 0, .int .u8 0, .int .u8 0, .int .u8 0, .int .u8 0, .int .u8 0, .int .u8 0, .int .u8 0, .int .u8 0, .int .u8 0, .int .u8 0, .int .u8 0, .int .u8 0, .int .u8 0, .int .u8 0, .int .u8 0, .int .u8 0, .int .u8 0, .int .u8 0, .int .u8 0, .int .u8 0, .int .u8 0, .int .u8 0, .int .u8 0, .int .u8 0, .int .u8 0, .int .u8 0, .int .u8 0, .int .u8 0, .int .u8 0, .int .u8 0, .int .u8 0, .int .u8 0, .int .u8 0, .int .u8 0, .int .u8 0] 75)) = .ok () (w1.alloc (.cells (secV l) 75)) := by
  rw [zeros_sec]
  exact run_storeCells_new w1 75 _ _ (info_sec hl) (by rw [secV_size, secV_size, hl, noughts64]) (secV_one l)
end Go.Proofs.Ytjmjehhmkjhalaa
