/- What a plan answers, also a nil one; errors' numbers. -/
import Derived.Test.YtgdkgoiagjjccaaZC
import Derived.Test.YtgdkgoiagjjccaaZB
namespace Go.Proofs.Ytgdkgoiagjjccaa
set_option maxRecDepth 100000
open Go.RowKit

set_option maxHeartbeats 400000 in
theorem left_any {B : Nat} {W : World} {bp bt bw : Nat} {s : PS} {sa : Nat → Option Addr} {sc : Nat → Nat} (h : PlanAt B W bp bt bw s sa sc) : Calls Try.prog 49 #[ptr bp] W fun e W' => e = .returned (.int .i64 s.left) ∧ W = W' := by
  obtain ⟨-, -, -, p3⟩ := h.pl
  unfold ptr
  clear h
  go_enter Try.func49, Try.ntmps49
  go_wp2_with fail
  go_ret
  exact ⟨rfl, rfl⟩
set_option maxHeartbeats 400000 in
theorem left_nil (W : World) : Calls Try.prog 49 #[.pointer none] W fun e W' => e = .returned (.int .i64 0) ∧ W = W' := by
  go_enter Try.func49, Try.ntmps49
  go_wp2_with fail
  go_ret
  exact ⟨rfl, rfl⟩
set_option maxHeartbeats 400000 in
theorem picks_any {B : Nat} {W : World} {bp bt bw : Nat} {s : PS} {sa : Nat → Option Addr} {sc : Nat → Nat} (h : PlanAt B W bp bt bw s sa sc) : Calls Try.prog 47 #[ptr bp] W fun e W' => e = .returned (.int .i64 s.picks) ∧ W = W' := by
  obtain ⟨-, -, p2, -⟩ := h.pl
  unfold ptr
  clear h
  go_enter Try.func47, Try.ntmps47
  go_wp2_with fail
  go_ret
  exact ⟨rfl, rfl⟩
set_option maxHeartbeats 400000 in
theorem picks_nil (W : World) : Calls Try.prog 47 #[.pointer none] W fun e W' => e = .returned (.int .i64 0) ∧ W = W' := by
  go_enter Try.func47, Try.ntmps47
  go_wp2_with fail
  go_ret
  exact ⟨rfl, rfl⟩
set_option maxHeartbeats 400000 in
theorem done_any {B : Nat} {W : World} {bp bt bw : Nat} {s : PS} {sa : Nat → Option Addr} {sc : Nat → Nat} (h : PlanAt B W bp bt bw s sa sc) : Calls Try.prog 48 #[ptr bp] W fun e W' => e = .returned (.bool (decide (s.left = 0))) ∧ W = W' := by
  have HC := Lib.hid (left_any h)
  obtain ⟨l, hl⟩ : ∃ l, l = s.left := ⟨_, rfl⟩
  rw [← hl] at HC ⊢
  unfold ptr at HC ⊢
  clear h hl
  by_cases h0 : l = 0
  · subst h0
    go_enter Try.func48, Try.ntmps48
    go_wp2_with fail
    refine Calls.mono HC.out ?_
    rintro e w2 ⟨rfl, rfl⟩
    go_wp2_with fail
    go_ret
    exact ⟨rfl, rfl⟩
  · rw [decide_eq_false h0]
    have e0 : (l == 0) = false := beq_eq_false_iff_ne.2 h0
    go_enter Try.func48, Try.ntmps48
    go_wp2_with fail
    refine Calls.mono HC.out ?_
    rintro e w2 ⟨rfl, rfl⟩
    go_wp2_with fail
    go_ret
    exact ⟨rfl, rfl⟩
set_option maxHeartbeats 400000 in
theorem done_nil (W : World) : Calls Try.prog 48 #[.pointer none] W fun e W' => e = .returned (.bool true) ∧ W = W' := by
  have HC := Lib.hid (left_nil W)
  go_enter Try.func48, Try.ntmps48
  go_wp2_with fail
  refine Calls.mono HC.out ?_
  rintro e w2 ⟨rfl, rfl⟩
  go_wp2_with fail
  go_ret
  exact ⟨rfl, rfl⟩
def PS.hasOf (s : PS) (w : Int) : Int := if w < 0 ∨ (s.m : Int) ≤ w then -1 else s.ws w.toNat
set_option maxHeartbeats 400000 in
theorem has_w {B : Nat} {W : World} {bp bt bw : Nat} {s : PS} {sa : Nat → Option Addr} {sc : Nat → Nat} (h : PlanAt B W bp bt bw s sa sc) (w : Int) : Calls Try.prog 51 #[ptr bp, .int .i64 w] W fun e W' => e = .returned (.int .i64 (s.hasOf w)) ∧ W = W' := by
  obtain ⟨-, p1, -, -⟩ := h.pl
  unfold ptr PS.hasOf
  by_cases h0 : w < 0
  · rw [if_pos (.inl h0)]
    clear h
    go_enter Try.func51, Try.ntmps51
    go_wp2_with fail
    go_ret
    exact ⟨rfl, rfl⟩
  by_cases h1 : (s.m : Int) ≤ w
  · rw [if_pos (.inr h1)]
    clear h
    go_enter Try.func51, Try.ntmps51
    go_wp2_with fail
    go_ret
    exact ⟨rfl, rfl⟩
  · rw [if_neg (by omega)]
    obtain ⟨k, rfl⟩ : ∃ k : Nat, w = (k : Int) := ⟨w.toNat, by omega⟩
    rw [Int.toNat_natCast]
    have hk : k < s.m := by omega
    have w0 := h.wr k hk
    have hb := h.big
    clear h
    go_enter Try.func51, Try.ntmps51
    go_wp2_with fail
    go_ret
    exact ⟨rfl, rfl⟩
set_option maxHeartbeats 400000 in
theorem has_nil (w : Int) (W : World) : Calls Try.prog 51 #[.pointer none, .int .i64 w] W fun e W' => e = .returned (.int .i64 (-1)) ∧ W = W' := by
  go_enter Try.func51, Try.ntmps51
  go_wp2_with fail
  go_ret
  exact ⟨rfl, rfl⟩
set_option maxHeartbeats 400000 in
theorem ready_nil (W : World) : Calls Try.prog 50 #[.pointer none] W fun e W' => e = .returned (.slice none 0 0) ∧ W = W' := by
  go_enter Try.func50, Try.ntmps50
  go_wp2_with fail
  go_ret
  exact ⟨rfl, rfl⟩
set_option maxHeartbeats 400000 in
theorem pick_nil (w : Int) (W : World) : Calls Try.prog 44 #[.pointer none, .int .i64 w] W fun e W' => e = .returned (.tuple #[evV 0 0 0, errV 12]) ∧ Below W.heap.size W W' := by
  have HG := Lib.hid (heap_alloc_new W (.cells #[.int .i64 0, .int .i64 0, .int .i64 0] 78))
  have HB := Lib.hid ((Below.refl _ W).alloc (Nat.le_refl _) (.cells #[.int .i64 0, .int .i64 0, .int .i64 0] 78))
  unfold evV errV
  go_enter Try.func44, Try.ntmps44
  go_wp2_with fail
  refine bodyPost_ret (v := .tuple #[.agg #[.int .i64 0, .int .i64 0, .int .i64 0], .iface 34 (.int .i64 12)]) ?_ rfl ?_
  · exact results_ev _ _ W.heap.size _ _ rfl rfl HG.out rfl
  · exact ⟨rfl, HB.out⟩

set_option maxHeartbeats 1000000 in
theorem num_err (k : Int) (hk : k ≠ 0) (w : World) : Calls Try.prog 23 #[errV k] w fun e w' => e = .returned (.int .i64 k) ∧ w = w' := by
  have h1 := as37
  have e0 : (k == 0) = false := beq_eq_false_iff_ne.2 hk
  have e1 : (k != 0) = true := by simp [hk]
  unfold errV
  go_enter Try.func23, Try.ntmps23
  go_wp2
  refine wp_loop_rounds 1 ?_
  rw [rounds_succ]
  go_wp2
  go_ret
  exact ⟨rfl, rfl⟩
set_option maxHeartbeats 400000 in
theorem is_err (k m : Int) (hk : k ≠ 0) (w : World) : Calls Try.prog 18 #[errV k, .int .i64 m] w fun e w' => e = .returned (.bool (decide (k = m))) ∧ w = w' := by
  have HC := Lib.hid (num_err k hk w)
  unfold errV at HC ⊢
  by_cases h : k = m
  · subst h
    clear hk
    go_enter Try.func18, Try.ntmps18
    go_wp2_with fail
    refine Calls.mono HC.out ?_
    rintro e w' ⟨rfl, rfl⟩
    go_wp2_with fail
    go_ret
    exact ⟨by simp, rfl⟩
  · have e0 : (k == m) = false := beq_eq_false_iff_ne.2 h
    rw [decide_eq_false h]
    clear hk
    go_enter Try.func18, Try.ntmps18
    go_wp2_with fail
    refine Calls.mono HC.out ?_
    rintro e w' ⟨rfl, rfl⟩
    go_wp2_with fail
    go_ret
    exact ⟨rfl, rfl⟩
end Go.Proofs.Ytgdkgoiagjjccaa
