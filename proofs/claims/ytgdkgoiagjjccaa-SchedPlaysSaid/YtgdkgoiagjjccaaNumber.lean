/- The contract of a wide number as one of 64 bits, if it is one. -/
import Derived.Test.YtgdkgoiagjjccaaWide
import Derived.Deep.RegionHeld3
namespace Go.Proofs.Ytgdkgoiagjjccaa
set_option maxRecDepth 100000
open Go.RowKit

/-- The error ErrOver, as a value. -/
def over : Value := .iface 34 (.int .i64 7)
def numOf (z : Int) : Int := (z + 9223372036854775808) % 18446744073709551616 - 9223372036854775808
theorem numOf_fits (z : Int) : Fits (numOf z) := by unfold Fits numOf; omega
theorem numOf_same {z : Int} (h : Fits z) : numOf z = z := by unfold Fits at h; unfold numOf; omega

theorem below_held {w w1 : World} {o : Obj} (hb : Below (w.alloc o).drew.heap.size (w.alloc o).drew w1) : Below w.heap.size w w1 :=
  ((Below.refl _ w).alloc (Nat.le_refl _) o).drew.trans (hb.mono (by simp))

set_option maxHeartbeats 1000000 in
theorem number_yes (z : Int) (hf : Fits z) (w : World) :
    Calls Try.prog 91 #[wideV z] w fun e w' => e = .returned (.tuple #[.int .i64 z, .nilIface]) ∧ Below w.heap.size w w' := by
  have h1 : wrap64 (lo z) = z := by
    have : wrap64 (lo z) = numOf z := by unfold wrap64 numOf lo; omega
    rw [this]; exact numOf_same hf
  have C := fun w => widen_any z hf w
  unfold wideV at C ⊢
  have HC := Lib.hid C
  clear C
  go_enter Try.func91, Try.ntmps91
  go_wp2_with fail
  go_region_held3 (fun w' => w'.cell? ⟨w.heap.size, 0, none⟩ = some (.int .u64 (hi z)) ∧ w'.cell? ⟨w.heap.size, 1, none⟩ = some (.int .u64 (lo z)) ∧ w.heap.size < w'.heap.size)
    (first | go_keep | (go_split_ands; exact ⟨(hbK.cell (p := ⟨w.heap.size, 0, none⟩) (by assumption)).trans (by assumption), (hbK.cell (p := ⟨w.heap.size, 1, none⟩) (by assumption)).trans (by assumption), Nat.lt_of_lt_of_le (by assumption) hbK.size⟩))
    ((go_at_call 93; refine Calls.mono (HC.out _) ?_; rintro e w1 ⟨rfl, hbK⟩))
  go_wp2
  go_ret2
  exact ⟨rfl, below_held hbK⟩

set_option maxHeartbeats 1000000 in
theorem number_no (z : Int) (hz : Wide z) (hf : ¬ Fits z) (w : World) :
    Calls Try.prog 91 #[wideV z] w fun e w' => e = .returned (.tuple #[.int .i64 0, over]) ∧ Below w.heap.size w w' := by
  have h1 : wrap64 (lo z) = numOf z := by unfold wrap64 numOf lo; omega
  obtain ⟨n, hn⟩ : ∃ n, n = numOf z := ⟨_, rfl⟩
  have hnf : Fits n := by rw [hn]; exact numOf_fits z
  have hb := back_iff hz hn
  rw [← hn] at h1
  have hlo : lo n = lo z := by rw [hn]; unfold lo numOf; omega
  have C := fun w => widen_any n hnf w
  unfold wideV at C ⊢
  have HC := Lib.hid C
  have e1 : (hi n == hi z) = false := by
    rw [beq_eq_false_iff_ne]
    intro h
    exact hf (hb.1 ⟨h, hlo⟩)
  clear C hn hb hlo
  unfold over
  go_enter Try.func91, Try.ntmps91
  go_wp2_with fail
  go_region_held3 (fun w' => w'.cell? ⟨w.heap.size, 0, none⟩ = some (.int .u64 (hi z)) ∧ w'.cell? ⟨w.heap.size, 1, none⟩ = some (.int .u64 (lo z)) ∧ w.heap.size < w'.heap.size)
    (first | go_keep | (go_split_ands; exact ⟨(hbK.cell (p := ⟨w.heap.size, 0, none⟩) (by assumption)).trans (by assumption), (hbK.cell (p := ⟨w.heap.size, 1, none⟩) (by assumption)).trans (by assumption), Nat.lt_of_lt_of_le (by assumption) hbK.size⟩))
    ((go_at_call 93; refine Calls.mono (HC.out _) ?_; rintro e w1 ⟨rfl, hbK⟩))
  go_wp2
  go_ret2
  exact ⟨rfl, below_held hbK⟩

theorem below_two {w w1 : World} {o1 o2 : Obj} (hb : Below ((w.alloc o1).alloc o2).heap.size ((w.alloc o1).alloc o2) w1) : Below w.heap.size w w1 :=
  (((Below.refl _ w).alloc (Nat.le_refl _) o1).alloc (by simp) o2).trans (hb.mono (by simp; omega))

set_option maxHeartbeats 400000 in
theorem below_yes (z : Int) (hz : Wide z) (h0 : z < 0) (w : World) :
    Calls Try.prog 102 #[wideV z] w fun e w' => e = .returned (.bool true) ∧ Below w.heap.size w w' := by
  have h1 := hi_below hz h0
  unfold wideV
  go_enter Try.func102, Try.ntmps102
  go_wp2
  go_ret
  exact ⟨rfl, (Below.refl _ _).alloc (Nat.le_refl _) _⟩
set_option maxHeartbeats 400000 in
theorem below_no (z : Int) (hz : Wide z) (h0 : ¬ z < 0) (w : World) :
    Calls Try.prog 102 #[wideV z] w fun e w' => e = .returned (.bool false) ∧ Below w.heap.size w w' := by
  have h1 := hi_over hz h0
  unfold wideV
  go_enter Try.func102, Try.ntmps102
  go_wp2
  go_ret
  exact ⟨rfl, (Below.refl _ _).alloc (Nat.le_refl _) _⟩
set_option maxHeartbeats 400000 in
theorem size_neg (z : Int) (hz : Wide z) (h0 : z < 0) (w : World) :
    Calls Try.prog 101 #[wideV z] w fun e w' => e = .returned (wideV (-z)) ∧ Below w.heap.size w w' := by
  have C1 := fun w => below_yes z hz h0 w
  have C2 := fun w => opposite_any z w
  unfold wideV at C1 C2 ⊢
  obtain ⟨t, ht⟩ : ∃ t, t = -z := ⟨_, rfl⟩
  rw [← ht] at C2 ⊢
  have H1 := Lib.hid C1
  have H2 := Lib.hid C2
  clear C1 C2 ht
  go_enter Try.func101, Try.ntmps101
  go_wp2_with fail
  refine Calls.mono (H1.out _) ?_
  rintro e w1 ⟨rfl, hb1⟩
  obtain ⟨hc0, hf0⟩ := kept_new hb1 (heap2' w _ _)
  obtain ⟨hc1, hf1⟩ := kept_new hb1 (heap2 w _ _)
  have hbw := below_two hb1
  have hsz : w.heap.size + 1 < w1.heap.size := by have := hb1.size; simp at this; omega
  clear hb1
  go_wp2_with fail
  refine Calls.mono (H2.out _) ?_
  rintro e w2 ⟨rfl, hb2⟩
  have hc2 : ∀ j, w2.cell? ⟨w.heap.size + 1, j, none⟩ = w1.cell? ⟨w.heap.size + 1, j, none⟩ := fun j => hb2.cell (p := ⟨w.heap.size + 1, j, none⟩) hsz
  have hf2 : ∀ j, w2.frozen? ⟨w.heap.size + 1, j, none⟩ = w1.frozen? ⟨w.heap.size + 1, j, none⟩ := fun j => hb2.frozen (p := ⟨w.heap.size + 1, j, none⟩) hsz
  have hbw2 := hbw.trans (hb2.mono hbw.size)
  clear hb2
  go_wp2_with fail
  exact bodyPost_ret (v := .agg #[.int .u64 (hi t), .int .u64 (lo t)]) (by simp [results, Try.results101, go_sem, hc1, hc2]) rfl ⟨rfl, (hbw2.setCell (by simp) _).setCell (by simp) _⟩
set_option maxHeartbeats 400000 in
theorem size_pos (z : Int) (hz : Wide z) (h0 : ¬ z < 0) (w : World) :
    Calls Try.prog 101 #[wideV z] w fun e w' => e = .returned (wideV z) ∧ Below w.heap.size w w' := by
  have C1 := fun w => below_no z hz h0 w
  unfold wideV at C1 ⊢
  have H1 := Lib.hid C1
  clear C1
  go_enter Try.func101, Try.ntmps101
  go_wp2_with fail
  refine Calls.mono (H1.out _) ?_
  rintro e w1 ⟨rfl, hb1⟩
  obtain ⟨hc0, hf0⟩ := kept_new hb1 (heap2' w _ _)
  obtain ⟨hc1, hf1⟩ := kept_new hb1 (heap2 w _ _)
  have hbw := below_two hb1
  clear hb1
  go_wp2_with fail
  exact bodyPost_ret (v := .agg #[.int .u64 (hi z), .int .u64 (lo z)]) (by simp [results, Try.results101, go_sem, hc1]) rfl ⟨rfl, (hbw.setCell (by simp) _).setCell (by simp) _⟩
end Go.Proofs.Ytgdkgoiagjjccaa
