/- The contract of the law's 'is': an answer that is the big number, or ErrOver, where it is none. -/
import Derived.Test.YtfajalhpenincaaBigNumber
import Derived.Test.YtfajalhpenincaaErr
import Derived.Test.YtfajalhpenincaaOps
namespace Go.Proofs.Ytfajalhpenincaa
open Go.RowKit

set_option maxHeartbeats 1000000 in
theorem is_big (x : Value) (z : Int) (w : World) (hx : IsBig w x z) :
    Calls Try.prog 14 #[.int .i64 (numN z), numE z, x] w fun e w' => e = .returned (.bool true) ∧ Below w.heap.size w w' := by
  obtain ⟨s, A, n, c, ds, rfl, ha⟩ := hx
  have hb1 : Below w.heap.size w (w.alloc (.cells #[.bool s, .slice A n c] 25)) := (Below.refl _ w).alloc (Nat.le_refl _) _
  have C := number_big (.agg #[.bool s, .slice A n c]) z _ ⟨s, A, n, c, ds, rfl, ha.ext (stays_below hb1)⟩
  have HB := Lib.hid hb1
  have hw := wrap_same z
  by_cases hf : Fits z
  · have e1 : wrap64 z = z := hw.2 hf
    rw [e1] at C
    have e2 : numN z = z := if_pos hf
    have e3 : numE z = .nilIface := if_pos hf
    rw [e2, e3]
    rw [show decide (z = z) = true from decide_eq_true rfl] at C
    have D := Lib.hid C
    clear C hw hf e1 e2 e3 ha hb1
    go_enter Try.func14, Try.ntmps14
    go_wp2_with fail
    refine Calls.mono D.out ?_
    rintro e w3 ⟨rfl, hb3⟩
    have hbe := HB.out.trans (hb3.mono HB.out.size)
    clear hb3 D
    go_wp2_with fail
    go_ret
    exact ⟨rfl, hbe⟩
  · have e2 : numN z = 0 := if_neg hf
    have e3 : numE z = over := if_neg hf
    rw [e2, e3]
    rw [show decide (wrap64 z = z) = false from decide_eq_false (fun h => hf (hw.1 h))] at C
    obtain ⟨t, ht⟩ : ∃ t, t = wrap64 z := ⟨_, rfl⟩
    rw [← ht] at C
    have D := Lib.hid C
    have IO := fun w => is_over w
    unfold over at IO ⊢
    have HI := Lib.hid IO
    clear C hw hf e2 e3 ha hb1 ht IO
    go_enter Try.func14, Try.ntmps14
    go_wp2_with fail
    refine Calls.mono D.out ?_
    rintro e w3 ⟨rfl, hb3⟩
    have hbe := HB.out.trans (hb3.mono HB.out.size)
    clear hb3 D
    go_wp2_with fail
    refine Calls.mono (HI.out _) ?_
    rintro e w9 ⟨rfl, rfl⟩
    go_wp2_with fail
    go_ret
    exact ⟨rfl, hbe⟩
end Go.Proofs.Ytfajalhpenincaa
