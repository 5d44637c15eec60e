/- The fixed fact that each statement asks first: the chapter's examples. -/
import Derived.Test.YtfajalhpenincaaErr
import Derived.Test.YtfajalhpenincaaTotal
import Derived.Test.YtfajalhpenincaaScale2
namespace Go.Proofs.Ytfajalhpenincaa
open Go.RowKit

theorem ex_fits : Fits 4611686018427387904 ∧ Fits 6 ∧ Fits 8 ∧ Fits 9223372036854775807 ∧ Fits 1 := by unfold Fits; decide
theorem scale_ex (w : World) : Calls Try.prog 26 #[.int .i64 4611686018427387904, .int .i64 6, .int .i64 8] w fun e w' => e = .returned (.tuple #[.int .i64 3458764513820540928, .nilIface]) ∧ Below w.heap.size w w' := by
  have e1 : hi ((4611686018427387904 * 6 : Int).natAbs : Int) = 1 := by decide
  have e2 : lo ((4611686018427387904 * 6 : Int).natAbs : Int) = 9223372036854775808 := by decide
  have e3 : lo ((8 : Int).natAbs : Int) = 8 := by decide
  have e4 : lo 3458764513820540928 = 3458764513820540928 := by decide
  have h := scale_num 4611686018427387904 6 8 ex_fits.1 ex_fits.2.1 ex_fits.2.2.1 (by rw [e1, e3]; decide) 3458764513820540928 0 3458764513820540928 (by decide) (by decide) (by unfold Wide; decide)
    (fun w => by rw [e1, e2, e3, e4]; exact div64_ex w) w
  have e5 : numN 3458764513820540928 = 3458764513820540928 := by decide
  have e6 : numE 3458764513820540928 = .nilIface := by unfold numE; rw [if_pos (by decide)]
  rw [e5, e6] at h
  exact h
theorem add_ex (w : World) : Calls Try.prog 11 #[.int .i64 9223372036854775807, .int .i64 1] w fun e w' => e = .returned (.tuple #[.int .i64 0, over]) ∧ Below w.heap.size w w' := by
  have h := add_any 9223372036854775807 1 ex_fits.2.2.2.1 ex_fits.2.2.2.2 w
  rw [numV_no (by unfold Fits; decide)] at h
  exact h
def exL : List Int := [9223372036854775807, 1, -1]
def exV : Array Value := #[.int .i64 9223372036854775807, .int .i64 1, .int .i64 (-1)]
theorem ex_nums (w : World) : Nums (w.alloc (.cells exV 3)) (some ⟨w.heap.size, 0, none⟩) 3 exL := by
  refine ⟨rfl, ?_, fun _ => ⟨_, _, rfl, fun j hj => ?_⟩⟩
  · unfold exL Fits; decide
  · rw [Nat.zero_add, World.cell?_alloc_mark]
    match j, hj with
    | 0, _ => rfl
    | 1, _ => rfl
    | 2, _ => rfl
theorem total_ex (w : World) : Calls Try.prog 23 #[.slice (some ⟨w.heap.size, 0, none⟩) 3 3] (w.alloc (.cells exV 3)) fun e w' => e = .returned (.tuple #[.int .i64 9223372036854775807, .nilIface]) ∧ Below w.heap.size w w' := by
  have h := total_any _ 3 3 exL _ (ex_nums w) (by decide)
  have e5 : numN (sumZ exL) = 9223372036854775807 := by decide
  have e6 : numE (sumZ exL) = .nilIface := by
    have : sumZ exL = 9223372036854775807 := by decide
    rw [this]; unfold numE; rw [if_pos (by decide)]
  rw [e5, e6] at h
  exact Calls.mono h fun e w' hh => ⟨hh.1, ((Below.refl _ w).alloc (Nat.le_refl _) _).trans (hh.2.mono (by simp))⟩

set_option maxHeartbeats 1000000 in
set_option maxRecDepth 100000 in
theorem alive_any (w : World) : Calls Try.prog 9 #[] w fun e w' => e = .returned (.bool true) ∧ Below w.heap.size w w' := by
  have C1 := fun w => total_ex w
  have C2 := fun w => scale_ex w
  have C3 := fun w => add_ex w
  have C4 := fun w => is_over w
  unfold exV at C1
  unfold over at C3 C4
  have H1 := Lib.hid C1
  have H2 := Lib.hid C2
  have H3 := Lib.hid C3
  have H4 := Lib.hid C4
  clear C1 C2 C3 C4
  go_enter Try.func9, Try.ntmps9
  go_wp2_with fail
  refine Calls.mono (H1.out _) ?_
  rintro e w1 ⟨rfl, hb1⟩
  go_wp2_with fail
  refine Calls.mono (H2.out _) ?_
  rintro e w2 ⟨rfl, hb2⟩
  go_wp2_with fail
  refine Calls.mono (H3.out _) ?_
  rintro e w3 ⟨rfl, hb3⟩
  have hbw := (hb1.trans (hb2.mono hb1.size)).trans (hb3.mono (Nat.le_trans hb1.size hb2.size))
  have HB := Lib.hid hbw
  clear hb1 hb2 hb3 hbw
  go_wp2_with fail
  refine Calls.mono (H4.out _) ?_
  rintro e w4 ⟨rfl, rfl⟩
  go_wp2_with fail
  go_ret
  exact ⟨rfl, HB.out⟩
end Go.Proofs.Ytfajalhpenincaa
