/- The contracts of the document's Shape and of layer 6's alive. -/
import Derived.Test.YtkeckjgihjpfbaaDoorEnc
import Derived.Test.YtkeckjgihjpfbaaDoorFault
namespace Go.Proofs.YtkeckjgihjpfbaaDoor
set_option maxRecDepth 100000
open Go.RowKit

set_option maxHeartbeats 2000000 in
theorem refshape_any (op : Int) (w : World) : Calls Tryd.prog 26 #[.int .i64 op] w fun e w' => e = .returned (.string (strN (shapeL op))) ∧ w = w' := by
  by_cases h : 0 ≤ op ∧ op < 16
  · have h16 : op = 0 ∨ op = 1 ∨ op = 2 ∨ op = 3 ∨ op = 4 ∨ op = 5 ∨ op = 6 ∨ op = 7 ∨ op = 8 ∨ op = 9 ∨ op = 10 ∨ op = 11 ∨ op = 12 ∨ op = 13 ∨ op = 14 ∨ op = 15 := by omega
    clear h
    rcases h16 with rfl | rfl | rfl | rfl | rfl | rfl | rfl | rfl | rfl | rfl | rfl | rfl | rfl | rfl | rfl | rfl
    all_goals
      go_enter Tryd.func26, Tryd.ntmps26
      go_wp2_with fail
      go_ret
      exact ⟨rfl, rfl⟩
  · have h' : op < 0 ∨ 16 ≤ op := by omega
    rw [shapeL_none op h', strN_nil]
    have e : ∀ k : Int, 0 ≤ k → k < 16 → (op == k) = false := fun k h1 h2 => by rw [beq_eq_false_iff_ne]; omega
    have e0 := e 0 (by omega) (by omega)
    have e1 := e 1 (by omega) (by omega)
    have e7 := e 7 (by omega) (by omega)
    have e8 := e 8 (by omega) (by omega)
    have e9 := e 9 (by omega) (by omega)
    have e10 := e 10 (by omega) (by omega)
    have e11 := e 11 (by omega) (by omega)
    have e12 := e 12 (by omega) (by omega)
    have e13 := e 13 (by omega) (by omega)
    have e14 := e 14 (by omega) (by omega)
    have e15 := e 15 (by omega) (by omega)
    clear e h
    rcases h' with h | h
    · have d1 : decide ((2 : Int) ≤ op) = false := decide_eq_false (by omega)
      clear h
      go_enter Tryd.func26, Tryd.ntmps26
      go_wp2_with fail
      go_ret
      exact ⟨rfl, rfl⟩
    · have d1 : decide ((2 : Int) ≤ op) = true := decide_eq_true (by omega)
      have d2 : decide (op ≤ (6 : Int)) = false := decide_eq_false (by omega)
      clear h
      go_enter Tryd.func26, Tryd.ntmps26
      go_wp2_with fail
      go_ret
      exact ⟨rfl, rfl⟩
def out1 : Ins := ⟨15, 1, 0, 0, 0, 0⟩
theorem alive_chk : chk 5 [out1] = -2 := by decide +kernel
theorem alive_enc : encP 5 [out1] = [5, 1, 15, 1] := by decide +kernel
theorem alive_chk0 : chk 0 [] = -1 := by decide +kernel
theorem alive_str : strN [5, 1, 15, 1] = { data := #[5, 1, 15, 1] } := by rfl
theorem alive_codes (w : World) : Codes (w.alloc (.cells #[.int .i64 15, .int .i64 1, .int .i64 0, .int .i64 0, .int .i64 0, .int .i64 0] 43)) (some ⟨w.heap.size, 0, none⟩) 1 [out1] := by
  refine ⟨rfl, rfl, fun _ => ⟨_, _, rfl, fun j u hj => ?_⟩⟩
  rw [cell_of_row _ _ _ _ 43 (0, 0) (heap_alloc_new w _), Nat.zero_add]
  exact (show (#[Value.int .i64 15, .int .i64 1, .int .i64 0, .int .i64 0, .int .i64 0, .int .i64 0])[j]? = (insV [out1])[j]? by simp [insV, out1, Ins.vals]).trans hj
theorem codes_nil (w : World) : Codes w none 0 [] := ⟨rfl, rfl, fun h => absurd h (by omega)⟩
set_option maxHeartbeats 2000000 in
theorem alive_any (w : World) (hT : Tab w) : Calls Tryd.prog 11 #[] w fun e w' => e = .returned (.bool true) ∧ Below w.heap.size w w' := by
  have hb1 := (Below.refl w.heap.size w).alloc (Nat.le_refl _) (.cells #[.int .i64 15, .int .i64 1, .int .i64 0, .int .i64 0, .int .i64 0, .int .i64 0] 43)
  have HB1 := Lib.hid hb1
  have HT := Lib.hid hT
  have HE := Lib.hid (encode_any 5 (some ⟨w.heap.size, 0, none⟩) 1 1 [out1] _ (hT.ext hb1) (alive_codes w) (by omega) (fun x hx => by simp at hx; subst hx; unfold Fits out1; decide))
  clear hT hb1
  go_enter Tryd.func11, Tryd.ntmps11
  go_wp2_with fail
  refine Calls.mono HE.out ?_
  rintro e w2 ⟨he, hb2⟩
  have HB2 := Lib.hid (HB1.out.trans (hb2.mono HB1.out.size))
  clear hb2
  rcases he with ⟨_, A, c, rfl, hr, _⟩ | ⟨hne, _⟩
  · rw [show (5 : Int).toNat = 5 from rfl, alive_enc] at hr ⊢
    have es := run_str w2 A 4 c [5, 1, 15, 1] hr
    rw [alive_str] at es
    have HC := Lib.hid (check_any 0 none 0 0 [] w2 (HT.out.ext HB2.out) (codes_nil w2) (by omega))
    have HCC := Lib.hid alive_chk0
    clear hr
    go_wp2_with fail
    refine Calls.mono HC.out ?_
    rintro e w3 ⟨he, hb3⟩
    have HB3 := Lib.hid (HB2.out.trans (hb3.mono HB2.out.size))
    clear hb3
    rcases he with ⟨h, _⟩ | ⟨_, b, rfl, _, hf⟩
    · rw [HCC.out] at h; cases h
    · have HF := Lib.hid (is_fault b _ w3 hf)
      clear hf
      go_wp2_with fail
      refine Calls.mono HF.out ?_
      rintro e w4 ⟨rfl, rfl⟩
      go_wp2_with fail
      go_ret
      exact ⟨rfl, HB3.out⟩
  · exact absurd alive_chk hne
end Go.Proofs.YtkeckjgihjpfbaaDoor
