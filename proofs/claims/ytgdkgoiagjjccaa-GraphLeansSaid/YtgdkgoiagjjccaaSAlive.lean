/- The chapter's example of plans stands; SchedNone. -/
import Derived.Test.YtgdkgoiagjjccaaSEv
namespace Go.Proofs.Ytgdkgoiagjjccaa
set_option maxRecDepth 100000
open Go.RowKit

theorem make_two (w : World) : (Instr.makeSlice 67 (.int .i64 2) (.int .i64 2)).run Try.prog w = .ok (.slice (some ⟨w.heap.size, 0, none⟩) 2 2) (w.alloc (.cells #[.bool false, .bool false] 4)) := by kernel_rfl
/-- The example's row of rows. -/
theorem ex_rows (w : World) : Rws (((w.alloc (.cells #[.int .i64 0] 3)).alloc (.cells #[.slice none 0 0, .slice (some ⟨w.heap.size, 0, none⟩) 1 1] 38)).alloc (.cells #[.bool false, .bool false] 4)) (some ⟨w.heap.size + 1, 0, none⟩) 2 [[], [0]] ∧
    Bls (((w.alloc (.cells #[.int .i64 0] 3)).alloc (.cells #[.slice none 0 0, .slice (some ⟨w.heap.size, 0, none⟩) 1 1] 38)).alloc (.cells #[.bool false, .bool false] 4)) (some ⟨w.heap.size + 2, 0, none⟩) 2 [false, false] := by
  have h0 : (((w.alloc (.cells #[.int .i64 0] 3)).alloc (.cells #[.slice none 0 0, .slice (some ⟨w.heap.size, 0, none⟩) 1 1] 38)).alloc (.cells #[.bool false, .bool false] 4)).heap[w.heap.size]? = some (.cells #[.int .i64 0] 3 (0, 0)) :=
    (Below.heap_alloc _ _ _ (by simp; omega)).trans ((Below.heap_alloc _ _ _ (by simp)).trans (new_at w _ _ rfl))
  have h1 : (((w.alloc (.cells #[.int .i64 0] 3)).alloc (.cells #[.slice none 0 0, .slice (some ⟨w.heap.size, 0, none⟩) 1 1] 38)).alloc (.cells #[.bool false, .bool false] 4)).heap[w.heap.size + 1]? = some (.cells #[.slice none 0 0, .slice (some ⟨w.heap.size, 0, none⟩) 1 1] 38 (0, 0)) :=
    (Below.heap_alloc _ _ _ (by simp)).trans (new_at (w.alloc _) _ _ (by simp))
  have h2 : (((w.alloc (.cells #[.int .i64 0] 3)).alloc (.cells #[.slice none 0 0, .slice (some ⟨w.heap.size, 0, none⟩) 1 1] 38)).alloc (.cells #[.bool false, .bool false] 4)).heap[w.heap.size + 2]? = some (.cells #[.bool false, .bool false] 4 (0, 0)) :=
    new_at ((w.alloc _).alloc _) _ _ (by simp)
  refine ⟨⟨rfl, by decide, fun _ => ⟨_, _, rfl, fun j hj => ?_⟩⟩, ⟨rfl, by decide, fun _ => ⟨_, _, rfl, fun j hj => ?_⟩⟩⟩
  · rcases j with _ | _ | j
    · exact ⟨none, 0, by rw [cell_of_row _ _ _ _ _ (0, 0) h1]; rfl, ⟨rfl, by simp, fun h => absurd h (by decide)⟩, by decide⟩
    · refine ⟨some ⟨w.heap.size, 0, none⟩, 1, by rw [cell_of_row _ _ _ _ _ (0, 0) h1]; rfl, ⟨rfl, by simp [Fits], fun _ => ⟨_, _, rfl, fun j hj => ?_⟩⟩, by decide⟩
      obtain rfl : j = 0 := by simp at hj; omega
      rw [cell_of_row _ _ _ _ _ (0, 0) h0]; rfl
    · omega
  · rcases j with _ | _ | j
    · rw [cell_of_row _ _ _ _ _ (0, 0) h2]; rfl
    · rw [cell_of_row _ _ _ _ _ (0, 0) h2]; rfl
    · omega
def wantC : Array Value := #[.int .i64 1, .int .i64 0, .int .i64 0, .int .i64 2, .int .i64 0, .int .i64 0, .int .i64 3, .int .i64 0, .int .i64 0, .int .i64 1, .int .i64 1, .int .i64 1]
def pickC : Array Value := #[.int .i64 0, .int .i64 1, .int .i64 1, .int .i64 1]
theorem neq_same (a b c : Int) (w : World) : (binOp .neq 78 (evV a b c) (evV a b c)).run Try.prog w = .ok (.bool false) w := by
  rw [neq_ev]; simp

theorem ex_pick (k : Nat) (v a b c : Int) (he : exE k = .ev a b c) (hw : [0, 1, 1, 1].getD k 0 = v) {B : Nat} {W : World} {bp bt bw : Nat} {sa : Nat → Option Addr} {sc : Nat → Nat} (hP : PlanAt B W bp bt bw (exS k) sa sc) (hk : k ≤ 4) :
    Calls Try.prog 44 #[ptr bp, .int .i64 v] W fun e W' => e = .returned (.tuple #[evV a b c, .nilIface]) ∧ PlanAt B W' bp bt bw (exS (k + 1)) sa sc ∧ Fr [bp, bt, bw] W W' := by
  have := pick_any hP (exInv k) (fun i => by rcases i with _ | _ | i <;> simp) (by have := exPicks k; omega) v
  rw [← hw] at this ⊢
  rw [show ((exS k).pick ([0, 1, 1, 1].getD k 0)).2 = .ev a b c from he] at this
  exact this
set_option maxHeartbeats 4000000 in
theorem alive21 (w : World) : Calls Try.prog 40 #[] w fun e w' => e = .returned (.bool true) ∧ Below w.heap.size w w' := by
  obtain ⟨hr, hb⟩ := ex_rows w
  have C := new_ok _ 2 2 _ 2 [[], [0]] [false, false] 2 _ hr hb exGood (by decide) (by decide) (fun i => by rcases i with _ | _ | i <;> simp)
  have HC := Lib.hid C
  have mk := make_two
  have H0 := Lib.hid (((((Below.refl w.heap.size w).alloc (Nat.le_refl _) (.cells #[.int .i64 0] 3)).alloc (by simp) (.cells #[.slice none 0 0, .slice (some ⟨w.heap.size, 0, none⟩) 1 1] 38))).alloc (by simp; omega) (.cells #[.bool false, .bool false] 4))
  clear hr hb C
  go_enter Try.func40, Try.ntmps40
  go_wp2_with fail
  refine Calls.mono HC.out ?_
  rintro e w2 ⟨bp, rfl, bt, bw, sa, sc, hp, hb2⟩
  unfold ptr
  simp only [World.size_alloc] at hp
  have HP := Lib.hid hp
  have HB := Lib.hid (H0.out.trans (hb2.mono (by simp; omega)))
  clear hp hb2
  go_wp2_with fail
  have l := HP.out.hi
  have HP1 := Lib.hid (((HP.out.alloc (.cells wantC 78)).alloc (.cells pickC 3)))
  have HB1 := Lib.hid ((HB.out.alloc HB.out.size (.cells wantC 78)).alloc (by rw [World.size_alloc]; have := HB.out.size; omega) (.cells pickC 3))
  have HW := Lib.hid (show ((w2.alloc (.cells wantC 78)).alloc (.cells pickC 3)).heap[w2.heap.size]? = some (.cells wantC 78 (0, 0)) from (Below.heap_alloc _ _ _ (by simp)).trans (new_at w2 _ _ rfl))
  have HQ := Lib.hid (show ((w2.alloc (.cells wantC 78)).alloc (.cells pickC 3)).heap[w2.heap.size + 1]? = some (.cells pickC 3 (0, 0)) from new_at (w2.alloc _) _ _ (by simp))
  have hz := HB.out.size
  clear HP HB HC H0
  go_loopw [4, 5, 7, 28] (fun _ _ _ x wr => ∃ k : Nat, x = .int .i64 (k : Int) ∧ k ≤ 4 ∧ PlanAt (w.heap.size + 3) wr bp bt bw (exS k) sa sc ∧ wr.heap[w2.heap.size]? = some (.cells wantC 78 (0, 0)) ∧ wr.heap[w2.heap.size + 1]? = some (.cells pickC 3 (0, 0)) ∧ Below w.heap.size w wr) (fun _ _ _ x _ => 4 - (intOf x).toNat)
  case atStart => exact ⟨0, rfl, by omega, HP1.out, HW.out, HQ.out, HB1.out⟩
  case round =>
    obtain ⟨k, rfl, hk, hP, hW, hQ, hB⟩ := hrel
    clear HP1 HW HQ HB1
    rcases (show k = 0 ∨ k = 1 ∨ k = 2 ∨ k = 3 ∨ k = 4 by omega) with rfl | rfl | rfl | rfl | rfl
    · have q0 := cell_of_row wr _ 0 _ _ (0, 0) hQ
      rw [show pickC[0]? = some (.int .i64 0) from rfl] at q0
      have C := ex_pick 0 0 1 0 0 exE0 rfl hP (by decide)
      unfold ptr evV at C
      have HC := Lib.hid C
      have HW := Lib.hid hW
      have HQ := Lib.hid hQ
      have HB := Lib.hid hB
      clear C hP hW hQ hB
      go_wp2_with fail
      refine Calls.mono HC.out ?_
      rintro e w3 ⟨rfl, hp3, hf3⟩
      have hW3 := (hf3.block w2.heap.size (Array.getElem?_eq_some_iff.1 HW.out).1 (by simp; omega)).trans HW.out
      have hQ3 := (hf3.block (w2.heap.size + 1) (Array.getElem?_eq_some_iff.1 HQ.out).1 (by simp; omega)).trans HQ.out
      have HP3 := Lib.hid hp3
      have HB3 := Lib.hid (Fr.below HB.out hf3 HB.out.size (by intro b hb; simp at hb; have := hp3.lo; omega))
      have HW3 := Lib.hid hW3
      have HQ3 := Lib.hid hQ3
      have r0 := cell_of_row w3 _ 0 _ _ (0, 0) hW3
      have r1 := cell_of_row w3 _ 1 _ _ (0, 0) hW3
      have r2 := cell_of_row w3 _ 2 _ _ (0, 0) hW3
      rw [show wantC[0]? = some (.int .i64 1) from rfl] at r0
      rw [show wantC[1]? = some (.int .i64 0) from rfl] at r1
      rw [show wantC[2]? = some (.int .i64 0) from rfl] at r2
      have hl3 : w2.heap.size < w3.heap.size := (Array.getElem?_eq_some_iff.1 hW3).1
      have ne := neq_same 1 0 0
      unfold evV at ne
      clear hp3 hf3 hW3 hQ3 q0
      go_wp2_with fail
      go_quiet (fail)
      have HP4 := Lib.hid ((HP3.out.alloc (.cells #[.int .i64 1, .int .i64 0, .int .i64 0] 78)).drewN nq)
      have HB4 : Hid (Below w.heap.size w ((w3.alloc (.cells #[.int .i64 1, .int .i64 0, .int .i64 0] 78)).drewN nq)) := ⟨(HB3.out.alloc HB3.out.size (.cells #[.int .i64 1, .int .i64 0, .int .i64 0] 78)).os, (HB3.out.alloc HB3.out.size (.cells #[.int .i64 1, .int .i64 0, .int .i64 0] 78)).tape, (HB3.out.alloc HB3.out.size (.cells #[.int .i64 1, .int .i64 0, .int .i64 0] 78)).output, (HB3.out.alloc HB3.out.size (.cells #[.int .i64 1, .int .i64 0, .int .i64 0] 78)).size, (HB3.out.alloc HB3.out.size (.cells #[.int .i64 1, .int .i64 0, .int .i64 0] 78)).block⟩
      have HW4 : Hid (((w3.alloc (.cells #[.int .i64 1, .int .i64 0, .int .i64 0] 78)).drewN nq).heap[w2.heap.size]? = _) := (Below.heap_alloc w3 (.cells #[.int .i64 1, .int .i64 0, .int .i64 0] 78) _ (Array.getElem?_eq_some_iff.1 HW3.out).1).trans HW3.out
      have HQ4 : Hid (((w3.alloc (.cells #[.int .i64 1, .int .i64 0, .int .i64 0] 78)).drewN nq).heap[w2.heap.size + 1]? = _) := (Below.heap_alloc w3 (.cells #[.int .i64 1, .int .i64 0, .int .i64 0] 78) _ (Array.getElem?_eq_some_iff.1 HQ3.out).1).trans HQ3.out
      clear r0 r1 r2 ne
      go_wp2_with fail
      go_roundw
      case rel => exact ⟨1, rfl, by omega, HP4.out, HW4.out, HQ4.out, HB4.out⟩
      case measure => simp [intOf]
    · have q0 := cell_of_row wr _ 1 _ _ (0, 0) hQ
      rw [show pickC[1]? = some (.int .i64 1) from rfl] at q0
      have C := ex_pick 1 1 2 0 0 exE1 rfl hP (by decide)
      unfold ptr evV at C
      have HC := Lib.hid C
      have HW := Lib.hid hW
      have HQ := Lib.hid hQ
      have HB := Lib.hid hB
      clear C hP hW hQ hB
      go_wp2_with fail
      refine Calls.mono HC.out ?_
      rintro e w3 ⟨rfl, hp3, hf3⟩
      have hW3 := (hf3.block w2.heap.size (Array.getElem?_eq_some_iff.1 HW.out).1 (by simp; omega)).trans HW.out
      have hQ3 := (hf3.block (w2.heap.size + 1) (Array.getElem?_eq_some_iff.1 HQ.out).1 (by simp; omega)).trans HQ.out
      have HP3 := Lib.hid hp3
      have HB3 := Lib.hid (Fr.below HB.out hf3 HB.out.size (by intro b hb; simp at hb; have := hp3.lo; omega))
      have HW3 := Lib.hid hW3
      have HQ3 := Lib.hid hQ3
      have r0 := cell_of_row w3 _ 3 _ _ (0, 0) hW3
      have r1 := cell_of_row w3 _ 4 _ _ (0, 0) hW3
      have r2 := cell_of_row w3 _ 5 _ _ (0, 0) hW3
      rw [show wantC[3]? = some (.int .i64 2) from rfl] at r0
      rw [show wantC[4]? = some (.int .i64 0) from rfl] at r1
      rw [show wantC[5]? = some (.int .i64 0) from rfl] at r2
      have hl3 : w2.heap.size < w3.heap.size := (Array.getElem?_eq_some_iff.1 hW3).1
      have ne := neq_same 2 0 0
      unfold evV at ne
      clear hp3 hf3 hW3 hQ3 q0
      go_wp2_with fail
      go_quiet (fail)
      have HP4 := Lib.hid ((HP3.out.alloc (.cells #[.int .i64 2, .int .i64 0, .int .i64 0] 78)).drewN nq)
      have HB4 : Hid (Below w.heap.size w ((w3.alloc (.cells #[.int .i64 2, .int .i64 0, .int .i64 0] 78)).drewN nq)) := ⟨(HB3.out.alloc HB3.out.size (.cells #[.int .i64 2, .int .i64 0, .int .i64 0] 78)).os, (HB3.out.alloc HB3.out.size (.cells #[.int .i64 2, .int .i64 0, .int .i64 0] 78)).tape, (HB3.out.alloc HB3.out.size (.cells #[.int .i64 2, .int .i64 0, .int .i64 0] 78)).output, (HB3.out.alloc HB3.out.size (.cells #[.int .i64 2, .int .i64 0, .int .i64 0] 78)).size, (HB3.out.alloc HB3.out.size (.cells #[.int .i64 2, .int .i64 0, .int .i64 0] 78)).block⟩
      have HW4 : Hid (((w3.alloc (.cells #[.int .i64 2, .int .i64 0, .int .i64 0] 78)).drewN nq).heap[w2.heap.size]? = _) := (Below.heap_alloc w3 (.cells #[.int .i64 2, .int .i64 0, .int .i64 0] 78) _ (Array.getElem?_eq_some_iff.1 HW3.out).1).trans HW3.out
      have HQ4 : Hid (((w3.alloc (.cells #[.int .i64 2, .int .i64 0, .int .i64 0] 78)).drewN nq).heap[w2.heap.size + 1]? = _) := (Below.heap_alloc w3 (.cells #[.int .i64 2, .int .i64 0, .int .i64 0] 78) _ (Array.getElem?_eq_some_iff.1 HQ3.out).1).trans HQ3.out
      clear r0 r1 r2 ne
      go_wp2_with fail
      go_roundw
      case rel => exact ⟨2, rfl, by omega, HP4.out, HW4.out, HQ4.out, HB4.out⟩
      case measure => simp [intOf]
    · have q0 := cell_of_row wr _ 2 _ _ (0, 0) hQ
      rw [show pickC[2]? = some (.int .i64 1) from rfl] at q0
      have C := ex_pick 2 1 3 0 0 exE2 rfl hP (by decide)
      unfold ptr evV at C
      have HC := Lib.hid C
      have HW := Lib.hid hW
      have HQ := Lib.hid hQ
      have HB := Lib.hid hB
      clear C hP hW hQ hB
      go_wp2_with fail
      refine Calls.mono HC.out ?_
      rintro e w3 ⟨rfl, hp3, hf3⟩
      have hW3 := (hf3.block w2.heap.size (Array.getElem?_eq_some_iff.1 HW.out).1 (by simp; omega)).trans HW.out
      have hQ3 := (hf3.block (w2.heap.size + 1) (Array.getElem?_eq_some_iff.1 HQ.out).1 (by simp; omega)).trans HQ.out
      have HP3 := Lib.hid hp3
      have HB3 := Lib.hid (Fr.below HB.out hf3 HB.out.size (by intro b hb; simp at hb; have := hp3.lo; omega))
      have HW3 := Lib.hid hW3
      have HQ3 := Lib.hid hQ3
      have r0 := cell_of_row w3 _ 6 _ _ (0, 0) hW3
      have r1 := cell_of_row w3 _ 7 _ _ (0, 0) hW3
      have r2 := cell_of_row w3 _ 8 _ _ (0, 0) hW3
      rw [show wantC[6]? = some (.int .i64 3) from rfl] at r0
      rw [show wantC[7]? = some (.int .i64 0) from rfl] at r1
      rw [show wantC[8]? = some (.int .i64 0) from rfl] at r2
      have hl3 : w2.heap.size < w3.heap.size := (Array.getElem?_eq_some_iff.1 hW3).1
      have ne := neq_same 3 0 0
      unfold evV at ne
      clear hp3 hf3 hW3 hQ3 q0
      go_wp2_with fail
      go_quiet (fail)
      have HP4 := Lib.hid ((HP3.out.alloc (.cells #[.int .i64 3, .int .i64 0, .int .i64 0] 78)).drewN nq)
      have HB4 : Hid (Below w.heap.size w ((w3.alloc (.cells #[.int .i64 3, .int .i64 0, .int .i64 0] 78)).drewN nq)) := ⟨(HB3.out.alloc HB3.out.size (.cells #[.int .i64 3, .int .i64 0, .int .i64 0] 78)).os, (HB3.out.alloc HB3.out.size (.cells #[.int .i64 3, .int .i64 0, .int .i64 0] 78)).tape, (HB3.out.alloc HB3.out.size (.cells #[.int .i64 3, .int .i64 0, .int .i64 0] 78)).output, (HB3.out.alloc HB3.out.size (.cells #[.int .i64 3, .int .i64 0, .int .i64 0] 78)).size, (HB3.out.alloc HB3.out.size (.cells #[.int .i64 3, .int .i64 0, .int .i64 0] 78)).block⟩
      have HW4 : Hid (((w3.alloc (.cells #[.int .i64 3, .int .i64 0, .int .i64 0] 78)).drewN nq).heap[w2.heap.size]? = _) := (Below.heap_alloc w3 (.cells #[.int .i64 3, .int .i64 0, .int .i64 0] 78) _ (Array.getElem?_eq_some_iff.1 HW3.out).1).trans HW3.out
      have HQ4 : Hid (((w3.alloc (.cells #[.int .i64 3, .int .i64 0, .int .i64 0] 78)).drewN nq).heap[w2.heap.size + 1]? = _) := (Below.heap_alloc w3 (.cells #[.int .i64 3, .int .i64 0, .int .i64 0] 78) _ (Array.getElem?_eq_some_iff.1 HQ3.out).1).trans HQ3.out
      clear r0 r1 r2 ne
      go_wp2_with fail
      go_roundw
      case rel => exact ⟨3, rfl, by omega, HP4.out, HW4.out, HQ4.out, HB4.out⟩
      case measure => simp [intOf]
    · have q0 := cell_of_row wr _ 3 _ _ (0, 0) hQ
      rw [show pickC[3]? = some (.int .i64 1) from rfl] at q0
      have C := ex_pick 3 1 1 1 1 exE3 rfl hP (by decide)
      unfold ptr evV at C
      have HC := Lib.hid C
      have HW := Lib.hid hW
      have HQ := Lib.hid hQ
      have HB := Lib.hid hB
      clear C hP hW hQ hB
      go_wp2_with fail
      refine Calls.mono HC.out ?_
      rintro e w3 ⟨rfl, hp3, hf3⟩
      have hW3 := (hf3.block w2.heap.size (Array.getElem?_eq_some_iff.1 HW.out).1 (by simp; omega)).trans HW.out
      have hQ3 := (hf3.block (w2.heap.size + 1) (Array.getElem?_eq_some_iff.1 HQ.out).1 (by simp; omega)).trans HQ.out
      have HP3 := Lib.hid hp3
      have HB3 := Lib.hid (Fr.below HB.out hf3 HB.out.size (by intro b hb; simp at hb; have := hp3.lo; omega))
      have HW3 := Lib.hid hW3
      have HQ3 := Lib.hid hQ3
      have r0 := cell_of_row w3 _ 9 _ _ (0, 0) hW3
      have r1 := cell_of_row w3 _ 10 _ _ (0, 0) hW3
      have r2 := cell_of_row w3 _ 11 _ _ (0, 0) hW3
      rw [show wantC[9]? = some (.int .i64 1) from rfl] at r0
      rw [show wantC[10]? = some (.int .i64 1) from rfl] at r1
      rw [show wantC[11]? = some (.int .i64 1) from rfl] at r2
      have hl3 : w2.heap.size < w3.heap.size := (Array.getElem?_eq_some_iff.1 hW3).1
      have ne := neq_same 1 1 1
      unfold evV at ne
      clear hp3 hf3 hW3 hQ3 q0
      go_wp2_with fail
      go_quiet (fail)
      have HP4 := Lib.hid ((HP3.out.alloc (.cells #[.int .i64 1, .int .i64 1, .int .i64 1] 78)).drewN nq)
      have HB4 : Hid (Below w.heap.size w ((w3.alloc (.cells #[.int .i64 1, .int .i64 1, .int .i64 1] 78)).drewN nq)) := ⟨(HB3.out.alloc HB3.out.size (.cells #[.int .i64 1, .int .i64 1, .int .i64 1] 78)).os, (HB3.out.alloc HB3.out.size (.cells #[.int .i64 1, .int .i64 1, .int .i64 1] 78)).tape, (HB3.out.alloc HB3.out.size (.cells #[.int .i64 1, .int .i64 1, .int .i64 1] 78)).output, (HB3.out.alloc HB3.out.size (.cells #[.int .i64 1, .int .i64 1, .int .i64 1] 78)).size, (HB3.out.alloc HB3.out.size (.cells #[.int .i64 1, .int .i64 1, .int .i64 1] 78)).block⟩
      have HW4 : Hid (((w3.alloc (.cells #[.int .i64 1, .int .i64 1, .int .i64 1] 78)).drewN nq).heap[w2.heap.size]? = _) := (Below.heap_alloc w3 (.cells #[.int .i64 1, .int .i64 1, .int .i64 1] 78) _ (Array.getElem?_eq_some_iff.1 HW3.out).1).trans HW3.out
      have HQ4 : Hid (((w3.alloc (.cells #[.int .i64 1, .int .i64 1, .int .i64 1] 78)).drewN nq).heap[w2.heap.size + 1]? = _) := (Below.heap_alloc w3 (.cells #[.int .i64 1, .int .i64 1, .int .i64 1] 78) _ (Array.getElem?_eq_some_iff.1 HQ3.out).1).trans HQ3.out
      clear r0 r1 r2 ne
      go_wp2_with fail
      go_roundw
      case rel => exact ⟨4, rfl, by omega, HP4.out, HW4.out, HQ4.out, HB4.out⟩
      case measure => simp [intOf]
    · have C1 := picks_any hP
      have C2 := left_any hP
      rw [exS4.1] at C1
      rw [exS4.2] at C2
      unfold ptr at C1 C2
      have HC1 := Lib.hid C1
      have HC2 := Lib.hid C2
      have HB := Lib.hid hB
      clear C1 C2 hP hW hQ hB
      go_wp2_with fail
      refine Calls.mono HC1.out ?_
      rintro e w3 ⟨rfl, rfl⟩
      go_wp2_with fail
      refine Calls.mono HC2.out ?_
      rintro e w3 ⟨rfl, rfl⟩
      go_wp2_with fail
      go_ret
      exact ⟨rfl, HB.out⟩
end Go.Proofs.Ytgdkgoiagjjccaa
