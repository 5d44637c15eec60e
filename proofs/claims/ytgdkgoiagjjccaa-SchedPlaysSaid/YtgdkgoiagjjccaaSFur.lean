/- A step further with a task. -/
import Derived.Test.YtgdkgoiagjjccaaSPlan
import Derived.Deep.RegionHeld3
import Derived.Deep.DrawnRows
import Derived.BigRegion
namespace Go.Proofs.Ytgdkgoiagjjccaa
set_option maxRecDepth 100000
open Go.RowKit

def ptr (b : Nat) : Value := .pointer (some ⟨b, 0, none⟩)
def evV (k t w : Int) : Value := .agg #[.int .i64 k, .int .i64 t, .int .i64 w]
set_option maxHeartbeats 1000000 in
theorem further_mid {B : Nat} {W : World} {bp bt bw : Nat} {s : PS} {sa : Nat → Option Addr} {sc : Nat → Nat} (h : PlanAt B W bp bt bw s sa sc) (i : Nat) (hi : i < s.n) (h3 : s.kd i + 1 ≠ 3) (hk : 0 ≤ s.kd i ∧ s.kd i ≤ 3) (hp : 0 ≤ s.picks ∧ s.picks ≤ 1000000000) :
    Calls Try.prog 72 #[ptr bp, .int .i64 (i : Int)] W fun e W' => e = .returned (evV (s.kd i + 1) i (s.wk i)) ∧ PlanAt B W' bp bt bw (s.step i) sa sc ∧ Fr [bp, bt, bw] W W' := by
  unfold ptr evV
  have HH := Lib.hid h
  obtain ⟨p0, p1, p2, p3⟩ := h.pl
  obtain ⟨t0, t1, t2, t3⟩ := h.tk i hi
  have pf0 := h.pf 2
  have tf0 := h.tf (i * 4)
  obtain ⟨a1, a2, a3⟩ := h.ap
  obtain ⟨l1, l2, l3⟩ := h.hi
  have hb := h.big
  obtain ⟨k, hkk⟩ : ∃ k, k = s.kd i := ⟨_, rfl⟩
  obtain ⟨v, hv⟩ : ∃ v, v = s.wk i := ⟨_, rfl⟩
  obtain ⟨q, hq⟩ : ∃ q, q = s.picks := ⟨_, rfl⟩
  rw [← hkk] at t0 h3 hk ⊢
  rw [← hv] at t1 ⊢
  rw [← hq] at p2 hp
  have e3 : (k + 1 == 3) = false := beq_eq_false_iff_ne.2 h3
  have HKK := Lib.hid hkk
  have HV := Lib.hid hv
  have HQ := Lib.hid hq
  clear h hkk hv hq h3
  go_enter Try.func72, Try.ntmps72
  go_wp2_with fail
  generalize hW1 : World.alloc (World.setCell (World.setCell W _ _) _ _) _ = W1
  have P1 : PlanAt B W1 bp bt bw { s with picks := q + 1, kd := upd s.kd i (k + 1) } sa sc := by
    rw [← hW1]
    exact (((HH.out.setPicks (q + 1)).setKd i hi (k + 1)).alloc _)
  have F1 : Fr [bp, bt, bw] W W1 := by
    rw [← hW1]
    exact (((Fr.refl _ W).set _ _ (by simp)).set _ _ (by simp)).alloc _
  have R1 : W1.heap[W.heap.size]? = some (.cells #[.int .i64 0, .int .i64 0, .int .i64 0] 78 (0, 0)) := by
    rw [← hW1]
    have := heap_alloc_new (World.setCell (World.setCell W ⟨bp, 2, none⟩ (.int .i64 (q + 1))) ⟨bt, i * 4, none⟩ (.int .i64 (k + 1))) (.cells #[.int .i64 0, .int .i64 0, .int .i64 0] 78)
    simpa only [World.size_setCell] using this
  have HP := Lib.hid P1
  have HF := Lib.hid F1
  have HR := Lib.hid R1
  have hz : W.heap.size < W1.heap.size := (Array.getElem?_eq_some_iff.1 R1).1
  clear hW1 R1 F1 p0 p1 p2 p3 t0 t1 t2 t3 pf0 tf0
  obtain ⟨t0, t1, t2, t3⟩ := P1.tk i hi
  rw [show (PS.kd { s with picks := q + 1, kd := upd s.kd i (k + 1) }) i = k + 1 from upd_same _ _ _] at t0
  rw [show (PS.wk { s with picks := q + 1, kd := upd s.kd i (k + 1) }) i = v from HV.out.symm] at t1
  have l4 : bt < W1.heap.size := P1.hi.2.1
  clear P1 t2 t3
  go_region_held3 (fun w' => w'.cell? ⟨bt, i * 4, none⟩ = some (.int .i64 (k + 1)) ∧ w'.cell? ⟨bt, i * 4 + 1, none⟩ = some (.int .i64 v)) (go_keep) (fail)
  clear t0 t1
  generalize hW2 : World.drew (World.alloc W1 _) = W2
  have P2 : PlanAt B W2 bp bt bw { s with picks := q + 1, kd := upd s.kd i (k + 1) } sa sc := by
    rw [← hW2]; exact (HP.out.alloc _).drew
  have F2 : Fr [bp, bt, bw] W W2 := by
    rw [← hW2]; exact (HF.out.alloc _).drew
  have R2 : W2.heap[W.heap.size]? = some (.cells #[.int .i64 0, .int .i64 0, .int .i64 0] 78 (0, 0)) := by
    rw [← hW2]; exact (Below.heap_alloc _ _ _ hz).trans HR.out
  have R3 : W2.heap[W1.heap.size]? = some (.cells #[.int .i64 (k + 1), .int .i64 (i : Int), .int .i64 v] 78 (0, 0)) := by
    rw [← hW2]; exact heap_alloc_new W1 _
  have HP2 := Lib.hid P2
  have HF2 := Lib.hid F2
  have r0 := cell_of_row W2 _ 0 _ 78 (0, 0) R3
  have r1 := cell_of_row W2 _ 1 _ 78 (0, 0) R3
  have r2 := cell_of_row W2 _ 2 _ 78 (0, 0) R3
  have q0 := cell_of_row W2 _ 0 _ 78 (0, 0) R2
  have q1 := cell_of_row W2 _ 1 _ 78 (0, 0) R2
  have q2 := cell_of_row W2 _ 2 _ 78 (0, 0) R2
  have f0 : W2.frozen? ⟨W.heap.size, 0, none⟩ = false := frozen_of_row W2 _ 0 _ 78 R2
  have f1 : W2.frozen? ⟨W.heap.size, 1, none⟩ = false := frozen_of_row W2 _ 1 _ 78 R2
  have f2 : W2.frozen? ⟨W.heap.size, 2, none⟩ = false := frozen_of_row W2 _ 2 _ 78 R2
  simp only [List.getElem?_toArray, List.getElem?_cons_zero, List.getElem?_cons_succ] at r0 r1 r2 q0 q1 q2
  obtain ⟨t0, _, _, _⟩ := P2.tk i hi
  rw [show (PS.kd { s with picks := q + 1, kd := upd s.kd i (k + 1) }) i = k + 1 from upd_same _ _ _] at t0
  have HE := Lib.hid (ev_set (a := .int .i64 (k + 1)) (b := .int .i64 (i : Int)) (c := .int .i64 v) R2)
  have HPE := Lib.hid (P2.setEv R2 ⟨by omega, by omega, by omega⟩ (.int .i64 (k + 1)) (.int .i64 (i : Int)) (.int .i64 v))
  have HFE := Lib.hid (((F2.new ⟨W.heap.size, 0, none⟩ (.int .i64 (k + 1)) (Nat.le_refl _)).new ⟨W.heap.size, 1, none⟩ (.int .i64 (i : Int)) (Nat.le_refl _)).new ⟨W.heap.size, 2, none⟩ (.int .i64 v) (Nat.le_refl _))
  clear P2 F2 R2 R3 hW2 hz
  have e3' : s.kd i + 1 ≠ 3 := by rw [← HKK.out]; exact beq_eq_false_iff_ne.1 e3
  have HS := Lib.hid (show ({ s with picks := q + 1, kd := upd s.kd i (k + 1) } : PS) = s.step i by
    unfold PS.step
    rw [if_neg e3', HKK.out, HQ.out])
  clear e3'
  go_wp2_with fail
  refine bodyPost_ret (v := .agg #[.int .i64 (k + 1), .int .i64 (i : Int), .int .i64 v]) ?_ rfl ?_
  · exact results_cell_row rfl _ _ W.heap.size 78 _ (0, 0) _ rfl HE.out Try.underlying78 rfl info78
  · refine ⟨rfl, ?_, HFE.out⟩
    rw [← HS.out]
    exact HPE.out
set_option maxHeartbeats 1000000 in
theorem further_end {B : Nat} {W : World} {bp bt bw : Nat} {s : PS} {sa : Nat → Option Addr} {sc : Nat → Nat} (h : PlanAt B W bp bt bw s sa sc) (i : Nat) (hi : i < s.n) (h3 : s.kd i + 1 = 3) (hp : 0 ≤ s.picks ∧ s.picks ≤ 1000000000) (hlf : -1000000 ≤ s.left ∧ s.left ≤ 1000000) (hwk : 0 ≤ s.wk i ∧ s.wk i < (s.m : Int))
    (hwt : ∀ x, x < s.n → -1000000 ≤ s.wt x ∧ s.wt x ≤ 1000000) (hln : ∀ x ∈ s.ln i, 0 ≤ x ∧ x < (s.n : Int)) (hll : (s.ln i).length ≤ 1000000) :
    Calls Try.prog 72 #[ptr bp, .int .i64 (i : Int)] W fun e W' => e = .returned (evV (s.kd i + 1) i (s.wk i)) ∧ PlanAt B W' bp bt bw (s.step i) sa sc ∧ Fr [bp, bt, bw] W W' := by
  unfold ptr evV
  have HH := Lib.hid h
  obtain ⟨p0, p1, p2, p3⟩ := h.pl
  obtain ⟨t0, t1, t2, t3⟩ := h.tk i hi
  have pf0 := h.pf 2
  have tf0 := h.tf (i * 4)
  obtain ⟨a1, a2, a3⟩ := h.ap
  obtain ⟨l1, l2, l3⟩ := h.hi
  have hb := h.big
  obtain ⟨k, hkk⟩ : ∃ k, k = s.kd i := ⟨_, rfl⟩
  obtain ⟨v, hv⟩ : ∃ v : Nat, (v : Int) = s.wk i := ⟨(s.wk i).toNat, by omega⟩
  obtain ⟨q, hq⟩ : ∃ q, q = s.picks := ⟨_, rfl⟩
  rw [← hkk] at t0 h3 ⊢
  rw [← hv] at t1 hwk ⊢
  rw [← hq] at p2 hp
  obtain rfl : k = 2 := by omega
  have HWT := Lib.hid hwt
  have HLN := Lib.hid hln
  have HKK := Lib.hid hkk
  have HV := Lib.hid hv
  have HQ := Lib.hid hq
  clear h hkk hv hq h3 hwt hln
  go_enter Try.func72, Try.ntmps72
  go_wp2_with fail
  generalize hW1 : World.alloc (World.setCell (World.setCell W _ _) _ _) _ = W1
  have P1 : PlanAt B W1 bp bt bw { s with picks := q + 1, kd := upd s.kd i 3 } sa sc := by
    rw [← hW1]
    exact (((HH.out.setPicks (q + 1)).setKd i hi 3).alloc _)
  have F1 : Fr [bp, bt, bw] W W1 := by
    rw [← hW1]
    exact (((Fr.refl _ W).set _ _ (by simp)).set _ _ (by simp)).alloc _
  have R1 : W1.heap[W.heap.size]? = some (.cells #[.int .i64 0, .int .i64 0, .int .i64 0] 78 (0, 0)) := by
    rw [← hW1]
    have := heap_alloc_new (World.setCell (World.setCell W ⟨bp, 2, none⟩ (.int .i64 (q + 1))) ⟨bt, i * 4, none⟩ (.int .i64 3)) (.cells #[.int .i64 0, .int .i64 0, .int .i64 0] 78)
    simpa only [World.size_setCell] using this
  have HP := Lib.hid P1
  have HF := Lib.hid F1
  have HR := Lib.hid R1
  have hz : W.heap.size < W1.heap.size := (Array.getElem?_eq_some_iff.1 R1).1
  clear hW1 R1 F1 p0 p1 p2 p3 t0 t1 t2 t3 pf0 tf0
  obtain ⟨t0, t1, t2, t3⟩ := P1.tk i hi
  rw [show (PS.kd { s with picks := q + 1, kd := upd s.kd i 3 }) i = 3 from upd_same _ _ _] at t0
  rw [show (PS.wk { s with picks := q + 1, kd := upd s.kd i 3 }) i = (v : Int) from HV.out.symm] at t1
  have l4 : bt < W1.heap.size := P1.hi.2.1
  clear P1 t2 t3
  go_region_held3 (fun w' => w'.cell? ⟨bt, i * 4, none⟩ = some (.int .i64 3) ∧ w'.cell? ⟨bt, i * 4 + 1, none⟩ = some (.int .i64 (v : Int))) (go_keep) (fail)
  clear t0 t1
  generalize hW2 : World.drew (World.alloc W1 _) = W2
  have P2 : PlanAt B W2 bp bt bw { s with picks := q + 1, kd := upd s.kd i 3 } sa sc := by
    rw [← hW2]; exact (HP.out.alloc _).drew
  have F2 : Fr [bp, bt, bw] W W2 := by
    rw [← hW2]; exact (HF.out.alloc _).drew
  have R2 : W2.heap[W.heap.size]? = some (.cells #[.int .i64 0, .int .i64 0, .int .i64 0] 78 (0, 0)) := by
    rw [← hW2]; exact (Below.heap_alloc _ _ _ hz).trans HR.out
  have R3 : W2.heap[W1.heap.size]? = some (.cells #[.int .i64 3, .int .i64 (i : Int), .int .i64 (v : Int)] 78 (0, 0)) := by
    rw [← hW2]; exact heap_alloc_new W1 _
  have HP2 := Lib.hid P2
  have HF2 := Lib.hid F2
  have r0 := cell_of_row W2 _ 0 _ 78 (0, 0) R3
  have r1 := cell_of_row W2 _ 1 _ 78 (0, 0) R3
  have r2 := cell_of_row W2 _ 2 _ 78 (0, 0) R3
  have q0 := cell_of_row W2 _ 0 _ 78 (0, 0) R2
  have q1 := cell_of_row W2 _ 1 _ 78 (0, 0) R2
  have q2 := cell_of_row W2 _ 2 _ 78 (0, 0) R2
  have f0 : W2.frozen? ⟨W.heap.size, 0, none⟩ = false := frozen_of_row W2 _ 0 _ 78 R2
  have f1 : W2.frozen? ⟨W.heap.size, 1, none⟩ = false := frozen_of_row W2 _ 1 _ 78 R2
  have f2 : W2.frozen? ⟨W.heap.size, 2, none⟩ = false := frozen_of_row W2 _ 2 _ 78 R2
  simp only [List.getElem?_toArray, List.getElem?_cons_zero, List.getElem?_cons_succ] at r0 r1 r2 q0 q1 q2
  obtain ⟨t0, t1, t2, t3⟩ := P2.tk i hi
  obtain ⟨p0, p1, p2, p3⟩ := P2.pl
  rw [show (PS.kd { s with picks := q + 1, kd := upd s.kd i 3 }) i = 3 from upd_same _ _ _] at t0
  rw [show (PS.wk { s with picks := q + 1, kd := upd s.kd i 3 }) i = (v : Int) from HV.out.symm] at t1
  have pf3 := P2.pf 3
  have hz2 : W.heap.size < W2.heap.size := (Array.getElem?_eq_some_iff.1 R2).1
  have HR2 := Lib.hid R2
  have HR3 := Lib.hid R3
  have hz3 := hz
  have a4 : bw ≠ bp := fun e => a2 e.symm
  have a5 : bw ≠ bt := fun e => a3 e.symm
  have a6 : bt ≠ bp := fun e => a1 e.symm
  obtain ⟨lf, hlf2⟩ : ∃ lf, lf = s.left := ⟨_, rfl⟩
  rw [← hlf2] at hlf
  rw [show (PS.left { s with picks := q + 1, kd := upd s.kd i 3 }) = lf from hlf2.symm] at p3
  have HLF := Lib.hid hlf2
  clear P2 F2 R2 R3 hW2 hz hlf2
  go_wp2_with fail
  have P3 : PlanAt B (W2.setCell ⟨bp, 3, none⟩ (.int .i64 (lf - 1))) bp bt bw ⟨s.n, s.m, upd s.kd i 3, s.wk, s.wt, s.ln, s.ws, q + 1, lf - 1⟩ sa sc := HP2.out.setLeft (lf - 1)
  have F3 : Fr [bp, bt, bw] W (W2.setCell ⟨bp, 3, none⟩ (.int .i64 (lf - 1))) := HF2.out.set _ _ (by simp)
  have E3 : (W2.setCell ⟨bp, 3, none⟩ (.int .i64 (lf - 1))).heap[W1.heap.size]? = some (.cells #[.int .i64 3, .int .i64 (i : Int), .int .i64 (v : Int)] 78 (0, 0)) :=
    (Below.heap_setCell _ _ _ _ (show W1.heap.size ≠ bp by omega)).trans HR3.out
  have G3 : (W2.setCell ⟨bp, 3, none⟩ (.int .i64 (lf - 1))).heap[W.heap.size]? = some (.cells #[.int .i64 0, .int .i64 0, .int .i64 0] 78 (0, 0)) :=
    (Below.heap_setCell _ _ _ _ (show W.heap.size ≠ bp by omega)).trans HR2.out
  clear f0 f1 f2 r0 r1 r2 q0 q1 q2 t0 t1 t2 t3 p0 p1 p2 p3 pf3
  revert P3 F3 E3 G3
  generalize World.setCell W2 _ _ = W3
  intro P3 F3 E3 G3
  obtain ⟨t0, t1, t2, t3⟩ := P3.tk i hi
  obtain ⟨p0, p1, p2, p3⟩ := P3.pl
  rw [show (PS.wk ⟨s.n, s.m, upd s.kd i 3, s.wk, s.wt, s.ln, s.ws, q + 1, lf - 1⟩) i = (v : Int) from HV.out.symm] at t1
  have hvm : v < s.m := by omega
  have w0 := P3.wr v hvm
  have wf0 := P3.wf v
  have l5 : bt < W3.heap.size := P3.hi.2.1
  have l6 : bp < W3.heap.size := P3.hi.1
  have b1 : (0 : Int) ≤ (v : Int) := by omega
  have b2 : (v : Int) < (s.m : Int) := by omega
  have HP3 := Lib.hid P3
  have HF3 := Lib.hid F3
  have HE3 := Lib.hid E3
  have HG3 := Lib.hid G3
  clear P3 F3 E3 G3 p2 p3 t0 t2 t3 HP2 HF2 HR2
  go_region_held3 (fun w' => w'.cell? ⟨bp, 1, none⟩ = some (.slice (some ⟨bw, 0, none⟩) s.m s.m) ∧ w'.cell? ⟨bt, i * 4 + 1, none⟩ = some (.int .i64 (v : Int))) (go_keep) (fail)
  rename_i hHeld
  have P4 : PlanAt B (W3.setCell ⟨bw, v, none⟩ (.int .i64 (-1))).drew bp bt bw ⟨s.n, s.m, upd s.kd i 3, s.wk, s.wt, s.ln, upd s.ws v (-1), q + 1, lf - 1⟩ sa sc := (HP3.out.setWs v hvm (-1)).drew
  have F4 : Fr [bp, bt, bw] W (W3.setCell ⟨bw, v, none⟩ (.int .i64 (-1))).drew := (HF3.out.set _ _ (by simp)).drew
  have E4 : (W3.setCell ⟨bw, v, none⟩ (.int .i64 (-1))).drew.heap[W1.heap.size]? = some (.cells #[.int .i64 3, .int .i64 (i : Int), .int .i64 (v : Int)] 78 (0, 0)) :=
    (Below.heap_setCell _ _ _ _ (show W1.heap.size ≠ bw by omega)).trans HE3.out
  have G4 : (W3.setCell ⟨bw, v, none⟩ (.int .i64 (-1))).drew.heap[W.heap.size]? = some (.cells #[.int .i64 0, .int .i64 0, .int .i64 0] 78 (0, 0)) :=
    (Below.heap_setCell _ _ _ _ (show W.heap.size ≠ bw by omega)).trans HG3.out
  revert P4 F4 E4 G4
  generalize World.drew (World.setCell W3 _ _) = W4
  intro P4 F4 E4 G4
  obtain ⟨t0, t1, t2, t3⟩ := P4.tk i hi
  have tf1 := P4.tf (i * 4 + 1)
  have HP4 := Lib.hid P4
  have HF4 := Lib.hid F4
  have HE4 := Lib.hid E4
  have HG4 := Lib.hid G4
  have l7 : bt < W4.heap.size := P4.hi.2.1
  clear P4 F4 E4 G4 p0 p1 t0 t2 w0 wf0 HP3 HF3 HE3 HG3
  go_wp2_with fail
  have P5 : PlanAt B (W4.setCell ⟨bt, i * 4 + 1, none⟩ (.int .i64 (-1))) bp bt bw ⟨s.n, s.m, upd s.kd i 3, upd s.wk i (-1), s.wt, s.ln, upd s.ws v (-1), q + 1, lf - 1⟩ sa sc := HP4.out.setWk i hi (-1)
  have F5 : Fr [bp, bt, bw] W (W4.setCell ⟨bt, i * 4 + 1, none⟩ (.int .i64 (-1))) := (HF4.out.set _ _ (by simp))
  have E5 : (W4.setCell ⟨bt, i * 4 + 1, none⟩ (.int .i64 (-1))).heap[W1.heap.size]? = some (.cells #[.int .i64 3, .int .i64 (i : Int), .int .i64 (v : Int)] 78 (0, 0)) :=
    (Below.heap_setCell _ _ _ _ (show W1.heap.size ≠ bt by omega)).trans HE4.out
  have G5 : (W4.setCell ⟨bt, i * 4 + 1, none⟩ (.int .i64 (-1))).heap[W.heap.size]? = some (.cells #[.int .i64 0, .int .i64 0, .int .i64 0] 78 (0, 0)) :=
    (Below.heap_setCell _ _ _ _ (show W.heap.size ≠ bt by omega)).trans HG4.out
  revert P5 F5 E5 G5
  generalize World.setCell W4 _ _ = W5
  intro P5 F5 E5 G5
  have HP5 := Lib.hid P5
  have HF5 := Lib.hid F5
  have HE5 := Lib.hid E5
  have HG5 := Lib.hid G5
  clear P5 F5 E5 G5 t1 t3 tf1 l7 HP4 HF4 HE4 HG4
  go_loopw [8, 68] (fun _ x wr => ∃ k : Nat, x = .int .i64 (k : Int) ∧ k ≤ (s.ln i).length ∧ PlanAt B wr bp bt bw ⟨s.n, s.m, upd s.kd i 3, upd s.wk i (-1), decs ((s.ln i).take k) s.wt, s.ln, upd s.ws v (-1), q + 1, lf - 1⟩ sa sc ∧ Fr [bp, bt, bw] W wr ∧
    wr.heap[W1.heap.size]? = some (.cells #[.int .i64 3, .int .i64 (i : Int), .int .i64 (v : Int)] 78 (0, 0)) ∧ wr.heap[W.heap.size]? = some (.cells #[.int .i64 0, .int .i64 0, .int .i64 0] 78 (0, 0))) (fun _ x _ => (s.ln i).length - (intOf x).toNat)
  case atStart => exact ⟨0, rfl, by omega, HP5.out, HF5.out, HE5.out, HG5.out⟩
  case round =>
    obtain ⟨k, rfl, hk, P6, F6, E6, G6⟩ := hrel
    clear HP5 HF5 HE5 HG5
    have HE := Lib.hid E6
    have HG := Lib.hid G6
    have HP := Lib.hid P6
    have HF := Lib.hid F6
    by_cases hlt : k < (s.ln i).length
    · obtain ⟨g, hg, hc⟩ := P6.leaner hi hlt
      change wr.cell? ⟨g, k, none⟩ = some (.int .i64 (s.ln i)[k]) at hc
      have hx := HLN.out (s.ln i)[k] (List.getElem_mem hlt)
      obtain ⟨j, hj⟩ : ∃ j : Nat, (j : Int) = (s.ln i)[k] := ⟨(s.ln i)[k].toNat, by omega⟩
      have hjn : j < s.n := by omega
      obtain ⟨_, _, t2, _⟩ := P6.tk j hjn
      obtain ⟨p0, _, _, _⟩ := P6.pl
      have tf2 := P6.tf (j * 4 + 2)
      have hw := HWT.out j hjn
      have hd : decs ((s.ln i).take k) s.wt j = s.wt j - (((s.ln i).take k).count (j : Int) : Nat) := decs_at _ (fun y hy => (HLN.out y (List.mem_of_mem_take hy)).1) _ _
      have hcn : ((s.ln i).take k).count (j : Int) ≤ ((s.ln i).take k).length := List.count_le_length
      have hlk : ((s.ln i).take k).length ≤ k := List.length_take_le _ _
      obtain ⟨d, hdd⟩ : ∃ d, d = decs ((s.ln i).take k) s.wt j := ⟨_, rfl⟩
      have hd1 : -3000000 ≤ d := by omega
      have hd2 : d ≤ 3000000 := by omega
      change wr.cell? ⟨bt, j * 4 + 2, none⟩ = some (.int .i64 (decs ((s.ln i).take k) s.wt j)) at t2
      rw [← hdd] at t2
      rw [← hj] at hc
      have hnext : upd (decs ((s.ln i).take k) s.wt) j (d - 1) = decs ((s.ln i).take (k + 1)) s.wt := by
        rw [List.take_succ_eq_append_getElem hlt, decs_snoc, ← hj, hdd]; rfl
      have P7 : PlanAt B (wr.setCell ⟨bt, j * 4 + 2, none⟩ (.int .i64 (d - 1))) bp bt bw ⟨s.n, s.m, upd s.kd i 3, upd s.wk i (-1), decs ((s.ln i).take (k + 1)) s.wt, s.ln, upd s.ws v (-1), q + 1, lf - 1⟩ sa sc := by
        rw [← hnext]; exact P6.setWt j hjn (d - 1)
      have HP7 := Lib.hid P7
      have HF7 := Lib.hid (HF.out.set ⟨bt, j * 4 + 2, none⟩ (.int .i64 (d - 1)) (by simp))
      have HE7 := Lib.hid ((Below.heap_setCell wr ⟨bt, j * 4 + 2, none⟩ (.int .i64 (d - 1)) W1.heap.size (by show W1.heap.size ≠ bt; omega)).trans HE.out)
      have HG7 := Lib.hid ((Below.heap_setCell wr ⟨bt, j * 4 + 2, none⟩ (.int .i64 (d - 1)) W.heap.size (by show W.heap.size ≠ bt; omega)).trans HG.out)
      clear P6 F6 E6 G6 P7 hnext hd hdd hj hx hw hcn hlk HWT HLN t1 hHeld
      go_wp2_with fail
      go_roundw
      case rel => exact ⟨k + 1, by go_num, by omega, HP7.out, HF7.out, HE7.out, HG7.out⟩
      case measure => simp [intOf]; omega
    · obtain rfl : k = (s.ln i).length := by omega
      rw [List.take_length] at HP
      have r0 := cell_of_row wr _ 0 _ 78 (0, 0) E6
      have r1 := cell_of_row wr _ 1 _ 78 (0, 0) E6
      have r2 := cell_of_row wr _ 2 _ 78 (0, 0) E6
      have q0 := cell_of_row wr _ 0 _ 78 (0, 0) G6
      have q1 := cell_of_row wr _ 1 _ 78 (0, 0) G6
      have q2 := cell_of_row wr _ 2 _ 78 (0, 0) G6
      have f0 : wr.frozen? ⟨W.heap.size, 0, none⟩ = false := frozen_of_row wr _ 0 _ 78 G6
      have f1 : wr.frozen? ⟨W.heap.size, 1, none⟩ = false := frozen_of_row wr _ 1 _ 78 G6
      have f2 : wr.frozen? ⟨W.heap.size, 2, none⟩ = false := frozen_of_row wr _ 2 _ 78 G6
      simp only [List.getElem?_toArray, List.getElem?_cons_zero, List.getElem?_cons_succ] at r0 r1 r2 q0 q1 q2
      have HE2 := Lib.hid (ev_set (a := .int .i64 3) (b := .int .i64 (i : Int)) (c := .int .i64 (v : Int)) G6)
      have HPE := Lib.hid (HP.out.setEv G6 ⟨by omega, by omega, by omega⟩ (.int .i64 3) (.int .i64 (i : Int)) (.int .i64 (v : Int)))
      have HFE := Lib.hid (((F6.new ⟨W.heap.size, 0, none⟩ (.int .i64 3) (Nat.le_refl _)).new ⟨W.heap.size, 1, none⟩ (.int .i64 (i : Int)) (Nat.le_refl _)).new ⟨W.heap.size, 2, none⟩ (.int .i64 (v : Int)) (Nat.le_refl _))
      have e3' : s.kd i + 1 = 3 := by rw [← HKK.out]; rfl
      have HS := Lib.hid (show (⟨s.n, s.m, upd s.kd i 3, upd s.wk i (-1), decs (s.ln i) s.wt, s.ln, upd s.ws v (-1), q + 1, lf - 1⟩ : PS) = s.step i by
        unfold PS.step
        rw [if_pos e3', e3', HQ.out, HLF.out, ← HV.out]
        rfl)
      clear e3' P6 F6 E6 G6 t1 hHeld
      go_wp2_with fail
      refine bodyPost_ret (v := .agg #[.int .i64 3, .int .i64 (i : Int), .int .i64 (v : Int)]) ?_ rfl ?_
      · exact results_cell_row rfl _ _ W.heap.size 78 _ (0, 0) _ rfl HE2.out Try.underlying78 rfl info78
      · refine ⟨rfl, ?_, HFE.out⟩
        rw [← HS.out]
        exact HPE.out
end Go.Proofs.Ytgdkgoiagjjccaa
