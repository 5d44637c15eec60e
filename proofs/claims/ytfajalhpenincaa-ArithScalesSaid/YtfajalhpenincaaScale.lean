/- The contract of arith.Scale, given what bits.Div64 answers of its halves. -/
import Derived.Test.YtfajalhpenincaaDiv
import Derived.Deep.RegionWith
import Derived.Deep.CutRange
namespace Go.Proofs.Ytfajalhpenincaa
open Go.RowKit

theorem run_upper (x y : Int) (w : World) : (Instr.field 49 (.agg #[.int .u64 x, .int .u64 y]) 0).run Try.prog w = .ok (.int .u64 x) w := by kernel_rfl

theorem lt_two (n : Nat) : n < n + 2 := by omega
theorem lt_one (n : Nat) : n + 1 < n + 2 := by omega
theorem from_drew {B : Nat} {w3 w4 : World} (hB : B ≤ w3.heap.size) (hb : Below w3.drew.heap.size w3.drew w4) : Below B w3 w4 := (Below.refl _ w3).drew.trans (hb.mono (by simpa using hB))
theorem from_step {B : Nat} {w3 w4 w5 : World} (hB : B ≤ w3.heap.size) (m : Below B w3 w4) (hb : Below w4.heap.size w4 w5) : Below B w3 w5 := m.trans (hb.mono (Nat.le_trans hB m.size))

set_option maxHeartbeats 2000000 in
theorem scale_over (a b c : Int) (ha : Fits a) (hb : Fits b) (hc : Fits c) (h : lo (c.natAbs : Int) ≤ hi ((a * b).natAbs : Int)) (w : World) :
    Calls Try.prog 26 #[.int .i64 a, .int .i64 b, .int .i64 c] w fun e w' => e = .returned (.tuple #[.int .i64 0, over]) ∧ Below w.heap.size w w' := by
  have P := fun w => product_any a b ha hb w
  have W := fun w => widen_any c hc w
  have B1 := fun w => below_any (a * b) (prod_wide ha hb) w
  have B2 := fun w => below_any c (fits_wide hc) w
  have S1 := fun w => size_any (a * b) (prod_wide ha hb) w
  have S2 := fun w => size_any c (fits_wide hc) w
  unfold wideV at *
  obtain ⟨p, hp⟩ : ∃ p, p = a * b := ⟨_, rfl⟩
  rw [← hp] at P B1 S1 h
  obtain ⟨pa, hpa⟩ : ∃ x, x = ((p.natAbs : Nat) : Int) := ⟨_, rfl⟩
  obtain ⟨ca, hca⟩ : ∃ x, x = ((c.natAbs : Nat) : Int) := ⟨_, rfl⟩
  rw [← hpa] at S1 h
  rw [← hca] at S2 h
  obtain ⟨x, hx⟩ : ∃ x, x = decide (p < 0) := ⟨_, rfl⟩
  obtain ⟨y, hy⟩ : ∃ y, y = decide (c < 0) := ⟨_, rfl⟩
  rw [← hx] at B1
  rw [← hy] at B2
  have HP := Lib.hid P
  have HW := Lib.hid W
  have HB1 := Lib.hid B1
  have HB2 := Lib.hid B2
  have HS1 := Lib.hid S1
  have HS2 := Lib.hid S2
  clear P W B1 B2 S1 S2 hp hpa hca hx hy ha hb hc
  unfold over
  go_enter Try.func26, Try.ntmps26
  go_wp2_with fail
  refine Calls.mono (HP.out _) ?_
  rintro e w1 ⟨rfl, hb1⟩
  go_wp2_with fail
  refine Calls.mono (HW.out _) ?_
  rintro e w2 ⟨rfl, hb2⟩
  have hbw2 : Below w.heap.size w w2 := hb1.trans (hb2.mono hb1.size)
  clear hb1 hb2
  go_wp2_with fail
  go_region_held3 (fun w' => w'.cell? ⟨w2.heap.size, 0, none⟩ = some (.int .u64 (hi p)) ∧ w'.cell? ⟨w2.heap.size, 1, none⟩ = some (.int .u64 (lo p)) ∧ w'.cell? ⟨w2.heap.size + 1, 0, none⟩ = some (.int .u64 (hi c)) ∧ w'.cell? ⟨w2.heap.size + 1, 1, none⟩ = some (.int .u64 (lo c)) ∧ w2.heap.size + 1 < w'.heap.size ∧ Below w2.heap.size w2 w' ∧
      w'.frozen? ⟨w2.heap.size, 0, none⟩ = false ∧ w'.frozen? ⟨w2.heap.size, 1, none⟩ = false ∧ w'.frozen? ⟨w2.heap.size + 1, 0, none⟩ = false ∧ w'.frozen? ⟨w2.heap.size + 1, 1, none⟩ = false)
    (first | (refine ⟨by simp [go_sem], by simp [go_sem], by simp [go_sem], by simp [go_sem], by simp, ?_, by simp [go_sem], by simp [go_sem], by simp [go_sem], by simp [go_sem]⟩; exact (((Below.refl _ w2).alloc (Nat.le_refl _) _).alloc (by simp) _).drew) | go_keep | (go_split_ands; exact ⟨(hbK.cell (p := ⟨w2.heap.size, 0, none⟩) (by simp; omega)).trans (by assumption), (hbK.cell (p := ⟨w2.heap.size, 1, none⟩) (by simp; omega)).trans (by assumption), (hbK.cell (p := ⟨w2.heap.size + 1, 0, none⟩) (by assumption)).trans (by assumption), (hbK.cell (p := ⟨w2.heap.size + 1, 1, none⟩) (by assumption)).trans (by assumption), Nat.lt_of_lt_of_le (by assumption) hbK.size, Below.trans (by assumption) (hbK.mono (by omega)), (hbK.frozen (p := ⟨w2.heap.size, 0, none⟩) (by simp; omega)).trans (by assumption), (hbK.frozen (p := ⟨w2.heap.size, 1, none⟩) (by simp; omega)).trans (by assumption), (hbK.frozen (p := ⟨w2.heap.size + 1, 0, none⟩) (by assumption)).trans (by assumption), (hbK.frozen (p := ⟨w2.heap.size + 1, 1, none⟩) (by assumption)).trans (by assumption)⟩))
    (first | (go_at_call 37; refine Calls.mono (HB1.out _) ?_; rintro e w3 ⟨rfl, hbK⟩) | (go_at_call 37; refine Calls.mono (HB2.out _) ?_; rintro e w3 ⟨rfl, hbK⟩))
  rename_i hHeld
  obtain ⟨k1, k2, k3, k4, k5, k6, f1, f2, f3, f4⟩ := hHeld
  clear hbK
  go_upto_region 3 with fail
  go_cut [] from 24 to 27 (fun wx => wx.cell? ⟨w2.heap.size, 0, none⟩ = some (.int .u64 (hi pa)) ∧ wx.cell? ⟨w2.heap.size, 1, none⟩ = some (.int .u64 (lo pa)) ∧ wx.cell? ⟨w2.heap.size + 1, 0, none⟩ = some (.int .u64 (hi ca)) ∧ wx.cell? ⟨w2.heap.size + 1, 1, none⟩ = some (.int .u64 (lo ca)) ∧ w2.heap.size + 1 < wx.heap.size ∧ Below w2.heap.size w2 wx)
  case first =>
    go_region_with (first | (go_at_call 38; refine Calls.mono (HS1.out _) ?_; rintro e w4 ⟨rfl, hb4⟩; have m4 : Below (w2.heap.size + 2) w3 w4 := (by first | exact from_drew (by omega) hb4 | exact from_step (by omega) m5 hb4); have m4k1 := (m4.cell (p := ⟨w2.heap.size, 0, none⟩) (lt_two w2.heap.size)).trans k1; have m4k2 := (m4.cell (p := ⟨w2.heap.size, 1, none⟩) (lt_two w2.heap.size)).trans k2; have m4k3 := (m4.cell (p := ⟨w2.heap.size + 1, 0, none⟩) (lt_one w2.heap.size)).trans k3; have m4k4 := (m4.cell (p := ⟨w2.heap.size + 1, 1, none⟩) (lt_one w2.heap.size)).trans k4; have m4f1 := (m4.frozen (p := ⟨w2.heap.size, 0, none⟩) (lt_two w2.heap.size)).trans f1; have m4f2 := (m4.frozen (p := ⟨w2.heap.size, 1, none⟩) (lt_two w2.heap.size)).trans f2; have m4f3 := (m4.frozen (p := ⟨w2.heap.size + 1, 0, none⟩) (lt_one w2.heap.size)).trans f3; have m4f4 := (m4.frozen (p := ⟨w2.heap.size + 1, 1, none⟩) (lt_one w2.heap.size)).trans f4) | (go_at_call 38; refine Calls.mono (HS2.out _) ?_; rintro e w5 ⟨rfl, hb5⟩; have m5 : Below (w2.heap.size + 2) w3 w5 := (by first | exact from_drew (by omega) hb5 | exact from_step (by omega) m4 hb5); have m5k1 := (m5.cell (p := ⟨w2.heap.size, 0, none⟩) (lt_two w2.heap.size)).trans k1; have m5k2 := (m5.cell (p := ⟨w2.heap.size, 1, none⟩) (lt_two w2.heap.size)).trans k2; have m5k3 := (m5.cell (p := ⟨w2.heap.size + 1, 0, none⟩) (lt_one w2.heap.size)).trans k3; have m5k4 := (m5.cell (p := ⟨w2.heap.size + 1, 1, none⟩) (lt_one w2.heap.size)).trans k4; have m5f1 := (m5.frozen (p := ⟨w2.heap.size, 0, none⟩) (lt_two w2.heap.size)).trans f1; have m5f2 := (m5.frozen (p := ⟨w2.heap.size, 1, none⟩) (lt_two w2.heap.size)).trans f2; have m5f3 := (m5.frozen (p := ⟨w2.heap.size + 1, 0, none⟩) (lt_one w2.heap.size)).trans f3; have m5f4 := (m5.frozen (p := ⟨w2.heap.size + 1, 1, none⟩) (lt_one w2.heap.size)).trans f4))
    all_goals
      go_wp2_with fail
      go_meet
      case rel => first
        | exact ⟨by simp [go_sem, m5k1], by simp [go_sem, m5k2], by simp [go_sem, m5k3], by simp [go_sem, m5k4], by simp; exact Nat.lt_of_lt_of_le k5 m5.size, ((((k6.trans (m5.mono (Nat.le_add_right _ _))).setCell (Nat.le_refl _) _).setCell (Nat.le_refl _) _).setCell (Nat.le_succ _) _).setCell (Nat.le_succ _) _⟩
        | exact ⟨by simp [go_sem, m4k1], by simp [go_sem, m4k2], by simp [go_sem, m4k3], by simp [go_sem, m4k4], by simp; exact Nat.lt_of_lt_of_le k5 m4.size, ((((k6.trans (m4.mono (Nat.le_add_right _ _))).setCell (Nat.le_refl _) _).setCell (Nat.le_refl _) _).setCell (Nat.le_succ _) _).setCell (Nat.le_succ _) _⟩
  case rest =>
    obtain ⟨c1, c2, c3, c4, c5, c6⟩ := hcut
    have hbc : Below w.heap.size w wc := hbw2.trans (c6.mono hbw2.size)
    clear k1 k2 k3 k4 k5 k6 f1 f2 f3 f4 c6 hbw2 hbK
    go_wp2_with fail
    go_ret2
    exact ⟨rfl, hbc⟩
end Go.Proofs.Ytfajalhpenincaa
