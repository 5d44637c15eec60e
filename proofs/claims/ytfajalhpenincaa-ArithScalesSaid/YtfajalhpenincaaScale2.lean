/- The contract of arith.Scale where the quotient has 64 bits. -/
import Derived.Test.YtfajalhpenincaaScale
namespace Go.Proofs.Ytfajalhpenincaa
open Go.RowKit

theorem below_drewN {B : Nat} {a w : World} (h : Below B a w) (n : Nat) : Below B a (w.drewN n) := ⟨h.os, h.tape, h.output, h.size, h.block⟩

set_option maxHeartbeats 2000000 in
theorem scale_num (a b c : Int) (ha : Fits a) (hb : Fits b) (hc : Fits c) (h : hi ((a * b).natAbs : Int) < lo (c.natAbs : Int)) (qz r z : Int) (hq0 : hi qz = 0)
    (hz : z = if (decide (a * b < 0) == decide (c < 0)) = true then qz else -qz) (hzw : Wide z)
    (D : ∀ w, Calls Try.prog 39 #[.int .u64 (hi ((a * b).natAbs : Int)), .int .u64 (lo ((a * b).natAbs : Int)), .int .u64 (lo (c.natAbs : Int))] w fun e w' => e = .returned (.tuple #[.int .u64 (lo qz), .int .u64 r]) ∧ ∃ n, w' = w.drewN n) (w : World) :
    Calls Try.prog 26 #[.int .i64 a, .int .i64 b, .int .i64 c] w fun e w' => e = .returned (.tuple #[.int .i64 (numN z), numE z]) ∧ Below w.heap.size w w' := by
  have O := fun w => opposite_any qz w
  have N := fun w => number_any z hzw w
  have P := fun w => product_any a b ha hb w
  have W := fun w => widen_any c hc w
  have B1 := fun w => below_any (a * b) (prod_wide ha hb) w
  have B2 := fun w => below_any c (fits_wide hc) w
  have S1 := fun w => size_any (a * b) (prod_wide ha hb) w
  have S2 := fun w => size_any c (fits_wide hc) w
  unfold wideV at *
  rw [hq0] at O
  obtain ⟨p, hp⟩ : ∃ p, p = a * b := ⟨_, rfl⟩
  rw [← hp] at P B1 S1 h hz D
  obtain ⟨pa, hpa⟩ : ∃ x, x = ((p.natAbs : Nat) : Int) := ⟨_, rfl⟩
  obtain ⟨ca, hca⟩ : ∃ x, x = ((c.natAbs : Nat) : Int) := ⟨_, rfl⟩
  rw [← hpa] at S1 h D
  rw [← hca] at S2 h D
  obtain ⟨x, hx⟩ : ∃ x, x = decide (p < 0) := ⟨_, rfl⟩
  obtain ⟨y, hy⟩ : ∃ y, y = decide (c < 0) := ⟨_, rfl⟩
  rw [← hx] at B1 hz
  rw [← hy] at B2 hz
  obtain ⟨m, hm⟩ : ∃ m, m = numN z := ⟨_, rfl⟩
  obtain ⟨v, hv⟩ : ∃ v, v = numE z := ⟨_, rfl⟩
  rw [← hm, ← hv] at N ⊢
  have HD := Lib.hid D
  have HO := Lib.hid O
  have HN := Lib.hid N
  have HZ := Lib.hid hz
  have HQ0 := Lib.hid hq0
  have HP := Lib.hid P
  have HW := Lib.hid W
  have HB1 := Lib.hid B1
  have HB2 := Lib.hid B2
  have HS1 := Lib.hid S1
  have HS2 := Lib.hid S2
  clear P W B1 B2 S1 S2 hp hpa hca hx hy ha hb hc D O N hz hq0 hm hv hzw
  go_enter Try.func26, Try.ntmps26
  go_wp2_with fail
  refine Calls.mono (HP.out _) ?_
  rintro e w1 ⟨rfl, hb1⟩
  go_wp2_with fail
  refine Calls.mono (HW.out _) ?_
  rintro e w2 ⟨rfl, hb2⟩
  have hbw2 : Below w.heap.size w w2 := hb1.trans (hb2.mono hb1.size)
  clear hb1 hb2
  go_wp2_with fail
  go_region_held3 (fun w' => w'.cell? ⟨w2.heap.size, 0, none⟩ = some (.int .u64 (hi p)) ∧ w'.cell? ⟨w2.heap.size, 1, none⟩ = some (.int .u64 (lo p)) ∧ w'.cell? ⟨w2.heap.size + 1, 0, none⟩ = some (.int .u64 (hi c)) ∧ w'.cell? ⟨w2.heap.size + 1, 1, none⟩ = some (.int .u64 (lo c)) ∧ w2.heap.size + 1 < w'.heap.size ∧ Below w2.heap.size w2 w' ∧
      w'.frozen? ⟨w2.heap.size, 0, none⟩ = false ∧ w'.frozen? ⟨w2.heap.size, 1, none⟩ = false ∧ w'.frozen? ⟨w2.heap.size + 1, 0, none⟩ = false ∧ w'.frozen? ⟨w2.heap.size + 1, 1, none⟩ = false)
    (first | (refine ⟨by simp [go_sem], by simp [go_sem], by simp [go_sem], by simp [go_sem], by simp, ?_, by simp [go_sem], by simp [go_sem], by simp [go_sem], by simp [go_sem]⟩; exact (((Below.refl _ w2).alloc (Nat.le_refl _) _).alloc (by simp) _).drew) | go_keep | (go_split_ands; exact ⟨(hbK.cell (p := ⟨w2.heap.size, 0, none⟩) (by simp; omega)).trans (by assumption), (hbK.cell (p := ⟨w2.heap.size, 1, none⟩) (by simp; omega)).trans (by assumption), (hbK.cell (p := ⟨w2.heap.size + 1, 0, none⟩) (by assumption)).trans (by assumption), (hbK.cell (p := ⟨w2.heap.size + 1, 1, none⟩) (by assumption)).trans (by assumption), Nat.lt_of_lt_of_le (by assumption) hbK.size, Below.trans (by assumption) (hbK.mono (by omega)), (hbK.frozen (p := ⟨w2.heap.size, 0, none⟩) (by simp; omega)).trans (by assumption), (hbK.frozen (p := ⟨w2.heap.size, 1, none⟩) (by simp; omega)).trans (by assumption), (hbK.frozen (p := ⟨w2.heap.size + 1, 0, none⟩) (by assumption)).trans (by assumption), (hbK.frozen (p := ⟨w2.heap.size + 1, 1, none⟩) (by assumption)).trans (by assumption)⟩))
    (first | (go_at_call 37; refine Calls.mono (HB1.out _) ?_; rintro e w3 ⟨rfl, hbK⟩) | (go_at_call 37; refine Calls.mono (HB2.out _) ?_; rintro e w3 ⟨rfl, hbK⟩))
  rename_i hHeld
  obtain ⟨k1, k2, k3, k4, k5, k6, f1, f2, f3, f4⟩ := hHeld
  clear hbK
  go_upto_region 3 with fail
  go_cut [] from 24 to 27 (fun wx => wx.cell? ⟨w2.heap.size, 0, none⟩ = some (.int .u64 (hi pa)) ∧ wx.cell? ⟨w2.heap.size, 1, none⟩ = some (.int .u64 (lo pa)) ∧ wx.cell? ⟨w2.heap.size + 1, 0, none⟩ = some (.int .u64 (hi ca)) ∧ wx.cell? ⟨w2.heap.size + 1, 1, none⟩ = some (.int .u64 (lo ca)) ∧ w2.heap.size + 1 < wx.heap.size ∧ Below w2.heap.size w2 wx)
  case first =>
    go_region_with (first | (go_at_call 38; refine Calls.mono (HS1.out _) ?_; rintro e w4 ⟨rfl, hb4⟩; have m4 : Below (w2.heap.size + 2) w3 w4 := (by first | exact from_drew (by omega) hb4 | exact from_step (by omega) m5 hb4); have m4k1 := (m4.cell (p := ⟨w2.heap.size, 0, none⟩) (lt_two w2.heap.size)).trans k1; have m4k2 := (m4.cell (p := ⟨w2.heap.size, 1, none⟩) (lt_two w2.heap.size)).trans k2; have m4k3 := (m4.cell (p := ⟨w2.heap.size + 1, 0, none⟩) (lt_one w2.heap.size)).trans k3; have m4k4 := (m4.cell (p := ⟨w2.heap.size + 1, 1, none⟩) (lt_one w2.heap.size)).trans k4; have m4f1 := (m4.frozen (p := ⟨w2.heap.size, 0, none⟩) (lt_two w2.heap.size)).trans f1; have m4f2 := (m4.frozen (p := ⟨w2.heap.size, 1, none⟩) (lt_two w2.heap.size)).trans f2; have m4f3 := (m4.frozen (p := ⟨w2.heap.size + 1, 0, none⟩) (lt_one w2.heap.size)).trans f3; have m4f4 := (m4.frozen (p := ⟨w2.heap.size + 1, 1, none⟩) (lt_one w2.heap.size)).trans f4) | (go_at_call 38; refine Calls.mono (HS2.out _) ?_; rintro e w5 ⟨rfl, hb5⟩; have m5 : Below (w2.heap.size + 2) w3 w5 := (by first | exact from_drew (by omega) hb5 | exact from_step (by omega) m4 hb5); have m5k1 := (m5.cell (p := ⟨w2.heap.size, 0, none⟩) (lt_two w2.heap.size)).trans k1; have m5k2 := (m5.cell (p := ⟨w2.heap.size, 1, none⟩) (lt_two w2.heap.size)).trans k2; have m5k3 := (m5.cell (p := ⟨w2.heap.size + 1, 0, none⟩) (lt_one w2.heap.size)).trans k3; have m5k4 := (m5.cell (p := ⟨w2.heap.size + 1, 1, none⟩) (lt_one w2.heap.size)).trans k4; have m5f1 := (m5.frozen (p := ⟨w2.heap.size, 0, none⟩) (lt_two w2.heap.size)).trans f1; have m5f2 := (m5.frozen (p := ⟨w2.heap.size, 1, none⟩) (lt_two w2.heap.size)).trans f2; have m5f3 := (m5.frozen (p := ⟨w2.heap.size + 1, 0, none⟩) (lt_one w2.heap.size)).trans f3; have m5f4 := (m5.frozen (p := ⟨w2.heap.size + 1, 1, none⟩) (lt_one w2.heap.size)).trans f4))
    all_goals
      go_wp2_with fail
      go_meet
      case rel => first
        | exact ⟨by simp [go_sem, m5k1], by simp [go_sem, m5k2], by simp [go_sem, m5k3], by simp [go_sem, m5k4], by simp; exact Nat.lt_of_lt_of_le k5 m5.size, ((((k6.trans (m5.mono (Nat.le_add_right _ _))).setCell (Nat.le_refl _) _).setCell (Nat.le_refl _) _).setCell (Nat.le_succ _) _).setCell (Nat.le_succ _) _⟩
        | exact ⟨by simp [go_sem, m4k1], by simp [go_sem, m4k2], by simp [go_sem, m4k3], by simp [go_sem, m4k4], by simp; exact Nat.lt_of_lt_of_le k5 m4.size, ((((k6.trans (m4.mono (Nat.le_add_right _ _))).setCell (Nat.le_refl _) _).setCell (Nat.le_refl _) _).setCell (Nat.le_succ _) _).setCell (Nat.le_succ _) _⟩
  case rest =>
    obtain ⟨c1, c2, c3, c4, c5, c6⟩ := hcut
    have hbc : Below w.heap.size w wc := hbw2.trans (c6.mono hbw2.size)
    clear k1 k2 k3 k4 k5 k6 f1 f2 f3 f4 c6 hbw2 hbK
    clear HP HW HB1 HB2 HS1 HS2
    by_cases hd : (x == y) = true
    · have hz := HZ.out
      rw [if_pos hd] at hz
      subst hz
      clear HZ HO
      go_wp2_with (go_at_call 39; refine Calls.mono (HD.out _) ?_; rintro e w6 ⟨rfl, nd, hw6⟩; have hb6 : Below w.heap.size w w6 := (by rw [hw6]; exact below_drewN hbc nd); clear hw6 HD c1 c2 c3 c4 c5 hbc; have HN' := HN.out; rw [HQ0.out] at HN'; have HN2 := Lib.hid HN'; clear HN' HN)
      refine Calls.mono (HN2.out _) ?_
      rintro e w7 ⟨rfl, hb7⟩
      have hbw := (hb6.alloc hb6.size _).trans (hb7.mono (Nat.le_trans hb6.size (by simp)))
      have HB := Lib.hid hbw
      clear hb7 hbw
      go_wp2_with fail
      go_ret2
      exact ⟨rfl, HB.out⟩
    · have hz := HZ.out
      rw [if_neg hd] at hz
      have hd' : (x == y) = false := by simpa using hd
      rw [← hz] at HO
      clear HZ hd hz
      go_wp2_with (go_at_call 39; refine Calls.mono (HD.out _) ?_; rintro e w6 ⟨rfl, nd, hw6⟩; have hb6 : Below w.heap.size w w6 := (by rw [hw6]; exact below_drewN hbc nd); clear hw6 HD c1 c2 c3 c4 c5 hbc)
      refine Calls.mono (HO.out _) ?_
      rintro e w7 ⟨rfl, hb7⟩
      obtain ⟨hc7, hf7⟩ := kept_new hb7 (heap_alloc_new w6 _)
      have hb77 : Below w.heap.size w w7 := (hb6.alloc hb6.size _).trans (hb7.mono (Nat.le_trans hb6.size (by simp)))
      have hs6 := hb6.size
      clear hb7 hb6
      go_wp2_with fail
      refine Calls.mono (HN.out _) ?_
      rintro e w8 ⟨rfl, hb8⟩
      have hbw := ((hb77.setCell (p := ⟨w6.heap.size, 0, none⟩) hs6 (.int .u64 (hi z))).setCell (p := ⟨w6.heap.size, 1, none⟩) hs6 (.int .u64 (lo z))).trans (hb8.mono (by simpa using hb77.size))
      have HB := Lib.hid hbw
      clear hb8 hbw
      go_wp2_with fail
      go_ret2
      exact ⟨rfl, HB.out⟩
end Go.Proofs.Ytfajalhpenincaa
