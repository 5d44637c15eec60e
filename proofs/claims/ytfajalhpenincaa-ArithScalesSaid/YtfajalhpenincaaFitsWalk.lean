/- ArithFits answers true of whatever two numbers. -/
import Derived.Test.YtfajalhpenincaaErr
import Derived.Deep.CutRange
namespace Go.Proofs.Ytfajalhpenincaa
open Go.RowKit

/-- Is an error there? -/
def far (z : Int) : Bool := !decide (-9223372036854775808 ≤ z ∧ z ≤ 9223372036854775807)
theorem far_yes {z : Int} (h : Fits z) : far z = false := by unfold far; rw [decide_eq_true (show _ ∧ _ from h)]; rfl
theorem far_no {z : Int} (h : ¬ Fits z) : far z = true := by unfold far; rw [decide_eq_false (show ¬ (_ ∧ _) from h)]; rfl
theorem far_neq (z : Int) (w : World) : (binOp .neq 28 (numE z) .nilIface).run Try.prog w = .ok (.bool (far z)) w := by
  by_cases h : Fits z
  · rw [far_yes h, show numE z = .nilIface from if_pos h]; kernel_rfl
  · rw [far_no h, show numE z = over from if_neg h]; kernel_rfl
theorem far_guard (z : Int) (x : Operand) (w : World) : (eqGuard .neq 28 x (.const .nilIface) (numE z) .nilIface).run Try.prog w = .ok () w := by
  by_cases h : Fits z
  · rw [show numE z = .nilIface from if_pos h]; simp [eqGuard]
  · rw [show numE z = over from if_neg h]; unfold over; simp [eqGuard]
def least : Int := -9223372036854775808
/-- What is left of a product that wrapped, divided again. -/
theorem prod_test {a b : Int} (ha : Fits a) (hb : Fits b) (h0 : a ≠ 0) (hs : ¬ (a = -1 ∧ b = least)) : wrap64 ((wrap64 (a * b)).tdiv a) = b ↔ Fits (a * b) := by
  obtain ⟨p, hp⟩ : ∃ p, p = a * b := ⟨_, rfl⟩
  rw [← hp]
  constructor
  · intro h
    obtain ⟨q, hq⟩ : ∃ q, q = (wrap64 p).tdiv a := ⟨_, rfl⟩
    rw [← hq] at h
    have hw : -9223372036854775808 ≤ wrap64 p ∧ wrap64 p ≤ 9223372036854775807 := by unfold wrap64; omega
    have hqa : q.natAbs ≤ (wrap64 p).natAbs := by rw [hq, Int.natAbs_tdiv]; exact Nat.div_le_self _ _
    by_cases hqf : Fits q
    · have hqb : q = b := by
        rw [← h]; unfold Fits at hqf; unfold wrap64; omega
      have hd := Int.mul_tdiv_add_tmod (wrap64 p) a
      rw [← hq, hqb, ← hp] at hd
      have hr : ((wrap64 p).tmod a).natAbs < a.natAbs := by rw [Int.natAbs_tmod]; exact Nat.mod_lt _ (by omega)
      have hk : ∃ k, wrap64 p = p - 18446744073709551616 * k := ⟨(p + 9223372036854775808) / 18446744073709551616, by unfold wrap64; omega⟩
      obtain ⟨k, hk⟩ := hk
      have hk0 : k = 0 := by unfold Fits at ha; omega
      rw [hk0] at hk
      have : wrap64 p = p := by omega
      rw [← this]; exact hw
    · have hq63 : q = 9223372036854775808 := by unfold Fits at hqf; omega
      have hbl : b = least := by rw [← h, hq63]; unfold wrap64 least; decide
      have ha1 : a = -1 := by
        have hd := Int.natAbs_tdiv (wrap64 p) a
        rw [← hq, hq63] at hd
        have hn : (wrap64 p).natAbs ≤ 9223372036854775808 := by omega
        have hle : (wrap64 p).natAbs / a.natAbs ≤ 9223372036854775808 / a.natAbs := Nat.div_le_div_right hn
        have ha2 : a.natAbs = 1 := by
          rcases Nat.lt_or_ge a.natAbs 2 with h2 | h2
          · omega
          · have : 9223372036854775808 / a.natAbs ≤ 9223372036854775808 / 2 := Nat.div_le_div_left h2 (by decide)
            rw [show (9223372036854775808 : Int).natAbs = 9223372036854775808 from rfl] at hd
            have hd' : 9223372036854775808 = (wrap64 p).natAbs / a.natAbs := hd
            rw [← hd'] at hle
            have h5 : 9223372036854775808 / 2 = 4611686018427387904 := by decide
            rw [h5] at this
            exact absurd (Nat.le_trans hle this) (by decide)
        rcases (show a = 1 ∨ a = -1 by omega) with rfl | h1
        · rw [Int.tdiv_one] at hq
          omega
        · exact h1
      exact absurd ⟨ha1, hbl⟩ hs
  · intro h
    have hw : wrap64 p = p := IntWalk.wrap64_in _ h
    rw [hw, hp, Int.mul_tdiv_cancel_left _ h0]
    exact IntWalk.wrap64_in _ hb
theorem bool_val {x y : Bool} (h : x = y) : Value.bool x = .bool y := by rw [h]
theorem add_num (a b : Int) (ha : Fits a) (hb : Fits b) (w : World) : Calls Try.prog 11 #[.int .i64 a, .int .i64 b] w fun e w' => e = .returned (.tuple #[.int .i64 (numN (a + b)), numE (a + b)]) ∧ Below w.heap.size w w' := by
  rw [← numV_eq]; exact add_any a b ha hb w
theorem sub_num (a b : Int) (ha : Fits a) (hb : Fits b) (w : World) : Calls Try.prog 12 #[.int .i64 a, .int .i64 b] w fun e w' => e = .returned (.tuple #[.int .i64 (numN (a - b)), numE (a - b)]) ∧ Below w.heap.size w w' := by
  rw [← numV_eq]; exact sub_any a b ha hb w
theorem mul_num (a b : Int) (ha : Fits a) (hb : Fits b) (w : World) : Calls Try.prog 13 #[.int .i64 a, .int .i64 b] w fun e w' => e = .returned (.tuple #[.int .i64 (numN (a * b)), numE (a * b)]) ∧ Below w.heap.size w w' := by
  rw [← numV_eq]; exact mul_any a b ha hb w

set_option maxHeartbeats 2000000 in
set_option maxRecDepth 100000 in
theorem fits_any (alive : ∀ w : World, Calls Try.prog 9 #[] w fun e w' => e = .returned (.bool true) ∧ Below w.heap.size w w') (a b : Int) (ha : Fits a) (hb : Fits b) (w : World) :
    Calls Try.prog 8 #[.int .i64 a, .int .i64 b] w fun e w' => e = .returned (.bool true) ∧ Below w.heap.size w w' := by
  have C1 := fun w => add_num a b ha hb w
  have C2 := fun w => sub_num a b ha hb w
  have C3 := fun w => mul_num a b ha hb w
  have q1 := fun w => far_neq (a + b) w
  have q2 := fun w => far_neq (a - b) w
  have q3 := fun w => far_neq (a * b) w
  have g1 := fun x w => far_guard (a + b) x w
  have g2 := fun x w => far_guard (a - b) x w
  have g3 := fun x w => far_guard (a * b) x w
  obtain ⟨n1, hn1⟩ : ∃ n, n = numN (a + b) := ⟨_, rfl⟩
  obtain ⟨n2, hn2⟩ : ∃ n, n = numN (a - b) := ⟨_, rfl⟩
  obtain ⟨n3, hn3⟩ : ∃ n, n = numN (a * b) := ⟨_, rfl⟩
  obtain ⟨v1, hv1⟩ : ∃ n, n = numE (a + b) := ⟨_, rfl⟩
  obtain ⟨v2, hv2⟩ : ∃ n, n = numE (a - b) := ⟨_, rfl⟩
  obtain ⟨v3, hv3⟩ : ∃ n, n = numE (a * b) := ⟨_, rfl⟩
  obtain ⟨f1, hf1⟩ : ∃ n, n = far (a + b) := ⟨_, rfl⟩
  obtain ⟨f2, hf2⟩ : ∃ n, n = far (a - b) := ⟨_, rfl⟩
  obtain ⟨f3, hf3⟩ : ∃ n, n = far (a * b) := ⟨_, rfl⟩
  rw [← hn1, ← hv1] at C1
  rw [← hn2, ← hv2] at C2
  rw [← hn3, ← hv3] at C3
  rw [← hv1, ← hf1] at q1
  rw [← hv2, ← hf2] at q2
  rw [← hv3, ← hf3] at q3
  rw [← hv1] at g1
  rw [← hv2] at g2
  rw [← hv3] at g3
  have G1 := Lib.hid g1
  have G2 := Lib.hid g2
  have G3 := Lib.hid g3
  have HA := Lib.hid alive
  have H1 := Lib.hid C1
  have H2 := Lib.hid C2
  have H3 := Lib.hid C3
  have F1 := Lib.hid hf1
  have F2 := Lib.hid hf2
  have F3 := Lib.hid hf3
  have HFA := Lib.hid ha
  have HFB := Lib.hid hb
  have Q1 := Lib.hid q1
  have Q2 := Lib.hid q2
  have Q3 := Lib.hid q3
  clear alive g1 g2 g3 C1 C2 C3 hn1 hn2 hn3 hv1 hv2 hv3 hf1 hf2 hf3 ha hb q1 q2 q3
  go_enter Try.func8, Try.ntmps8
  go_wp2_with fail
  refine Calls.mono (HA.out _) ?_
  rintro e w1 ⟨rfl, hb1⟩
  go_wp2_with fail
  refine Calls.mono (H1.out _) ?_
  rintro e w2 ⟨rfl, hb2'⟩
  have hb2 := hb1.trans (hb2'.mono hb1.size)
  clear hb1 hb2'
  go_upto_region 4 with fail
  go_cut [7] from 22 to 47 (fun v wx => v = .bool f1 ∧ w2 = wx)
  case first =>
    have ha := HFA.out
    have hb := HFB.out
    unfold Fits at ha hb
    go_wp2
    all_goals
      go_meet
      case rel => exact ⟨bool_val (by rw [F1.out, far, Bool.eq_iff_iff]; simp <;> omega), rfl⟩
  case rest =>
    obtain ⟨rfl, rfl⟩ := hcut
    clear F1
    go_wp2_with fail
    refine Calls.mono (H2.out _) ?_
    rintro e w3 ⟨rfl, hb3'⟩
    have hb3 := hb2.trans (hb3'.mono hb2.size)
    clear hb2 hb3'
    go_upto_region 6 with fail
    go_cut [10] from 54 to 79 (fun v wx => v = .bool f2 ∧ w3 = wx)
    case first =>
      have ha := HFA.out
      have hb := HFB.out
      unfold Fits at ha hb
      go_wp2
      all_goals
        go_meet
        case rel => exact ⟨bool_val (by rw [F2.out, far, Bool.eq_iff_iff]; simp <;> omega), rfl⟩
    case rest =>
      obtain ⟨rfl, rfl⟩ := hcut
      clear F2
      go_wp2_with fail
      refine Calls.mono (H3.out _) ?_
      rintro e w4 ⟨rfl, hb4'⟩
      have hb4 := hb3.trans (hb4'.mono hb3.size)
      clear hb3 hb4'
      go_upto_region 8 with fail
      go_cut [13] from 86 to 132 (fun v wx => v = .bool f3 ∧ w4 = wx)
      case first =>
        have ha := HFA.out
        have hb := HFB.out
        by_cases h0 : a = 0
        · have hx : Fits (a * b) := by rw [h0, Int.zero_mul]; unfold Fits; decide
          have HX := Lib.hid hx
          have t0 : (a != 0) = false := by rw [h0]; rfl
          clear hx h0 ha hb
          go_wp2
          go_meet
          case rel => exact ⟨bool_val (by rw [F3.out]; exact (far_yes HX.out).symm), rfl⟩
        have t0 : (a != 0) = true := by rw [bne_iff_ne]; exact h0
        by_cases h1 : b = 0
        · have hx : Fits (a * b) := by rw [h1, Int.mul_zero]; unfold Fits; decide
          have HX := Lib.hid hx
          have t1 : (b != 0) = false := by rw [h1]; rfl
          clear hx h0 h1 ha hb
          go_wp2
          go_meet
          case rel => exact ⟨bool_val (by rw [F3.out]; exact (far_yes HX.out).symm), rfl⟩
        have t1 : (b != 0) = true := by rw [bne_iff_ne]; exact h1
        by_cases hal : a = -9223372036854775808
        · have A : (a == -9223372036854775808) = true := by rw [beq_iff_eq]; exact hal
          have D : (a == -1) = false := by rw [beq_eq_false_iff_ne]; omega
          have E : (a != -9223372036854775808) = false := by rw [bne_eq_false_iff_eq]; exact hal
          have hp : a * b = -(9223372036854775808 * b) := by rw [hal, Int.neg_mul]
          by_cases hbm : b = -1
          · have hx : ¬ Fits (a * b) := by rw [hp, hbm]; unfold Fits; decide
            have HX := Lib.hid hx
            have B : (b == -1) = true := by rw [beq_iff_eq]; exact hbm
            clear hx hal hp hbm h0 h1 ha hb
            go_wp2
            go_meet
            case rel => exact ⟨bool_val (by rw [F3.out]; exact (far_no HX.out).symm), rfl⟩
          have B : (b == -1) = false := by rw [beq_eq_false_iff_ne]; exact hbm
          by_cases hb1 : b = 1
          · have hx : Fits (a * b) := by rw [hp, hb1]; unfold Fits; decide
            have HX := Lib.hid hx
            have C : (b == -9223372036854775808) = false := by rw [beq_eq_false_iff_ne]; omega
            have G : (b != 1) = false := by rw [bne_eq_false_iff_eq]; exact hb1
            clear hx hal hp hbm hb1 h0 h1 ha hb
            go_wp2
            go_meet
            case rel => exact ⟨bool_val (by rw [F3.out]; exact (far_yes HX.out).symm), rfl⟩
          have G : (b != 1) = true := by rw [bne_iff_ne]; exact hb1
          have hx : ¬ Fits (a * b) := by rw [hp]; unfold Fits; omega
          have HX := Lib.hid hx
          by_cases hbl : b = -9223372036854775808
          · have C : (b == -9223372036854775808) = true := by rw [beq_iff_eq]; exact hbl
            clear hx hal hp hbm hb1 h0 h1 ha hb hbl
            go_wp2
            go_meet
            case rel => exact ⟨bool_val (by rw [F3.out]; exact (far_no HX.out).symm), rfl⟩
          · have C : (b == -9223372036854775808) = false := by rw [beq_eq_false_iff_ne]; exact hbl
            clear hx hal hp hbm hb1 h0 h1 ha hb hbl
            go_wp2
            go_meet
            case rel => exact ⟨bool_val (by rw [F3.out]; exact (far_no HX.out).symm), rfl⟩
        have A : (a == -9223372036854775808) = false := by rw [beq_eq_false_iff_ne]; exact hal
        have E : (a != -9223372036854775808) = true := by rw [bne_iff_ne]; exact hal
        by_cases hs : a = -1 ∧ b = least
        · have hx : ¬ Fits (a * b) := by rw [hs.1, hs.2]; unfold Fits least; decide
          have HX := Lib.hid hx
          have C : (b == -9223372036854775808) = true := by rw [beq_iff_eq]; exact hs.2
          have D : (a == -1) = true := by rw [beq_iff_eq]; exact hs.1
          clear hx hal hs h0 h1 ha hb
          go_wp2
          go_meet
          case rel => exact ⟨bool_val (by rw [F3.out]; exact (far_no HX.out).symm), rfl⟩
        have hz : (a == 0) = false := by rw [beq_eq_false_iff_ne]; exact h0
        have hpt := prod_test ha hb h0 hs
        by_cases hx : Fits (a * b)
        · have HX := Lib.hid hx
          have F : (wrap64 ((wrap64 (a * b)).tdiv a) != b) = false := by rw [bne_eq_false_iff_eq]; exact hpt.2 hx
          by_cases hbl : b = -9223372036854775808
          · have C : (b == -9223372036854775808) = true := by rw [beq_iff_eq]; exact hbl
            have D : (a == -1) = false := by rw [beq_eq_false_iff_ne]; exact fun h => hs ⟨h, hbl⟩
            clear hx hal hs h1 ha hb hbl hpt
            go_wp2
            go_meet
            case rel => exact ⟨bool_val (by rw [F3.out]; exact (far_yes HX.out).symm), rfl⟩
          · have C : (b == -9223372036854775808) = false := by rw [beq_eq_false_iff_ne]; exact hbl
            clear hx hal hs h1 ha hb hbl hpt
            go_wp2
            go_meet
            case rel => exact ⟨bool_val (by rw [F3.out]; exact (far_yes HX.out).symm), rfl⟩
        · have HX := Lib.hid hx
          have F : (wrap64 ((wrap64 (a * b)).tdiv a) != b) = true := by rw [bne_iff_ne]; exact fun h => hx (hpt.1 h)
          by_cases hbl : b = -9223372036854775808
          · have C : (b == -9223372036854775808) = true := by rw [beq_iff_eq]; exact hbl
            have D : (a == -1) = false := by rw [beq_eq_false_iff_ne]; exact fun h => hs ⟨h, hbl⟩
            clear hx hal hs h1 ha hb hbl hpt
            go_wp2
            go_meet
            case rel => exact ⟨bool_val (by rw [F3.out]; exact (far_no HX.out).symm), rfl⟩
          · have C : (b == -9223372036854775808) = false := by rw [beq_eq_false_iff_ne]; exact hbl
            clear hx hal hs h1 ha hb hbl hpt
            go_wp2
            go_meet
            case rel => exact ⟨bool_val (by rw [F3.out]; exact (far_no HX.out).symm), rfl⟩
      case rest =>
        obtain ⟨rfl, rfl⟩ := hcut
        have q1 := Q1.out
        have q2 := Q2.out
        have q3 := Q3.out
        clear Q1 Q2 Q3
        have g1 := G1.out
        have g2 := G2.out
        have g3 := G3.out
        clear G1 G2 G3
        have HB := Lib.hid hb4
        clear hb4
        go_wp2
        go_ret
        exact ⟨rfl, HB.out⟩
end Go.Proofs.Ytfajalhpenincaa
