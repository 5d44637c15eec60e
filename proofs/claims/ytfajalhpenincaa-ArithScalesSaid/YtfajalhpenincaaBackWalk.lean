/- ArithBack answers true of whatever two numbers. -/
import Derived.Test.YtfajalhpenincaaFitsWalk
import Derived.Test.YtfajalhpenincaaDivide
namespace Go.Proofs.Ytfajalhpenincaa
open Go.RowKit

theorem numN_yes {z : Int} (h : Fits z) : numN z = z := if_pos h
theorem numE_yes {z : Int} (h : Fits z) : numE z = .nilIface := if_pos h
theorem numE_no {z : Int} (h : ¬ Fits z) : numE z = over := if_neg h
theorem quot_fits {a b : Int} (ha : Fits a) (h0 : b ≠ 0) (hs : ¬ (a = least ∧ b = -1)) : Fits (a.tdiv b) := by
  have h1 : (a.tdiv b).natAbs = a.natAbs / b.natAbs := Int.natAbs_tdiv a b
  have h2 := nat_small ha
  have h3 : a.natAbs / b.natAbs ≤ a.natAbs := Nat.div_le_self _ _
  by_cases hq : a.tdiv b = 9223372036854775808
  · exfalso
    rw [hq] at h1
    have h4 : (9223372036854775808 : Int).natAbs = 9223372036854775808 := rfl
    rw [h4] at h1
    have ha9 : a.natAbs = 9223372036854775808 := by omega
    have hal : a = least := by unfold Fits at ha; unfold least; omega
    have hb1 : b.natAbs = 1 := by
      rcases Nat.lt_or_ge b.natAbs 2 with h | h
      · omega
      · have h5 : 9223372036854775808 / b.natAbs ≤ 9223372036854775808 / 2 := Nat.div_le_div_left h (by decide)
        rw [ha9] at h1
        rw [← h1] at h5
        exact absurd h5 (by decide)
    rcases (show b = 1 ∨ b = -1 by omega) with hb | hb
    · rw [hb, Int.tdiv_one, hal] at hq
      exact absurd hq (by unfold least; decide)
    · exact hs ⟨hal, hb⟩
  · unfold Fits; omega

theorem nil_eql (z : Int) (w : World) : (binOp .eql 28 (numE z) .nilIface).run Try.prog w = .ok (.bool (!far z)) w := by
  by_cases h : Fits z
  · rw [far_yes h, show numE z = .nilIface from if_pos h]; kernel_rfl
  · rw [far_no h, show numE z = over from if_neg h]; kernel_rfl
theorem nil_guard (z : Int) (x : Operand) (w : World) : (eqGuard .eql 28 x (.const .nilIface) (numE z) .nilIface).run Try.prog w = .ok () w := by
  by_cases h : Fits z
  · rw [show numE z = .nilIface from if_pos h]; simp [eqGuard]
  · rw [show numE z = over from if_neg h]; unfold over; simp [eqGuard]
theorem over_neq (w : World) : (binOp .neq 28 over .nilIface).run Try.prog w = .ok (.bool true) w := by kernel_rfl
theorem over_guard (x : Operand) (w : World) : (eqGuard .neq 28 x (.const .nilIface) over .nilIface).run Try.prog w = .ok () w := by unfold over; simp [eqGuard]
theorem sub_back {a b : Int} (ha : Fits a) (hb : Fits b) (hs : Fits (a + b)) (w : World) : Calls Try.prog 12 #[.int .i64 (a + b), .int .i64 b] w fun e w' => e = .returned (.tuple #[.int .i64 a, .nilIface]) ∧ Below w.heap.size w w' := by
  have h := sub_num (a + b) b hs hb w
  rw [show a + b - b = a by omega, numN_yes ha, numE_yes ha] at h
  exact h
theorem div_back {a b : Int} (ha : Fits a) (hb : Fits b) (h0 : b ≠ 0) (hs : Fits (a * b)) (w : World) : Calls Try.prog 18 #[.int .i64 (a * b), .int .i64 b] w fun e w' => e = .returned (.tuple #[.int .i64 a, .nilIface]) ∧ Below w.heap.size w w' := by
  have h := div_num (a * b) b hs hb h0 w
  rw [Int.mul_tdiv_cancel _ h0, numN_yes ha, numE_yes ha] at h
  exact h

theorem div_yes {a b : Int} (ha : Fits a) (hb : Fits b) (h0 : b ≠ 0) (hs : ¬ (a = least ∧ b = -1)) (w : World) : Calls Try.prog 18 #[.int .i64 a, .int .i64 b] w fun e w' => e = .returned (.tuple #[.int .i64 (a.tdiv b), .nilIface]) ∧ Below w.heap.size w w' := by
  have h := div_num a b ha hb h0 w
  rw [numN_yes (quot_fits ha h0 hs), numE_yes (quot_fits ha h0 hs)] at h
  exact h
theorem div_far {a b : Int} (ha : Fits a) (hb : Fits b) (hs : a = least ∧ b = -1) (w : World) : ∃ n, Calls Try.prog 18 #[.int .i64 a, .int .i64 b] w fun e w' => e = .returned (.tuple #[.int .i64 n, over]) ∧ Below w.heap.size w w' := by
  have h := div_num a b ha hb (by rw [hs.2]; decide) w
  have hn : ¬ Fits (a.tdiv b) := by rw [hs.1, hs.2]; unfold Fits least; decide
  rw [numE_no hn] at h
  exact ⟨_, h⟩
theorem back_fits {a b : Int} (ha : Fits a) : Fits (a.tdiv b * b) := by
  have h := Int.tdiv_mul_add_tmod a b
  have h1 : (a.tdiv b * b).natAbs ≤ a.natAbs := by
    rw [Int.natAbs_mul, Int.natAbs_tdiv]
    exact Nat.div_mul_le_self _ _
  have h2 := nat_small ha
  have h4 : (a.tmod b).natAbs = a.natAbs % b.natAbs := Int.natAbs_tmod a b
  have h5 : a.natAbs % b.natAbs ≤ a.natAbs := Nat.mod_le _ _
  by_cases h0 : 0 ≤ a
  · have := Int.tmod_nonneg b h0
    unfold Fits at ha ⊢; omega
  · have h6 : (-a).tmod b = -(a.tmod b) := Int.neg_tmod a b
    have h7 := Int.tmod_nonneg b (show 0 ≤ -a by omega)
    unfold Fits at ha ⊢; omega
theorem mul_back {a b : Int} (ha : Fits a) (hb : Fits b) (h0 : b ≠ 0) (hs : ¬ (a = least ∧ b = -1)) (w : World) : Calls Try.prog 13 #[.int .i64 (a.tdiv b), .int .i64 b] w fun e w' => e = .returned (.tuple #[.int .i64 (a.tdiv b * b), .nilIface]) ∧ Below w.heap.size w w' := by
  have h := mul_num (a.tdiv b) b (quot_fits ha h0 hs) hb w
  rw [numN_yes (back_fits ha), numE_yes (back_fits ha)] at h
  exact h
theorem rest_fits {a b : Int} (ha : Fits a) : Fits (a.tmod b) := by
  have h4 : (a.tmod b).natAbs = a.natAbs % b.natAbs := Int.natAbs_tmod a b
  have h5 : a.natAbs % b.natAbs ≤ a.natAbs := Nat.mod_le _ _
  by_cases h0 : 0 ≤ a
  · have := Int.tmod_nonneg b h0
    unfold Fits at ha ⊢; omega
  · have : (-a).tmod b = -(a.tmod b) := Int.neg_tmod a b
    have h6 := Int.tmod_nonneg b (show 0 ≤ -a by omega)
    unfold Fits at ha ⊢; omega
theorem add_back {a b : Int} (ha : Fits a) (w : World) : Calls Try.prog 11 #[.int .i64 (a.tdiv b * b), .int .i64 (a.tmod b)] w fun e w' => e = .returned (.tuple #[.int .i64 a, .nilIface]) ∧ Below w.heap.size w w' := by
  have h := add_num (a.tdiv b * b) (a.tmod b) (back_fits ha) (rest_fits ha) w
  rw [Int.tdiv_mul_add_tmod a b, numN_yes ha, numE_yes ha] at h
  exact h
theorem rest_sign {a b : Int} (h : a.tmod b ≠ 0) : a.tmod b < 0 ↔ a < 0 := by
  by_cases h0 : 0 ≤ a
  · have := Int.tmod_nonneg b h0
    omega
  · have h1 : (-a).tmod b = -(a.tmod b) := Int.neg_tmod a b
    have h6 := Int.tmod_nonneg b (show 0 ≤ -a by omega)
    omega

set_option maxHeartbeats 2000000 in
set_option maxRecDepth 100000 in
theorem back_any (alive : ∀ w : World, Calls Try.prog 9 #[] w fun e w' => e = .returned (.bool true) ∧ Below w.heap.size w w') (a b : Int) (ha : Fits a) (hb : Fits b) (w : World) :
    Calls Try.prog 7 #[.int .i64 a, .int .i64 b] w fun e w' => e = .returned (.bool true) ∧ Below w.heap.size w w' := by
  have C1 := fun w => add_num a b ha hb w
  have C3 := fun w => mul_num a b ha hb w
  have q1 := fun w => nil_eql (a + b) w
  have q3 := fun w => nil_eql (a * b) w
  have g1 := fun x w => nil_guard (a + b) x w
  have g3 := fun x w => nil_guard (a * b) x w
  obtain ⟨n1, hn1⟩ : ∃ n, n = numN (a + b) := ⟨_, rfl⟩
  obtain ⟨n3, hn3⟩ : ∃ n, n = numN (a * b) := ⟨_, rfl⟩
  obtain ⟨v1, hv1⟩ : ∃ n, n = numE (a + b) := ⟨_, rfl⟩
  obtain ⟨v3, hv3⟩ : ∃ n, n = numE (a * b) := ⟨_, rfl⟩
  obtain ⟨o1, ho1⟩ : ∃ n, n = !far (a + b) := ⟨_, rfl⟩
  obtain ⟨o3, ho3⟩ : ∃ n, n = !far (a * b) := ⟨_, rfl⟩
  rw [← hn1, ← hv1] at C1
  rw [← hn3, ← hv3] at C3
  rw [← hv1, ← ho1] at q1
  rw [← hv3, ← ho3] at q3
  rw [← hv1] at g1
  rw [← hv3] at g3
  have HA := Lib.hid alive
  have H1 := Lib.hid C1
  have H3 := Lib.hid C3
  have HN1 := Lib.hid hn1
  have HN3 := Lib.hid hn3
  have HO1 := Lib.hid ho1
  have HO3 := Lib.hid ho3
  have HFA := Lib.hid ha
  have HFB := Lib.hid hb
  clear alive C1 C3 hn1 hn3 hv1 hv3 ho1 ho3 ha hb
  go_enter Try.func7, Try.ntmps7
  go_wp2_with fail
  refine Calls.mono (HA.out _) ?_
  rintro e w1 ⟨rfl, hb1⟩
  clear HA
  go_upto_if 30 with (go_at_call 11; refine Calls.mono (H1.out _) ?_; rintro e w2 ⟨rfl, hb2'⟩; have hb2 := hb1.trans (hb2'.mono hb1.size); clear hb1 hb2')
  clear q1 g1
  go_cut [7, 8] from 29 to 43 (fun _ _ wx => Below w.heap.size w wx)
  case first =>
    by_cases ho : o1 = true
    · have hf : Fits (a + b) := by
        have h := HO1.out
        rw [ho] at h
        by_cases hf : Fits (a + b)
        · exact hf
        · rw [far_no hf] at h; cases h
      have hn := HN1.out
      rw [numN_yes hf] at hn
      have C := fun w => sub_back HFA.out HFB.out hf w
      rw [← hn] at C
      have HC := Lib.hid C
      clear C hn hf
      subst ho
      go_wp2_with (go_at_call 12; refine Calls.mono (HC.out _) ?_; rintro e w3 ⟨rfl, hb3'⟩; have hb3 := hb2.trans (hb3'.mono hb2.size); clear hb3')
      go_meet
      case rel => exact hb3
    · have ho' : o1 = false := by simpa using ho
      clear ho
      subst ho'
      go_wp2_with fail
      go_meet
      case rel => exact hb2
  case rest =>
    have hb2 := hcut
    clear HN1 HO1 H1 hcut
    obtain ⟨t3, ht3⟩ : ∃ t, t = (o3 && (b != 0)) := ⟨_, rfl⟩
    have HT3 := Lib.hid ht3
    clear ht3
    go_wp2_with fail
    refine Calls.mono (H3.out _) ?_
    rintro e w4 ⟨rfl, hb4'⟩
    have hb4 := hb2.trans (hb4'.mono hb2.size)
    clear hb2 hb4' H3
    go_upto_region 9 with fail
    go_cut [55] from 50 to 54 (fun t wx => t = .bool t3 ∧ w4 = wx)
    case first =>
      have ht := HT3.out
      by_cases ho : o3 = true
      · subst ho
        rw [Bool.true_and] at ht
        have HT4 := Lib.hid ht
        clear ht HO3 HT3
        go_wp2
        go_meet
        case rel => exact ⟨bool_val HT4.out.symm, rfl⟩
      · have ho' : o3 = false := by simpa using ho
        clear ho
        subst ho'
        rw [Bool.false_and] at ht
        have HT4 := Lib.hid ht
        clear ht HO3 HT3
        go_wp2
        go_meet
        case rel => exact ⟨bool_val HT4.out.symm, rfl⟩
    case rest =>
      obtain ⟨rfl, rfl⟩ := hcut
      clear q3 g3
      go_upto_if 55 with fail
      go_cut [11, 12] from 55 to 68 (fun _ _ wx => Below w.heap.size w wx)
      case first =>
        by_cases ht : t3 = true
        · have hh : o3 = true ∧ b ≠ 0 := by
            have h := HT3.out
            rw [ht] at h
            have h2 := h.symm
            rw [Bool.and_eq_true, bne_iff_ne] at h2
            exact h2
          have hf : Fits (a * b) := by
            have h := HO3.out
            rw [hh.1] at h
            by_cases hf : Fits (a * b)
            · exact hf
            · rw [far_no hf] at h; cases h
          have hn := HN3.out
          rw [numN_yes hf] at hn
          have C := fun w => div_back HFA.out HFB.out hh.2 hf w
          rw [← hn] at C
          have HC := Lib.hid C
          clear C hn hf hh
          subst ht
          go_wp2_with (go_at_call 18; refine Calls.mono (HC.out _) ?_; rintro e w5 ⟨rfl, hb5'⟩; have hb5 := hb4.trans (hb5'.mono hb4.size); clear hb5')
          go_meet
          case rel => exact hb5
        · have ht' : t3 = false := by simpa using ht
          clear ht
          subst ht'
          go_wp2_with fail
          go_meet
          case rel => exact hb4
      case rest =>
        have hb5 := hcut
        clear HN3 HO3 HT3 hb4 hcut
        by_cases h0 : b = 0
        · have C := fun w => div_zero a HFA.out w
          rw [← h0] at C
          have e0 : (b == 0) = true := by rw [beq_iff_eq]; exact h0
          obtain ⟨v, hv⟩ : ∃ v, v = over := ⟨_, rfl⟩
          have q := fun w => over_neq w
          have g := fun x w => over_guard x w
          rw [← hv] at C q g
          have HC := Lib.hid C
          clear C h0 hv
          go_wp2_with (go_at_call 18; refine Calls.mono (HC.out _) ?_; rintro e w6 ⟨rfl, hb6⟩)
          go_ret
          exact ⟨rfl, hb5.trans (hb6.mono hb5.size)⟩
        by_cases hs : a = least ∧ b = -1
        · obtain ⟨N, hN⟩ : ∃ N : World → Int, ∀ w, Calls Try.prog 18 #[.int .i64 a, .int .i64 b] w fun e w' => e = .returned (.tuple #[.int .i64 (N w), over]) ∧ Below w.heap.size w w' := by
            have h := fun w => div_far HFA.out HFB.out hs w
            exact Classical.axiomOfChoice h
          have e0 : (b == 0) = false := by rw [beq_eq_false_iff_ne]; exact h0
          have e1 : (a == -9223372036854775808) = true := by rw [beq_iff_eq]; exact hs.1
          have e2 : (b == -1) = true := by rw [beq_iff_eq]; exact hs.2
          obtain ⟨v, hv⟩ : ∃ v, v = over := ⟨_, rfl⟩
          have q := fun w => over_neq w
          have g := fun x w => over_guard x w
          rw [← hv] at hN q g
          have HC := Lib.hid hN
          clear hN h0 hv hs
          go_wp2_with (go_at_call 18; refine Calls.mono (HC.out _) ?_; rintro e w6 ⟨rfl, hb6⟩)
          go_ret
          exact ⟨rfl, hb5.trans (hb6.mono hb5.size)⟩
        · have C1 := fun w => div_yes HFA.out HFB.out h0 hs w
          have C2 := fun w => mod_num a b h0 w
          have C3 := fun w => mul_back HFA.out HFB.out h0 hs w
          have C4 := fun w => add_back (b := b) HFA.out w
          have hrs := rest_sign (a := a) (b := b)
          obtain ⟨q, hq⟩ : ∃ q, q = a.tdiv b := ⟨_, rfl⟩
          obtain ⟨r, hr⟩ : ∃ r, r = a.tmod b := ⟨_, rfl⟩
          obtain ⟨m, hm⟩ : ∃ m, m = q * b := ⟨_, rfl⟩
          rw [← hq] at C1 C3 C4
          rw [← hm] at C3 C4
          rw [← hr] at C2 C4 hrs
          have H1 := Lib.hid C1
          have H2 := Lib.hid C2
          have H3 := Lib.hid C3
          have H4 := Lib.hid C4
          clear C1 C2 C3 C4 hq hr hm h0 hs
          by_cases hr0 : r = 0
          · have t0 : (r == 0) = true := by rw [beq_iff_eq]; exact hr0
            clear hrs hr0
            go_wp2_with (first | (go_at_call 18; refine Calls.mono (H1.out _) ?_; rintro e w6 ⟨rfl, hb6⟩) | (go_at_call 19; refine Calls.mono (H2.out _) ?_; rintro e w9 ⟨rfl, rfl⟩) | (go_at_call 13; refine Calls.mono (H3.out _) ?_; rintro e w7 ⟨rfl, hb7⟩) | (go_at_call 11; refine Calls.mono (H4.out _) ?_; rintro e w8 ⟨rfl, hb8⟩))
            go_ret
            exact ⟨rfl, ((hb5.trans (hb6.mono hb5.size)).trans (hb7.mono (Nat.le_trans hb5.size hb6.size))).trans (hb8.mono (Nat.le_trans hb5.size (Nat.le_trans hb6.size hb7.size)))⟩
          · have hsg := hrs hr0
            have t0 : (r == 0) = false := by rw [beq_eq_false_iff_ne]; exact hr0
            obtain ⟨x, hx⟩ : ∃ x, x = decide (a < 0) := ⟨_, rfl⟩
            have t1 : decide (r < 0) = x := by rw [hx]; exact decide_eq_decide.2 hsg
            have t2 : decide (a < 0) = x := hx.symm
            clear hrs hr0 hsg hx
            go_wp2_with (first | (go_at_call 18; refine Calls.mono (H1.out _) ?_; rintro e w6 ⟨rfl, hb6⟩) | (go_at_call 19; refine Calls.mono (H2.out _) ?_; rintro e w9 ⟨rfl, rfl⟩) | (go_at_call 13; refine Calls.mono (H3.out _) ?_; rintro e w7 ⟨rfl, hb7⟩) | (go_at_call 11; refine Calls.mono (H4.out _) ?_; rintro e w8 ⟨rfl, hb8⟩))
            go_ret
            exact ⟨rfl, ((hb5.trans (hb6.mono hb5.size)).trans (hb7.mono (Nat.le_trans hb5.size hb6.size))).trans (hb8.mono (Nat.le_trans hb5.size (Nat.le_trans hb6.size hb7.size)))⟩
end Go.Proofs.Ytfajalhpenincaa
