/- ArithDivides answers true of whatever two numbers. -/
import Derived.Test.YtfajalhpenincaaBigDiv
import Derived.Test.YtfajalhpenincaaDivide
namespace Go.Proofs.Ytfajalhpenincaa
set_option maxRecDepth 100000
open Go.RowKit

def ordZ (a b : Int) : Int := if a < b then 0 else if a = b then 1 else 2
theorem ord_lt {a b : Int} (h : a < b) : ordZ a b = 0 := if_pos h
theorem ord_eq {a b : Int} (h : a = b) : ordZ a b = 1 := by unfold ordZ; rw [if_neg (by omega), if_pos h]
theorem ord_gt {a b : Int} (h : b < a) : ordZ a b = 2 := by unfold ordZ; rw [if_neg (by omega), if_neg (by omega)]
set_option maxHeartbeats 400000 in
theorem compare_any (a b : Int) (w : World) : Calls Try.prog 20 #[.int .i64 a, .int .i64 b] w fun e w' => e = .returned (.int .i64 (ordZ a b)) ∧ w = w' := by
  rcases Int.lt_trichotomy a b with h | h | h
  · rw [ord_lt h]
    go_enter Try.func20, Try.ntmps20
    go_wp2_with fail
    go_ret
    exact ⟨rfl, rfl⟩
  · rw [ord_eq h]
    subst h
    go_enter Try.func20, Try.ntmps20
    go_wp2_with fail
    go_ret
    exact ⟨rfl, rfl⟩
  · rw [ord_gt h]
    have h1 : ¬ a < b := by omega
    go_enter Try.func20, Try.ntmps20
    go_wp2_with fail
    go_ret
    exact ⟨rfl, rfl⟩
theorem divB_big (x y : Value) (a b : Int) (w : World) (hx : IsBig w x a) (hy : IsBig w y b) (h0 : b ≠ 0) :
    Calls Try.prog 22 #[x, y] w fun e w' => ∃ v, e = .returned v ∧ ∃ x y, v = .tuple #[x, y] ∧ IsBig w' x (a.tdiv b) ∧ IsBig w' y (a.tmod b) ∧ Below w.heap.size w w' := by
  obtain ⟨s, A, n, c, ds, rfl, h2⟩ := hx
  obtain ⟨t, A2, n2, c2, es, rfl, h4⟩ := hy
  exact divB_any s t A A2 n c n2 c2 ds es a b w h2 h4 h0

set_option maxHeartbeats 4000000 in
theorem divides_any (a b : Int) (ha : Fits a) (hb : Fits b) (w : World) :
    Calls Try.prog 4 #[.int .i64 a, .int .i64 b] w fun e w' => e = .returned (.bool true) ∧ Below w.heap.size w w' := by
  have HA := Lib.hid (fun w => alive_any w)
  have HC := fun w => compare_any a b w
  have hl : a < b → ordZ a b = 0 := ord_lt
  have he : a = b → ordZ a b = 1 := ord_eq
  have hg : b < a → ordZ a b = 2 := ord_gt
  obtain ⟨o, ho⟩ : ∃ o, o = ordZ a b := ⟨_, rfl⟩
  rw [← ho] at HC hl he hg
  have DC := Lib.hid HC
  have OL := Lib.hid hl
  have OE := Lib.hid he
  have OG := Lib.hid hg
  clear HC hl he hg ho
  by_cases h0 : b = 0
  · have C1 := fun w => div_zero a ha w
    have C2 := fun w => mod_zero a w
    rw [← h0] at C1 C2
    have e0 : (b == 0) = true := by rw [beq_iff_eq]; exact h0
    have IO := fun w => is_over w
    unfold over at C1 C2 IO
    have D1 := Lib.hid C1
    have D2 := Lib.hid C2
    have DI := Lib.hid IO
    clear C1 C2 IO h0
    go_enter Try.func4, Try.ntmps4
    go_wp2_with fail
    refine Calls.mono (HA.out _) ?_
    rintro e w1 ⟨rfl, hb1⟩
    go_wp2_with fail
    refine Calls.mono (D1.out _) ?_
    rintro e w2 ⟨rfl, hb2⟩
    have HE := Lib.hid (hb1.trans (hb2.mono hb1.size))
    clear hb1 hb2
    go_wp2_with fail
    refine Calls.mono (D2.out _) ?_
    rintro e w3 ⟨rfl, rfl⟩
    rcases Int.lt_trichotomy a b with h | h | h
    · have := OL.out h
      subst this
      go_wp2_with fail
      refine Calls.mono (DC.out _) ?_
      rintro e w4 ⟨rfl, rfl⟩
      go_wp2_with fail
      refine Calls.mono (DI.out _) ?_
      rintro e w4 ⟨rfl, rfl⟩
      go_wp2_with fail
      refine Calls.mono (DI.out _) ?_
      rintro e w4 ⟨rfl, rfl⟩
      go_wp2_with fail
      go_ret
      exact ⟨rfl, HE.out⟩
    · have := OE.out h
      subst this
      subst h
      go_wp2_with fail
      refine Calls.mono (DC.out _) ?_
      rintro e w4 ⟨rfl, rfl⟩
      go_wp2_with fail
      refine Calls.mono (DI.out _) ?_
      rintro e w4 ⟨rfl, rfl⟩
      go_wp2_with fail
      refine Calls.mono (DI.out _) ?_
      rintro e w4 ⟨rfl, rfl⟩
      go_wp2_with fail
      go_ret
      exact ⟨rfl, HE.out⟩
    · have := OG.out h
      subst this
      have h1 : ¬ a < b := by omega
      have h2 : (a == b) = false := by rw [beq_eq_false_iff_ne]; omega
      go_wp2_with fail
      refine Calls.mono (DC.out _) ?_
      rintro e w4 ⟨rfl, rfl⟩
      go_wp2_with fail
      refine Calls.mono (DI.out _) ?_
      rintro e w4 ⟨rfl, rfl⟩
      go_wp2_with fail
      refine Calls.mono (DI.out _) ?_
      rintro e w4 ⟨rfl, rfl⟩
      go_wp2_with fail
      go_ret
      exact ⟨rfl, HE.out⟩
  · have C1 := fun w => div_num a b ha hb h0 w
    have C2 := fun w => mod_num a b h0 w
    have e0 : (b == 0) = false := by rw [beq_eq_false_iff_ne]; exact h0
    have O1 := Lib.hid (fun w => of_big a ha w)
    have O2 := Lib.hid (fun w => of_big b hb w)
    have DV := Lib.hid (fun x y w hx hy => divB_big x y a b w hx hy h0)
    have I1 := fun x w h => is_big x (a.tdiv b) w h
    have I2 := fun x w h => is_big x (a.tmod b) w h
    rw [numN_yes (rest_fits ha), numE_yes (rest_fits ha)] at I2
    obtain ⟨q, hq⟩ : ∃ q, q = a.tdiv b := ⟨_, rfl⟩
    obtain ⟨r, hr⟩ : ∃ r, r = a.tmod b := ⟨_, rfl⟩
    rw [← hq] at C1 I1 DV
    rw [← hr] at C2 I2 DV
    obtain ⟨n, hn⟩ : ∃ n, n = numN q := ⟨_, rfl⟩
    obtain ⟨v, hv⟩ : ∃ n, n = numE q := ⟨_, rfl⟩
    rw [← hn, ← hv] at C1 I1
    have D1 := Lib.hid C1
    have D2 := Lib.hid C2
    have J1 := Lib.hid I1
    have J2 := Lib.hid I2
    clear C1 C2 I1 I2 hn hv hq hr h0 ha hb
    go_enter Try.func4, Try.ntmps4
    go_wp2_with fail
    refine Calls.mono (HA.out _) ?_
    rintro e w1 ⟨rfl, hb1⟩
    go_wp2_with fail
    refine Calls.mono (D1.out _) ?_
    rintro e w2 ⟨rfl, hb2⟩
    have HE := Lib.hid (hb1.trans (hb2.mono hb1.size))
    clear hb1 hb2
    go_wp2_with fail
    refine Calls.mono (D2.out _) ?_
    rintro e w3 ⟨rfl, rfl⟩
    go_upto_if 28 with fail
    go_cut [9] from 28 to 31 (fun x wx => x = .int .i64 o ∧ w2 = wx)
    case first =>
      rcases Int.lt_trichotomy a b with h | h | h
      · have := OL.out h
        subst this
        go_wp2_with fail
        go_meet
        case rel => exact ⟨rfl, rfl⟩
      · have := OE.out h
        subst this
        subst h
        go_wp2_with fail
        go_meet
        case rel => exact ⟨rfl, rfl⟩
      · have := OG.out h
        subst this
        have h1 : ¬ a < b := by omega
        have h2 : (a == b) = false := by rw [beq_eq_false_iff_ne]; omega
        go_wp2_with fail
        go_meet
        case rel => exact ⟨rfl, rfl⟩
    case rest =>
      obtain ⟨rfl, rfl⟩ := hcut
      go_wp2_with fail
      refine Calls.mono (DC.out _) ?_
      rintro e w4 ⟨rfl, rfl⟩
      go_wp2_with fail
      refine Calls.mono (O1.out _) ?_
      rintro e w5 ⟨x, rfl, hx, hb5⟩
      have HE5 := Lib.hid (HE.out.trans (hb5.mono HE.out.size))
      have HX := Lib.hid hx
      clear hb5 hx
      go_wp2_with fail
      refine Calls.mono (O2.out _) ?_
      rintro e w6 ⟨y, rfl, hy, hb6⟩
      have HE6 := Lib.hid (HE5.out.trans (hb6.mono HE5.out.size))
      have HX6 := Lib.hid (HX.out.ext (stays_below hb6))
      have HY := Lib.hid hy
      clear hb6 hy
      go_wp2_with fail
      refine Calls.mono (DV.out _ _ _ HX6.out HY.out) ?_
      rintro e w7 ⟨_, rfl, x1, y1, rfl, hx1, hy1, hb7⟩
      have HE7 := Lib.hid (HE6.out.trans (hb7.mono HE6.out.size))
      obtain ⟨s1, A1, n1, c1, ds1, rfl, hx1⟩ := hx1
      obtain ⟨s2, A2, n2, c2, ds2, rfl, hy1⟩ := hy1
      have hbo : Below w7.heap.size w7 ((w7.alloc (.cells #[.bool s1, .slice A1 n1 c1] 25)).alloc (.cells #[.bool s2, .slice A2 n2 c2] 25)) := ((Below.refl _ w7).alloc (Nat.le_refl _) _).alloc (by simp) _
      have X1 := Lib.hid (show IsBig _ (.agg #[.bool s1, .slice A1 n1 c1]) q from ⟨s1, A1, n1, c1, ds1, rfl, hx1.ext (stays_below hbo)⟩)
      have Y1 := Lib.hid (show IsBig _ (.agg #[.bool s2, .slice A2 n2 c2]) r from ⟨s2, A2, n2, c2, ds2, rfl, hy1.ext (stays_below hbo)⟩)
      have G1 := Lib.hid (show Bg ((w7.alloc (.cells #[.bool s1, .slice A1 n1 c1] 25)).alloc (.cells #[.bool s2, .slice A2 n2 c2] 25)) (w7.heap.size + 1) s2 (.slice A2 n2 c2) from by
        have h := box_one (w7.alloc (.cells #[.bool s1, .slice A1 n1 c1] 25)) s2 (.slice A2 n2 c2)
        rw [World.size_alloc] at h
        exact h)
      have HE8 := Lib.hid (HE7.out.trans (hbo.mono HE7.out.size))
      clear hb7 hbo hx1 hy1
      go_wp2_with fail
      refine Calls.mono (J1.out _ _ X1.out) ?_
      rintro e w8 ⟨rfl, hb8⟩
      have k1 := (G1.out.below hb8 G1.out.lt).cell0
      have k2 := (G1.out.below hb8 G1.out.lt).cell1
      have Y2 := Lib.hid (Y1.out.ext (stays_below hb8))
      have HE9 := Lib.hid (HE8.out.trans (hb8.mono HE8.out.size))
      clear hb8
      go_wp2_with fail
      refine Calls.mono (J2.out _ _ Y2.out) ?_
      rintro e w9 ⟨rfl, hb9⟩
      have HF := Lib.hid (HE9.out.trans (hb9.mono HE9.out.size))
      clear hb9 k1 k2
      go_wp2_with fail
      go_ret
      exact ⟨rfl, HF.out⟩
end Go.Proofs.Ytfajalhpenincaa
