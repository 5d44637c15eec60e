/- ArithScales answers true of whatever three numbers. -/
import Derived.Test.YtfajalhpenincaaScaleAny
import Derived.Test.YtfajalhpenincaaDividesWalk
namespace Go.Proofs.Ytfajalhpenincaa
set_option maxRecDepth 100000
open Go.RowKit

theorem scale_naught (a b : Int) (ha : Fits a) (hb : Fits b) (w : World) :
    Calls Try.prog 26 #[.int .i64 a, .int .i64 b, .int .i64 0] w fun e w' => e = .returned (.tuple #[.int .i64 0, over]) ∧ Below w.heap.size w w' :=
  scale_over a b 0 ha hb (by unfold Fits; decide) (by
    have : lo ((0 : Int).natAbs : Int) = 0 := by decide
    rw [this]; unfold hi; omega) w

set_option maxHeartbeats 4000000 in
theorem scales_any (a b c : Int) (ha : Fits a) (hb : Fits b) (hc : Fits c) (w : World) :
    Calls Try.prog 6 #[.int .i64 a, .int .i64 b, .int .i64 c] w fun e w' => e = .returned (.bool true) ∧ Below w.heap.size w w' := by
  have HA := Lib.hid (fun w => alive_any w)
  by_cases h0 : c = 0
  · subst h0
    have C1 := fun w => scale_naught a b ha hb w
    have IO := fun w => is_over w
    unfold over at C1 IO
    have D1 := Lib.hid C1
    have DI := Lib.hid IO
    clear C1 IO ha hb hc
    go_enter Try.func6, Try.ntmps6
    go_wp2_with fail
    refine Calls.mono (HA.out _) ?_
    rintro e w1 ⟨rfl, hb1⟩
    go_wp2_with fail
    refine Calls.mono (D1.out _) ?_
    rintro e w2 ⟨rfl, hb2⟩
    have HE := Lib.hid (hb1.trans (hb2.mono hb1.size))
    clear hb1 hb2
    go_wp2_with fail
    refine Calls.mono (DI.out _) ?_
    rintro e w4 ⟨rfl, rfl⟩
    go_wp2_with fail
    go_ret
    exact ⟨rfl, HE.out⟩
  · have C1 := fun w => scale_any a b c ha hb hc h0 w
    have e0 : (c == 0) = false := by rw [beq_eq_false_iff_ne]; exact h0
    have O1 := Lib.hid (fun w => of_big a ha w)
    have O2 := Lib.hid (fun w => of_big b hb w)
    have O3 := Lib.hid (fun w => of_big c hc w)
    have MM := Lib.hid (fun x y w hx hy => bmul_big x y a b w hx hy (big_prod ha hb))
    have DV := Lib.hid (fun x y w hx hy => divB_big x y (a * b) c w hx hy h0)
    have I1 := fun x w h => is_big x ((a * b).tdiv c) w h
    obtain ⟨q, hq⟩ : ∃ q, q = (a * b).tdiv c := ⟨_, rfl⟩
    rw [← hq] at C1 I1 DV
    obtain ⟨n, hn⟩ : ∃ n, n = numN q := ⟨_, rfl⟩
    obtain ⟨v, hv⟩ : ∃ n, n = numE q := ⟨_, rfl⟩
    rw [← hn, ← hv] at C1 I1
    have D1 := Lib.hid C1
    have J1 := Lib.hid I1
    clear C1 I1 hn hv hq h0 ha hb hc
    go_enter Try.func6, Try.ntmps6
    go_wp2_with fail
    refine Calls.mono (HA.out _) ?_
    rintro e w1 ⟨rfl, hb1⟩
    go_wp2_with fail
    refine Calls.mono (D1.out _) ?_
    rintro e w2 ⟨rfl, hb2⟩
    have HE := Lib.hid (hb1.trans (hb2.mono hb1.size))
    clear hb1 hb2
    go_wp2_with fail
    refine Calls.mono (O1.out _) ?_
    rintro e w5 ⟨x, rfl, hx, hb5⟩
    have HE5 := Lib.hid (HE.out.trans (hb5.mono HE.out.size))
    have HX := Lib.hid hx
    clear hb5 hx
    go_wp2_with fail
    refine Calls.mono (O2.out _) ?_
    rintro e w6 ⟨y, rfl, hy, hb6⟩
    have HE6 := Lib.hid (HE5.out.trans (hb6.mono HE5.out.size))
    have HX6 := Lib.hid (HX.out.ext (stays_below hb6))
    have HY := Lib.hid hy
    clear hb6 hy
    go_wp2_with fail
    refine Calls.mono (MM.out _ _ _ HX6.out HY.out) ?_
    rintro e w7 ⟨p, rfl, hp, hb7⟩
    have HE7 := Lib.hid (HE6.out.trans (hb7.mono HE6.out.size))
    have HP := Lib.hid hp
    clear hb7 hp
    go_wp2_with fail
    refine Calls.mono (O3.out _) ?_
    rintro e w8 ⟨z, rfl, hz, hb8⟩
    have HE8 := Lib.hid (HE7.out.trans (hb8.mono HE7.out.size))
    have HP8 := Lib.hid (HP.out.ext (stays_below hb8))
    have HZ := Lib.hid hz
    clear hb8 hz
    go_wp2_with fail
    refine Calls.mono (DV.out _ _ _ HP8.out HZ.out) ?_
    rintro e w9 ⟨_, rfl, x1, y1, rfl, hx1, hy1, hb9⟩
    have HE9 := Lib.hid (HE8.out.trans (hb9.mono HE8.out.size))
    obtain ⟨s1, A1, n1, c1, ds1, rfl, hx1⟩ := hx1
    obtain ⟨s2, A2, n2, c2, ds2, rfl, hy1⟩ := hy1
    have hbo : Below w9.heap.size w9 ((w9.alloc (.cells #[.bool s1, .slice A1 n1 c1] 25)).alloc (.cells #[.bool s2, .slice A2 n2 c2] 25)) := ((Below.refl _ w9).alloc (Nat.le_refl _) _).alloc (by simp) _
    have X1 := Lib.hid (show IsBig _ (.agg #[.bool s1, .slice A1 n1 c1]) q from ⟨s1, A1, n1, c1, ds1, rfl, hx1.ext (stays_below hbo)⟩)
    have HE10 := Lib.hid (HE9.out.trans (hbo.mono HE9.out.size))
    clear hb9 hbo hx1 hy1
    go_wp2_with fail
    refine Calls.mono (J1.out _ _ X1.out) ?_
    rintro e w11 ⟨rfl, hb11⟩
    have HF := Lib.hid (HE10.out.trans (hb11.mono HE10.out.size))
    clear hb11
    go_wp2_with fail
    go_ret
    exact ⟨rfl, HF.out⟩
end Go.Proofs.Ytfajalhpenincaa
