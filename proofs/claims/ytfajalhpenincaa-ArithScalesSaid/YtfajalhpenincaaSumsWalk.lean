/- ArithSums answers true of whatever two numbers. -/
import Derived.Test.YtfajalhpenincaaBigMul
import Derived.Test.YtfajalhpenincaaBigAns
import Derived.Test.YtfajalhpenincaaFitsWalk
namespace Go.Proofs.Ytfajalhpenincaa
open Go.RowKit

theorem of_big (z : Int) (hz : Fits z) (w : World) :
    Calls Try.prog 10 #[.int .i64 z] w fun e w' => ∃ v, e = .returned v ∧ IsBig w' v z ∧ Below w.heap.size w w' :=
  (of_any z hz w).mono fun _ _ ⟨_, he, _, h1, h2, h3, h4, h5⟩ => ⟨_, he, isBig_of h1 h2 h3 h4 hz, h5⟩
theorem big_small {n : Nat} (h : n ≤ 340282366920938463463374607431768211456) : n < 10 ^ 200 :=
  Nat.lt_of_le_of_lt h (Nat.lt_of_lt_of_le (show 340282366920938463463374607431768211456 < 10 ^ 39 by decide) (Nat.pow_le_pow_right (by decide) (by decide)))
theorem fits_abs {a : Int} (h : Fits a) : a.natAbs ≤ 9223372036854775808 := by unfold Fits at h; omega
theorem big_prod {a b : Int} (ha : Fits a) (hb : Fits b) : (a * b).natAbs < 10 ^ 200 := by
  refine big_small ?_
  rw [Int.natAbs_mul]
  exact Nat.le_trans (Nat.mul_le_mul (fits_abs ha) (fits_abs hb)) (by decide)

theorem bmul_big (x y : Value) (a b : Int) (w : World) (hx : IsBig w x a) (hy : IsBig w y b) (hz : (a * b).natAbs < 10 ^ 200) :
    Calls Try.prog 17 #[x, y] w fun e w' => ∃ v, e = .returned v ∧ IsBig w' v (a * b) ∧ Below w.heap.size w w' := by
  obtain ⟨s, A, n, c, ds, rfl, h2⟩ := hx
  obtain ⟨t, A2, n2, c2, es, rfl, h4⟩ := hy
  exact bmul_any _ _ _ _ _ _ _ _ ds es a b w h2 h4 hz

set_option maxHeartbeats 4000000 in
set_option maxRecDepth 100000 in
theorem sums_any (alive : ∀ w : World, Calls Try.prog 9 #[] w fun e w' => e = .returned (.bool true) ∧ Below w.heap.size w w') (a b : Int) (ha : Fits a) (hb : Fits b) (w : World) :
    Calls Try.prog 3 #[.int .i64 a, .int .i64 b] w fun e w' => e = .returned (.bool true) ∧ Below w.heap.size w w' := by
  have C1 := fun w => add_num a b ha hb w
  have C2 := fun w => sub_num a b ha hb w
  have C3 := fun w => mul_num a b ha hb w
  have I1 := fun x w h => is_big x (a + b) w h
  have I2 := fun x w h => is_big x (a - b) w h
  have I3 := fun x w h => is_big x (a * b) w h
  have z1 : (a + b).natAbs < 10 ^ 200 := big_small (by have := fits_abs ha; have := fits_abs hb; omega)
  have z2 : (a - b).natAbs < 10 ^ 200 := big_small (by have := fits_abs ha; have := fits_abs hb; omega)
  have z3 := big_prod ha hb
  have zb : b.natAbs < 10 ^ 200 := big_small (by have := fits_abs hb; omega)
  obtain ⟨p1, hp1⟩ : ∃ n, n = a + b := ⟨_, rfl⟩
  obtain ⟨p2, hp2⟩ : ∃ n, n = a - b := ⟨_, rfl⟩
  obtain ⟨p3, hp3⟩ : ∃ n, n = a * b := ⟨_, rfl⟩
  rw [← hp1] at C1 I1
  rw [← hp2] at C2 I2
  rw [← hp3] at C3 I3
  obtain ⟨n1, hn1⟩ : ∃ n, n = numN p1 := ⟨_, rfl⟩
  obtain ⟨n2, hn2⟩ : ∃ n, n = numN p2 := ⟨_, rfl⟩
  obtain ⟨n3, hn3⟩ : ∃ n, n = numN p3 := ⟨_, rfl⟩
  obtain ⟨v1, hv1⟩ : ∃ n, n = numE p1 := ⟨_, rfl⟩
  obtain ⟨v2, hv2⟩ : ∃ n, n = numE p2 := ⟨_, rfl⟩
  obtain ⟨v3, hv3⟩ : ∃ n, n = numE p3 := ⟨_, rfl⟩
  rw [← hn1, ← hv1] at C1 I1
  rw [← hn2, ← hv2] at C2 I2
  rw [← hn3, ← hv3] at C3 I3
  have O1 := Lib.hid (fun w => of_big a ha w)
  have O2 := Lib.hid (fun w => of_big b hb w)
  have A1 := Lib.hid (show ∀ x y w, IsBig w x a → IsBig w y b → Calls Try.prog 15 #[x, y] w fun e w' => ∃ v, e = .returned v ∧ IsBig w' v p1 ∧ Below w.heap.size w w' from by
    rw [hp1]; exact fun x y w hx hy => addB_any x y a b w hx hy z1)
  have A2 := Lib.hid (show ∀ x y w, IsBig w x a → IsBig w y (-b) → Calls Try.prog 15 #[x, y] w fun e w' => ∃ v, e = .returned v ∧ IsBig w' v p2 ∧ Below w.heap.size w w' from by
    rw [hp2, Int.sub_eq_add_neg]; exact fun x y w hx hy => addB_any x y a (-b) w hx hy (by rw [← Int.sub_eq_add_neg]; exact z2))
  have M3 := Lib.hid (show ∀ x y w, IsBig w x a → IsBig w y b → Calls Try.prog 17 #[x, y] w fun e w' => ∃ v, e = .returned v ∧ IsBig w' v p3 ∧ Below w.heap.size w w' from by
    rw [hp3]; exact fun x y w hx hy => bmul_big x y a b w hx hy z3)
  have HA := Lib.hid alive
  have H1 := Lib.hid C1
  have H2 := Lib.hid C2
  have H3 := Lib.hid C3
  have J1 := Lib.hid I1
  have J2 := Lib.hid I2
  have J3 := Lib.hid I3
  have ZB := Lib.hid zb
  clear alive C1 C2 C3 I1 I2 I3 hn1 hn2 hn3 hv1 hv2 hv3 ha hb z1 z2 z3 zb hp1 hp2 hp3
  go_enter Try.func3, Try.ntmps3
  go_wp2_with fail
  refine Calls.mono (HA.out _) ?_
  rintro e w1 ⟨rfl, hb1⟩
  go_wp2_with fail
  refine Calls.mono (O1.out _) ?_
  rintro e w2 ⟨x, rfl, hx2, hb2⟩
  go_wp2_with fail
  refine Calls.mono (O2.out _) ?_
  rintro e w3 ⟨y, rfl, hy3, hb3⟩
  have hx3 := hx2.ext (stays_below hb3)
  obtain ⟨s, A, n, c, ds, rfl, hxb⟩ := hx3
  obtain ⟨t, A', n', c', es, rfl, hyb⟩ := hy3
  have hw3 := (hb1.trans (hb2.mono hb1.size)).trans (hb3.mono (Nat.le_trans hb1.size hb2.size))
  have hbo : Below w3.heap.size w3 ((w3.alloc (.cells #[.bool s, .slice A n c] 25)).alloc (.cells #[.bool t, .slice A' n' c'] 25)) := ((Below.refl _ w3).alloc (Nat.le_refl _) _).alloc (by simp) _
  have hg0 : Bg ((w3.alloc (.cells #[.bool s, .slice A n c] 25)).alloc (.cells #[.bool t, .slice A' n' c'] 25)) w3.heap.size s (.slice A n c) := (box_one w3 s _).alloc _
  have hg1 : Bg ((w3.alloc (.cells #[.bool s, .slice A n c] 25)).alloc (.cells #[.bool t, .slice A' n' c'] 25)) (w3.heap.size + 1) t (.slice A' n' c') := by
    have h := box_one (w3.alloc (.cells #[.bool s, .slice A n c] 25)) t (.slice A' n' c')
    rw [World.size_alloc] at h
    exact h
  have XB := Lib.hid (hxb.ext (stays_below hbo))
  have YB := Lib.hid (hyb.ext (stays_below hbo))
  have W3 := Lib.hid (hw3.trans (hbo.mono hw3.size))
  have G0 := Lib.hid hg0
  have G1 := Lib.hid hg1
  clear hb1 hb2 hb3 hxb hyb hw3 hx2 hbo hg0 hg1
  go_wp2_with fail
  revert XB YB W3 G0 G1
  generalize (w3.alloc (.cells #[.bool s, .slice A n c] 25)).alloc (.cells #[.bool t, .slice A' n' c'] 25) = w4
  intro XB YB W3 G0 G1
  refine Calls.mono (H1.out _) ?_
  rintro e w5 ⟨rfl, hb5⟩
  go_wp2_with fail
  refine Calls.mono (H2.out _) ?_
  rintro e w6 ⟨rfl, hb6⟩
  go_wp2_with fail
  refine Calls.mono (H3.out _) ?_
  rintro e w7 ⟨rfl, hb7⟩
  have hb47 := (hb5.trans (hb6.mono hb5.size)).trans (hb7.mono (Nat.le_trans hb5.size hb6.size))
  have hx0 : IsBig w7.drew (.agg #[.bool s, .slice A n c]) a := IsBig.ext ⟨s, A, n, c, ds, rfl, XB.out.ext (stays_below hb47)⟩ (fun p _ => by simp)
  have hy0 : IsBig w7.drew (.agg #[.bool t, .slice A' n' c']) b := IsBig.ext ⟨t, A', n', c', es, rfl, YB.out.ext (stays_below hb47)⟩ (fun p _ => by simp)
  have hl0 := G0.out.lt
  have hl1 := G1.out.lt
  have hg0 : Bg w7.drew w3.heap.size s (.slice A n c) := (show Bg w7 w3.heap.size s (.slice A n c) from G0.out.below hb47 hl0)
  have hg1 : Bg w7.drew (w3.heap.size + 1) t (.slice A' n' c') := (show Bg w7 (w3.heap.size + 1) t (.slice A' n' c') from G1.out.below hb47 hl1)
  have q00 : w7.cell? ⟨w3.heap.size, 0, none⟩ = some (.bool s) := hg0.cell0
  have q01 : w7.cell? ⟨w3.heap.size, 1, none⟩ = some (.slice A n c) := hg0.cell1
  have q10 : w7.cell? ⟨w3.heap.size + 1, 0, none⟩ = some (.bool t) := hg1.cell0
  have q11 : w7.cell? ⟨w3.heap.size + 1, 1, none⟩ = some (.slice A' n' c') := hg1.cell1
  have X0 := Lib.hid hx0
  have Y0 := Lib.hid hy0
  have K0 := Lib.hid hg0
  have K1 := Lib.hid hg1
  have L0 := Lib.hid hg0.lt
  have L1 := Lib.hid hg1.lt
  have hbw : Below w.heap.size w w7.drew := (W3.out.trans (hb47.mono W3.out.size)).drew
  have W7 := Lib.hid hbw
  have hB := Below.refl w7.drew.heap.size w7.drew
  clear hb5 hb6 hb7 hb47 hx0 hy0 hg0 hg1 hl0 hl1 hbw XB YB W3 G0 G1 H1 H2 H3 HA O1 O2
  go_wp2_with fail
  go_region_law (first
    | (go_simp; go_at_call 17; refine Calls.mono (M3.out _ _ _ (X0.out.ext (stays_below hB)) (Y0.out.ext (stays_below hB))) ?_; rintro e w8 ⟨r4, rfl, hr4, hb8⟩; have hB := hB.trans (hb8.mono hB.size); have k00 := (K0.out.below hB L0.out).cell0; have k01 := (K0.out.below hB L0.out).cell1; have k10 := (K1.out.below hB L1.out).cell0; have k11 := (K1.out.below hB L1.out).cell1)
    | (go_simp; go_at_call 16; refine Calls.mono (minus_any _ b _ (Y0.out.ext (stays_below hB)) ZB.out) ?_; rintro e w8 ⟨r2, rfl, hr2, hb8⟩; have hB := hB.trans (hb8.mono hB.size); have k00 := (K0.out.below hB L0.out).cell0; have k01 := (K0.out.below hB L0.out).cell1; have k10 := (K1.out.below hB L1.out).cell0; have k11 := (K1.out.below hB L1.out).cell1)
    | (go_simp; go_at_call 15; have hq := hr2; refine Calls.mono (A2.out _ _ _ (X0.out.ext (stays_below hB)) hq) ?_; rintro e w8 ⟨r3, rfl, hr3, hb8⟩; have hB := hB.trans (hb8.mono hB.size); have k00 := (K0.out.below hB L0.out).cell0; have k01 := (K0.out.below hB L0.out).cell1; have k10 := (K1.out.below hB L1.out).cell0; have k11 := (K1.out.below hB L1.out).cell1)
    | (go_simp; go_at_call 15; refine Calls.mono (A1.out _ _ _ (X0.out.ext (stays_below hB)) (Y0.out.ext (stays_below hB))) ?_; rintro e w8 ⟨r1, rfl, hr1, hb8⟩; have hB := hB.trans (hb8.mono hB.size); have k00 := (K0.out.below hB L0.out).cell0; have k01 := (K0.out.below hB L0.out).cell1; have k10 := (K1.out.below hB L1.out).cell0; have k11 := (K1.out.below hB L1.out).cell1)
    | (go_simp; go_at_call 14; (first | (have hq := hr4; refine Calls.mono (J3.out _ _ hq) ?_) | (have hq := hr3; refine Calls.mono (J2.out _ _ hq) ?_) | (have hq := hr1; refine Calls.mono (J1.out _ _ hq) ?_)); rintro e w8 ⟨rfl, hb8⟩; have hB := hB.trans (hb8.mono hB.size); have k00 := (K0.out.below hB L0.out).cell0; have k01 := (K0.out.below hB L0.out).cell1; have k10 := (K1.out.below hB L1.out).cell0; have k11 := (K1.out.below hB L1.out).cell1))
  all_goals
    have HE := Lib.hid (W7.out.trans (hB.mono W7.out.size))
    clear hB
    go_wp2_with fail
    go_ret
    exact ⟨rfl, HE.out⟩
end Go.Proofs.Ytfajalhpenincaa
