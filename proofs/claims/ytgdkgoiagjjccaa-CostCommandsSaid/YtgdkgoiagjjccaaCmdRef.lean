/- The contracts of the reference's times, Costs, Command. -/
import Derived.Test.YtgdkgoiagjjccaaCmd2
import Derived.Test.YtgdkgoiagjjccaaBigMul
namespace Go.Proofs.Ytgdkgoiagjjccaa
set_option maxRecDepth 100000
open Go.RowKit

theorem of_big (z : Int) (hz : Fits z) (w : World) :
    Calls Try.prog 56 #[.int .i64 z] w fun e w' => ∃ v, e = .returned v ∧ IsBig w' v z ∧ Below w.heap.size w w' :=
  (of_any z hz w).mono fun _ _ ⟨_, he, _, h1, h2, h3, h4, h5⟩ => ⟨_, he, isBig_of h1 h2 h3 h4 hz, h5⟩
theorem big_small {n : Nat} (h : n ≤ 340282366920938463463374607431768211456) : n < 10 ^ 200 :=
  Nat.lt_of_le_of_lt h (Nat.lt_of_lt_of_le (show 340282366920938463463374607431768211456 < 10 ^ 39 by decide) (Nat.pow_le_pow_right (by decide) (by decide)))
theorem fits_abs {a : Int} (h : Fits a) : a.natAbs ≤ 9223372036854775808 := by unfold Fits at h; omega
theorem big_prod {a b : Int} (ha : Fits a) (hb : Fits b) : (a * b).natAbs < 10 ^ 200 := by
  refine big_small ?_
  rw [Int.natAbs_mul]
  exact Nat.le_trans (Nat.mul_le_mul (fits_abs ha) (fits_abs hb)) (by decide)
theorem bmul_big (x y : Value) (a b : Int) (w : World) (hx : IsBig w x a) (hy : IsBig w y b) (hz : (a * b).natAbs < 10 ^ 200) :
    Calls Try.prog 78 #[x, y] w fun e w' => ∃ v, e = .returned v ∧ IsBig w' v (a * b) ∧ Below w.heap.size w w' := by
  obtain ⟨s, A, n, c, ds, rfl, h2⟩ := hx
  obtain ⟨t, A2, n2, c2, es, rfl, h4⟩ := hy
  exact bmul_any _ _ _ _ _ _ _ _ ds es a b w h2 h4 hz

set_option maxHeartbeats 1000000 in
theorem times_any (a b : Int) (ha : Fits a) (hb : Fits b) (w : World) :
    Calls Try.prog 54 #[.int .i64 a, .int .i64 b] w fun e w' => e = .returned (.tuple #[.int .i64 (wrap64 (a * b)), .bool (decide (Fits (a * b)))]) ∧ Below w.heap.size w w' := by
  have O1 := Lib.hid (fun w => of_big a ha w)
  have O2 := Lib.hid (fun w => of_big b hb w)
  have M := Lib.hid (fun x y w hx hy => bmul_big x y a b w hx hy (big_prod ha hb))
  have N := fun x w (h : IsBig w x (a * b)) => number_big x (a * b) w h
  rw [show decide (wrap64 (a * b) = a * b) = decide (Fits (a * b)) from decide_eq_decide.2 (wrap_same _)] at N
  obtain ⟨p, hp⟩ : ∃ p, p = wrap64 (a * b) := ⟨_, rfl⟩
  obtain ⟨q, hq⟩ : ∃ q, q = decide (Fits (a * b)) := ⟨_, rfl⟩
  rw [← hp, ← hq] at N ⊢
  have HN := Lib.hid N
  clear N hp hq ha hb
  go_enter Try.func54, Try.ntmps54
  go_wp2_with fail
  refine Calls.mono (O1.out _) ?_
  rintro e w1 ⟨x, rfl, hx, hb1⟩
  have HX := Lib.hid hx
  clear hx
  go_wp2_with fail
  refine Calls.mono (O2.out _) ?_
  rintro e w2 ⟨y, rfl, hy, hb2⟩
  have HX2 := Lib.hid (HX.out.ext (stays_below hb2))
  have HY2 := Lib.hid hy
  clear hy
  go_wp2_with fail
  refine Calls.mono (M.out _ _ _ HX2.out HY2.out) ?_
  rintro e w3 ⟨v, rfl, hv, hb3⟩
  have HV := Lib.hid hv
  clear hv
  go_wp2_with fail
  refine Calls.mono (HN.out _ _ HV.out) ?_
  rintro e w4 ⟨rfl, hb4⟩
  have HE := Lib.hid (((hb1.trans (hb2.mono hb1.size)).trans (hb3.mono (Nat.le_trans hb1.size hb2.size))).trans (hb4.mono (Nat.le_trans hb1.size (Nat.le_trans hb2.size hb3.size))))
  clear hb1 hb2 hb3 hb4
  go_wp2_with fail
  go_ret2
  exact ⟨rfl, HE.out⟩

set_option maxHeartbeats 2000000 in
theorem refCosts_any (B C F W P b f n : Int) (hB : Fits B) (hC : Fits C) (hF : Fits F) (hW : Fits W) (hb : Fits b) (hf : Fits f) (hn : Fits n) (w : World) :
    Calls Try.prog 17 #[polV B C F W P, .int .i64 b, .int .i64 f, .int .i64 n] w fun e w' => ∃ v, e = .returned v ∧ ∃ c : Int, v = .tuple #[.int .i64 c, .bool (decide (Fits (cz B C F b f))), .int .i64 (wrap64 (W * n)), .bool (decide (Fits (W * n)))] ∧ (Fits (cz B C F b f) → c = cz B C F b f) ∧ Below w.heap.size w w' := by
  have HB := Lib.hid (show Below w.heap.size w (w.alloc (.cells #[.int .i64 B, .int .i64 C, .int .i64 F, .int .i64 W, .int .i64 P] 23)) from (Below.refl _ w).alloc (Nat.le_refl _) _)
  have HP := Lib.hid (pb_new w B C F W P)
  have T1 := fun w => times_any W n hW hn w
  have T2 := fun w => times_any C b hC hb w
  have T3 := fun w => times_any F f hF hf w
  obtain ⟨v, hv⟩ : ∃ x, x = wrap64 (W * n) := ⟨_, rfl⟩
  obtain ⟨ok, hok⟩ : ∃ x, x = decide (Fits (W * n)) := ⟨_, rfl⟩
  rw [← hv, ← hok] at T1 ⊢
  obtain ⟨x, hx⟩ : ∃ x, x = wrap64 (C * b) := ⟨_, rfl⟩
  obtain ⟨y, hy⟩ : ∃ x, x = wrap64 (F * f) := ⟨_, rfl⟩
  have hxf : Fits x := by rw [hx]; exact wrap_fits _
  have hyf : Fits y := by rw [hy]; exact wrap_fits _
  have X := fun w => of_big x hxf w
  have Y := fun w => of_big y hyf w
  have Z := fun w => of_big B hB w
  have A1 := fun p q w hp hq => addB_any p q x y w hp hq (big_small (by have := fits_abs hxf; have := fits_abs hyf; omega))
  have A2 := fun p q w hp hq => addB_any p q B (x + y) w hp hq (big_small (by have := fits_abs hxf; have := fits_abs hyf; have := fits_abs hB; omega))
  have N := fun p w (h : IsBig w p (B + (x + y))) => number_big p (B + (x + y)) w h
  obtain ⟨dx, hdx⟩ : ∃ x, x = decide (Fits (C * b)) := ⟨_, rfl⟩
  obtain ⟨dy, hdy⟩ : ∃ x, x = decide (Fits (F * f)) := ⟨_, rfl⟩
  obtain ⟨near, hnear⟩ : ∃ x, x = decide (Fits (cz B C F b f)) := ⟨_, rfl⟩
  obtain ⟨z, hz⟩ : ∃ x, x = cz B C F b f := ⟨_, rfl⟩
  have hkey : (dx && dy && decide (wrap64 (B + (x + y)) = B + (x + y))) = near ∧ (near = true → wrap64 (B + (x + y)) = z) := by
    rw [hdx, hdy, hnear, hz]
    unfold cz
    by_cases h1 : Fits (C * b)
    · by_cases h2 : Fits (F * f)
      · have e1 : x = C * b := by rw [hx]; exact (wrap_same _).2 h1
        have e2 : y = F * f := by rw [hy]; exact (wrap_same _).2 h2
        rw [decide_eq_true h1, decide_eq_true h2, if_pos ⟨h1, h2⟩, e1, e2]
        have e3 : B + (C * b + F * f) = B + C * b + F * f := by omega
        rw [e3]
        refine ⟨by rw [Bool.true_and, Bool.true_and]; exact decide_eq_decide.2 (wrap_same _), fun h => (wrap_same _).2 (of_decide_eq_true h)⟩
      · rw [decide_eq_false h2, if_neg (fun h => h2 h.2), decide_eq_false (show ¬ Fits 18446744073709551616 by decide)]
        exact ⟨by simp, fun h => by cases h⟩
    · rw [decide_eq_false h1, if_neg (fun h => h1 h.1), decide_eq_false (show ¬ Fits 18446744073709551616 by decide)]
      exact ⟨by simp, fun h => by cases h⟩
  have hnz : Fits z ↔ near = true := by rw [hnear, hz, decide_eq_true_iff]
  rw [← hnear, ← hz]
  rw [← hx, ← hdx] at T2
  rw [← hy, ← hdy] at T3
  obtain ⟨s, hs⟩ : ∃ s, s = B + (x + y) := ⟨_, rfl⟩
  rw [← hs] at N A2 hkey
  obtain ⟨p, hp⟩ : ∃ p, p = wrap64 s := ⟨_, rfl⟩
  rw [← hp] at N hkey
  obtain ⟨d, hd⟩ : ∃ d, d = decide (p = s) := ⟨_, rfl⟩
  rw [← hd] at N hkey
  have H1 := Lib.hid T1
  have H2 := Lib.hid T2
  have H3 := Lib.hid T3
  have HX := Lib.hid X
  have HY := Lib.hid Y
  have HZ := Lib.hid Z
  have HA1 := Lib.hid A1
  have HA2 := Lib.hid A2
  have HN := Lib.hid N
  have HK := Lib.hid hkey
  have HNZ := Lib.hid hnz
  clear T1 T2 T3 X Y Z A1 A2 N hkey hnz hv hok hx hy hxf hyf hdx hdy hnear hz hs hp hd hB hC hF hW hb hf hn
  go_enter Try.func17, Try.ntmps17
  go_wp2_with fail
  refine Calls.mono (H1.out _) ?_
  rintro e w1 ⟨rfl, hb1⟩
  have hp1 := HP.out.below hb1 HP.out.lt
  have k1 := hp1.c1
  have HE1 := Lib.hid (HB.out.trans (hb1.mono HB.out.size))
  have HP1 := Lib.hid hp1
  clear hb1 hp1
  go_wp2_with fail
  refine Calls.mono (H2.out _) ?_
  rintro e w2 ⟨rfl, hb2⟩
  have hp2 := HP1.out.below hb2 HP1.out.lt
  have k2 := hp2.c2
  have HE2 := Lib.hid (HE1.out.trans (hb2.mono HE1.out.size))
  have HP2 := Lib.hid hp2
  clear hb2 hp2 k1
  go_wp2_with fail
  refine Calls.mono (H3.out _) ?_
  rintro e w3 ⟨rfl, hb3⟩
  have hp3 := HP2.out.below hb3 HP2.out.lt
  have k0 := hp3.c0
  have HE3 := Lib.hid (HE2.out.trans (hb3.mono HE2.out.size))
  clear hb3 hp3 k2
  go_wp2_with fail
  refine Calls.mono (HZ.out _) ?_
  rintro e w4 ⟨bz, rfl, hbz, hb4⟩
  have IZ := Lib.hid hbz
  have HE4 := Lib.hid (HE3.out.trans (hb4.mono HE3.out.size))
  clear hbz hb4 k0
  go_wp2_with fail
  refine Calls.mono (HX.out _) ?_
  rintro e w5 ⟨bx, rfl, hbx, hb5⟩
  have IX := Lib.hid hbx
  have IZ5 := Lib.hid (IZ.out.ext (stays_below hb5))
  have HE5 := Lib.hid (HE4.out.trans (hb5.mono HE4.out.size))
  clear hbx hb5
  go_wp2_with fail
  refine Calls.mono (HY.out _) ?_
  rintro e w6 ⟨by', rfl, hby, hb6⟩
  have IX6 := Lib.hid (IX.out.ext (stays_below hb6))
  have IZ6 := Lib.hid (IZ5.out.ext (stays_below hb6))
  have IY := Lib.hid hby
  have HE6 := Lib.hid (HE5.out.trans (hb6.mono HE5.out.size))
  clear hby hb6
  go_wp2_with fail
  refine Calls.mono (HA1.out _ _ _ IX6.out IY.out) ?_
  rintro e w7 ⟨b1, rfl, hb1, hb7⟩
  have IZ7 := Lib.hid (IZ6.out.ext (stays_below hb7))
  have I1 := Lib.hid hb1
  have HE7 := Lib.hid (HE6.out.trans (hb7.mono HE6.out.size))
  clear hb1 hb7
  go_wp2_with fail
  refine Calls.mono (HA2.out _ _ _ IZ7.out I1.out) ?_
  rintro e w8 ⟨b2, rfl, hb2, hb8⟩
  have HE8 := Lib.hid (HE7.out.trans (hb8.mono HE7.out.size))
  obtain ⟨sg, A, m, c, ds, rfl, hbo⟩ := hb2
  have hal := (Below.refl w8.heap.size w8).alloc (Nat.le_refl _) (.cells #[.bool sg, .slice A m c] 96)
  have IN : IsBig (w8.alloc (.cells #[.bool sg, .slice A m c] 96)) (.agg #[.bool sg, .slice A m c]) s := ⟨sg, A, m, c, ds, rfl, hbo.ext (stays_below hal)⟩
  have I2 := Lib.hid IN
  have HE9 := Lib.hid (HE8.out.trans (hal.mono HE8.out.size))
  clear hb8 hbo hal IN
  go_wp2_with fail
  refine Calls.mono (HN.out _ _ I2.out) ?_
  rintro e w9 ⟨rfl, hb9⟩
  have HE := Lib.hid (HE9.out.trans (hb9.mono HE9.out.size))
  clear hb9
  have hk := HK.out
  by_cases h1 : dx = true
  · subst h1
    by_cases h2 : dy = true
    · subst h2
      rw [Bool.true_and, Bool.true_and] at hk
      obtain ⟨h3, h4⟩ := hk
      subst h3
      have HK4 := Lib.hid h4
      clear h4 HK
      go_wp2_with fail
      exact bodyPost_ret (v := .tuple #[.int .i64 p, .bool d, .int .i64 v, .bool ok]) (by simp [results, Try.results17, go_sem]) rfl ⟨_, rfl, p, rfl, fun h => HK4.out (HNZ.out.1 h), HE.out⟩
    · have h2' : dy = false := by simpa using h2
      clear h2
      subst h2'
      rw [Bool.and_false, Bool.false_and] at hk
      obtain ⟨h3, h4⟩ := hk
      subst h3
      have HK4 := Lib.hid h4
      clear h4 HK
      go_wp2_with fail
      exact bodyPost_ret (v := .tuple #[.int .i64 p, .bool false, .int .i64 v, .bool ok]) (by simp [results, Try.results17, go_sem]) rfl ⟨_, rfl, p, rfl, fun h => HK4.out (HNZ.out.1 h), HE.out⟩
  · have h1' : dx = false := by simpa using h1
    clear h1
    subst h1'
    rw [Bool.false_and, Bool.false_and] at hk
    obtain ⟨h3, h4⟩ := hk
    subst h3
    have HK4 := Lib.hid h4
    clear h4 HK
    go_wp2_with fail
    exact bodyPost_ret (v := .tuple #[.int .i64 p, .bool false, .int .i64 v, .bool ok]) (by simp [results, Try.results17, go_sem]) rfl ⟨_, rfl, p, rfl, fun h => HK4.out (HNZ.out.1 h), HE.out⟩

set_option maxHeartbeats 1000000 in
theorem refCommand_any (B C F W P b f n : Int) (hB : Fits B) (hC : Fits C) (hF : Fits F) (hW : Fits W) (hb : Fits b) (hf : Fits f) (hn : Fits n) (w : World) :
    Calls Try.prog 20 #[polV B C F W P, .int .i64 b, .int .i64 f, .int .i64 n] w fun e w' => e = .returned (.bool (cmdB (cz B C F b f) (W * n))) ∧ Below w.heap.size w w' := by
  have HB := Lib.hid (show Below w.heap.size w (w.alloc (.cells #[.int .i64 B, .int .i64 C, .int .i64 F, .int .i64 W, .int .i64 P] 23)) from (Below.refl _ w).alloc (Nat.le_refl _) _)
  have C1 := fun w => refCosts_any B C F W P b f n hB hC hF hW hb hf hn w
  obtain ⟨z, hz⟩ : ∃ x, x = cz B C F b f := ⟨_, rfl⟩
  rw [← hz] at C1 ⊢
  obtain ⟨v, hv⟩ : ∃ x, x = W * n := ⟨_, rfl⟩
  rw [← hv] at C1 ⊢
  obtain ⟨u, hu⟩ : ∃ x, x = wrap64 v := ⟨_, rfl⟩
  rw [← hu] at C1
  by_cases hfv : Fits v
  · have e1 : u = v := by rw [hu]; exact (wrap_same _).2 hfv
    subst e1
    rw [decide_eq_true hfv] at C1
    by_cases hfz : Fits z
    · rw [decide_eq_true hfz] at C1
      have hc : cmdB z u = decide (z ≤ u) := by unfold cmdB; rw [if_pos hfz]; exact decide_eq_decide.2 ⟨fun h => h.resolve_left (fun h' => h' hfv), .inr⟩
      rw [hc]
      have H1 := Lib.hid C1
      have HZ := Lib.hid hfz
      clear C1 hz hv hu hfv hfz hc hB hC hF hW hb hf hn
      go_enter Try.func20, Try.ntmps20
      go_wp2_with fail
      refine Calls.mono (H1.out _) ?_
      rintro e w1 ⟨_, rfl, c, rfl, hc, hb1⟩
      have hcz := hc HZ.out
      subst hcz
      have HE := Lib.hid (HB.out.trans (hb1.mono HB.out.size))
      clear hb1 hc
      go_wp2_with fail
      go_ret
      exact ⟨rfl, HE.out⟩
    · rw [decide_eq_false hfz] at C1
      have hc : cmdB z u = false := by unfold cmdB; rw [if_neg hfz]; exact decide_eq_false (fun h => h hfv)
      rw [hc]
      have H1 := Lib.hid C1
      clear C1 hz hv hu hfv hfz hc hB hC hF hW hb hf hn
      go_enter Try.func20, Try.ntmps20
      go_wp2_with fail
      refine Calls.mono (H1.out _) ?_
      rintro e w1 ⟨_, rfl, c, rfl, hc, hb1⟩
      have HE := Lib.hid (HB.out.trans (hb1.mono HB.out.size))
      clear hb1 hc
      go_wp2_with fail
      go_ret
      exact ⟨rfl, HE.out⟩
  · rw [decide_eq_false hfv] at C1
    have hc : cmdB z v = true := by
      unfold cmdB
      by_cases hfz : Fits z
      · rw [if_pos hfz]; exact decide_eq_true (.inl hfv)
      · rw [if_neg hfz]; exact decide_eq_true hfv
    rw [hc]
    obtain ⟨q, hq⟩ : ∃ x, x = decide (Fits z) := ⟨_, rfl⟩
    rw [← hq] at C1
    have H1 := Lib.hid C1
    clear C1 hz hv hu hfv hc hq hB hC hF hW hb hf hn
    go_enter Try.func20, Try.ntmps20
    go_wp2_with fail
    refine Calls.mono (H1.out _) ?_
    rintro e w1 ⟨_, rfl, c, rfl, hc, hb1⟩
    have HE := Lib.hid (HB.out.trans (hb1.mono HB.out.size))
    clear hb1 hc
    go_wp2_with fail
    go_ret
    exact ⟨rfl, HE.out⟩
end Go.Proofs.Ytgdkgoiagjjccaa
