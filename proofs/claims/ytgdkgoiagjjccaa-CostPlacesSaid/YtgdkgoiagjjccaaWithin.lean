/- CostWithin answers true of whatever policy, number and transaction. -/
import Derived.Test.YtgdkgoiagjjccaaPlace
namespace Go.Proofs.Ytgdkgoiagjjccaa
set_option maxRecDepth 100000
open Go.RowKit

/-- The two boxes of the law. -/
abbrev ww (w : World) (B C F W P : Int) (A : Option Addr) (n c : Nat) (A2 : Option Addr) (m c2 : Nat) : World :=
  (w.alloc (.cells #[.int .i64 B, .int .i64 C, .int .i64 F, .int .i64 W, .int .i64 P] 23)).alloc (.cells #[.slice A n c, .slice A2 m c2] 40)
def Xb (w : World) (g : Nat) (u v : Value) : Prop := w.heap[g]? = some (.cells #[u, v] 40 (0, 0))
theorem Xb.lt {w : World} {g : Nat} {u v : Value} (h : Xb w g u v) : g < w.heap.size := (Array.getElem?_eq_some_iff.1 h).1
theorem Xb.below {w w' : World} {m g : Nat} {u v : Value} (h : Xb w g u v) (hb : Below m w w') (hg : g < m) : Xb w' g u v := (hb.block g hg).trans h
theorem Xb.c0 {w : World} {g : Nat} {u v : Value} (h : Xb w g u v) : w.cell? ⟨g, 0, none⟩ = some u := cell_of_row w g 0 _ 40 (0, 0) h
theorem Xb.c1 {w : World} {g : Nat} {u v : Value} (h : Xb w g u v) : w.cell? ⟨g, 1, none⟩ = some v := cell_of_row w g 1 _ 40 (0, 0) h
theorem ww_below (w : World) (B C F W P : Int) (A : Option Addr) (n c : Nat) (A2 : Option Addr) (m c2 : Nat) : Below w.heap.size w (ww w B C F W P A n c A2 m c2) :=
  ((Below.refl _ w).alloc (Nat.le_refl _) _).alloc (by simp) _
theorem ww_pb (w : World) (B C F W P : Int) (A : Option Addr) (n c : Nat) (A2 : Option Addr) (m c2 : Nat) : Pb (ww w B C F W P A n c A2 m c2) w.heap.size B C F W P :=
  (heap_alloc_old _ _ (by simp)).trans (pb_new w B C F W P)
theorem ww_xb (w : World) (B C F W P : Int) (A : Option Addr) (n c : Nat) (A2 : Option Addr) (m c2 : Nat) : Xb (ww w B C F W P A n c A2 m c2) (w.heap.size + 1) (.slice A n c) (.slice A2 m c2) :=
  heap_alloc2_new w _ _

theorem turn_next {seq : Int} {m : Nat} (hs : 1 ≤ seq) (hm : 1 ≤ m) : (seq + 1 - 1).tmod m = ((seq - 1).tmod m + 1).tmod m := by
  have h1 : 0 ≤ seq - 1 := by omega
  rw [Int.tmod_eq_emod_of_nonneg h1, Int.tmod_eq_emod_of_nonneg (show 0 ≤ seq + 1 - 1 by omega), Int.tmod_eq_emod_of_nonneg (show 0 ≤ (seq - 1) % (m : Int) + 1 by have := Int.emod_nonneg (seq - 1) (show (m : Int) ≠ 0 by omega); omega)]
  rw [show seq + 1 - 1 = (seq - 1) + 1 by omega, Int.add_emod (seq - 1) 1, Int.add_emod ((seq - 1) % (m : Int)) 1, Int.emod_emod]

set_option maxHeartbeats 4000000 in
theorem within_any (B C F W P seq : Int) (A : Option Addr) (n c : Nat) (A2 : Option Addr) (m c2 : Nat) (T K : Int) (xs : List Int) (hs : Fits seq) (w : World) (hw : Wr0 w A n T K) (hr : Nums w A2 m xs) (hn : n ≤ 9223372036854775807) (hm : m ≤ 9223372036854775807) :
    Calls Try.prog 6 #[polV B C F W P, .int .i64 seq, .agg #[.slice A n c, .slice A2 m c2]] w fun e w' => e = .returned (.bool true) ∧ Below w.heap.size w w' := by
  have HA := Lib.hid (fun w => alive_any w)
  have HB := Lib.hid (ww_below w B C F W P A n c A2 m c2)
  have HP := Lib.hid (ww_pb w B C F W P A n c A2 m c2)
  have HX := Lib.hid (ww_xb w B C F W P A n c A2 m c2)
  by_cases hok : plOk P seq m
  · obtain ⟨k, hk⟩ := best_ex xs m (by have := hok.2.2.2.1; omega)
    have C1 := fun w1 (h : Below w.heap.size w w1) => place_yes B C F W P seq A n c A2 m c2 T K xs k hok hs hk w1 (hw.ext (stays_w h)) (hr.ext (stays_w h))
    have C2 := fun w1 (h : Below w.heap.size w w1) (hs2 : seq ≤ 1152921504606846976) => place_yes B C F W P (seq + 1) A n c A2 m c2 T K xs k ⟨hok.1, hok.2.1, by have := hok.2.2.1; omega, hok.2.2.2⟩ (by unfold Fits at hs ⊢; omega) hk w1 (hw.ext (stays_w h)) (hr.ext (stays_w h))
    obtain ⟨p0, p2, s1, m1, m4⟩ := hok
    have hin : 0 ≤ plZ P seq m n T K k ∧ plZ P seq m n T K k < m := by
      unfold plZ
      by_cases q0 : P = 0
      · rw [if_pos q0]
        exact ⟨Int.tmod_nonneg _ (by omega), Int.tmod_lt_of_pos _ (by omega)⟩
      · rw [if_neg q0]
        by_cases q1 : P = 1
        · rw [if_pos q1]
          by_cases q2 : n = 0
          · rw [if_pos q2]; omega
          · rw [if_neg q2]; exact keyZ_in T K m1 m4
        · rw [if_neg q1]
          have := hk.1
          omega
    have hnx : P = 0 → plZ P (seq + 1) m n T K k = (plZ P seq m n T K k + 1).tmod m := fun h => by
      unfold plZ
      rw [if_pos h, if_pos h]
      exact turn_next s1 m1
    obtain ⟨t, ht⟩ : ∃ t, t = plZ P seq m n T K k := ⟨_, rfl⟩
    obtain ⟨u, hu⟩ : ∃ t, t = plZ P (seq + 1) m n T K k := ⟨_, rfl⟩
    rw [← ht] at C1 hin hnx
    rw [← hu] at C2 hnx
    have H1 := Lib.hid C1
    have H2 := Lib.hid C2
    have HN := Lib.hid hnx
    have HS := Lib.hid hs
    obtain ⟨t0, tm⟩ := hin
    clear C1 C2 hnx hw hr hk ht hu hn hm hs
    by_cases h40 : 40 < n
    · go_enter Try.func6, Try.ntmps6
      go_wp2_with fail
      refine Calls.mono (HA.out _) ?_
      rintro e w1 ⟨rfl, hb1⟩
      have c0 := (HX.out.below hb1 HX.out.lt).c0
      have HE := Lib.hid (HB.out.trans (hb1.mono HB.out.size))
      clear hb1
      go_wp2_with fail
      go_ret
      exact ⟨rfl, HE.out⟩
    · go_enter Try.func6, Try.ntmps6
      go_wp2_with fail
      refine Calls.mono (HA.out _) ?_
      rintro e w1 ⟨rfl, hb1⟩
      have hx1 := HX.out.below hb1 HX.out.lt
      have hp1 := HP.out.below hb1 HP.out.lt
      have k0 := hp1.c0
      have k1 := hp1.c1
      have k2 := hp1.c2
      have k3 := hp1.c3
      have k4 := hp1.c4
      have x0 := hx1.c0
      have x1 := hx1.c1
      have HE := Lib.hid (HB.out.trans (hb1.mono HB.out.size))
      have HP1 := Lib.hid hp1
      have HX1 := Lib.hid hx1
      clear hb1 hp1 hx1
      go_wp2_with fail
      refine Calls.mono (H1.out _ HE.out) ?_
      rintro e w2 ⟨rfl, hb2⟩
      have hx2 := HX1.out.below hb2 HX1.out.lt
      have hp2 := HP1.out.below hb2 HP1.out.lt
      clear k0 k1 k2 k3 k4 x0 x1
      have k0 := hp2.c0
      have k1 := hp2.c1
      have k2 := hp2.c2
      have k3 := hp2.c3
      have k4 := hp2.c4
      have x0 := hx2.c0
      have x1 := hx2.c1
      have HE2 := Lib.hid (HE.out.trans (hb2.mono HE.out.size))
      have HX2 := Lib.hid hx2
      clear hb2 hp2 hx2
      by_cases q0 : P = 0
      · subst q0
        by_cases hbig : 1152921504606846976 < seq
        · go_wp2_with fail
          go_ret
          exact ⟨rfl, HE2.out⟩
        · have C3 := fun w1 (h : Below w.heap.size w w1) => H2.out w1 h (by omega)
          have H3 := Lib.hid C3
          have hu := HN.out rfl
          have e1 : wrap64 (seq + 1) = seq + 1 := IntWalk.wrap64_in _ (by omega)
          have e2 : wrap64 (t + 1) = t + 1 := IntWalk.wrap64_in _ (by omega)
          have hm0 : ((m : Int) == 0) = false := by rw [beq_eq_false_iff_ne]; omega
          have hu2 : (t + 1).tmod m = u := hu.symm
          have e3 : wrap64 u = u := IntWalk.wrap64_in _ (by
            rw [hu]
            have := Int.tmod_nonneg (m : Int) (show 0 ≤ t + 1 by omega)
            have := Int.tmod_lt_of_pos (t + 1) (show (0 : Int) < m by omega)
            omega)
          clear C3 hu
          go_wp2_with fail
          refine Calls.mono (H3.out _ HE2.out) ?_
          rintro e w3 ⟨rfl, hb3⟩
          have x1 := (HX2.out.below hb3 HX2.out.lt).c1
          have HE3 := Lib.hid (HE2.out.trans (hb3.mono HE2.out.size))
          clear hb3
          go_wp2_with fail
          go_ret
          exact ⟨rfl, HE3.out⟩
      · have hP : (P != 0) = true := by rw [bne_iff_ne]; exact q0
        go_wp2_with fail
        go_ret
        exact ⟨rfl, HE2.out⟩
  · have C1 := fun w1 => place_no B C F W P seq A n c A2 m c2 hok w1
    have H1 := Lib.hid C1
    clear C1 hok hw hr hs
    by_cases h40 : 40 < n
    · go_enter Try.func6, Try.ntmps6
      go_wp2_with fail
      refine Calls.mono (HA.out _) ?_
      rintro e w1 ⟨rfl, hb1⟩
      have c0 := (HX.out.below hb1 HX.out.lt).c0
      have HE := Lib.hid (HB.out.trans (hb1.mono HB.out.size))
      clear hb1
      go_wp2_with fail
      go_ret
      exact ⟨rfl, HE.out⟩
    · by_cases h41 : 40 < m
      · go_enter Try.func6, Try.ntmps6
        go_wp2_with fail
        refine Calls.mono (HA.out _) ?_
        rintro e w1 ⟨rfl, hb1⟩
        have c0 := (HX.out.below hb1 HX.out.lt).c0
        have c1 := (HX.out.below hb1 HX.out.lt).c1
        have HE := Lib.hid (HB.out.trans (hb1.mono HB.out.size))
        clear hb1
        go_wp2_with fail
        go_ret
        exact ⟨rfl, HE.out⟩
      · go_enter Try.func6, Try.ntmps6
        go_wp2_with fail
        refine Calls.mono (HA.out _) ?_
        rintro e w1 ⟨rfl, hb1⟩
        have hx1 := HX.out.below hb1 HX.out.lt
        have hp1 := HP.out.below hb1 HP.out.lt
        have k0 := hp1.c0
        have k1 := hp1.c1
        have k2 := hp1.c2
        have k3 := hp1.c3
        have k4 := hp1.c4
        have x0 := hx1.c0
        have x1 := hx1.c1
        have HE := Lib.hid (HB.out.trans (hb1.mono HB.out.size))
        clear hb1 hp1 hx1
        go_wp2_with fail
        refine Calls.mono (H1.out _) ?_
        rintro e w2 ⟨rfl, hb2⟩
        have HE2 := Lib.hid (HE.out.trans (hb2.mono HE.out.size))
        clear hb2
        go_wp2_with fail
        go_ret
        exact ⟨rfl, HE2.out⟩
end Go.Proofs.Ytgdkgoiagjjccaa
