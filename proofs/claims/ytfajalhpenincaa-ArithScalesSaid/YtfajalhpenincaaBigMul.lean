/- The contract of the reference's Mul. -/
import Derived.Test.YtfajalhpenincaaBigAdd
import Derived.Deep.CutRange
namespace Go.Proofs.Ytfajalhpenincaa
open Go.RowKit

theorem own_one (w : World) (B : Nat) (hB : B ≤ w.heap.size) (d : Nat) : Own (w.alloc (.cells #[.int .i64 (d : Int)] 3)) B (.slice (some ⟨w.heap.size, 0, none⟩) 1 1) [d] :=
  ⟨rfl, .inr ⟨w.heap.size, 1, _, rfl, hB, heap_alloc_new w _, Nat.le_refl _, by decide, rfl, rfl⟩⟩

/-- The world of Mul: the two numbers, the answer's room, the answer. -/
abbrev mw (w : World) (s : Bool) (A : Option Addr) (n c : Nat) (t : Bool) (A2 : Option Addr) (n2 c2 : Nat) : World :=
  (aw w s A n c t A2 n2 c2).alloc (.cells #[.bool false, .slice none 0 0] 25)

theorem mul_round {D X V k : Nat} (h : V = 10 * (X * D) + k * D) : V + D = 10 * (X * D) + (k + 1) * D := by
  rw [show (k + 1) * D = k * D + D from Nat.succ_mul k D]; omega

theorem mul_sign {a b : Int} (h : a * b ≠ 0) : (decide (a < 0) != decide (b < 0)) = decide (a * b < 0) := by
  have ha : a ≠ 0 := fun e => h (by rw [e, Int.zero_mul])
  have hb : b ≠ 0 := fun e => h (by rw [e, Int.mul_zero])
  by_cases h1 : a < 0 <;> by_cases h2 : b < 0
  · have := Int.mul_pos_of_neg_of_neg h1 h2
    rw [decide_eq_true h1, decide_eq_true h2, decide_eq_false (show ¬ a * b < 0 by omega)]; rfl
  · have := Int.mul_neg_of_neg_of_pos h1 (show 0 < b by omega)
    rw [decide_eq_true h1, decide_eq_false h2, decide_eq_true this]; rfl
  · have := Int.mul_neg_of_pos_of_neg (show 0 < a by omega) h2
    rw [decide_eq_false h1, decide_eq_true h2, decide_eq_true this]; rfl
  · have := Int.mul_pos (show 0 < a by omega) (show 0 < b by omega)
    rw [decide_eq_false h1, decide_eq_false h2, decide_eq_false (show ¬ a * b < 0 by omega)]; rfl
set_option maxHeartbeats 1000000 in
theorem bmul_any (s t : Bool) (A A2 : Option Addr) (n c n2 c2 : Nat) (ds es : List Nat) (a b : Int) (w : World) (ha : BigOf w s A n c ds a) (hb : BigOf w t A2 n2 c2 es b) (hz : (a * b).natAbs < 10 ^ 200) :
    Calls Try.prog 17 #[.agg #[.bool s, .slice A n c], .agg #[.bool t, .slice A2 n2 c2]] w fun e w' => ∃ v, e = .returned v ∧ IsBig w' v (a * b) ∧ Below w.heap.size w w' := by
  have hsh := ha.short
  have hsh2 := hb.short
  have hbw : Below w.heap.size w (mw w s A n c t A2 n2 c2) := (aw_below w s A n c t A2 n2 c2).alloc (by simp; omega) _
  have hB0 : Bg (mw w s A n c t A2 n2 c2) w.heap.size s (.slice A n c) := (aw_0 w s A n c t A2 n2 c2).alloc _
  have hB1 : Bg (mw w s A n c t A2 n2 c2) (w.heap.size + 1) t (.slice A2 n2 c2) := (aw_1 w s A n c t A2 n2 c2).alloc _
  have hB2 : Bg (mw w s A n c t A2 n2 c2) (w.heap.size + 1 + 1) false (.slice none 0 0) := (aw_2 w s A n c t A2 n2 c2).alloc _
  have hB3 : Bg (mw w s A n c t A2 n2 c2) (w.heap.size + 1 + 1 + 1) false (.slice none 0 0) := by
    have h := box_one (aw w s A n c t A2 n2 c2) false (.slice none 0 0)
    rw [aw_size] at h
    exact h
  have hl := ha.dg.1
  have hl2 := hb.dg.1
  have hf2 := hb.dg.2.1
  have hval2 : val (es.drop n2) = 0 := by rw [List.drop_eq_nil_of_le (by omega)]; rfl
  have hvd := val_drop es
  have HA := Lib.hid ha
  have HB := Lib.hid hb
  have HZ := Lib.hid hz
  have HBW := Lib.hid hbw
  have HB0 := Lib.hid hB0
  have HB1 := Lib.hid hB1
  have HB2 := Lib.hid hB2
  have HB3 := Lib.hid hB3
  have HL := Lib.hid hl
  have HL2 := Lib.hid hl2
  have HF2 := Lib.hid hf2
  have HV2 := Lib.hid hval2
  have HVD := Lib.hid hvd
  clear ha hb hz hbw hB0 hB1 hB2 hB3 hl hl2 hf2 hval2 hvd
  go_enter Try.func17, Try.ntmps17
  go_wp2_with fail
  change Code.wp _ _ _ _ (mw w s A n c t A2 n2 c2)
  obtain ⟨D, hD⟩ : ∃ D, D = val ds := ⟨_, rfl⟩
  have HD := Lib.hid hD
  clear hD
  go_loopw [6, 7, 8] (fun i _ _ wr => ∃ (k : Nat) (v : Value) (fs : List Nat), i = .int .i64 ((k : Int) - 1) ∧ k ≤ n2 ∧ Bg wr w.heap.size s (.slice A n c) ∧ Bg wr (w.heap.size + 1) t (.slice A2 n2 c2) ∧ Bg wr (w.heap.size + 1 + 1) false (.slice none 0 0) ∧ Bg wr (w.heap.size + 1 + 1 + 1) false v ∧ Own wr (w.heap.size + 1 + 1 + 1 + 1) v fs ∧ Fig fs ∧ val fs = val (es.drop k) * D ∧ fs.length ≤ 2000 * (n2 - k) ∧ Below w.heap.size w wr) (fun i _ _ _ => (intOf i + 1).toNat)
  case atStart => exact ⟨n2, _, [], rfl, Nat.le_refl _, HB0.out, HB1.out, HB2.out, HB3.out, own_nil _ _, fig_nil, by rw [HV2.out]; simp [val], by simp, HBW.out⟩
  case round =>
    obtain ⟨k, v, fs, rfl, hk, h0, h1, h2, h3, hown, hff, hval, hlen, hbr⟩ := hrel
    obtain ⟨A3, c3, rfl, hd3, hnil3, hle3⟩ := hown.dg hff
    have c01 := h0.cell1
    have c11 := h1.cell1
    have c31 := h3.cell1
    have f31 := h3.frozen 1
    have hsz := h3.lt
    by_cases hk0 : k = 0
    · subst hk0
      have hv0 : val fs = (a * b).natAbs := by
        rw [hval, List.drop_zero, HD.out, HA.out.value, HB.out.value, Int.natAbs_mul, Nat.mul_comm]
      obtain ⟨y, hx⟩ : ∃ y, y = (s == t) := ⟨_, rfl⟩
      have hxe : (s == t) = y := hx.symm
      have hsg : a * b ≠ 0 → (!y) = decide (a * b < 0) := fun hne => by
        rw [hx, HA.out.sign, HB.out.sign]
        exact mul_sign hne
      have c00 := h0.cell0
      have c10 := h1.cell0
      have f30 := h3.frozen 0
      have c30 := h3.cell0
      have hn3 := h3.set0 (!y)
      have g30 := hn3.cell0
      have g31 := hn3.cell1
      have hn2 := h2.other ⟨w.heap.size + 1 + 1 + 1, 0, none⟩ (.bool (!y)) (by show w.heap.size + 1 + 1 ≠ w.heap.size + 1 + 1 + 1; omega)
      have hno := own_set hown ⟨w.heap.size + 1 + 1 + 1, 0, none⟩ (.bool (!y)) (by show w.heap.size + 1 + 1 + 1 < w.heap.size + 1 + 1 + 1 + 1; omega)
      have hnr : Below w.heap.size w (wr.setCell ⟨w.heap.size + 1 + 1 + 1, 0, none⟩ (.bool (!y))) := hbr.setCell (by show w.heap.size ≤ w.heap.size + 1 + 1 + 1; omega) _
      have hsz4 : w.heap.size + 1 + 1 + 1 + 1 ≤ (wr.setCell ⟨w.heap.size + 1 + 1 + 1, 0, none⟩ (.bool (!y))).heap.size := by rw [World.size_setCell]; omega
      obtain ⟨A6, c6, he6, hd6, hnil6, hle6⟩ := hno.dg hff
      injection he6 with e1 e2 e3
      subst e1 e3
      have N2 := Lib.hid hn2
      have NO := Lib.hid hno
      have NR := Lib.hid hnr
      have NZ := Lib.hid hsz4
      have NV := Lib.hid hv0
      have NS := Lib.hid hsg
      have ND := Lib.hid hd6
      have NC := Lib.hid (trimB_any (!y) A3 fs.length c3 fs (a * b) _ hd6 (by omega) hle6 hnil6 hv0 hsg HZ.out)
      clear e2 hn2 hno hnr hsz4 hv0 hsg hd6 hx h0 h1 h2 h3 hown hd3 hnil3 hle3 hval hlen hbr hn3 c01 c11 f31 hsz hk HA HB
      go_wp2_with fail
      refine Calls.mono NC.out ?_
      rintro e w4 ⟨s', k, rfl, hk, hbo, hb4⟩
      obtain ⟨i1, i2, i3⟩ := laid w _ w4 (w.heap.size + 1 + 1 + 1 + 1) s' A3 c3 k fs (a * b) (w.heap.size + 1 + 1) (by omega) (by omega) NZ.out NR.out N2.out NO.out hff hk hbo hb4
      have hq4 := N2.out.below hb4 N2.out.lt
      have c0 := hq4.cell0
      have f0 := hq4.frozen 0
      have c1 := (hq4.set0 s').cell1
      have f1 := (hq4.set0 s').frozen 1
      have I1 := Lib.hid i1
      have I2 := Lib.hid i2
      have I3 := Lib.hid i3
      clear i1 i2 i3 hb4 hbo hq4 hk NC
      go_wp2_with fail
      refine bodyPost_ret (v := .agg #[.bool s', .slice A3 k c3]) ?_ rfl ?_
      · exact results_cell_row rfl _ _ (w.heap.size + 1 + 1) 25 _ (0, 0) _ rfl I3.out Try.underlying25 rfl info25
      · exact ⟨_, rfl, I1.out, I2.out⟩
    · obtain ⟨j, rfl⟩ : ∃ j, k = j + 1 := ⟨k - 1, by omega⟩
      have e0 : ((j + 1 : Nat) : Int) - 1 = (j : Int) := by omega
      rw [e0]
      have H0 := Lib.hid h0
      have H1 := Lib.hid h1
      have H2 := Lib.hid h2
      have H3 := Lib.hid h3
      have HO := Lib.hid hown
      have HV := Lib.hid hval
      have HLE := Lib.hid hlen
      have HR := Lib.hid hbr
      have HFF := Lib.hid hff
      clear h0 h1 h2 h3 hown hval hlen hbr hff e0 hd3 hnil3 hle3 
      go_upto_if 21 with fail
      go_cut [7] from 21 to 25 (fun v wx => ∃ gs : List Nat, Own wx (w.heap.size + 1 + 1 + 1 + 1) v gs ∧ Fig gs ∧ val gs = 10 * val fs ∧ gs.length ≤ fs.length + 1 ∧ Below (w.heap.size + 1 + 1 + 1 + 1) wr wx)
      case first =>
        by_cases hz0 : fs = []
        · subst hz0
          go_wp2_with fail
          go_meet
          case rel => exact ⟨[], own_nil _ _, fig_nil, rfl, by simp, Below.refl _ _⟩
        · have hpos : fs.length ≠ 0 := fun h => hz0 (List.eq_nil_of_length_eq_zero h)
          clear hz0
          have hO1 := Lib.hid (show Own (wr.alloc (.cells #[.int .i64 (0 : Int)] 3)) (w.heap.size + 1 + 1 + 1 + 1) (.slice (some ⟨wr.heap.size, 0, none⟩) 1 1) [0] from own_one wr (w.heap.size + 1 + 1 + 1 + 1) (by omega) 0)
          have hO2 := HO.out.alloc (.cells #[.int .i64 (0 : Int)] 3)
          obtain ⟨A4, c4, he4, hd4, hnil4, hle4⟩ := Own.dg hO2 HFF.out
          have he5 := he4
          injection he5 with e1 e2 e3
          subst e1 e3
          have HD4 := Lib.hid hd4
          have hbA : Below (w.heap.size + 1 + 1 + 1 + 1) wr (wr.alloc (.cells #[.int .i64 (0 : Int)] 3)) := (Below.refl _ _).alloc (by omega) _
          clear hO2 hd4 he4 e2
          go_wp2_with (at_builtin; refine wpList_append_dg rfl (.tmp 22) (.tmp 24) rfl (w.heap.size + 1 + 1 + 1 + 1) _ [0] rfl hO1.out A3 fs.length c3 fs rfl HD4.out hnil4 (by have := HLE.out; simp; omega) (by rw [World.size_alloc]; omega) ?_; intro v3 w3 hown3 hb3)
          go_meet
          case rel => exact ⟨_, hown3, fig_append (fig_one (by decide)) HFF.out, by simp [val], by simp, hbA.trans hb3⟩
      case rest =>
        obtain ⟨gs, hown1, hfg, hvg, hlg, hbx⟩ := hcut
        have h0' := H0.out.below hbx (by omega)
        have h1' := H1.out.below hbx (by omega)
        have h2' := H2.out.below hbx (by omega)
        have h3' := H3.out.below hbx (by omega)
        have hr' := HR.out.trans (hbx.mono (by omega))
        rw [HV.out] at hvg
        have hlg2 : gs.length ≤ 2000 * (n2 - (j + 1)) + 1 := by have := HLE.out; omega
        have hvd := HVD.out j (by rw [HL2.out]; omega)
        have he10 := fig_getD HF2.out j
        obtain ⟨q, hq⟩ : ∃ q, q = es.getD j 0 := ⟨_, rfl⟩
        obtain ⟨X, hX⟩ : ∃ X, X = val (es.drop (j + 1)) := ⟨_, rfl⟩
        rw [← hq, ← hX] at hvd
        rw [← hX] at hvg
        rw [← hq] at he10
        have G0 := Lib.hid h0'
        have G1 := Lib.hid h1'
        have G2 := Lib.hid h2'
        have G3 := Lib.hid h3'
        have GR := Lib.hid hr'
        have GO := Lib.hid hown1
        have GF := Lib.hid hfg
        have GV := Lib.hid hvg
        have GL := Lib.hid hlg2
        have GD := Lib.hid hvd
        have GQ := Lib.hid hq
        clear h0' h1' h2' h3' hr' hown1 hfg hvg hlg2 hvd hq hX hbx hlg c01 c11 c31 f31 hsz H0 H1 H2 H3 HR HO HV HLE HFF
        go_wp2_with fail
        go_loopw [7, 8] (fun v i wq => ∃ (k : Nat) (ts : List Nat), i = .int .i64 k ∧ k ≤ q ∧ Bg wq w.heap.size s (.slice A n c) ∧ Bg wq (w.heap.size + 1) t (.slice A2 n2 c2) ∧ Bg wq (w.heap.size + 1 + 1) false (.slice none 0 0) ∧ Bg wq (w.heap.size + 1 + 1 + 1) false (.slice A3 fs.length c3) ∧ Own wq (w.heap.size + 1 + 1 + 1 + 1) v ts ∧ Fig ts ∧ val ts = 10 * (X * D) + k * D ∧ ts.length ≤ 2000 * (n2 - (j + 1)) + 1 + 201 * k ∧ Below w.heap.size w wq) (fun _ i _ => (q - intOf i).toNat)
        case atStart => exact ⟨0, gs, rfl, by omega, G0.out, G1.out, G2.out, G3.out, GO.out, GF.out, by rw [GV.out]; simp, GL.out, GR.out⟩
        case round =>
          obtain ⟨k, ts, rfl, hk', g0, g1, g2, g3, gO, gf, gv, gl, gr⟩ := hrel
          obtain ⟨A5, c5, rfl, hd5, hnil5, hle5⟩ := gO.dg gf
          obtain ⟨bb, off, hA2, hcc⟩ := (HB.out.dg.ext (stays_below gr)).2.2 (by omega)
          have hcell := hcc j (by omega)
          rw [← GQ.out] at hcell
          subst hA2
          clear hcc
          have d01 := g0.cell1
          have d11 := g1.cell1
          by_cases hkq : k < q
          · have C := sum_any A5 ts.length c5 ts A n c ds wr hd5 (HA.out.dg.ext (stays_below gr)) (by omega) (by omega)
            have DC := Lib.hid C
            have K0 := Lib.hid g0
            have K1 := Lib.hid g1
            have K2 := Lib.hid g2
            have K3 := Lib.hid g3
            have KR := Lib.hid gr
            have KV := Lib.hid gv
            have KL := Lib.hid gl
            have hsz := g3.lt
            clear C g0 g1 g2 g3 gr gv gl gO gf hd5 hnil5 hle5 HA HB
            go_wp2_with fail
            refine Calls.mono DC.out ?_
            rintro e w3 ⟨v, rfl, us, ho, hfu, hvu, hlu, hb3⟩
            have L0 := Lib.hid (K0.out.below hb3 (by omega))
            have L1 := Lib.hid (K1.out.below hb3 (by omega))
            have L2 := Lib.hid (K2.out.below hb3 (by omega))
            have L3 := Lib.hid (K3.out.below hb3 hsz)
            have LR := Lib.hid (KR.out.trans (hb3.mono KR.out.size))
            have LO := Lib.hid (own_low ho (show w.heap.size + 1 + 1 + 1 + 1 ≤ wr.heap.size by omega))
            rw [KV.out, ← HD.out] at hvu
            have LV := Lib.hid (hvu.trans (mul_round rfl))
            have hlu2 : us.length ≤ 2000 * (n2 - (j + 1)) + 1 + 201 * (k + 1) := by have := KL.out; omega
            have LL := Lib.hid hlu2
            clear hb3 ho hvu hlu hlu2 K0 K1 K2 K3 KR DC
            go_wp2_with fail
            go_roundw
            case rel => exact ⟨k + 1, us, by go_num, by omega, L0.out, L1.out, L2.out, L3.out, LO.out, hfu, LV.out, LL.out, LR.out⟩
            case measure => simp [intOf]; omega
          · obtain rfl : k = q := by omega
            have hs3 := g3.set1 (.slice A5 ts.length c5)
            have hs0 := g0.other ⟨w.heap.size + 1 + 1 + 1, 1, none⟩ (.slice A5 ts.length c5) (by show w.heap.size ≠ w.heap.size + 1 + 1 + 1; omega)
            have hs1 := g1.other ⟨w.heap.size + 1 + 1 + 1, 1, none⟩ (.slice A5 ts.length c5) (by show w.heap.size + 1 ≠ w.heap.size + 1 + 1 + 1; omega)
            have hs2 := g2.other ⟨w.heap.size + 1 + 1 + 1, 1, none⟩ (.slice A5 ts.length c5) (by show w.heap.size + 1 + 1 ≠ w.heap.size + 1 + 1 + 1; omega)
            have hso := own_set gO ⟨w.heap.size + 1 + 1 + 1, 1, none⟩ (.slice A5 ts.length c5) (by show w.heap.size + 1 + 1 + 1 < w.heap.size + 1 + 1 + 1 + 1; omega)
            have hsr : Below w.heap.size w (wr.setCell ⟨w.heap.size + 1 + 1 + 1, 1, none⟩ (.slice A5 ts.length c5)) := gr.setCell (by show w.heap.size ≤ w.heap.size + 1 + 1 + 1; omega) _
            have hv2 : val ts = val (es.drop j) * D := by rw [gv, GD.out, Nat.add_mul, Nat.mul_assoc]; omega
            have d31 := g3.cell1
            have f31 := g3.frozen 1
            have K0 := Lib.hid hs0
            have K1 := Lib.hid hs1
            have K2 := Lib.hid hs2
            have K3 := Lib.hid hs3
            have KO := Lib.hid hso
            have KR := Lib.hid hsr
            have KV := Lib.hid hv2
            have hgl : ts.length ≤ 2000 * (n2 - j) := by omega
            have KL := Lib.hid hgl
            clear hs0 hs1 hs2 hs3 hso hsr hv2 hgl g0 g1 g2 g3 gr gv gl gO hd5 hnil5 hle5 HA HB
            go_wp2_with fail
            go_roundw
            case rel => exact ⟨j, _, ts, rfl, by omega, K0.out, K1.out, K2.out, K3.out, KO.out, gf, KV.out, KL.out, KR.out⟩
            case measure => simp [intOf]
end Go.Proofs.Ytfajalhpenincaa
