/- The document's Good. -/
import Derived.Test.YtmicheheibkmjaaFRise
import Derived.Test.YtmicheheibkmjaaFGood2
namespace Go.Proofs.Ytmicheheibkmjaa
set_option maxRecDepth 100000
open Go.RowKit

theorem ap_gt {p x : Sp} (h : x.t < p.t) : decide (ap p x) = false := by rw [decide_eq_false_iff_not]; unfold ap; omega
theorem ap_lt {p x : Sp} (h : ¬ x.t < p.t) (h2 : ¬ p.t = x.t) : decide (ap p x) = true := by rw [decide_eq_true_iff]; unfold ap; omega
theorem ap_eq {p x : Sp} (h : p.t = x.t) : decide (ap p x) = decide (p.hi + 1 < x.lo) := by rw [decide_eq_decide]; unfold ap; omega
set_option maxHeartbeats 8000000 in
theorem refgood_any (y : FV) (f : Ft) (w : World) (h : FtAt w y f) (hfit : ∀ s ∈ f.sp, FitS s) : Calls Try.prog 21 #[y.val] w fun e w' => e = .returned (.bool (goodB f)) ∧ Below w.heap.size w w' := by
  have hbx := (Below.refl w.heap.size w).alloc (Nat.le_refl _) (.cells y.cs 30)
  have HB := Lib.hid hbx
  have HF := Lib.hid (show FBox (w.alloc (.cells y.cs 30)) w.heap.size y from heap_alloc_new w _)
  have HH := Lib.hid (h.below hbx)
  have HFT := Lib.hid hfit
  have hsm := h.small
  have HL := Lib.hid h.sp.len
  unfold FV.cs at HB HF HH
  unfold FV.val FV.cs
  clear hbx h hfit
  go_enter Try.func21, Try.ntmps21
  go_upto_region 1 with fail
  revert HB HF HH
  generalize World.alloc w _ = wz
  intro HB HF HH
  go_wp2_with fail
  go_loopw [3, 4, 5] (fun i _ _ wr => ∃ q : Nat, i = .int .i64 (q : Int) ∧ q ≤ y.n2 ∧ Hid (sg f.sp q) ∧ Below wz.heap.size wz wr) (fun i _ _ _ => y.n2 - (intOf i).toNat)
  case atStart => exact ⟨0, rfl, by omega, fun j _ h => by omega, Below.refl _ _⟩
  case round =>
    obtain ⟨q, rfl, hq, hno, hbr⟩ := hrel
    have HBR := Lib.hid hbr
    have HBZ := Lib.hid (HB.out.trans (hbr.mono HB.out.size))
    have hwz := HB.out.size
    have y1 := (HF.out.below hbr).c1
    by_cases hlt : q < y.n2
    · have hql : q < f.sp.length := by rw [HL.out]; exact hlt
      obtain ⟨b, off, hA, hc⟩ := Spans.cells (HH.out.sp.below hbr) (by omega)
      obtain ⟨c0, c1, c2⟩ := hc q hql
      have HUW := Lib.hid (show Below wr.heap.size wr (wr.alloc (.cells #[.int .i64 f.sp[q].t, .int .i64 f.sp[q].lo, .int .i64 f.sp[q].hi] 54)) from (Below.refl wr.heap.size wr).alloc (Nat.le_refl _) _)
      have HG := Lib.hid (show ¬ (tabB f.sp[q].t = true ∧ decide (f.sp[q].lo > f.sp[q].hi) = false ∧ (0 < q → decide (ap f.sp[q - 1] f.sp[q]) = true)) → goodB f = false from fun hh => by
        have : sgB f.sp = false := sg_false fun hk => hh (hk q hql (by have := HL.out; omega))
        simp [goodB, this])
      have HS := Lib.hid (fun h1 h2 h3 => sg_succ hql hno.out h1 h2 h3)
      have HP := Lib.hid (show 0 < q → ∃ p : Sp, p = f.sp[q - 1] ∧ FitS p ∧ wr.cell? ⟨b, off + (q - 1) * 3, none⟩ = some (.int .i64 p.t) ∧ wr.cell? ⟨b, off + (q - 1) * 3 + 1, none⟩ = some (.int .i64 p.lo) ∧ wr.cell? ⟨b, off + (q - 1) * 3 + 2, none⟩ = some (.int .i64 p.hi) from fun h0 => by
        obtain ⟨d0, d1, d2⟩ := hc (q - 1) (by omega)
        exact ⟨_, rfl, HFT.out _ (List.getElem_mem _), d0, d1, d2⟩)
      have HFX := Lib.hid (HFT.out _ (List.getElem_mem hql))
      obtain ⟨x, hx⟩ : ∃ x, x = f.sp[q] := ⟨_, rfl⟩
      rw [← hx] at c0 c1 c2 HUW HG HS HFX
      rw [hA] at y1
      have HWX := Lib.hid (HBR.out.trans (HUW.out.mono HBR.out.size))
      have HWZ := Lib.hid (HBZ.out.trans (HUW.out.mono HBZ.out.size))
      clear hc hx hbr hA
      by_cases hneg : x.t < 0
      · have e0 : decide (x.t < 0) = true := decide_eq_true hneg
        have HR := Lib.hid (HG.out (by simp [tab_neg hneg]))
        clear HP HS HG hneg
        go_wp2_with fail
        go_ret
        exact ⟨by rw [HR.out]; rfl, HWZ.out⟩
      · have e0 : decide (x.t < 0) = false := decide_eq_false hneg
        by_cases hbig : 3 < x.t
        · have e1 : decide (3 < x.t) = true := decide_eq_true hbig
          have HR := Lib.hid (HG.out (by simp [tab_big hbig]))
          clear HP HS HG hneg hbig
          go_wp2_with fail
          go_ret
          exact ⟨by rw [HR.out]; rfl, HWZ.out⟩
        · have e1 : decide (3 < x.t) = false := decide_eq_false hbig
          rw [tab_ok hneg hbig] at HG HS
          clear hneg hbig
          by_cases hlh : x.hi < x.lo
          · have e2 : decide (x.hi < x.lo) = true := decide_eq_true hlh
            have HR := Lib.hid (HG.out (by simp [show x.lo > x.hi from hlh]))
            clear HP HS HG hlh
            go_wp2_with fail
            go_ret
            exact ⟨by rw [HR.out]; rfl, HWZ.out⟩
          · have e2 : decide (x.hi < x.lo) = false := decide_eq_false hlh
            rw [show decide (x.lo > x.hi) = false from e2] at HG HS
            clear hlh
            by_cases h0 : 0 < q
            · obtain ⟨p, hp, hfp, d0, d1, d2⟩ := HP.out h0
              rw [← hp] at HG HS
              have hg1 : decide ((0 : Int) < q) = true := by rw [decide_eq_true_iff]; omega
              have HUP := Lib.hid (show Below (wr.alloc (.cells #[.int .i64 x.t, .int .i64 x.lo, .int .i64 x.hi] 54)).heap.size (wr.alloc (.cells #[.int .i64 x.t, .int .i64 x.lo, .int .i64 x.hi] 54)) ((wr.alloc (.cells #[.int .i64 x.t, .int .i64 x.lo, .int .i64 x.hi] 54)).alloc (.cells #[.int .i64 p.t, .int .i64 p.lo, .int .i64 p.hi] 54)) from (Below.refl _ _).alloc (Nat.le_refl _) _)
              have HWX2 := Lib.hid (HWX.out.trans (HUP.out.mono HWX.out.size))
              have HWZ2 := Lib.hid (HWZ.out.trans (HUP.out.mono HWZ.out.size))
              have HBT := Lib.hid (betw_any p.hi x.lo hfp.2.2.1 HFX.out.2.1)
              have y1a := (stays_w HUW.out _ (World.block_lt_of_cell? _ _ y1)).trans y1
              have d0a := (stays_w HUW.out _ (World.block_lt_of_cell? _ _ d0)).trans d0
              have d1a := (stays_w HUW.out _ (World.block_lt_of_cell? _ _ d1)).trans d1
              have d2a := (stays_w HUW.out _ (World.block_lt_of_cell? _ _ d2)).trans d2
              clear HP hp hfp d0 d1 d2
              by_cases ht : x.t < p.t
              · have e3 : decide (x.t < p.t) = true := decide_eq_true ht
                have HR := Lib.hid (HG.out (by simp [ap_gt ht, h0]))
                clear HG HS ht
                go_wp2_with fail
                go_ret
                exact ⟨by rw [HR.out]; rfl, HWZ2.out⟩
              · have e3 : decide (x.t < p.t) = false := decide_eq_false ht
                by_cases hte : p.t = x.t
                · have e4 : (p.t == x.t) = true := beq_iff_eq.2 hte
                  have hap := ap_eq hte
                  obtain ⟨r, hr⟩ : ∃ r, r = decide (p.hi + 1 < x.lo) := ⟨_, rfl⟩
                  rw [← hr] at HBT hap
                  rw [hap] at HG HS
                  have HTE := Lib.hid hte
                  clear hr hap ht hte
                  cases r with
                  | false =>
                    have HR := Lib.hid (HG.out (by simp [h0]))
                    clear HG HS
                    go_wp2_with fail
                    refine Calls.mono (HBT.out _) ?_
                    rintro e w5 ⟨rfl, rfl⟩
                    go_wp2_with fail
                    go_ret
                    exact ⟨by rw [HR.out]; rfl, HWZ2.out⟩
                  | true =>
                    have HR := Lib.hid (HS.out (by first | rfl | trivial) (by first | rfl | trivial) (fun _ => by first | rfl | trivial))
                    clear HG HS
                    go_wp2_with fail
                    refine Calls.mono (HBT.out _) ?_
                    rintro e w5 ⟨rfl, rfl⟩
                    go_wp2_with fail
                    go_roundw
                    case rel => exact ⟨q + 1, by go_num, by omega, HR.out, HWX2.out⟩
                    case measure => simp [intOf]; omega
                · have e4 : (p.t == x.t) = false := beq_eq_false_iff_ne.2 hte
                  have HR := Lib.hid (HS.out (by first | rfl | trivial) (by first | rfl | trivial) (fun _ => ap_lt ht hte))
                  clear HG HS ht hte
                  go_wp2_with fail
                  go_roundw
                  case rel => exact ⟨q + 1, by go_num, by omega, HR.out, HWX2.out⟩
                  case measure => simp [intOf]; omega
            · have hg1 : decide ((0 : Int) < q) = false := by rw [decide_eq_false_iff_not]; omega
              have HR := Lib.hid (HS.out (by first | rfl | trivial) (by first | rfl | trivial) (fun h => absurd h h0))
              clear HP HS HG
              go_wp2_with fail
              go_roundw
              case rel => exact ⟨q + 1, by go_num, by omega, HR.out, HWX.out⟩
              case measure => simp [intOf]; omega
    · obtain rfl : y.n2 = q := by omega
      have HSG := Lib.hid (sg_true (l := f.sp) (by rw [HL.out]; exact hno.out))
      have y0 := (HF.out.below hbr).c0
      have HK1 := Lib.hid (rising_any y.A y.n y.c f.rs wr (HH.out.rs.below hbr) hsm.1)
      cases hr : kgB f.rs with
      | false =>
        rw [hr] at HK1
        have HE := Lib.hid (show goodB f = false by simp [goodB, hr])
        clear hr hbr
        go_wp2_with fail
        refine Calls.mono HK1.out ?_
        rintro e w1 ⟨rfl, hb1⟩
        have HB1 := Lib.hid (HBZ.out.trans (hb1.mono HBZ.out.size))
        clear hb1 y0 y1
        go_wp2_with fail
        go_ret
        exact ⟨by rw [HE.out]; rfl, HB1.out⟩
      | true =>
        rw [hr] at HK1
        have HE1 := Lib.hid (show goodB f = kgB f.ws by simp [goodB, hr, HSG.out])
        clear hr
        go_wp2_with fail
        refine Calls.mono HK1.out ?_
        rintro e w1 ⟨rfl, hb1⟩
        have HB1 := Lib.hid (HBZ.out.trans (hb1.mono HBZ.out.size))
        have HK2 := Lib.hid (rising_any y.A3 y.n3 y.c3 f.ws w1 ((HH.out.ws.below hbr).below hb1) hsm.2.2)
        have y2 := ((HF.out.below hbr).below hb1).c2
        clear hb1 y0 y1 hbr
        go_wp2_with fail
        refine Calls.mono HK2.out ?_
        rintro e w2 ⟨rfl, hb2⟩
        have HB2 := Lib.hid (HB1.out.trans (hb2.mono HB1.out.size))
        clear hb2 y2
        go_wp2_with fail
        go_ret
        exact ⟨by rw [HE1.out]; rfl, HB2.out⟩
end Go.Proofs.Ytmicheheibkmjaa
