/- foot.Good. -/
import Derived.Test.YtmicheheibkmjaaFGood1
import Derived.Test.YtmicheheibkmjaaFSp1
namespace Go.Proofs.Ytmicheheibkmjaa
set_option maxRecDepth 100000
open Go.RowKit

/-- The first spans are of tables that are, and apart. -/
def sg (l : List Sp) (q : Nat) : Prop := ∀ j (hj : j < l.length), j < q → tabB l[j].t = true ∧ decide (l[j].lo > l[j].hi) = false ∧ (0 < j → decide (ap l[j - 1] l[j]) = true)
noncomputable def sgB (l : List Sp) : Bool := @decide (sg l l.length) (Classical.propDecidable _)
theorem sg_true {l : List Sp} (h : sg l l.length) : sgB l = true := by unfold sgB; exact @decide_eq_true _ (Classical.propDecidable _) h
theorem sg_false {l : List Sp} (h : ¬ sg l l.length) : sgB l = false := by unfold sgB; exact @decide_eq_false _ (Classical.propDecidable _) h
theorem sg_succ {l : List Sp} {q : Nat} (hq : q < l.length) (h : sg l q) (ht : tabB l[q].t = true) (hh : decide (l[q].lo > l[q].hi) = false) (hl : 0 < q → decide (ap l[q - 1] l[q]) = true) : sg l (q + 1) := by
  intro j hj hj2
  by_cases e : j = q
  · subst e; exact ⟨ht, hh, hl⟩
  · exact h j hj (by omega)
noncomputable def goodB (f : Ft) : Bool := kgB f.rs && (kgB f.ws && sgB f.sp)
set_option maxHeartbeats 8000000 in
theorem good_any (y : FV) (f : Ft) (w : World) (h : FtAt w y f) (hfit : ∀ s ∈ f.sp, FitS s) : Calls Try.prog 20 #[y.val] w fun e w' => e = .returned (.bool (goodB f)) ∧ Below w.heap.size w w' := by
  have hbx := (Below.refl w.heap.size w).alloc (Nat.le_refl _) (.cells y.cs 30)
  have HB := Lib.hid hbx
  have HF := Lib.hid (show FBox (w.alloc (.cells y.cs 30)) w.heap.size y from heap_alloc_new w _)
  have HH := Lib.hid (h.below hbx)
  have HFT := Lib.hid hfit
  have hsm := h.small
  unfold FV.cs at HB HF HH
  unfold FV.val FV.cs
  clear hbx h hfit
  go_enter Try.func20, Try.ntmps20
  go_upto_region 1 with fail
  revert HB HF HH
  generalize World.alloc w _ = W
  intro HB HF HH
  have HK1 := Lib.hid (keysgood_any y.A y.n y.c f.rs W HH.out.rs hsm.1)
  have y0 := HF.out.c0
  cases hr : kgB f.rs with
  | false =>
    rw [hr] at HK1
    have HE := Lib.hid (show goodB f = false by simp [goodB, hr])
    clear hr
    go_wp2_with fail
    refine Calls.mono HK1.out ?_
    rintro e w1 ⟨rfl, hb1⟩
    have HB1 := Lib.hid (HB.out.trans (hb1.mono HB.out.size))
    clear hb1 y0
    go_wp2_with fail
    go_ret
    exact ⟨by rw [HE.out]; rfl, HB1.out⟩
  | true =>
    rw [hr] at HK1
    have HE1 := Lib.hid (show goodB f = (kgB f.ws && sgB f.sp) by simp [goodB, hr])
    clear hr
    go_wp2_with fail
    refine Calls.mono HK1.out ?_
    rintro e w1 ⟨rfl, hb1⟩
    have HB1 := Lib.hid (HB.out.trans (hb1.mono HB.out.size))
    have HK2 := Lib.hid (keysgood_any y.A3 y.n3 y.c3 f.ws w1 (HH.out.ws.below hb1) hsm.2.2)
    have y2 := (HF.out.below hb1).c2
    have HF1 := Lib.hid (HF.out.below hb1)
    have HH1 := Lib.hid (HH.out.below hb1)
    clear hb1 y0
    cases hr : kgB f.ws with
    | false =>
      rw [hr] at HK2
      have HE := Lib.hid (show goodB f = false by rw [HE1.out]; simp [hr])
      clear hr
      go_wp2_with fail
      refine Calls.mono HK2.out ?_
      rintro e w2 ⟨rfl, hb2⟩
      have HB2 := Lib.hid (HB1.out.trans (hb2.mono HB1.out.size))
      clear hb2 y2
      go_wp2_with fail
      go_ret
      exact ⟨by rw [HE.out]; rfl, HB2.out⟩
    | true =>
      rw [hr] at HK2
      have HE2 := Lib.hid (show goodB f = sgB f.sp by rw [HE1.out]; simp [hr])
      clear hr
      go_wp2_with fail
      refine Calls.mono HK2.out ?_
      rintro e w2 ⟨rfl, hb2⟩
      have HB2 := Lib.hid (HB1.out.trans (hb2.mono HB1.out.size))
      have HF2 := Lib.hid (HF1.out.below hb2)
      have HS2 := Lib.hid (HH1.out.sp.below hb2)
      have y1 := HF2.out.c1
      have HL := Lib.hid HS2.out.len
      clear hb2 y2
      go_wp2_with fail
      clear y1
      rename World => wz
      go_loopw [3, 4, 18] (fun _ _ i wr => ∃ q : Nat, i = .int .i64 (q : Int) ∧ q ≤ y.n2 ∧ Hid (sg f.sp q) ∧ Below wz.heap.size wz wr) (fun _ _ i _ => y.n2 - (intOf i).toNat)
      case atStart => exact ⟨0, rfl, by omega, fun j _ h => by omega, Below.refl _ _⟩
      case round =>
        obtain ⟨q, rfl, hq, hno, hbr⟩ := hrel
        have HBR := Lib.hid hbr
        have HBZ := Lib.hid (HB2.out.trans (hbr.mono HB2.out.size))
        have hwz := HB2.out.size
        by_cases hlt : q < y.n2
        · have hql : q < f.sp.length := by rw [HL.out]; exact hlt
          obtain ⟨b, off, hA, hc⟩ := Spans.cells (HS2.out.below hbr) (by omega)
          obtain ⟨c0, c1, c2⟩ := hc q hql
          have y1 := (HF2.out.below hbr).c1
          have HUW := Lib.hid (show Below wr.heap.size wr (wr.alloc (.cells #[.int .i64 f.sp[q].t, .int .i64 f.sp[q].lo, .int .i64 f.sp[q].hi] 54)) from (Below.refl wr.heap.size wr).alloc (Nat.le_refl _) _)
          have HG := Lib.hid (show ¬ (tabB f.sp[q].t = true ∧ decide (f.sp[q].lo > f.sp[q].hi) = false ∧ (0 < q → decide (ap f.sp[q - 1] f.sp[q]) = true)) → goodB f = false from fun hh => by rw [HE2.out]; exact sg_false fun hk => hh (hk q hql (by have := HL.out; omega)))
          have HS := Lib.hid (fun h1 h2 h3 => sg_succ hql hno.out h1 h2 h3)
          have HP := Lib.hid (show 0 < q → ∃ p : Sp, p = f.sp[q - 1] ∧ FitS p ∧ wr.cell? ⟨b, off + (q - 1) * 3, none⟩ = some (.int .i64 p.t) ∧ wr.cell? ⟨b, off + (q - 1) * 3 + 1, none⟩ = some (.int .i64 p.lo) ∧ wr.cell? ⟨b, off + (q - 1) * 3 + 2, none⟩ = some (.int .i64 p.hi) from fun h0 => by
            obtain ⟨d0, d1, d2⟩ := hc (q - 1) (by omega)
            exact ⟨_, rfl, HFT.out _ (List.getElem_mem _), d0, d1, d2⟩)
          have HFX := Lib.hid (HFT.out _ (List.getElem_mem hql))
          obtain ⟨x, hx⟩ : ∃ x, x = f.sp[q] := ⟨_, rfl⟩
          rw [← hx] at c0 c1 c2 HUW HG HS HFX
          rw [hA] at y1
          have HT := Lib.hid (istable_any x.t)
          obtain ⟨tb, htb⟩ : ∃ tb, tb = tabB x.t := ⟨_, rfl⟩
          rw [← htb] at HT HG HS
          clear hc hx htb hbr
          cases tb with
          | false =>
            have HR := Lib.hid (HG.out (by simp))
            clear HP HS HG
            rw [hA]
            go_wp2_with fail
            refine wp_region_noPanic ?_
            refine wp_region_abs 25 50 [.is (.pointer (some ⟨wr.heap.size, 0, none⟩)), .is (.int .i64 x.t), .is (.bool false), .is (.bool true), .is (.bool true), .is undef, .is undef, .is undef, .is undef, .is undef, .is (.bool true), .is (.bool true), .is undef, .is undef, .is undef, .is undef, .is undef, .is undef, .is undef, .is undef, .is undef, .is undef, .is undef, .is undef, .is undef]
              [23, 24, 25, 26, 27, 28, 29, 30, 31, 32, 33, 34, 35, 36, 37, 38, 39, 40, 41, 42, 43, 44, 45, 46, 47]
              [[], [0], [1], [2], [3, 2], [4], [5, 4], [4], [7, 4], [6, 8, 4], [4, 9], [10, 4], [11], [12, 11], [13, 11], [14], [15, 14], [14], [17, 14], [16, 18, 14], [19, 14], [14], [20, 21, 14], [22, 14], [14, 23, 11]] (by kernel_rfl) (by rfl) rfl rfl (by kernel_rfl) (fun _ _ _ _ h => h.elim) ?_ ?_
            · refine ⟨?_, ?_, ?_, ?_, ?_, ?_, ?_, ?_, ?_, ?_, ?_, ?_, ?_, ?_, ?_, ?_, ?_, ?_, ?_, ?_, ?_, ?_, ?_, ?_, ?_, trivial⟩
              · intro W2 hw K hK
                obtain ⟨b0, b1, b2⟩ := sbox ((Below.refl _ _).drew.trans hw)
                go_simp
                exact hK _ _ rfl (Below.refl _ _)
              · intro W2 hw K hK
                obtain ⟨b0, b1, b2⟩ := sbox ((Below.refl _ _).drew.trans hw)
                go_simp
                exact hK _ _ rfl (Below.refl _ _)
              · intro W2 hw K hK
                have hcc := HT.out W2
                go_simp
                refine Calls.mono hcc ?_
                rintro e9 w5 ⟨rfl, rfl⟩
                exact hK _ _ rfl (Below.refl _ _)
              · intro W2 hw K hK
                obtain ⟨b0, b1, b2⟩ := sbox ((Below.refl _ _).drew.trans hw)
                go_simp
                exact hK _ _ rfl (Below.refl _ _)
              · intro W2 hw K hK
                obtain ⟨b0, b1, b2⟩ := sbox ((Below.refl _ _).drew.trans hw)
                go_simp
                exact hK _ _ rfl (Below.refl _ _)
              · intro W2 hw K hK
                go_simp
                exact hK _ _ rfl (Below.refl _ _)
              · intro W2 hw K hK
                go_simp
                exact hK _ _ rfl (Below.refl _ _)
              · intro W2 hw K hK
                go_simp
                exact hK _ _ rfl (Below.refl _ _)
              · intro W2 hw K hK
                go_simp
                exact hK _ _ rfl (Below.refl _ _)
              · intro W2 hw K hK
                go_simp
                exact hK _ _ rfl (Below.refl _ _)
              · intro W2 hw K hK
                obtain ⟨b0, b1, b2⟩ := sbox ((Below.refl _ _).drew.trans hw)
                go_simp
                exact hK _ _ rfl (Below.refl _ _)
              · intro W2 hw K hK
                obtain ⟨b0, b1, b2⟩ := sbox ((Below.refl _ _).drew.trans hw)
                go_simp
                exact hK _ _ rfl (Below.refl _ _)
              · intro W2 hw K hK
                go_simp
                exact hK _ _ rfl (Below.refl _ _)
              · intro W2 hw K hK
                go_simp
                exact hK _ _ rfl (Below.refl _ _)
              · intro W2 hw K hK
                go_simp
                exact hK _ _ rfl (Below.refl _ _)
              · intro W2 hw K hK
                go_simp
                exact hK _ _ rfl (Below.refl _ _)
              · intro W2 hw K hK
                go_simp
                exact hK _ _ rfl (Below.refl _ _)
              · intro W2 hw K hK
                go_simp
                exact hK _ _ rfl (Below.refl _ _)
              · intro W2 hw K hK
                go_simp
                exact hK _ _ rfl (Below.refl _ _)
              · intro W2 hw K hK
                go_simp
                exact hK _ _ rfl (Below.refl _ _)
              · intro W2 hw K hK
                go_simp
                exact hK _ _ rfl (Below.refl _ _)
              · intro W2 hw K hK
                go_simp
                exact hK _ _ rfl (Below.refl _ _)
              · intro W2 hw K hK
                go_simp
                exact hK _ _ rfl (Below.refl _ _)
              · intro W2 hw K hK
                go_simp
                exact hK _ _ rfl (Below.refl _ _)
              · intro W2 hw K hK
                go_simp
                exact hK _ _ rfl (Below.refl _ _)
            · intro W2 hw2
              simp only [Behind]
              have hw3 : Below (wr.alloc (.cells #[.int .i64 x.t, .int .i64 x.lo, .int .i64 x.hi] 54)).heap.size (wr.alloc (.cells #[.int .i64 x.t, .int .i64 x.lo, .int .i64 x.hi] 54)) W2 := (Below.refl _ _).drew.trans hw2
              have HWX := Lib.hid (HUW.out.trans (hw3.mono HUW.out.size))
              clear hw2 hw3
              simp only [List.drop, Act.put, List.setIfInBounds_toArray, List.set_cons_zero, List.set_cons_succ]
              go_wp2_with fail
              refine NoPanic.normal ?_
              go_wp2_with fail
              go_ret
              exact ⟨by rw [HR.out]; rfl, HBZ.out.trans (HWX.out.mono HBZ.out.size)⟩
          | true =>
            by_cases hlh : x.lo > x.hi
            · have hd0 : decide (x.lo > x.hi) = true := decide_eq_true hlh
              have hd1 : decide (x.hi < x.lo) = true := decide_eq_true hlh
              have HR := Lib.hid (HG.out (by simp [hd0]))
              clear HP HS HG hlh
              rw [hA]
              go_wp2_with fail
              refine wp_region_noPanic ?_
              refine wp_region_abs 25 50 [.is (.pointer (some ⟨wr.heap.size, 0, none⟩)), .is (.int .i64 x.t), .is (.bool true), .is (.bool false), .is (.bool false), .is (.pointer (some ⟨wr.heap.size, 1, none⟩)), .is (.int .i64 x.lo), .is (.pointer (some ⟨wr.heap.size, 2, none⟩)), .is (.int .i64 x.hi), .is (.bool true), .is (.bool true), .is (.bool true), .is undef, .is undef, .is undef, .is undef, .is undef, .is undef, .is undef, .is undef, .is undef, .is undef, .is undef, .is undef, .is undef]
                [23, 24, 25, 26, 27, 28, 29, 30, 31, 32, 33, 34, 35, 36, 37, 38, 39, 40, 41, 42, 43, 44, 45, 46, 47]
                [[], [0], [1], [2], [3, 2], [4], [5, 4], [4], [7, 4], [6, 8, 4], [4, 9], [10, 4], [11], [12, 11], [13, 11], [14], [15, 14], [14], [17, 14], [16, 18, 14], [19, 14], [14], [20, 21, 14], [22, 14], [14, 23, 11]] (by kernel_rfl) (by rfl) rfl rfl (by kernel_rfl) (fun _ _ _ _ h => h.elim) ?_ ?_
              · refine ⟨?_, ?_, ?_, ?_, ?_, ?_, ?_, ?_, ?_, ?_, ?_, ?_, ?_, ?_, ?_, ?_, ?_, ?_, ?_, ?_, ?_, ?_, ?_, ?_, ?_, trivial⟩
                · intro W2 hw K hK
                  obtain ⟨b0, b1, b2⟩ := sbox ((Below.refl _ _).drew.trans hw)
                  go_simp
                  exact hK _ _ rfl (Below.refl _ _)
                · intro W2 hw K hK
                  obtain ⟨b0, b1, b2⟩ := sbox ((Below.refl _ _).drew.trans hw)
                  go_simp
                  exact hK _ _ rfl (Below.refl _ _)
                · intro W2 hw K hK
                  have hcc := HT.out W2
                  go_simp
                  refine Calls.mono hcc ?_
                  rintro e9 w5 ⟨rfl, rfl⟩
                  exact hK _ _ rfl (Below.refl _ _)
                · intro W2 hw K hK
                  obtain ⟨b0, b1, b2⟩ := sbox ((Below.refl _ _).drew.trans hw)
                  go_simp
                  exact hK _ _ rfl (Below.refl _ _)
                · intro W2 hw K hK
                  obtain ⟨b0, b1, b2⟩ := sbox ((Below.refl _ _).drew.trans hw)
                  go_simp
                  exact hK _ _ rfl (Below.refl _ _)
                · intro W2 hw K hK
                  obtain ⟨b0, b1, b2⟩ := sbox ((Below.refl _ _).drew.trans hw)
                  go_simp
                  exact hK _ _ rfl (Below.refl _ _)
                · intro W2 hw K hK
                  obtain ⟨b0, b1, b2⟩ := sbox ((Below.refl _ _).drew.trans hw)
                  go_simp
                  exact hK _ _ rfl (Below.refl _ _)
                · intro W2 hw K hK
                  obtain ⟨b0, b1, b2⟩ := sbox ((Below.refl _ _).drew.trans hw)
                  go_simp
                  exact hK _ _ rfl (Below.refl _ _)
                · intro W2 hw K hK
                  obtain ⟨b0, b1, b2⟩ := sbox ((Below.refl _ _).drew.trans hw)
                  go_simp
                  exact hK _ _ rfl (Below.refl _ _)
                · intro W2 hw K hK
                  obtain ⟨b0, b1, b2⟩ := sbox ((Below.refl _ _).drew.trans hw)
                  go_simp
                  exact hK _ _ rfl (Below.refl _ _)
                · intro W2 hw K hK
                  obtain ⟨b0, b1, b2⟩ := sbox ((Below.refl _ _).drew.trans hw)
                  go_simp
                  exact hK _ _ rfl (Below.refl _ _)
                · intro W2 hw K hK
                  obtain ⟨b0, b1, b2⟩ := sbox ((Below.refl _ _).drew.trans hw)
                  go_simp
                  exact hK _ _ rfl (Below.refl _ _)
                · intro W2 hw K hK
                  go_simp
                  exact hK _ _ rfl (Below.refl _ _)
                · intro W2 hw K hK
                  go_simp
                  exact hK _ _ rfl (Below.refl _ _)
                · intro W2 hw K hK
                  go_simp
                  exact hK _ _ rfl (Below.refl _ _)
                · intro W2 hw K hK
                  go_simp
                  exact hK _ _ rfl (Below.refl _ _)
                · intro W2 hw K hK
                  go_simp
                  exact hK _ _ rfl (Below.refl _ _)
                · intro W2 hw K hK
                  go_simp
                  exact hK _ _ rfl (Below.refl _ _)
                · intro W2 hw K hK
                  go_simp
                  exact hK _ _ rfl (Below.refl _ _)
                · intro W2 hw K hK
                  go_simp
                  exact hK _ _ rfl (Below.refl _ _)
                · intro W2 hw K hK
                  go_simp
                  exact hK _ _ rfl (Below.refl _ _)
                · intro W2 hw K hK
                  go_simp
                  exact hK _ _ rfl (Below.refl _ _)
                · intro W2 hw K hK
                  go_simp
                  exact hK _ _ rfl (Below.refl _ _)
                · intro W2 hw K hK
                  go_simp
                  exact hK _ _ rfl (Below.refl _ _)
                · intro W2 hw K hK
                  go_simp
                  exact hK _ _ rfl (Below.refl _ _)
              · intro W2 hw2
                simp only [Behind]
                have hw3 : Below (wr.alloc (.cells #[.int .i64 x.t, .int .i64 x.lo, .int .i64 x.hi] 54)).heap.size (wr.alloc (.cells #[.int .i64 x.t, .int .i64 x.lo, .int .i64 x.hi] 54)) W2 := (Below.refl _ _).drew.trans hw2
                have HWX := Lib.hid (HUW.out.trans (hw3.mono HUW.out.size))
                clear hw2 hw3
                simp only [List.drop, Act.put, List.setIfInBounds_toArray, List.set_cons_zero, List.set_cons_succ]
                go_wp2_with fail
                refine NoPanic.normal ?_
                go_wp2_with fail
                go_ret
                exact ⟨by rw [HR.out]; rfl, HBZ.out.trans (HWX.out.mono HBZ.out.size)⟩
            · have hd0 : decide (x.lo > x.hi) = false := decide_eq_false hlh
              have hd1 : decide (x.hi < x.lo) = false := decide_eq_false hlh
              rw [hd0] at HG HS
              by_cases h0 : 0 < q
              · obtain ⟨p, hp, hfp, d0, d1, d2⟩ := HP.out h0
                have HX := Lib.hid (show ∀ W2, Below (wr.alloc (.cells #[.int .i64 x.t, .int .i64 x.lo, .int .i64 x.hi] 54)).drew.heap.size (wr.alloc (.cells #[.int .i64 x.t, .int .i64 x.lo, .int .i64 x.hi] 54)).drew W2 → W2.cell? ⟨w.heap.size, 1, none⟩ = some (.slice (some ⟨b, off, none⟩) y.n2 y.c2) ∧ (W2.cell? ⟨b, off + (q - 1) * 3, none⟩ = some (.int .i64 p.t) ∧ W2.cell? ⟨b, off + (q - 1) * 3 + 1, none⟩ = some (.int .i64 p.lo) ∧ W2.cell? ⟨b, off + (q - 1) * 3 + 2, none⟩ = some (.int .i64 p.hi)) ∧ W2.cell? ⟨wr.heap.size, 0, none⟩ = some (.int .i64 x.t) ∧ W2.cell? ⟨wr.heap.size, 1, none⟩ = some (.int .i64 x.lo) ∧ W2.cell? ⟨wr.heap.size, 2, none⟩ = some (.int .i64 x.hi) from fun W2 hw => by
                  have hw3 : Below (wr.alloc (.cells #[.int .i64 x.t, .int .i64 x.lo, .int .i64 x.hi] 54)).heap.size (wr.alloc (.cells #[.int .i64 x.t, .int .i64 x.lo, .int .i64 x.hi] 54)) W2 := (Below.refl _ _).drew.trans hw
                  have hw4 := HUW.out.trans (hw3.mono HUW.out.size)
                  exact ⟨(stays_w hw4 _ (World.block_lt_of_cell? _ _ y1)).trans y1, ⟨(stays_w hw4 _ (World.block_lt_of_cell? _ _ d0)).trans d0, (stays_w hw4 _ (World.block_lt_of_cell? _ _ d1)).trans d1, (stays_w hw4 _ (World.block_lt_of_cell? _ _ d2)).trans d2⟩, sbox hw3⟩)
                rw [← hp] at HG HS
                have C := apart_any p x hfp HFX.out
                unfold Sp.val at C
                obtain ⟨r, hr⟩ : ∃ r, r = decide (ap p x) := ⟨_, rfl⟩
                rw [← hr] at C HG HS
                have HC := Lib.hid C
                have hg0 : decide ((q : Int) > 0) = true := by rw [decide_eq_true_iff]; omega
                have hg1 : decide ((0 : Int) < q) = true := by rw [decide_eq_true_iff]; omega
                have hqn : (q : Int) - 1 < y.n2 := by omega
                have hwq : IntKind.i64.wrap ((q : Int) - 1) = (q : Int) - 1 := wrap_pred h0 (by omega)
                have hq1 : (0 : Int) ≤ (q : Int) - 1 := by omega
                have hq2 : ¬ ((q : Int) - 1 < 0) := by omega
                have hq3 : ((q : Int) - 1).toNat = q - 1 := by omega
                have hq4 : (q : Int) ≤ y.n2 := by omega
                have hq5 : (1 : Int) ≤ (q : Int) := by omega
                clear C hr hp HP d0 d1 d2 hfp hlh y1
                cases r with
                | false =>
                  have HR := Lib.hid (HG.out (by simp [h0]))
                  clear HG HS
                  rw [hA]
                  go_wp2_with fail
                  refine wp_region_noPanic ?_
                  refine wp_region_abs 25 50 [.is (.pointer (some ⟨wr.heap.size, 0, none⟩)), .is (.int .i64 x.t), .is (.bool true), .is (.bool false), .is (.bool false), .is (.pointer (some ⟨wr.heap.size, 1, none⟩)), .is (.int .i64 x.lo), .is (.pointer (some ⟨wr.heap.size, 2, none⟩)), .is (.int .i64 x.hi), .is (.bool false), .is (.bool false), .is (.bool false), .is (.int .i64 (q : Int)), .is (.bool true), .is (.bool true), .is (.pointer (some ⟨w.heap.size, 1, none⟩)), .is (.slice (some ⟨b, off, none⟩) y.n2 y.c2), .is (.int .i64 (q : Int)), .is (.int .i64 ((q : Int) - 1)), .is (.pointer (some ⟨b, off + (q - 1) * 3, none⟩)), .is (.agg #[.int .i64 p.t, .int .i64 p.lo, .int .i64 p.hi]), .is (.agg #[.int .i64 x.t, .int .i64 x.lo, .int .i64 x.hi]), .is (.bool false), .is (.bool true), .is (.bool true)]
                    [23, 24, 25, 26, 27, 28, 29, 30, 31, 32, 33, 34, 35, 36, 37, 38, 39, 40, 41, 42, 43, 44, 45, 46, 47]
                    [[], [0], [1], [2], [3, 2], [4], [5, 4], [4], [7, 4], [6, 8, 4], [4, 9], [10, 4], [11], [12, 11], [13, 11], [14], [15, 14], [14], [17, 14], [16, 18, 14], [19, 14], [14], [20, 21, 14], [22, 14], [14, 23, 11]] (by kernel_rfl) (by rfl) rfl rfl (by kernel_rfl) (fun _ _ _ _ h => h.elim) ?_ ?_
                  · refine ⟨?_, ?_, ?_, ?_, ?_, ?_, ?_, ?_, ?_, ?_, ?_, ?_, ?_, ?_, ?_, ?_, ?_, ?_, ?_, ?_, ?_, ?_, ?_, ?_, ?_, trivial⟩
                    · intro W2 hw K hK
                      obtain ⟨y1, ⟨d0, d1, d2⟩, b0, b1, b2⟩ := HX.out W2 hw
                      go_simp
                      exact hK _ _ rfl (Below.refl _ _)
                    · intro W2 hw K hK
                      obtain ⟨y1, ⟨d0, d1, d2⟩, b0, b1, b2⟩ := HX.out W2 hw
                      go_simp
                      exact hK _ _ rfl (Below.refl _ _)
                    · intro W2 hw K hK
                      have hcc := HT.out W2
                      go_simp
                      refine Calls.mono hcc ?_
                      rintro e9 w5 ⟨rfl, rfl⟩
                      exact hK _ _ rfl (Below.refl _ _)
                    · intro W2 hw K hK
                      obtain ⟨y1, ⟨d0, d1, d2⟩, b0, b1, b2⟩ := HX.out W2 hw
                      go_simp
                      exact hK _ _ rfl (Below.refl _ _)
                    · intro W2 hw K hK
                      obtain ⟨y1, ⟨d0, d1, d2⟩, b0, b1, b2⟩ := HX.out W2 hw
                      go_simp
                      exact hK _ _ rfl (Below.refl _ _)
                    · intro W2 hw K hK
                      obtain ⟨y1, ⟨d0, d1, d2⟩, b0, b1, b2⟩ := HX.out W2 hw
                      go_simp
                      exact hK _ _ rfl (Below.refl _ _)
                    · intro W2 hw K hK
                      obtain ⟨y1, ⟨d0, d1, d2⟩, b0, b1, b2⟩ := HX.out W2 hw
                      go_simp
                      exact hK _ _ rfl (Below.refl _ _)
                    · intro W2 hw K hK
                      obtain ⟨y1, ⟨d0, d1, d2⟩, b0, b1, b2⟩ := HX.out W2 hw
                      go_simp
                      exact hK _ _ rfl (Below.refl _ _)
                    · intro W2 hw K hK
                      obtain ⟨y1, ⟨d0, d1, d2⟩, b0, b1, b2⟩ := HX.out W2 hw
                      go_simp
                      exact hK _ _ rfl (Below.refl _ _)
                    · intro W2 hw K hK
                      obtain ⟨y1, ⟨d0, d1, d2⟩, b0, b1, b2⟩ := HX.out W2 hw
                      go_simp
                      exact hK _ _ rfl (Below.refl _ _)
                    · intro W2 hw K hK
                      obtain ⟨y1, ⟨d0, d1, d2⟩, b0, b1, b2⟩ := HX.out W2 hw
                      go_simp
                      exact hK _ _ rfl (Below.refl _ _)
                    · intro W2 hw K hK
                      obtain ⟨y1, ⟨d0, d1, d2⟩, b0, b1, b2⟩ := HX.out W2 hw
                      go_simp
                      exact hK _ _ rfl (Below.refl _ _)
                    · intro W2 hw K hK
                      obtain ⟨y1, ⟨d0, d1, d2⟩, b0, b1, b2⟩ := HX.out W2 hw
                      go_simp
                      exact hK _ _ rfl (Below.refl _ _)
                    · intro W2 hw K hK
                      obtain ⟨y1, ⟨d0, d1, d2⟩, b0, b1, b2⟩ := HX.out W2 hw
                      go_simp
                      exact hK _ _ rfl (Below.refl _ _)
                    · intro W2 hw K hK
                      obtain ⟨y1, ⟨d0, d1, d2⟩, b0, b1, b2⟩ := HX.out W2 hw
                      go_simp
                      exact hK _ _ rfl (Below.refl _ _)
                    · intro W2 hw K hK
                      obtain ⟨y1, ⟨d0, d1, d2⟩, b0, b1, b2⟩ := HX.out W2 hw
                      go_simp
                      exact hK _ _ rfl (Below.refl _ _)
                    · intro W2 hw K hK
                      obtain ⟨y1, ⟨d0, d1, d2⟩, b0, b1, b2⟩ := HX.out W2 hw
                      go_simp
                      exact hK _ _ rfl (Below.refl _ _)
                    · intro W2 hw K hK
                      obtain ⟨y1, ⟨d0, d1, d2⟩, b0, b1, b2⟩ := HX.out W2 hw
                      go_simp
                      exact hK _ _ rfl (Below.refl _ _)
                    · intro W2 hw K hK
                      obtain ⟨y1, ⟨d0, d1, d2⟩, b0, b1, b2⟩ := HX.out W2 hw
                      go_simp
                      exact hK _ _ rfl (Below.refl _ _)
                    · intro W2 hw K hK
                      obtain ⟨y1, ⟨d0, d1, d2⟩, b0, b1, b2⟩ := HX.out W2 hw
                      go_simp
                      exact hK _ _ rfl (Below.refl _ _)
                    · intro W2 hw K hK
                      obtain ⟨y1, ⟨d0, d1, d2⟩, b0, b1, b2⟩ := HX.out W2 hw
                      go_simp
                      exact hK _ _ rfl (Below.refl _ _)
                    · intro W2 hw K hK
                      obtain ⟨y1, ⟨d0, d1, d2⟩, b0, b1, b2⟩ := HX.out W2 hw
                      go_simp
                      exact hK _ _ rfl (Below.refl _ _)
                    · intro W2 hw K hK
                      have hcc := HC.out W2
                      go_simp
                      refine Calls.mono hcc ?_
                      rintro e9 w5 ⟨rfl, hb5⟩
                      exact hK _ _ rfl hb5
                    · intro W2 hw K hK
                      obtain ⟨y1, ⟨d0, d1, d2⟩, b0, b1, b2⟩ := HX.out W2 hw
                      go_simp
                      exact hK _ _ rfl (Below.refl _ _)
                    · intro W2 hw K hK
                      obtain ⟨y1, ⟨d0, d1, d2⟩, b0, b1, b2⟩ := HX.out W2 hw
                      go_simp
                      exact hK _ _ rfl (Below.refl _ _)
                  · intro W2 hw2
                    simp only [Behind]
                    have hw3 : Below (wr.alloc (.cells #[.int .i64 x.t, .int .i64 x.lo, .int .i64 x.hi] 54)).heap.size (wr.alloc (.cells #[.int .i64 x.t, .int .i64 x.lo, .int .i64 x.hi] 54)) W2 := (Below.refl _ _).drew.trans hw2
                    have HWX := Lib.hid (HUW.out.trans (hw3.mono HUW.out.size))
                    clear hw2 hw3
                    simp only [List.drop, Act.put, List.setIfInBounds_toArray, List.set_cons_zero, List.set_cons_succ]
                    go_wp2_with fail
                    refine NoPanic.normal ?_
                    go_wp2_with fail
                    go_ret
                    exact ⟨by rw [HR.out]; rfl, HBZ.out.trans (HWX.out.mono HBZ.out.size)⟩
                | true =>
                  have HR := Lib.hid (HS.out (by first | rfl | trivial) (by first | rfl | trivial) (fun _ => by first | rfl | trivial))
                  clear HG HS
                  rw [hA]
                  go_wp2_with fail
                  refine wp_region_noPanic ?_
                  refine wp_region_abs 25 50 [.is (.pointer (some ⟨wr.heap.size, 0, none⟩)), .is (.int .i64 x.t), .is (.bool true), .is (.bool false), .is (.bool false), .is (.pointer (some ⟨wr.heap.size, 1, none⟩)), .is (.int .i64 x.lo), .is (.pointer (some ⟨wr.heap.size, 2, none⟩)), .is (.int .i64 x.hi), .is (.bool false), .is (.bool false), .is (.bool false), .is (.int .i64 (q : Int)), .is (.bool true), .is (.bool true), .is (.pointer (some ⟨w.heap.size, 1, none⟩)), .is (.slice (some ⟨b, off, none⟩) y.n2 y.c2), .is (.int .i64 (q : Int)), .is (.int .i64 ((q : Int) - 1)), .is (.pointer (some ⟨b, off + (q - 1) * 3, none⟩)), .is (.agg #[.int .i64 p.t, .int .i64 p.lo, .int .i64 p.hi]), .is (.agg #[.int .i64 x.t, .int .i64 x.lo, .int .i64 x.hi]), .is (.bool true), .is (.bool false), .is (.bool false)]
                    [23, 24, 25, 26, 27, 28, 29, 30, 31, 32, 33, 34, 35, 36, 37, 38, 39, 40, 41, 42, 43, 44, 45, 46, 47]
                    [[], [0], [1], [2], [3, 2], [4], [5, 4], [4], [7, 4], [6, 8, 4], [4, 9], [10, 4], [11], [12, 11], [13, 11], [14], [15, 14], [14], [17, 14], [16, 18, 14], [19, 14], [14], [20, 21, 14], [22, 14], [14, 23, 11]] (by kernel_rfl) (by rfl) rfl rfl (by kernel_rfl) (fun _ _ _ _ h => h.elim) ?_ ?_
                  · refine ⟨?_, ?_, ?_, ?_, ?_, ?_, ?_, ?_, ?_, ?_, ?_, ?_, ?_, ?_, ?_, ?_, ?_, ?_, ?_, ?_, ?_, ?_, ?_, ?_, ?_, trivial⟩
                    · intro W2 hw K hK
                      obtain ⟨y1, ⟨d0, d1, d2⟩, b0, b1, b2⟩ := HX.out W2 hw
                      go_simp
                      exact hK _ _ rfl (Below.refl _ _)
                    · intro W2 hw K hK
                      obtain ⟨y1, ⟨d0, d1, d2⟩, b0, b1, b2⟩ := HX.out W2 hw
                      go_simp
                      exact hK _ _ rfl (Below.refl _ _)
                    · intro W2 hw K hK
                      have hcc := HT.out W2
                      go_simp
                      refine Calls.mono hcc ?_
                      rintro e9 w5 ⟨rfl, rfl⟩
                      exact hK _ _ rfl (Below.refl _ _)
                    · intro W2 hw K hK
                      obtain ⟨y1, ⟨d0, d1, d2⟩, b0, b1, b2⟩ := HX.out W2 hw
                      go_simp
                      exact hK _ _ rfl (Below.refl _ _)
                    · intro W2 hw K hK
                      obtain ⟨y1, ⟨d0, d1, d2⟩, b0, b1, b2⟩ := HX.out W2 hw
                      go_simp
                      exact hK _ _ rfl (Below.refl _ _)
                    · intro W2 hw K hK
                      obtain ⟨y1, ⟨d0, d1, d2⟩, b0, b1, b2⟩ := HX.out W2 hw
                      go_simp
                      exact hK _ _ rfl (Below.refl _ _)
                    · intro W2 hw K hK
                      obtain ⟨y1, ⟨d0, d1, d2⟩, b0, b1, b2⟩ := HX.out W2 hw
                      go_simp
                      exact hK _ _ rfl (Below.refl _ _)
                    · intro W2 hw K hK
                      obtain ⟨y1, ⟨d0, d1, d2⟩, b0, b1, b2⟩ := HX.out W2 hw
                      go_simp
                      exact hK _ _ rfl (Below.refl _ _)
                    · intro W2 hw K hK
                      obtain ⟨y1, ⟨d0, d1, d2⟩, b0, b1, b2⟩ := HX.out W2 hw
                      go_simp
                      exact hK _ _ rfl (Below.refl _ _)
                    · intro W2 hw K hK
                      obtain ⟨y1, ⟨d0, d1, d2⟩, b0, b1, b2⟩ := HX.out W2 hw
                      go_simp
                      exact hK _ _ rfl (Below.refl _ _)
                    · intro W2 hw K hK
                      obtain ⟨y1, ⟨d0, d1, d2⟩, b0, b1, b2⟩ := HX.out W2 hw
                      go_simp
                      exact hK _ _ rfl (Below.refl _ _)
                    · intro W2 hw K hK
                      obtain ⟨y1, ⟨d0, d1, d2⟩, b0, b1, b2⟩ := HX.out W2 hw
                      go_simp
                      exact hK _ _ rfl (Below.refl _ _)
                    · intro W2 hw K hK
                      obtain ⟨y1, ⟨d0, d1, d2⟩, b0, b1, b2⟩ := HX.out W2 hw
                      go_simp
                      exact hK _ _ rfl (Below.refl _ _)
                    · intro W2 hw K hK
                      obtain ⟨y1, ⟨d0, d1, d2⟩, b0, b1, b2⟩ := HX.out W2 hw
                      go_simp
                      exact hK _ _ rfl (Below.refl _ _)
                    · intro W2 hw K hK
                      obtain ⟨y1, ⟨d0, d1, d2⟩, b0, b1, b2⟩ := HX.out W2 hw
                      go_simp
                      exact hK _ _ rfl (Below.refl _ _)
                    · intro W2 hw K hK
                      obtain ⟨y1, ⟨d0, d1, d2⟩, b0, b1, b2⟩ := HX.out W2 hw
                      go_simp
                      exact hK _ _ rfl (Below.refl _ _)
                    · intro W2 hw K hK
                      obtain ⟨y1, ⟨d0, d1, d2⟩, b0, b1, b2⟩ := HX.out W2 hw
                      go_simp
                      exact hK _ _ rfl (Below.refl _ _)
                    · intro W2 hw K hK
                      obtain ⟨y1, ⟨d0, d1, d2⟩, b0, b1, b2⟩ := HX.out W2 hw
                      go_simp
                      exact hK _ _ rfl (Below.refl _ _)
                    · intro W2 hw K hK
                      obtain ⟨y1, ⟨d0, d1, d2⟩, b0, b1, b2⟩ := HX.out W2 hw
                      go_simp
                      exact hK _ _ rfl (Below.refl _ _)
                    · intro W2 hw K hK
                      obtain ⟨y1, ⟨d0, d1, d2⟩, b0, b1, b2⟩ := HX.out W2 hw
                      go_simp
                      exact hK _ _ rfl (Below.refl _ _)
                    · intro W2 hw K hK
                      obtain ⟨y1, ⟨d0, d1, d2⟩, b0, b1, b2⟩ := HX.out W2 hw
                      go_simp
                      exact hK _ _ rfl (Below.refl _ _)
                    · intro W2 hw K hK
                      obtain ⟨y1, ⟨d0, d1, d2⟩, b0, b1, b2⟩ := HX.out W2 hw
                      go_simp
                      exact hK _ _ rfl (Below.refl _ _)
                    · intro W2 hw K hK
                      have hcc := HC.out W2
                      go_simp
                      refine Calls.mono hcc ?_
                      rintro e9 w5 ⟨rfl, hb5⟩
                      exact hK _ _ rfl hb5
                    · intro W2 hw K hK
                      obtain ⟨y1, ⟨d0, d1, d2⟩, b0, b1, b2⟩ := HX.out W2 hw
                      go_simp
                      exact hK _ _ rfl (Below.refl _ _)
                    · intro W2 hw K hK
                      obtain ⟨y1, ⟨d0, d1, d2⟩, b0, b1, b2⟩ := HX.out W2 hw
                      go_simp
                      exact hK _ _ rfl (Below.refl _ _)
                  · intro W2 hw2
                    simp only [Behind]
                    have hw3 : Below (wr.alloc (.cells #[.int .i64 x.t, .int .i64 x.lo, .int .i64 x.hi] 54)).heap.size (wr.alloc (.cells #[.int .i64 x.t, .int .i64 x.lo, .int .i64 x.hi] 54)) W2 := (Below.refl _ _).drew.trans hw2
                    have HWX := Lib.hid (HUW.out.trans (hw3.mono HUW.out.size))
                    clear hw2 hw3
                    simp only [List.drop, Act.put, List.setIfInBounds_toArray, List.set_cons_zero, List.set_cons_succ]
                    go_wp2_with fail
                    refine NoPanic.normal ?_
                    go_wp2_with fail
                    go_roundw
                    case rel => exact ⟨q + 1, by go_num, by omega, HR.out, HBR.out.trans (HWX.out.mono HBR.out.size)⟩
                    case measure => simp [intOf]; omega
              · have hg0 : decide ((q : Int) > 0) = false := by rw [decide_eq_false_iff_not]; omega
                have hg1 : decide ((0 : Int) < q) = false := by rw [decide_eq_false_iff_not]; omega
                have HR := Lib.hid (HS.out (by first | rfl | trivial) (by first | rfl | trivial) (fun h => absurd h h0))
                clear HP HS HG hlh
                rw [hA]
                go_wp2_with fail
                refine wp_region_noPanic ?_
                refine wp_region_abs 25 50 [.is (.pointer (some ⟨wr.heap.size, 0, none⟩)), .is (.int .i64 x.t), .is (.bool true), .is (.bool false), .is (.bool false), .is (.pointer (some ⟨wr.heap.size, 1, none⟩)), .is (.int .i64 x.lo), .is (.pointer (some ⟨wr.heap.size, 2, none⟩)), .is (.int .i64 x.hi), .is (.bool false), .is (.bool false), .is (.bool false), .is (.int .i64 (q : Int)), .is (.bool false), .is (.bool false), .is undef, .is undef, .is undef, .is undef, .is undef, .is undef, .is undef, .is undef, .is undef, .is (.bool false)]
                  [23, 24, 25, 26, 27, 28, 29, 30, 31, 32, 33, 34, 35, 36, 37, 38, 39, 40, 41, 42, 43, 44, 45, 46, 47]
                  [[], [0], [1], [2], [3, 2], [4], [5, 4], [4], [7, 4], [6, 8, 4], [4, 9], [10, 4], [11], [12, 11], [13, 11], [14], [15, 14], [14], [17, 14], [16, 18, 14], [19, 14], [14], [20, 21, 14], [22, 14], [14, 23, 11]] (by kernel_rfl) (by rfl) rfl rfl (by kernel_rfl) (fun _ _ _ _ h => h.elim) ?_ ?_
                · refine ⟨?_, ?_, ?_, ?_, ?_, ?_, ?_, ?_, ?_, ?_, ?_, ?_, ?_, ?_, ?_, ?_, ?_, ?_, ?_, ?_, ?_, ?_, ?_, ?_, ?_, trivial⟩
                  · intro W2 hw K hK
                    obtain ⟨b0, b1, b2⟩ := sbox ((Below.refl _ _).drew.trans hw)
                    go_simp
                    exact hK _ _ rfl (Below.refl _ _)
                  · intro W2 hw K hK
                    obtain ⟨b0, b1, b2⟩ := sbox ((Below.refl _ _).drew.trans hw)
                    go_simp
                    exact hK _ _ rfl (Below.refl _ _)
                  · intro W2 hw K hK
                    have hcc := HT.out W2
                    go_simp
                    refine Calls.mono hcc ?_
                    rintro e9 w5 ⟨rfl, rfl⟩
                    exact hK _ _ rfl (Below.refl _ _)
                  · intro W2 hw K hK
                    obtain ⟨b0, b1, b2⟩ := sbox ((Below.refl _ _).drew.trans hw)
                    go_simp
                    exact hK _ _ rfl (Below.refl _ _)
                  · intro W2 hw K hK
                    obtain ⟨b0, b1, b2⟩ := sbox ((Below.refl _ _).drew.trans hw)
                    go_simp
                    exact hK _ _ rfl (Below.refl _ _)
                  · intro W2 hw K hK
                    obtain ⟨b0, b1, b2⟩ := sbox ((Below.refl _ _).drew.trans hw)
                    go_simp
                    exact hK _ _ rfl (Below.refl _ _)
                  · intro W2 hw K hK
                    obtain ⟨b0, b1, b2⟩ := sbox ((Below.refl _ _).drew.trans hw)
                    go_simp
                    exact hK _ _ rfl (Below.refl _ _)
                  · intro W2 hw K hK
                    obtain ⟨b0, b1, b2⟩ := sbox ((Below.refl _ _).drew.trans hw)
                    go_simp
                    exact hK _ _ rfl (Below.refl _ _)
                  · intro W2 hw K hK
                    obtain ⟨b0, b1, b2⟩ := sbox ((Below.refl _ _).drew.trans hw)
                    go_simp
                    exact hK _ _ rfl (Below.refl _ _)
                  · intro W2 hw K hK
                    obtain ⟨b0, b1, b2⟩ := sbox ((Below.refl _ _).drew.trans hw)
                    go_simp
                    exact hK _ _ rfl (Below.refl _ _)
                  · intro W2 hw K hK
                    obtain ⟨b0, b1, b2⟩ := sbox ((Below.refl _ _).drew.trans hw)
                    go_simp
                    exact hK _ _ rfl (Below.refl _ _)
                  · intro W2 hw K hK
                    obtain ⟨b0, b1, b2⟩ := sbox ((Below.refl _ _).drew.trans hw)
                    go_simp
                    exact hK _ _ rfl (Below.refl _ _)
                  · intro W2 hw K hK
                    obtain ⟨b0, b1, b2⟩ := sbox ((Below.refl _ _).drew.trans hw)
                    go_simp
                    exact hK _ _ rfl (Below.refl _ _)
                  · intro W2 hw K hK
                    obtain ⟨b0, b1, b2⟩ := sbox ((Below.refl _ _).drew.trans hw)
                    go_simp
                    exact hK _ _ rfl (Below.refl _ _)
                  · intro W2 hw K hK
                    obtain ⟨b0, b1, b2⟩ := sbox ((Below.refl _ _).drew.trans hw)
                    go_simp
                    exact hK _ _ rfl (Below.refl _ _)
                  · intro W2 hw K hK
                    go_simp
                    exact hK _ _ rfl (Below.refl _ _)
                  · intro W2 hw K hK
                    go_simp
                    exact hK _ _ rfl (Below.refl _ _)
                  · intro W2 hw K hK
                    go_simp
                    exact hK _ _ rfl (Below.refl _ _)
                  · intro W2 hw K hK
                    go_simp
                    exact hK _ _ rfl (Below.refl _ _)
                  · intro W2 hw K hK
                    go_simp
                    exact hK _ _ rfl (Below.refl _ _)
                  · intro W2 hw K hK
                    go_simp
                    exact hK _ _ rfl (Below.refl _ _)
                  · intro W2 hw K hK
                    go_simp
                    exact hK _ _ rfl (Below.refl _ _)
                  · intro W2 hw K hK
                    go_simp
                    exact hK _ _ rfl (Below.refl _ _)
                  · intro W2 hw K hK
                    go_simp
                    exact hK _ _ rfl (Below.refl _ _)
                  · intro W2 hw K hK
                    obtain ⟨b0, b1, b2⟩ := sbox ((Below.refl _ _).drew.trans hw)
                    go_simp
                    exact hK _ _ rfl (Below.refl _ _)
                · intro W2 hw2
                  simp only [Behind]
                  have hw3 : Below (wr.alloc (.cells #[.int .i64 x.t, .int .i64 x.lo, .int .i64 x.hi] 54)).heap.size (wr.alloc (.cells #[.int .i64 x.t, .int .i64 x.lo, .int .i64 x.hi] 54)) W2 := (Below.refl _ _).drew.trans hw2
                  have HWX := Lib.hid (HUW.out.trans (hw3.mono HUW.out.size))
                  clear hw2 hw3
                  simp only [List.drop, Act.put, List.setIfInBounds_toArray, List.set_cons_zero, List.set_cons_succ]
                  go_wp2_with fail
                  refine NoPanic.normal ?_
                  go_wp2_with fail
                  go_roundw
                  case rel => exact ⟨q + 1, by go_num, by omega, HR.out, HBR.out.trans (HWX.out.mono HBR.out.size)⟩
                  case measure => simp [intOf]; omega
        · obtain rfl : y.n2 = q := by omega
          have HR := Lib.hid (show goodB f = true by rw [HE2.out]; exact sg_true (by rw [HL.out]; exact hno.out))
          clear hbr
          go_wp2_with fail
          go_ret
          exact ⟨by rw [HR.out]; rfl, HBZ.out⟩
end Go.Proofs.Ytmicheheibkmjaa
