/- FootJoins: the law, walked. -/
import Derived.Test.YtmicheheibkmjaaFMine
import Derived.Test.YtmicheheibkmjaaFLarge
import Derived.Test.YtmicheheibkmjaaFFeet
import Derived.Test.YtmicheheibkmjaaGRefM
import Derived.Test.YtmicheheibkmjaaFJoinsM
import Derived.Test.YtmicheheibkmjaaFRefJ
import Derived.Deep.CutRange
import Derived.Deep.CutBlock
namespace Go.Proofs.Ytmicheheibkmjaa
set_option maxRecDepth 100000
open Go.RowKit Go.Shelf

theorem KBox.cs {w : World} {b : Nat} {k : K} (h : KBox w b k) : w.cell? ⟨b, 0, none⟩ = some (.int .i64 k.t) ∧ w.cell? ⟨b, 1, none⟩ = some (.int .i64 k.k) := ⟨h.c0, h.c1⟩
theorem FtsG.cells3 {w : World} {A : Option Addr} {n : Nat} {fs : List Ft} (h : FtsG w A n fs) (hn : 0 < n) : ∃ b off, A = some ⟨b, off, none⟩ ∧ ∀ j, j < n → ∃ x : FV, FtG w x (fs.getD j noFt) ∧ w.cell? ⟨b, off + j * 3, none⟩ = some (.slice x.A x.n x.c) ∧ w.cell? ⟨b, off + j * 3 + 1, none⟩ = some (.slice x.A2 x.n2 x.c2) ∧ w.cell? ⟨b, off + j * 3 + 2, none⟩ = some (.slice x.A3 x.n3 x.c3) := h.2 hn
theorem any_succ (p : Ft → Bool) (fs : List Ft) (q : Nat) (hq : q < fs.length) : (fs.take (q + 1)).any p = ((fs.take q).any p || p (fs.getD q noFt)) := by
  rw [getD_at fs q hq, List.take_succ_eq_append_getElem hq, List.any_append]
  simp
set_option maxHeartbeats 16000000 in
theorem joins_law (A : Option Addr) (n c : Nat) (fs : List Ft) (k : K) (w : World) (h : FtsG w A n fs) (hn0 : n ≤ 9223372036854775807) : Calls Try.prog 3 #[.slice A n c, k.val] w fun e w' => e = .returned (.bool true) ∧ Below w.heap.size w w' := by
  have hbx := (Below.refl w.heap.size w).alloc (Nat.le_refl _) (.cells #[.int .i64 k.t, .int .i64 k.k] 24)
  have HB := Lib.hid hbx
  have HK := Lib.hid (show KBox (w.alloc (.cells #[.int .i64 k.t, .int .i64 k.k] 24)) w.heap.size k from heap_alloc_new w _)
  have HH := Lib.hid h
  have HL := Lib.hid h.1
  unfold K.val
  clear hbx h
  go_enter Try.func3, Try.ntmps3
  go_upto_region 1 with fail
  revert HB HK
  generalize World.alloc w _ = W
  intro HB HK
  go_wp2_with fail
  refine Calls.mono (alive_any W) ?_
  rintro e w1 ⟨rfl, hb1⟩
  have HB1 := Lib.hid (HB.out.trans (hb1.mono HB.out.size))
  have HK1 := Lib.hid (HK.out.below hb1)
  have HLA := Lib.hid (large_any A n c fs w1 (HH.out.below HB1.out) hn0)
  clear hb1
  go_wp2_with fail
  refine Calls.mono HLA.out ?_
  rintro e w2 ⟨⟨r, rfl, hr⟩, hb2⟩
  have HB2 := Lib.hid (HB1.out.trans (hb2.mono HB1.out.size))
  have HK2 := Lib.hid (HK1.out.below hb2)
  clear hb2
  cases r with
  | true =>
    go_wp2_with fail
    go_ret
    exact ⟨rfl, HB2.out⟩
  | false =>
    obtain ⟨hn, hfew⟩ := hr rfl
    have HFW := Lib.hid hfew
    have hb3 := (Below.refl w2.heap.size w2).alloc (Nat.le_refl _) (.cells #[] 30)
    have HB3 := Lib.hid (HB2.out.trans (hb3.mono HB2.out.size))
    have HK3 := Lib.hid (HK2.out.below hb3)
    have HM0 := Lib.hid (show MiI w2.heap.size (w2.alloc (.cells #[] 30)) (.slice (some ⟨w2.heap.size, 0, none⟩) 0 0) [] fs from ⟨own_empty w2 w2.heap.size 30 3 30 rfl (Nat.le_refl _), fun j hj => by simp at hj⟩)
    have hlow : w2.heap.size ≤ (w2.alloc (.cells #[] 30)).heap.size := hb3.size
    have hw2 := HB2.out.size
    clear hr hfew hb3
    go_upto_region 6 with fail
    revert HB3 HK3 HM0 hlow
    generalize World.alloc w2 _ = w3
    intro HB3 HK3 HM0 hlow
    go_wp2_with fail
    go_loopw [5, 6, 7, 9, 20] (fun v rd wt _ i wr => ∃ (q : Nat) (ms : List FV), i = .int .i64 (q : Int) ∧ q ≤ n ∧ ms.length = q ∧ Hid (rd = .bool ((fs.take q).any fun f => readsB f k)) ∧ Hid (wt = .bool ((fs.take q).any fun f => writesB f k)) ∧ MiI w2.heap.size wr v ms fs ∧ Below w.heap.size w wr ∧ KBox wr w.heap.size k ∧ w2.heap.size ≤ wr.heap.size) (fun _ _ _ _ i _ => n - (intOf i).toNat)
    case atStart => exact ⟨0, [], rfl, by omega, rfl, by rfl, by rfl, HM0.out, HB3.out, HK3.out, hlow⟩
    case round =>
      obtain ⟨q, ms, rfl, hq, hml, hrd, hwt, hmi, hbr, hkb, hlo⟩ := hrel
      have hrd' := hrd.out
      have hwt' := hwt.out
      subst hrd' hwt'
      by_cases hlt : q < n
      · have hqf : q < fs.length := by rw [HL.out]; exact hlt
        obtain ⟨b, off, rfl, hc⟩ := HH.out.cells3 (by omega)
        obtain ⟨x, hx, x0, x1, x2⟩ := hc q hlt
        replace x0 := (stays_w hbr _ (World.block_lt_of_cell? _ _ x0)).trans x0
        replace x1 := (stays_w hbr _ (World.block_lt_of_cell? _ _ x1)).trans x1
        replace x2 := (stays_w hbr _ (World.block_lt_of_cell? _ _ x2)).trans x2
        have hfq := HFW.out (fs.getD q noFt) (by rw [getD_at fs q hqf]; exact List.getElem_mem hqf)
        have l1 := hx.at_.rs.len
        have l2 := hx.at_.sp.len
        have l3 := hx.at_.ws.len
        have HAR := Lib.hid (any_succ (fun f => readsB f k) fs q hqf)
        have HAW := Lib.hid (any_succ (fun f => writesB f k) fs q hqf)
        obtain ⟨f, hf⟩ : ∃ f, f = fs.getD q noFt := ⟨_, rfl⟩
        have HFE := Lib.hid hf
        rw [← hf] at hx l1 l2 l3 HAR HAW hfq
        have hbb := (Below.refl wr.heap.size wr).alloc (Nat.le_refl _) (.cells #[.slice x.A x.n x.c, .slice x.A2 x.n2 x.c2, .slice x.A3 x.n3 x.c3] 30)
        have HX := Lib.hid hx
        have HBB := Lib.hid (hbr.trans (hbb.mono hbr.size))
        have HMB := Lib.hid (hmi.below hbb)
        have HKB := Lib.hid (hkb.below hbb)
        have HXB := Lib.hid (show FBox (wr.alloc (.cells #[.slice x.A x.n x.c, .slice x.A2 x.n2 x.c2, .slice x.A3 x.n3 x.c3] 30)) wr.heap.size x from heap_alloc_new wr _)
        have HVL := Lib.hid (fun r hr => (hmi.own.lt r hr))
        have HCO := Lib.hid (copies_any x f _ (hx.below HBB.out) (by omega) (by omega) (by omega))
        have hwb : wr.heap.size < (wr.alloc (.cells #[.slice x.A x.n x.c, .slice x.A2 x.n2 x.c2, .slice x.A3 x.n3 x.c3] 30)).heap.size := by rw [World.size_alloc]; omega
        have hkw : w.heap.size < w2.heap.size := (Array.getElem?_eq_some_iff.1 HK2.out).1
        unfold FV.val FV.cs at HCO
        clear hc hx hbr hmi hkb hbb hf l1 l2 l3 hfq hrd hwt
        go_upto_region 10 with fail
        clear x0 x1 x2
        revert HBB HMB HKB HXB HCO hwb
        generalize World.alloc wr _ = wb
        intro HBB HMB HKB HXB HCO hwb
        obtain ⟨y0, y1, y2⟩ := HXB.out.cs3
        go_wp2_with fail
        refine Calls.mono HCO.out ?_
        rintro e w5 ⟨z, rfl, hz, hb5, hnew⟩
        have hb6 := hb5.alloc (Nat.le_trans (Nat.le_refl _) hb5.size) (.cells #[.slice z.A z.n z.c, .slice z.A2 z.n2 z.c2, .slice z.A3 z.n3 z.c3] 30)
        have HZ := Lib.hid (hz.below ((Below.refl w5.heap.size w5).alloc (Nat.le_refl _) (.cells #[.slice z.A z.n z.c, .slice z.A2 z.n2 z.c2, .slice z.A3 z.n3 z.c3] 30)))
        have HM5 := Lib.hid (HMB.out.below hb6)
        have HB6 := Lib.hid (HBB.out.trans (hb6.mono HBB.out.size))
        have HK6 := Lib.hid (HKB.out.below hb6)
        have HX6 := Lib.hid (HXB.out.below hb6)
        have HNW := Lib.hid hnew
        have hs6 : w2.heap.size ≤ (w5.alloc (.cells #[.slice z.A z.n z.c, .slice z.A2 z.n2 z.c2, .slice z.A3 z.n3 z.c3] 30)).heap.size := by have := hb6.size; omega
        clear hz hb5 hb6 hnew y0 y1 y2
        go_upto_region 11 with (at_builtin; refine wpList_append_rowv elem22 rfl (.tmp 24) (.tmp 27) rfl w2.heap.size _ _ _ rfl HM5.out.own (some ⟨w5.heap.size, 0, none⟩) 1 1 z.csl rfl (rdv_one3 w5 _ _ _ 30) (csl_one z) (fun h => by cases h) (by unfold maxLen; omega) (by omega) hs6 ?_; intro v6 w6 ho hg hk; have HM6 := Lib.hid (HM5.out.push z (by rw [hml, ← HFE.out]; exact HZ.out) (fun r hr => HNW.out.away (by have := (HVL.out r hr).2; omega)) ho hg hk); have HB7 := Lib.hid (HB6.out.grown hg HB6.out.size (fun r hr => by have := (HVL.out r hr).1; omega)); have HK7 := Lib.hid (show KBox w6 w.heap.size k from (hg.block _ (Array.getElem?_eq_some_iff.1 HK6.out).1 (fun e => by have := (HVL.out _ e.symm).1; omega)).trans HK6.out); have HX7 := Lib.hid (show FBox w6 wr.heap.size x from (hg.block _ (Array.getElem?_eq_some_iff.1 HX6.out).1 (fun e => by have := (HVL.out _ e.symm).2; omega)).trans HX6.out); have hs7 : w2.heap.size ≤ w6.heap.size := Nat.le_trans hs6 hg.size; clear ho hg hk)
        obtain ⟨rd, hrd⟩ : ∃ rd, rd = (fs.take q).any fun f => readsB f k := ⟨_, rfl⟩
        obtain ⟨wt, hwt⟩ : ∃ wt, wt = (fs.take q).any fun f => writesB f k := ⟨_, rfl⟩
        rw [← hrd] at HAR ⊢
        rw [← hwt] at HAW ⊢
        have HRR := Lib.hid (fun W2 hb => refreads_any x f k W2 (HX.out.below (w' := W2) hb).at_)
        have HWW := Lib.hid (fun W2 hb => refwrites_any x f k W2 (HX.out.below (w' := W2) hb).at_)
        unfold FV.val FV.cs K.val at HRR HWW
        clear hrd hwt
        go_cut [6] from 29 to 34 (fun v wx => v = .bool (rd || readsB f k) ∧ Below w6.heap.size w6 wx)
        case first =>
          obtain ⟨y0, y1, y2⟩ := HX7.out.cs3
          obtain ⟨k0, k1⟩ := HK7.out.cs
          have HC := Lib.hid (HRR.out w6 HB7.out)
          cases rd with
          | true =>
            go_wp2_with fail
            go_meet
            case rel => exact ⟨rfl, Below.refl _ _⟩
          | false =>
            go_wp2_with fail
            refine Calls.mono HC.out ?_
            rintro e w7 ⟨rfl, hb7⟩
            have HB8 := Lib.hid hb7
            clear hb7 y0 y1 y2 k0 k1
            go_wp2_with fail
            go_meet
            case rel => exact ⟨rfl, HB8.out⟩
        case rest =>
          obtain ⟨rfl, hb7⟩ := hcut
          rename World => w7
          have HM8 := Lib.hid (HM6.out.below hb7)
          have HB8 := Lib.hid (HB7.out.trans (hb7.mono HB7.out.size))
          have HK8 := Lib.hid (HK7.out.below hb7)
          have HX8 := Lib.hid (HX7.out.below hb7)
          have hs8 := Nat.le_trans hs7 hb7.size
          clear hb7
          obtain ⟨y0, y1, y2⟩ := HX8.out.cs3
          obtain ⟨k0, k1⟩ := HK8.out.cs
          have HC := Lib.hid (HWW.out w7 HB8.out)
          cases wt with
          | true =>
            go_wp2_with fail
            go_roundw
            case rel => exact ⟨q + 1, ms ++ [z], by go_num, by omega, by simp [hml], by rw [HAR.out]; rfl, by rw [HAW.out]; rfl, HM8.out, HB8.out, HK8.out, hs8⟩
            case measure => simp [intOf]; omega
          | false =>
            go_wp2_with fail
            refine Calls.mono HC.out ?_
            rintro e w8 ⟨rfl, hb8⟩
            have HM9 := Lib.hid (HM8.out.below hb8)
            have HB9 := Lib.hid (HB8.out.trans (hb8.mono HB8.out.size))
            have HK9 := Lib.hid (HK8.out.below hb8)
            have hs9 := Nat.le_trans hs8 hb8.size
            clear hb8 y0 y1 y2 k0 k1
            go_wp2_with fail
            go_roundw
            case rel => exact ⟨q + 1, ms ++ [z], by go_num, by omega, by simp [hml], by rw [HAR.out]; rfl, by rw [HAW.out]; rfl, HM9.out, HB9.out, HK9.out, hs9⟩
            case measure => simp [intOf]; omega
      · have hqn : q = n := by omega
        have hmn : ms.length = n := hml.trans hqn
        have hmf : ms.length = fs.length := hmn.trans HL.out.symm
        obtain ⟨Am, cm, rfl, _⟩ : ∃ Am cm, u5 = .slice Am n cm ∧ True := by
          have ho := hmi.own
          rw [hmn] at ho
          obtain ⟨A5, c5, e5, _⟩ := rdv_own ho
          exact ⟨A5, c5, e5, trivial⟩
        have HFM := Lib.hid (hmi.feet hmf hmn)
        have et : fs.take q = fs := List.take_of_length_le (by rw [HL.out]; omega)
        have hrf : joinF fs = joinF fs := rfl
        have HJO := Lib.hid (join_any Am n cm fs wr HFM.out (by omega) (fun f hf => ⟨Nat.le_trans (HFW.out f hf).1 (by decide), Nat.le_trans (HFW.out f hf).2.1 (by decide), Nat.le_trans (HFW.out f hf).2.2 (by decide)⟩))
        have HBR := Lib.hid hbr
        have HKR := Lib.hid hkb
        have er : readsB (joinF fs) k = fs.any (fun f => readsB f k) := reads_join fs k
        have ew : writesB (joinF fs) k = fs.any (fun f => writesB f k) := writes_join fs k
        rw [et, ← er, ← ew]
        have hkl : w.heap.size < wr.heap.size := (Array.getElem?_eq_some_iff.1 hkb).1
        clear hmi hbr hkb hrd hwt hmn hmf et er ew hrf hml
        go_upto_region 14 with fail
        go_wp2_with fail
        refine Calls.mono HJO.out ?_
        rintro e w5 ⟨z, rfl, hz, hb5⟩
        have hbb := hb5.alloc (Nat.le_trans (Nat.le_refl _) hb5.size) (.cells #[.slice z.A z.n z.c, .slice z.A2 z.n2 z.c2, .slice z.A3 z.n3 z.c3] 30)
        have HZ := Lib.hid (hz.below ((Below.refl w5.heap.size w5).alloc (Nat.le_refl _) (.cells #[.slice z.A z.n z.c, .slice z.A2 z.n2 z.c2, .slice z.A3 z.n3 z.c3] 30)))
        have HB5 := Lib.hid (HBR.out.trans (hbb.mono HBR.out.size))
        have HK5 := Lib.hid (HKR.out.below hbb)
        have HM5 := Lib.hid (HFM.out.below hbb)
        have HF5 := Lib.hid (HH.out.below HB5.out)
        have HZB := Lib.hid (show FBox (w5.alloc (.cells #[.slice z.A z.n z.c, .slice z.A2 z.n2 z.c2, .slice z.A3 z.n3 z.c3] 30)) w5.heap.size z from heap_alloc_new w5 _)
        clear hz hb5 hbb
        unfold FV.val FV.cs
        go_upto_region 15 with fail
        revert HZ HB5 HK5 HM5 HF5 HZB
        generalize World.alloc w5 _ = w6
        intro HZ HB5 HK5 HM5 HF5 HZB
        go_wp2_with fail
        go_loopw [11, 12, 46] (fun _ _ i wr => ∃ q : Nat, i = .int .i64 (q : Int) ∧ q ≤ n ∧ Below w6.heap.size w6 wr) (fun _ _ i _ => n - (intOf i).toNat)
        case atStart => exact ⟨0, rfl, by omega, Below.refl _ _⟩
        case round =>
          obtain ⟨q, rfl, hq, hbr⟩ := hrel
          by_cases hlt : q < n
          · obtain ⟨mb, moff, rfl, hcm⟩ := HM5.out.cells3 (by omega)
            obtain ⟨fb, foff, rfl, hc⟩ := HF5.out.cells3 (by omega)
            obtain ⟨mx, hmx, m0, m1, m2⟩ := hcm q hlt
            obtain ⟨x, hx, x0, x1, x2⟩ := hc q hlt
            obtain ⟨f, hf⟩ : ∃ f, f = fs.getD q noFt := ⟨_, rfl⟩
            rw [← hf] at hx hmx
            replace x0 := (stays_w hbr _ (World.block_lt_of_cell? _ _ x0)).trans x0
            replace x1 := (stays_w hbr _ (World.block_lt_of_cell? _ _ x1)).trans x1
            replace x2 := (stays_w hbr _ (World.block_lt_of_cell? _ _ x2)).trans x2
            replace m0 := (stays_w hbr _ (World.block_lt_of_cell? _ _ m0)).trans m0
            replace m1 := (stays_w hbr _ (World.block_lt_of_cell? _ _ m1)).trans m1
            replace m2 := (stays_w hbr _ (World.block_lt_of_cell? _ _ m2)).trans m2
            have hbb := (Below.refl wr.heap.size wr).alloc (Nat.le_refl _) (.cells #[.slice x.A x.n x.c, .slice x.A2 x.n2 x.c2, .slice x.A3 x.n3 x.c3] 30)
            have HUW := Lib.hid hbb
            have HBR := Lib.hid hbr
            have HW3 := Lib.hid (show ∀ W2, Below (wr.alloc (.cells #[.slice x.A x.n x.c, .slice x.A2 x.n2 x.c2, .slice x.A3 x.n3 x.c3] 30)).drew.heap.size (wr.alloc (.cells #[.slice x.A x.n x.c, .slice x.A2 x.n2 x.c2, .slice x.A3 x.n3 x.c3] 30)).drew W2 → Below wr.heap.size wr W2 from fun W2 hw => hbb.trans (((Below.refl _ _).drew.trans hw).mono hbb.size))
            have hxb : FBox (wr.alloc (.cells #[.slice x.A x.n x.c, .slice x.A2 x.n2 x.c2, .slice x.A3 x.n3 x.c3] 30)) wr.heap.size x := heap_alloc_new wr _
            have HC := Lib.hid (fun (W2 : World) (hw : Below (wr.alloc (.cells #[.slice x.A x.n x.c, .slice x.A2 x.n2 x.c2, .slice x.A3 x.n3 x.c3] 30)).drew.heap.size (wr.alloc (.cells #[.slice x.A x.n x.c, .slice x.A2 x.n2 x.c2, .slice x.A3 x.n3 x.c3] 30)).drew W2) => And.intro (And.intro ((stays_w (HW3.out W2 hw) _ (World.block_lt_of_cell? _ _ m0)).trans m0) (And.intro ((stays_w (HW3.out W2 hw) _ (World.block_lt_of_cell? _ _ m1)).trans m1) ((stays_w (HW3.out W2 hw) _ (World.block_lt_of_cell? _ _ m2)).trans m2))) (hxb.below ((Below.refl _ _).drew.trans hw)).cs3)
            have HFE := Lib.hid (fun (W2 : World) (hw : Below (wr.alloc (.cells #[.slice x.A x.n x.c, .slice x.A2 x.n2 x.c2, .slice x.A3 x.n3 x.c3] 30)).drew.heap.size (wr.alloc (.cells #[.slice x.A x.n x.c, .slice x.A2 x.n2 x.c2, .slice x.A3 x.n3 x.c3] 30)).drew W2) => feet_same_any mx x f W2 ((hmx.below hbr).below (HW3.out W2 hw)).at_ ((hx.below hbr).below (HW3.out W2 hw)).at_)
            unfold FV.val at HFE
            clear hcm hc hmx hx hf hbb hbr m0 m1 m2 hxb
            go_upto_region 18 with fail
            refine wp_region_noPanic ?_
            refine wp_region_abs 6 77 [.is (.slice (some ⟨mb, moff, none⟩) n cm), .is (.int .i64 (q : Int)), .is (.pointer (some ⟨mb, moff + q * 3, none⟩)), .is (.agg #[.slice mx.A mx.n mx.c, .slice mx.A2 mx.n2 mx.c2, .slice mx.A3 mx.n3 mx.c3]), .is (.agg #[.slice x.A x.n x.c, .slice x.A2 x.n2 x.c2, .slice x.A3 x.n3 x.c3]), .is (.bool true)]
              [51, 52, 53, 54, 55, 56]
              [[], [], [0, 1], [2], [], [3, 4]] (by kernel_rfl) (by rfl) rfl rfl (by kernel_rfl) (fun _ _ _ _ h => h.elim) ?_ ?_
            · refine ⟨?_, ?_, ?_, ?_, ?_, ?_, trivial⟩
              · intro W2 hw K hK
                go_simp
                exact hK _ _ rfl (Below.refl _ _)
              · intro W2 hw K hK
                go_simp
                exact hK _ _ rfl (Below.refl _ _)
              · intro W2 hw K hK
                go_simp
                exact hK _ _ rfl (Below.refl _ _)
              · intro W2 hw K hK
                obtain ⟨⟨m0, m1, m2⟩, x0, x1, x2⟩ := HC.out W2 hw
                go_simp
                exact hK _ _ rfl (Below.refl _ _)
              · intro W2 hw K hK
                obtain ⟨⟨m0, m1, m2⟩, x0, x1, x2⟩ := HC.out W2 hw
                go_simp
                exact hK _ _ rfl (Below.refl _ _)
              · intro W2 hw K hK
                have hcc := HFE.out W2 hw
                go_simp
                refine Calls.mono hcc ?_
                rintro e9 w5 ⟨rfl, hb5⟩
                exact hK _ _ rfl hb5
            · intro W2 hw2
              simp only [Behind]
              have HWX := Lib.hid (HBR.out.trans (((HUW.out.trans (((Below.refl _ _).drew.trans hw2).mono HUW.out.size))).mono HBR.out.size))
              clear hw2
              simp only [List.drop, Act.put, List.setIfInBounds_toArray, List.set_cons_zero, List.set_cons_succ]
              go_wp2_with fail
              refine NoPanic.normal ?_
              go_wp2_with fail
              go_roundw
              case rel => exact ⟨q + 1, by go_num, by omega, HWX.out⟩
              case measure => simp [intOf]; omega
          · have HWR := Lib.hid (HB5.out.trans (hbr.mono HB5.out.size))
            have HW4 := Lib.hid (show ∀ W2, Below wr.drew.heap.size wr.drew W2 → Below w6.heap.size w6 W2 from fun W2 hw => hbr.trans (((Below.refl _ _).drew.trans hw).mono hbr.size))
            have HRJ := Lib.hid (fun (W2 : World) (hw : Below wr.drew.heap.size wr.drew W2) => refjoin_any A n c fs W2 (HF5.out.below (HW4.out W2 hw)) (by omega) (fun f hf => ⟨Nat.le_trans (HFW.out f hf).1 (by decide), Nat.le_trans (HFW.out f hf).2.1 (by decide), Nat.le_trans (HFW.out f hf).2.2 (by decide)⟩))
            have HFE := Lib.hid (fun (W2 : World) (hw : Below wr.drew.heap.size wr.drew W2) (q9 : FV) (h9 : FtAt W2 q9 (joinF fs)) => feet_same_any z q9 (joinF fs) W2 (HZ.out.below (HW4.out W2 hw)).at_ h9)
            have HRD := Lib.hid (fun (W2 : World) (hw : Below wr.drew.heap.size wr.drew W2) => reads_any z (joinF fs) k W2 (HZ.out.below (HW4.out W2 hw)).at_)
            have HWT := Lib.hid (fun (W2 : World) (hw : Below wr.drew.heap.size wr.drew W2) => writes_any z (joinF fs) k W2 (HZ.out.below (HW4.out W2 hw)).at_)
            have HC21 := Lib.hid (fun (W2 : World) (hw : Below wr.drew.heap.size wr.drew W2) => And.intro (HZB.out.below (HW4.out W2 hw)).cs3 (HK5.out.below (HW4.out W2 hw)).cs)
            obtain ⟨rd, hrd⟩ : ∃ rd, rd = readsB (joinF fs) k := ⟨_, rfl⟩
            obtain ⟨wt, hwt⟩ : ∃ wt, wt = writesB (joinF fs) k := ⟨_, rfl⟩
            rw [← hrd] at HRD ⊢
            rw [← hwt] at HWT ⊢
            unfold FV.val at HFE HRD HWT
            unfold K.val at HRD HWT
            clear hbr hrd hwt
            go_upto_region 21 with fail
            refine wp_region_noPanic ?_
            refine wp_region_abs 18 77 [.is (.agg #[.slice z.A z.n z.c, .slice z.A2 z.n2 z.c2, .slice z.A3 z.n3 z.c3]), .is (.slice A n c), .tells (fun _ v _ wa => ∃ q : FV, v = q.val ∧ FtG wa q (joinF fs)), .is (.bool true), .is (.bool true), .is (.agg #[.slice z.A z.n z.c, .slice z.A2 z.n2 z.c2, .slice z.A3 z.n3 z.c3]), .is (.agg #[.int .i64 k.t, .int .i64 k.k]), .is (.bool rd), .is (.bool rd), .is (.bool true), .is (.bool true), .is (.bool true), .is (.agg #[.slice z.A z.n z.c, .slice z.A2 z.n2 z.c2, .slice z.A3 z.n3 z.c3]), .is (.agg #[.int .i64 k.t, .int .i64 k.k]), .is (.bool wt), .is (.bool wt), .is (.bool true), .is (.bool true)]
              [59, 60, 61, 62, 63, 64, 65, 66, 67, 68, 69, 70, 71, 72, 73, 74, 75, 76]
              [[], [], [1], [0, 2], [3], [4], [4], [5, 6, 4], [4], [7, 8, 4], [4, 9], [10, 7], [11], [11], [12, 13, 11], [11], [14, 15, 11], [11, 16]] (by kernel_rfl) (by rfl) rfl rfl (by kernel_rfl) (fun _ _ _ _ h => h.elim) ?_ ?_
            · refine ⟨?_, ?_, ?_, ?_, ?_, ?_, ?_, ?_, ?_, ?_, ?_, ?_, ?_, ?_, ?_, ?_, ?_, ?_, trivial⟩
              · intro W2 hw K hK
                obtain ⟨⟨z0, z1, z2⟩, k0, k1⟩ := HC21.out W2 hw
                go_simp
                exact hK _ _ rfl (Below.refl _ _)
              · intro W2 hw K hK
                go_simp
                exact hK _ _ rfl (Below.refl _ _)
              · intro W2 hw K hK
                have hcc := HRJ.out W2 hw
                go_simp
                refine Calls.mono hcc ?_
                rintro e9 w5 ⟨q9, rfl, hq9, hb5⟩
                exact hK _ _ ⟨q9, rfl, hq9⟩ hb5
              · intro W2 hw v wb wa hF hx K hK
                obtain ⟨_, q9, hv, hq9⟩ := hF
                subst hv
                have hcc := HFE.out W2 hw q9 (hq9.below hx).at_
                go_simp
                refine Calls.mono hcc ?_
                rintro e9 w5 ⟨rfl, hb5⟩
                exact hK _ _ rfl hb5
              · intro W2 hw K hK
                go_simp
                exact hK _ _ rfl (Below.refl _ _)
              · intro W2 hw K hK
                obtain ⟨⟨z0, z1, z2⟩, k0, k1⟩ := HC21.out W2 hw
                go_simp
                exact hK _ _ rfl (Below.refl _ _)
              · intro W2 hw K hK
                obtain ⟨⟨z0, z1, z2⟩, k0, k1⟩ := HC21.out W2 hw
                go_simp
                exact hK _ _ rfl (Below.refl _ _)
              · intro W2 hw K hK
                have hcc := HRD.out W2 hw
                go_simp
                refine Calls.mono hcc ?_
                rintro e9 w5 ⟨rfl, hb5⟩
                exact hK _ _ rfl hb5
              · intro W2 hw K hK
                go_simp
                exact hK _ _ rfl (Below.refl _ _)
              · intro W2 hw K hK
                go_simp
                exact hK _ _ rfl (Below.refl _ _)
              · intro W2 hw K hK
                go_simp
                exact hK _ _ rfl (Below.refl _ _)
              · intro W2 hw K hK
                go_simp
                exact hK _ _ rfl (Below.refl _ _)
              · intro W2 hw K hK
                obtain ⟨⟨z0, z1, z2⟩, k0, k1⟩ := HC21.out W2 hw
                go_simp
                exact hK _ _ rfl (Below.refl _ _)
              · intro W2 hw K hK
                obtain ⟨⟨z0, z1, z2⟩, k0, k1⟩ := HC21.out W2 hw
                go_simp
                exact hK _ _ rfl (Below.refl _ _)
              · intro W2 hw K hK
                have hcc := HWT.out W2 hw
                go_simp
                refine Calls.mono hcc ?_
                rintro e9 w5 ⟨rfl, hb5⟩
                exact hK _ _ rfl hb5
              · intro W2 hw K hK
                go_simp
                exact hK _ _ rfl (Below.refl _ _)
              · intro W2 hw K hK
                go_simp
                exact hK _ _ rfl (Below.refl _ _)
              · intro W2 hw K hK
                go_simp
                exact hK _ _ rfl (Below.refl _ _)
            · intro W2 hw2
              simp only [Behind]
              intro v2 _ _ _ _ _ _
              have HWX := Lib.hid (HWR.out.trans (((Below.refl _ wr).drew.trans hw2).mono HWR.out.size))
              clear hw2
              simp only [List.drop, Act.put, List.setIfInBounds_toArray, List.set_cons_zero, List.set_cons_succ]
              go_wp2_with fail
              refine NoPanic.normal ?_
              go_wp2_with fail
              go_ret
              exact ⟨rfl, HWX.out⟩
end Go.Proofs.Ytmicheheibkmjaa
