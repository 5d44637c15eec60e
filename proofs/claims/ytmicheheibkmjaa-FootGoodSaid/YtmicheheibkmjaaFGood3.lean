/- FootGood: the law, walked. -/
import Derived.Test.YtmicheheibkmjaaFGoodM
import Derived.Test.YtmicheheibkmjaaFLarge
import Derived.Test.YtmicheheibkmjaaFTwo
import Derived.Deep.RegionLaw
namespace Go.Proofs.Ytmicheheibkmjaa
set_option maxRecDepth 100000
open Go.RowKit Go.Shelf

theorem one_foot (w : World) (x : FV) (f : Ft) (hx : FtG w x f) :
    FtsG (w.alloc (.cells #[.slice x.A x.n x.c, .slice x.A2 x.n2 x.c2, .slice x.A3 x.n3 x.c3] 30)) (some ⟨w.heap.size, 0, none⟩) 1 [f] := by
  have hb : Below w.heap.size w (w.alloc (.cells #[.slice x.A x.n x.c, .slice x.A2 x.n2 x.c2, .slice x.A3 x.n3 x.c3] 30)) := (Below.refl _ w).alloc (Nat.le_refl _) _
  have hc := fun j => cell_of_row (w.alloc (.cells #[.slice x.A x.n x.c, .slice x.A2 x.n2 x.c2, .slice x.A3 x.n3 x.c3] 30)) w.heap.size j _ 30 (0, 0) (heap_alloc_new w _)
  refine ⟨rfl, fun _ => ⟨_, _, rfl, fun j hj => ?_⟩⟩
  rcases j with _ | j
  · exact ⟨x, hx.below hb, (hc 0).trans rfl, (hc 1).trans rfl, (hc 2).trans rfl⟩
  · omega
def allT (l : List K) : Bool := l.all fun k => tabB k.t
def allS (l : List Sp) : Bool := l.all fun k => tabB k.t
theorem allT_succ (l : List K) (q : Nat) (hq : q < l.length) : allT (l.take (q + 1)) = (allT (l.take q) && tabB l[q].t) := by
  unfold allT
  rw [List.take_succ_eq_append_getElem hq, List.all_append]
  simp
theorem allS_succ (l : List Sp) (q : Nat) (hq : q < l.length) : allS (l.take (q + 1)) = (allS (l.take q) && tabB l[q].t) := by
  unfold allS
  rw [List.take_succ_eq_append_getElem hq, List.all_append]
  simp
theorem tab_at {t : Int} (h : 0 ≤ t) : tabB t = decide (t < 4) := by simp [tabB, h]
theorem tab_low {t : Int} (h : ¬ 0 ≤ t) : tabB t = false := by simp [tabB, h]
set_option maxHeartbeats 16000000 in
theorem good_law (x y : FV) (a b : Ft) (w : World) (hx : FtG w x a) (hy : FtG w y b) : Calls Try.prog 7 #[x.val, y.val] w fun e w' => e = .returned (.bool true) ∧ Below w.heap.size w w' := by
  obtain ⟨h1, h2, h3⟩ := alloc2g w (.cells x.cs 30) (.cells y.cs 30)
  have HB := Lib.hid h3
  have HF := Lib.hid (show FBox _ w.heap.size x from h1)
  have HGB := Lib.hid (show FBox _ (w.heap.size + 1) y from h2)
  have HX := Lib.hid (hx.below h3)
  have HY := Lib.hid (hy.below h3)
  unfold FV.cs at HB HF HGB HX HY
  unfold FV.val FV.cs
  clear h1 h2 h3 hx hy
  go_enter Try.func7, Try.ntmps7
  go_upto_region 1 with fail
  revert HB HF HGB HX HY
  generalize World.alloc (World.alloc w _) _ = W
  intro HB HF HGB HX HY
  go_wp2_with fail
  refine Calls.mono (alive_any W) ?_
  rintro e w1 ⟨rfl, hb1⟩
  have HB1 := Lib.hid (HB.out.trans (hb1.mono HB.out.size))
  have HF1 := Lib.hid (HF.out.below hb1)
  have HGB1 := Lib.hid (HGB.out.below hb1)
  have HX1 := Lib.hid (HX.out.below hb1)
  have HY1 := Lib.hid (HY.out.below hb1)
  have HLA := Lib.hid (large_any _ 2 2 [a, b] _ (two_feet w1 x y a b HX1.out HY1.out) (by omega))
  have hbl := (Below.refl w1.heap.size w1).alloc (Nat.le_refl _) (.cells #[.slice x.A x.n x.c, .slice x.A2 x.n2 x.c2, .slice x.A3 x.n3 x.c3, .slice y.A y.n y.c, .slice y.A2 y.n2 y.c2, .slice y.A3 y.n3 y.c3] 30)
  have HBL := Lib.hid hbl
  obtain ⟨x0, x1, x2⟩ := HF1.out.cs3
  obtain ⟨y0, y1, y2⟩ := HGB1.out.cs3
  clear hb1 hbl
  go_wp2_with fail
  refine Calls.mono HLA.out ?_
  rintro e w2 ⟨⟨r, rfl, hr⟩, hb2⟩
  have hb12 := HBL.out.trans (hb2.mono HBL.out.size)
  have HB2 := Lib.hid (HB1.out.trans (hb12.mono HB1.out.size))
  have HF2 := Lib.hid (HF1.out.below hb12)
  have HGB2 := Lib.hid (HGB1.out.below hb12)
  have HX2 := Lib.hid (HX1.out.below hb12)
  have HY2 := Lib.hid (HY1.out.below hb12)
  clear hb2 hb12 x0 x1 x2 y0 y1 y2
  cases r with
  | true =>
    go_wp2_with fail
    go_ret
    exact ⟨rfl, HB2.out⟩
  | false =>
    obtain ⟨_, hfew⟩ := hr rfl
    obtain ⟨j1, j2, j3⟩ := join_few a b hfew
    have HFW := Lib.hid (show Few [a, b] 1000 from fun f hf => by have := hfew f hf; omega)
    have HJ := Lib.hid (join_any _ 2 2 [a, b] _ (two_feet w2 x y a b HX2.out HY2.out) (by omega) HFW.out)
    have hbl := (Below.refl w2.heap.size w2).alloc (Nat.le_refl _) (.cells #[.slice x.A x.n x.c, .slice x.A2 x.n2 x.c2, .slice x.A3 x.n3 x.c3, .slice y.A y.n y.c, .slice y.A2 y.n2 y.c2, .slice y.A3 y.n3 y.c3] 30)
    have HBL2 := Lib.hid hbl
    have HMO := Lib.hid (join_once a b)
    have HMS := Lib.hid (join_swap a b)
    have HMM := Lib.hid (join_more a b)
    have HMG := Lib.hid (join_good [a, b])
    obtain ⟨J, hJ⟩ : ∃ J, J = joinF [a, b] := ⟨_, rfl⟩
    rw [← hJ] at HJ HMO HMS HMM HMG j1 j2 j3
    obtain ⟨x0, x1, x2⟩ := HF2.out.cs3
    obtain ⟨y0, y1, y2⟩ := HGB2.out.cs3
    clear hbl hr hJ
    go_wp2_with fail
    refine Calls.mono HJ.out ?_
    rintro e w3 ⟨z, rfl, hz, hb3⟩
    have hb23 := HBL2.out.trans (hb3.mono HBL2.out.size)
    have hbz := (Below.refl w3.heap.size w3).alloc (Nat.le_refl _) (.cells #[.slice z.A z.n z.c, .slice z.A2 z.n2 z.c2, .slice z.A3 z.n3 z.c3] 30)
    have hb24 := hb23.trans (hbz.mono hb23.size)
    have HB4 := Lib.hid (HB2.out.trans (hb24.mono HB2.out.size))
    have HF4 := Lib.hid (HF2.out.below hb24)
    have HGB4 := Lib.hid (HGB2.out.below hb24)
    have HX4 := Lib.hid (HX2.out.below hb24)
    have HY4 := Lib.hid (HY2.out.below hb24)
    have HZ4 := Lib.hid (hz.below hbz)
    have HZB4 := Lib.hid (show FBox (w3.alloc (.cells #[.slice z.A z.n z.c, .slice z.A2 z.n2 z.c2, .slice z.A3 z.n3 z.c3] 30)) w3.heap.size z from heap_alloc_new w3 _)
    have lr := hz.at_.rs.len
    have ls := hz.at_.sp.len
    have lw := hz.at_.ws.len
    clear hb3 hb23 hbz hb24 x0 x1 x2 y0 y1 y2 hz
    unfold FV.val FV.cs
    go_upto_region 7 with fail
    revert HB4 HF4 HGB4 HX4 HY4 HZ4 HZB4
    generalize World.alloc w3 _ = wz
    intro HB4 HF4 HGB4 HX4 HY4 HZ4 HZB4
    have hwz := HB4.out.size
    go_cut [27, 28, 29] from 21 to 29 (fun v27 v28 v29 wx => ∃ (A : Option Addr) (n c : Nat), v27 = .slice A n c ∧ v28 = .int .i64 (n : Int) ∧ v29 = .int .i64 0 ∧ Keys wx A n (J.rs ++ J.ws) ∧ n ≤ 1000 ∧ Below wz.heap.size wz wx)
    case first =>
      have hba : Below wz.heap.size wz (wz.alloc (.cells #[] 24)).drew := ((Below.refl _ wz).alloc (Nat.le_refl _) _).drew
      have HBA := Lib.hid hba
      have HO1 := Lib.hid (show (wz.alloc (.cells #[] 24)).drew.ownsRow wz.heap.size 24 2 (.slice (some ⟨wz.heap.size, 0, none⟩) 0 0) 0 (rowV K.vals []) from own_empty wz wz.heap.size 24 2 24 rfl (Nat.le_refl _))
      have HR1 := Lib.hid (HZ4.out.below hba).at_.rs.row
      have hsa : wz.heap.size ≤ (wz.alloc (.cells #[] 24)).drew.heap.size := hba.size
      obtain ⟨z0, _, z2⟩ := HZB4.out.cs3
      obtain ⟨za0, _, za2⟩ : ((wz.alloc (.cells #[] 24)).cell? ⟨w3.heap.size, 0, none⟩ = some (.slice z.A z.n z.c) ∧ (wz.alloc (.cells #[] 24)).cell? ⟨w3.heap.size, 1, none⟩ = some (.slice z.A2 z.n2 z.c2) ∧ (wz.alloc (.cells #[] 24)).cell? ⟨w3.heap.size, 2, none⟩ = some (.slice z.A3 z.n3 z.c3)) := (HZB4.out.below hba).cs3
      clear hba
      go_wp2_with fail
      go_region_law (first | (refine step_append_rowv elem27 (by simp [Region.wanted]) (.tmp 21) (.tmp 23) rfl wz.heap.size (.slice (some ⟨wz.heap.size, 0, none⟩) 0 0) 0 (rowV K.vals []) rfl HO1.out z.A z.n z.c (rowV K.vals J.rs) rfl HR1.out (ks_one _) HZ4.out.nil1 (by unfold maxLen; omega) (by omega) hsa ?_; intro v5 w5 hown5 hg5 _; have HB5 := Lib.hid (HBA.out.grown hg5 hsa (fun q hq => (HO1.out.lt q hq).1)); have HO5 := Lib.hid hown5; obtain ⟨_, _, zz2⟩ := (HZB4.out.below HB5.out).cs3; have hs5 := HB5.out.size; clear hown5 hg5) | (refine step_append_rowv elem27 (by simp [Region.wanted]) (.tmp 24) (.tmp 26) rfl wz.heap.size v5 (0 + z.n) _ rfl HO5.out z.A3 z.n3 z.c3 (rowV K.vals J.ws) rfl (HZ4.out.below HB5.out).at_.ws.row (ks_one _) HZ4.out.nil3 (by unfold maxLen; omega) (by omega) hs5 ?_; intro v6 w6 hown6 hg6 _; have HB6 := Lib.hid (HB5.out.grown hg6 hs5 (fun q hq => (HO5.out.lt q hq).1)); have HO6 := Lib.hid hown6; obtain ⟨A6, c6, rfl, _, _, _⟩ := rdv_own hown6; clear hown6 hg6))
      all_goals
        go_wp2_with fail
        go_meet
        case rel =>
          have ho := HO6.out
          rw [← rowV_append, ← rowV_append, List.nil_append] at ho
          have h9 := (row_of ho (by rw [List.length_append, HZ4.out.at_.rs.len, HZ4.out.at_.ws.len]; omega)).1
          rw [Nat.zero_add] at h9
          exact ⟨A6, _, c6, rfl, rfl, rfl, h9, by omega, HB6.out⟩
    case rest =>
      obtain ⟨A, n, c, rfl, rfl, rfl, hks, hn, hbc⟩ := hcut
      have HKS := Lib.hid hks
      have HL := Lib.hid hks.len
      have HBC := Lib.hid (HB4.out.trans (hbc.mono HB4.out.size))
      have HF5 := Lib.hid (HF4.out.below hbc)
      have HGB5 := Lib.hid (HGB4.out.below hbc)
      have HX5' := Lib.hid (HX4.out.below hbc)
      have HY5' := Lib.hid (HY4.out.below hbc)
      have HZ5' := Lib.hid (HZ4.out.below hbc)
      have HZB5 := Lib.hid (HZB4.out.below hbc)
      obtain ⟨KS, hKS⟩ : ∃ KS, KS = J.rs ++ J.ws := ⟨_, rfl⟩
      rw [← hKS] at HKS HL
      have HMK := Lib.hid (show goodB J = (allT KS && allS J.sp) by rw [hKS]; exact HMG.out)
      clear hks hbc hKS
      go_wp2_with fail
      rename World => wc
      go_loopw [6, 8, 29] (fun ok _ i wr => ∃ q : Nat, i = .int .i64 (q : Int) ∧ q ≤ n ∧ Hid (ok = .bool (allT (KS.take q))) ∧ Below wc.heap.size wc wr) (fun _ _ i _ => n - (intOf i).toNat)
      case atStart => exact ⟨0, rfl, by omega, by rfl, Below.refl _ _⟩
      case round =>
        obtain ⟨q, rfl, hq, hok, hbr⟩ := hrel
        have hok' := hok.out
        subst hok'
        have HBR := Lib.hid hbr
        by_cases hlt : q < n
        · have hql : q < KS.length := by rw [HL.out]; exact hlt
          obtain ⟨b0, off, rfl, hc⟩ := Keys.cells (HKS.out.below hbr) (by omega)
          obtain ⟨c0, c1⟩ := hc q hql
          have hT := allT_succ KS q hql
          obtain ⟨u, hu⟩ : ∃ u, u = KS[q] := ⟨_, rfl⟩
          rw [← hu] at c0 c1 hT
          have HT := Lib.hid hT
          have HWX := Lib.hid (HBR.out.trans (((Below.refl wr.heap.size wr).alloc (Nat.le_refl _) (.cells #[.int .i64 u.t, .int .i64 u.k] 24)).mono HBR.out.size))
          obtain ⟨r, hr⟩ : ∃ r, r = allT (KS.take q) := ⟨_, rfl⟩
          rw [← hr] at HT ⊢
          clear hc hu hbr hT hr
          cases r with
          | false =>
            have HR := Lib.hid (show allT (KS.take (q + 1)) = false by rw [HT.out]; rfl)
            clear HT
            go_wp2_with fail
            go_roundw
            case rel => exact ⟨q + 1, by go_num, by omega, by rw [HR.out]; rfl, HWX.out⟩
            case measure => simp [intOf]; omega
          | true =>
            by_cases h0 : 0 ≤ u.t
            · have e0 : decide (0 ≤ u.t) = true := decide_eq_true h0
              have HR := Lib.hid (show allT (KS.take (q + 1)) = decide (u.t < 4) by rw [HT.out, tab_at h0]; rfl)
              clear HT h0
              go_wp2_with fail
              go_roundw
              case rel => exact ⟨q + 1, by go_num, by omega, by rw [HR.out]; rfl, HWX.out⟩
              case measure => simp [intOf]; omega
            · have e0 : decide (0 ≤ u.t) = false := decide_eq_false h0
              have HR := Lib.hid (show allT (KS.take (q + 1)) = false by rw [HT.out, tab_low h0]; rfl)
              clear HT h0
              go_wp2_with fail
              go_roundw
              case rel => exact ⟨q + 1, by go_num, by omega, by rw [HR.out]; rfl, HWX.out⟩
              case measure => simp [intOf]; omega
        · obtain rfl : n = q := by omega
          have htk : KS.take n = KS := by rw [← HL.out, List.take_length]
          rw [htk]
          have HWC := Lib.hid (HBC.out.trans (hbr.mono HBC.out.size))
          have HF6 := Lib.hid (HF5.out.below hbr)
          have HGB6 := Lib.hid (HGB5.out.below hbr)
          have HX6 := Lib.hid (HX5'.out.below hbr)
          have HY6 := Lib.hid (HY5'.out.below hbr)
          have HZ6 := Lib.hid (HZ5'.out.below hbr)
          have HZB6 := Lib.hid (HZB5.out.below hbr)
          have z1 := HZB6.out.cs3.2.1
          have HLS := Lib.hid ls
          clear hbr htk hok HBR
          go_wp2_with fail
          clear z1
          rename World => wd
          go_loopw [6, 10, 48] (fun ok _ i wr => ∃ q : Nat, i = .int .i64 (q : Int) ∧ q ≤ z.n2 ∧ Hid (ok = .bool (allT KS && allS (J.sp.take q))) ∧ Below wd.heap.size wd wr) (fun _ _ i _ => z.n2 - (intOf i).toNat)
          case atStart => exact ⟨0, rfl, by omega, by (show Value.bool (allT KS) = Value.bool (allT KS && true); rw [Bool.and_true]), Below.refl _ _⟩
          case round =>
            obtain ⟨q, rfl, hq, hok, hbr⟩ := hrel
            have hok' := hok.out
            subst hok'
            have HBR := Lib.hid hbr
            by_cases hlt : q < z.n2
            · have hql : q < J.sp.length := by rw [HLS.out]; exact hlt
              obtain ⟨b0, off, hA, hc⟩ := Spans.cells (HZ6.out.at_.sp.below hbr) (by omega)
              obtain ⟨c0, c1, c2⟩ := hc q hql
              have hT := allS_succ J.sp q hql
              obtain ⟨u, hu⟩ : ∃ u, u = J.sp[q] := ⟨_, rfl⟩
              rw [← hu] at c0 c1 c2 hT
              have HT := Lib.hid (show (allT KS && allS (J.sp.take (q + 1))) = ((allT KS && allS (J.sp.take q)) && tabB u.t) by rw [hT, Bool.and_assoc])
              have HWX := Lib.hid (HBR.out.trans (((Below.refl wr.heap.size wr).alloc (Nat.le_refl _) (.cells #[.int .i64 u.t, .int .i64 u.lo, .int .i64 u.hi] 54)).mono HBR.out.size))
              obtain ⟨r, hr⟩ : ∃ r, r = (allT KS && allS (J.sp.take q)) := ⟨_, rfl⟩
              rw [← hr] at HT ⊢
              clear hc hu hbr hT hr
              rw [hA]
              cases r with
              | false =>
                have HR := Lib.hid (show (allT KS && allS (J.sp.take (q + 1))) = false by rw [HT.out]; rfl)
                clear HT
                go_wp2_with fail
                go_roundw
                case rel => exact ⟨q + 1, by go_num, by omega, by rw [HR.out]; rfl, HWX.out⟩
                case measure => simp [intOf]; omega
              | true =>
                by_cases h0 : 0 ≤ u.t
                · have e0 : decide (0 ≤ u.t) = true := decide_eq_true h0
                  have HR := Lib.hid (show (allT KS && allS (J.sp.take (q + 1))) = decide (u.t < 4) by rw [HT.out, tab_at h0]; rfl)
                  clear HT h0
                  go_wp2_with fail
                  go_roundw
                  case rel => exact ⟨q + 1, by go_num, by omega, by rw [HR.out]; rfl, HWX.out⟩
                  case measure => simp [intOf]; omega
                · have e0 : decide (0 ≤ u.t) = false := decide_eq_false h0
                  have HR := Lib.hid (show (allT KS && allS (J.sp.take (q + 1))) = false by rw [HT.out, tab_low h0]; rfl)
                  clear HT h0
                  go_wp2_with fail
                  go_roundw
                  case rel => exact ⟨q + 1, by go_num, by omega, by rw [HR.out]; rfl, HWX.out⟩
                  case measure => simp [intOf]; omega
            · obtain rfl : z.n2 = q := by omega
              have htk : J.sp.take z.n2 = J.sp := by rw [← HLS.out, List.take_length]
              rw [htk, ← HMK.out]
              have HWR := Lib.hid (HWC.out.trans (hbr.mono HWC.out.size))
              have hd := fun W2 (hw : Below wr.drew.heap.size wr.drew W2) => hbr.trans (((Below.refl _ wr).drew.trans hw).mono hbr.size)
              have HD := Lib.hid hd
              have HX5 := Lib.hid (fun W2 hw => HX6.out.below (HD.out W2 hw))
              have HY5 := Lib.hid (fun W2 hw => HY6.out.below (HD.out W2 hw))
              have HZ5 := Lib.hid (fun W2 hw => HZ6.out.below (HD.out W2 hw))
              have HC5 := Lib.hid (show ∀ W2, Below wr.drew.heap.size wr.drew W2 → (W2.cell? ⟨w.heap.size, 0, none⟩ = some (.slice x.A x.n x.c) ∧ W2.cell? ⟨w.heap.size, 1, none⟩ = some (.slice x.A2 x.n2 x.c2) ∧ W2.cell? ⟨w.heap.size, 2, none⟩ = some (.slice x.A3 x.n3 x.c3)) ∧ (W2.cell? ⟨w.heap.size + 1, 0, none⟩ = some (.slice y.A y.n y.c) ∧ W2.cell? ⟨w.heap.size + 1, 1, none⟩ = some (.slice y.A2 y.n2 y.c2) ∧ W2.cell? ⟨w.heap.size + 1, 2, none⟩ = some (.slice y.A3 y.n3 y.c3)) ∧ W2.cell? ⟨w3.heap.size, 0, none⟩ = some (.slice z.A z.n z.c) ∧ W2.cell? ⟨w3.heap.size, 1, none⟩ = some (.slice z.A2 z.n2 z.c2) ∧ W2.cell? ⟨w3.heap.size, 2, none⟩ = some (.slice z.A3 z.n3 z.c3) from fun W2 hw =>
                ⟨(HF6.out.below (HD.out W2 hw)).cs3, (HGB6.out.below (HD.out W2 hw)).cs3, (HZB6.out.below (HD.out W2 hw)).cs3⟩)
              have HGD := Lib.hid (fun W2 hw => good_any z J W2 (HZ5.out W2 hw).at_ HZ6.out.fit)
              have HFE := Lib.hid (fun W2 hw (q9 : FV) (h9 : FtAt W2 q9 J) => feet_same_any q9 z J W2 h9 (HZ5.out W2 hw).at_)
              have hfJ : J.rs.length ≤ 1000 ∧ J.sp.length ≤ 1000 ∧ J.ws.length ≤ 1000 := ⟨by omega, by omega, by omega⟩
              have HJ1 := Lib.hid (show ∀ (W2 wa : World) (A : Option Addr), FtsG wa A 1 [J] → Below wa.heap.size wa W2 → Calls Try.prog 13 #[.slice A 1 1] W2 fun e w' => ∃ q : FV, e = .returned q.val ∧ FtG w' q J ∧ Below W2.heap.size W2 w' from fun W2 wa A hf hb => by
                have h := join_any A 1 1 [J] W2 (hf.below hb) (by omega) (fun f hf => by simp at hf; rw [hf]; exact hfJ)
                rw [HMO.out] at h
                exact h)
              have HJ2 := Lib.hid (show ∀ (W2 wa : World) (A : Option Addr), FtsG wa A 2 [b, a] → Below wa.heap.size wa W2 → Calls Try.prog 13 #[.slice A 2 2] W2 fun e w' => ∃ q : FV, e = .returned q.val ∧ FtG w' q J ∧ Below W2.heap.size W2 w' from fun W2 wa A hf hb => by
                have h := join_any A 2 2 [b, a] W2 (hf.below hb) (by omega) (fun f hf => HFW.out f (by simp at hf ⊢; exact hf.symm))
                rw [HMS.out] at h
                exact h)
              have HJ3 := Lib.hid (show ∀ (W2 wa : World) (A : Option Addr), FtsG wa A 2 [J, a] → Below wa.heap.size wa W2 → Calls Try.prog 13 #[.slice A 2 2] W2 fun e w' => ∃ q : FV, e = .returned q.val ∧ FtG w' q J ∧ Below W2.heap.size W2 w' from fun W2 wa A hf hb => by
                have h := join_any A 2 2 [J, a] W2 (hf.below hb) (by omega) (fun f hf => by
                  simp at hf
                  rcases hf with rfl | rfl
                  · exact hfJ
                  · exact HFW.out _ (by simp))
                rw [HMM.out] at h
                exact h)
              obtain ⟨OK, hOK⟩ : ∃ OK, OK = goodB J := ⟨_, rfl⟩
              rw [← hOK] at HGD ⊢
              unfold FV.val FV.cs at HGD
              clear hbr htk hd hOK hfJ
              go_wp2_with fail
              refine wp_region_noPanic ?_
              refine wp_region_abs 26 91 [.is (.agg #[.slice z.A z.n z.c, .slice z.A2 z.n2 z.c2, .slice z.A3 z.n3 z.c3]), .is (.bool OK), .is (.bool OK), .is (.bool true), .is (.bool true), .is (.agg #[.slice z.A z.n z.c, .slice z.A2 z.n2 z.c2, .slice z.A3 z.n3 z.c3]), .tells (fun _ v wb wa => v = .slice (some ⟨wb.heap.size, 0, none⟩) 1 1 ∧ FtsG wa (some ⟨wb.heap.size, 0, none⟩) 1 [J]), .tells (fun _ v wb wa => ∃ q : FV, v = q.val ∧ FtG wa q J), .is (.agg #[.slice z.A z.n z.c, .slice z.A2 z.n2 z.c2, .slice z.A3 z.n3 z.c3]), .is (.bool true), .is (.bool true), .is (.bool true), .is (.agg #[.slice y.A y.n y.c, .slice y.A2 y.n2 y.c2, .slice y.A3 y.n3 y.c3]), .is (.agg #[.slice x.A x.n x.c, .slice x.A2 x.n2 x.c2, .slice x.A3 x.n3 x.c3]), .tells (fun _ v wb wa => v = .slice (some ⟨wb.heap.size, 0, none⟩) 2 2 ∧ FtsG wa (some ⟨wb.heap.size, 0, none⟩) 2 [b, a]), .tells (fun _ v wb wa => ∃ q : FV, v = q.val ∧ FtG wa q J), .is (.agg #[.slice z.A z.n z.c, .slice z.A2 z.n2 z.c2, .slice z.A3 z.n3 z.c3]), .is (.bool true), .is (.bool true), .is (.bool true), .is (.agg #[.slice z.A z.n z.c, .slice z.A2 z.n2 z.c2, .slice z.A3 z.n3 z.c3]), .is (.agg #[.slice x.A x.n x.c, .slice x.A2 x.n2 x.c2, .slice x.A3 x.n3 x.c3]), .tells (fun _ v wb wa => v = .slice (some ⟨wb.heap.size, 0, none⟩) 2 2 ∧ FtsG wa (some ⟨wb.heap.size, 0, none⟩) 2 [J, a]), .tells (fun _ v wb wa => ∃ q : FV, v = q.val ∧ FtG wa q J), .is (.agg #[.slice z.A z.n z.c, .slice z.A2 z.n2 z.c2, .slice z.A3 z.n3 z.c3]), .is (.bool true)]
                [64, 65, 66, 67, 68, 69, 70, 71, 72, 73, 74, 75, 76, 77, 78, 79, 80, 81, 82, 83, 84, 85, 86, 87, 88, 89]
                [[], [0], [], [1, 2], [3, 1], [4], [5, 4], [6, 4], [4], [7, 8, 4], [4, 9], [10, 9], [11], [11], [12, 13, 11], [14, 11], [11], [15, 16, 11], [11, 17], [18, 17], [19], [19], [20, 21, 19], [22, 19], [19], [23, 24, 19]] (by kernel_rfl) (by rfl) rfl rfl (by kernel_rfl) (fun _ _ _ _ h => h.elim) ?_ ?_
              · refine ⟨?_, ?_, ?_, ?_, ?_, ?_, ?_, ?_, ?_, ?_, ?_, ?_, ?_, ?_, ?_, ?_, ?_, ?_, ?_, ?_, ?_, ?_, ?_, ?_, ?_, ?_, trivial⟩
                · intro W2 hw K hK
                  obtain ⟨⟨x0, x1, x2⟩, ⟨y0, y1, y2⟩, z0, z1, z2⟩ := HC5.out W2 hw
                  go_simp
                  exact hK _ _ rfl (Below.refl _ _)
                · intro W2 hw K hK
                  have hcc := HGD.out W2 hw
                  go_simp
                  refine Calls.mono hcc ?_
                  rintro e9 w5 ⟨rfl, hb5⟩
                  exact hK _ _ rfl hb5
                · intro W2 hw K hK
                  go_simp
                  exact hK _ _ rfl (Below.refl _ _)
                · intro W2 hw K hK
                  go_simp
                  exact hK _ _ rfl (Below.refl _ _)
                · intro W2 hw K hK
                  go_simp
                  exact hK _ _ rfl (Below.refl _ _)
                · intro W2 hw K hK
                  obtain ⟨⟨x0, x1, x2⟩, ⟨y0, y1, y2⟩, z0, z1, z2⟩ := HC5.out W2 hw
                  go_simp
                  exact hK _ _ rfl (Below.refl _ _)
                · intro W2 hw K hK
                  have hft := one_foot W2 z J (HZ5.out W2 hw)
                  go_simp
                  exact hK _ _ ⟨rfl, hft⟩ ((Below.refl _ W2).alloc (Nat.le_refl _) _)
                · intro W2 hw v wb wa hF hx K hK
                  obtain ⟨_, hv, hft⟩ := hF
                  subst hv
                  have hcc := HJ1.out W2 wa _ hft hx
                  go_simp
                  refine Calls.mono hcc ?_
                  rintro e9 w5 ⟨q9, rfl, hq9, hb5⟩
                  exact hK _ _ ⟨q9, rfl, hq9⟩ hb5
                · intro W2 hw K hK
                  obtain ⟨⟨x0, x1, x2⟩, ⟨y0, y1, y2⟩, z0, z1, z2⟩ := HC5.out W2 hw
                  go_simp
                  exact hK _ _ rfl (Below.refl _ _)
                · intro W2 hw v wb wa hF hx K hK
                  obtain ⟨_, q9, hv, hq9⟩ := hF
                  subst hv
                  have hcc := HFE.out W2 hw q9 (hq9.below hx).at_
                  go_simp
                  refine Calls.mono hcc ?_
                  rintro e9 w5 ⟨rfl, hb5⟩
                  exact hK _ _ rfl hb5
                · intro W2 hw K hK
                  go_simp
                  exact hK _ _ rfl (Below.refl _ _)
                · intro W2 hw K hK
                  go_simp
                  exact hK _ _ rfl (Below.refl _ _)
                · intro W2 hw K hK
                  obtain ⟨⟨x0, x1, x2⟩, ⟨y0, y1, y2⟩, z0, z1, z2⟩ := HC5.out W2 hw
                  go_simp
                  exact hK _ _ rfl (Below.refl _ _)
                · intro W2 hw K hK
                  obtain ⟨⟨x0, x1, x2⟩, ⟨y0, y1, y2⟩, z0, z1, z2⟩ := HC5.out W2 hw
                  go_simp
                  exact hK _ _ rfl (Below.refl _ _)
                · intro W2 hw K hK
                  have hft := two_feet W2 y x b a (HY5.out W2 hw) (HX5.out W2 hw)
                  go_simp
                  exact hK _ _ ⟨rfl, hft⟩ ((Below.refl _ W2).alloc (Nat.le_refl _) _)
                · intro W2 hw v wb wa hF hx K hK
                  obtain ⟨_, hv, hft⟩ := hF
                  subst hv
                  have hcc := HJ2.out W2 wa _ hft hx
                  go_simp
                  refine Calls.mono hcc ?_
                  rintro e9 w5 ⟨q9, rfl, hq9, hb5⟩
                  exact hK _ _ ⟨q9, rfl, hq9⟩ hb5
                · intro W2 hw K hK
                  obtain ⟨⟨x0, x1, x2⟩, ⟨y0, y1, y2⟩, z0, z1, z2⟩ := HC5.out W2 hw
                  go_simp
                  exact hK _ _ rfl (Below.refl _ _)
                · intro W2 hw v wb wa hF hx K hK
                  obtain ⟨_, q9, hv, hq9⟩ := hF
                  subst hv
                  have hcc := HFE.out W2 hw q9 (hq9.below hx).at_
                  go_simp
                  refine Calls.mono hcc ?_
                  rintro e9 w5 ⟨rfl, hb5⟩
                  exact hK _ _ rfl hb5
                · intro W2 hw K hK
                  go_simp
                  exact hK _ _ rfl (Below.refl _ _)
                · intro W2 hw K hK
                  go_simp
                  exact hK _ _ rfl (Below.refl _ _)
                · intro W2 hw K hK
                  obtain ⟨⟨x0, x1, x2⟩, ⟨y0, y1, y2⟩, z0, z1, z2⟩ := HC5.out W2 hw
                  go_simp
                  exact hK _ _ rfl (Below.refl _ _)
                · intro W2 hw K hK
                  obtain ⟨⟨x0, x1, x2⟩, ⟨y0, y1, y2⟩, z0, z1, z2⟩ := HC5.out W2 hw
                  go_simp
                  exact hK _ _ rfl (Below.refl _ _)
                · intro W2 hw K hK
                  have hft := two_feet W2 z x J a (HZ5.out W2 hw) (HX5.out W2 hw)
                  go_simp
                  exact hK _ _ ⟨rfl, hft⟩ ((Below.refl _ W2).alloc (Nat.le_refl _) _)
                · intro W2 hw v wb wa hF hx K hK
                  obtain ⟨_, hv, hft⟩ := hF
                  subst hv
                  have hcc := HJ3.out W2 wa _ hft hx
                  go_simp
                  refine Calls.mono hcc ?_
                  rintro e9 w5 ⟨q9, rfl, hq9, hb5⟩
                  exact hK _ _ ⟨q9, rfl, hq9⟩ hb5
                · intro W2 hw K hK
                  obtain ⟨⟨x0, x1, x2⟩, ⟨y0, y1, y2⟩, z0, z1, z2⟩ := HC5.out W2 hw
                  go_simp
                  exact hK _ _ rfl (Below.refl _ _)
                · intro W2 hw v wb wa hF hx K hK
                  obtain ⟨_, q9, hv, hq9⟩ := hF
                  subst hv
                  have hcc := HFE.out W2 hw q9 (hq9.below hx).at_
                  go_simp
                  refine Calls.mono hcc ?_
                  rintro e9 w5 ⟨rfl, hb5⟩
                  exact hK _ _ rfl hb5
              · intro W2 hw2
                simp only [Behind]
                intro v6 _ _ _ _ _ _
                intro v7 _ _ _ _ _ _
                intro v14 _ _ _ _ _ _
                intro v15 _ _ _ _ _ _
                intro v22 _ _ _ _ _ _
                intro v23 _ _ _ _ _ _
                have HWX := Lib.hid (HWR.out.trans (((Below.refl _ wr).drew.trans hw2).mono HWR.out.size))
                clear hw2
                simp only [List.drop, Act.put, List.setIfInBounds_toArray, List.set_cons_zero, List.set_cons_succ]
                go_wp2_with fail
                refine NoPanic.normal ?_
                go_wp2_with fail
                go_ret
                exact ⟨rfl, HWX.out⟩
end Go.Proofs.Ytmicheheibkmjaa
