/- foot.Take. -/
import Derived.Test.YtmicheheibkmjaaZT
import Derived.Test.YtmicheheibkmjaaFGood2
import Derived.Test.YtmicheheibkmjaaZW2
import Derived.Deep.RegionLaw
import Derived.Deep.DrawnRows
namespace Go.Proofs.Ytmicheheibkmjaa
set_option maxRecDepth 100000
open Go.RowKit Go.Shelf
attribute [local go_sem ↓] Go.wp_at_zero Go.wp_at_succ

/-- Are bytes a good foot's? -/
noncomputable def okT (bs : List Nat) : Bool := !(takeP bs).2.2 && (decide ((takeP bs).2.1 = []) && goodB (takeP bs).1)
noncomputable def footT (bs : List Nat) : Ft := if okT bs then (takeP bs).1 else noFt
noncomputable def errT (bs : List Nat) : Value := if okT bs then .nilIface else eForm
theorem eForm_def : eForm = .iface 51 (.int .i64 2) := rfl
theorem Only.below {w w' : World} {V : Value} (h : Only w w' V) {M : Nat} (hV : ∀ k, V = .pointer (some ⟨k, 0, none⟩) → M ≤ k) (hM : M ≤ w.heap.size) : Below M w w' :=
  ⟨h.os, h.tape, h.output, h.size, fun k hk => h.block k (by omega) fun e => by have := hV k e; omega⟩
def nilF : FV := ⟨none, 0, 0, none, 0, 0, none, 0, 0⟩
theorem ftg_nil (W : World) : FtG W nilF noFt := by
  have hk : ∀ {α : Type} (f : α → List Value) (k : Nat), RowAt f k W none 0 [] := fun f k => ⟨rfl, by simp [rowV], fun h => absurd h (by omega)⟩
  exact ⟨⟨hk _ _, hk _ _, hk _ _, by decide, by decide, by decide⟩, fun _ => rfl, fun _ => rfl, fun _ => rfl, fun s hs => by cases hs⟩
theorem okT_eq {xs : List Nat} {f : Ft} {bs : List Nat} {d : Bool} (h : takeP xs = (f, bs, d)) : okT xs = (!d && (decide (bs = []) && goodB f)) := by unfold okT; rw [h]
theorem okT_yes {xs : List Nat} {f : Ft} (h : takeP xs = (f, [], false)) (hg : goodB f = true) : errT xs = .nilIface ∧ footT xs = f := by
  have e : okT xs = true := by rw [okT_eq h, hg]; rfl
  unfold errT footT
  rw [e, h]
  exact ⟨rfl, rfl⟩
theorem okT_no {xs : List Nat} (h : okT xs = false) : errT xs = eForm ∧ footT xs = noFt := by
  unfold errT footT
  rw [h]
  exact ⟨rfl, rfl⟩
set_option maxHeartbeats 16000000 in
theorem take_foot (A : Option Addr) (n c : Nat) (xs : List Nat) (w : World) (hr : Rdv w A n 1 (valsB xs)) (hnil : A = none → c = 0 ∧ n = 0) (hn : n ≤ 100000000) (hs : ∀ x ∈ xs, x < 256) :
    Calls Try.prog 25 #[.slice A n c] w fun e w' => ∃ x : FV, e = .returned (.tuple #[x.val, errT xs]) ∧ FtG w' x (footT xs) ∧ Below w.heap.size w w' := by
  have hb0 := (Below.refl w.heap.size w).alloc (Nat.le_refl _) (.cells #[.slice none 0 0, .slice none 0 0, .slice none 0 0] 30)
  have HB0 := Lib.hid hb0
  have hxl : xs.length = n := by have := hr.1; rw [valsB_length] at this; omega
  have HN := Lib.hid (newReader_any A n c xs _ (hr.ext (stays_b hb0)) hnil (by omega) hs)
  have HNEW := Lib.hid (heap_alloc_new w (.cells #[.slice none 0 0, .slice none 0 0, .slice none 0 0] 30))
  have HS := Lib.hid hs
  have HXL := Lib.hid hxl
  have hsz0 : (w.alloc (.cells #[.slice none 0 0, .slice none 0 0, .slice none 0 0] 30)).heap.size = w.heap.size + 1 := World.size_alloc ..
  have HSZ0 := Lib.hid hsz0
  clear hr hnil hb0 hs hxl hsz0
  go_enter Try.func25, Try.ntmps25
  go_wp2_with fail
  revert HB0 HN HNEW HSZ0
  generalize World.alloc w _ = W0
  intro HB0 HN HNEW HSZ0
  refine Calls.mono HN.out ?_
  rintro e w1 ⟨g, rfl, hrd, hb1⟩
  obtain ⟨B, hBd⟩ : ∃ B : Nat → Prop, B = fun k => W0.heap.size ≤ k ∧ k < w1.heap.size := ⟨_, rfl⟩
  rw [← hBd] at hrd
  have HBB := Lib.hid (show ∀ k, B k → w.heap.size < k ∧ k < w1.heap.size from fun k hk => by rw [hBd] at hk; have := HSZ0.out; have := hk.1; have := hk.2; omega)
  have HOUT1 := Lib.hid ((hb1.block _ (by rw [HSZ0.out]; omega)).trans HNEW.out)
  have HB1 := Lib.hid (HB0.out.trans (hb1.mono HB0.out.size))
  have HRD := Lib.hid hrd
  have hs1 := hb1.size
  rw [HSZ0.out] at hs1
  have HT1 := Lib.hid (takeKeys_any B (.pointer (some ⟨g, 0, none⟩)) xs false w1 hrd (fun k hk => (HBB.out k hk).2) (by have := HXL.out; omega))
  clear hBd hrd hb1
  go_wp2_with fail
  refine Calls.mono HT1.out ?_
  rintro e w2 ⟨v1, rfl, ht1⟩
  have HK1 := Lib.hid (listK_len HS.out)
  have HKR := Lib.hid (listK_rest HS.out)
  have HTP := Lib.hid (show takeP xs = (⟨(listP kR xs).1, (listP sR (listP kR xs).2.1).1, (listP kR (listP sR (listP kR xs).2.1).2.1).1⟩, (listP kR (listP sR (listP kR xs).2.1).2.1).2) from rfl)
  obtain ⟨⟨l1, bs1, d1⟩, hL1⟩ : ∃ y, y = listP kR xs := ⟨_, rfl⟩
  rw [← hL1] at ht1 HK1 HKR HTP
  dsimp only at ht1 HK1 HKR HTP
  obtain ⟨A1, c1, rfl, hq1, hq2, hq3⟩ := rdv_own ht1.own
  have HT := Lib.hid ht1
  have hs2 := ht1.only.size
  have HB2 := Lib.hid (HB1.out.trans ((ht1.only.below (M := w.heap.size) (fun k e => by have := (HBB.out k (ht1.rdr.low' k e)).1; omega) (by omega))))
  have HOUT2 := Lib.hid ((ht1.only.block w.heap.size (by omega) (fun e => by have := (HBB.out _ (ht1.rdr.low' _ e)).1; omega)).trans HOUT1.out)
  have hrd2 := ht1.rdr.stays (by rw [World.size_alloc]; omega) (fun k hk _ => heap_alloc_old w2 (.cells #[.slice A1 l1.length c1, .slice none 0 0, .slice none 0 0] 30) hk)
  have HTS := Lib.hid (show TSI (w2.alloc (.cells #[.slice A1 l1.length c1, .slice none 0 0, .slice none 0 0] 30)) (w2.alloc (.cells #[.slice A1 l1.length c1, .slice none 0 0, .slice none 0 0] 30)) B (.pointer (some ⟨g, 0, none⟩)) w1.heap.size w2.heap.size (.slice A1 l1.length c1) (.slice none 0 0) l1 [] bs1 d1 from
    ⟨hrd2, rfl, rfl, rfl, Nat.le_refl _, fun _ _ _ => rfl, heap_alloc_new w2 _, World.ownsRow.alloc ht1.own _, World.ownsRow_nil _ _ _ _⟩)
  have HLY := Lib.hid (show Lay (w2.alloc (.cells #[.slice A1 l1.length c1, .slice none 0 0, .slice none 0 0] 30)) B w1.heap.size w2.heap.size from ⟨fun k hk => (HBB.out k hk).2, hs2, by rw [World.size_alloc]; omega⟩)
  have HOUT3 := Lib.hid ((heap_alloc_old w2 (.cells #[.slice A1 l1.length c1, .slice none 0 0, .slice none 0 0] 30) (show w.heap.size < w2.heap.size by omega)).trans HOUT2.out)
  have HB3 := Lib.hid (HB2.out.alloc HB2.out.size (.cells #[.slice A1 l1.length c1, .slice none 0 0, .slice none 0 0] 30))
  have hbl : bs1.length ≤ 100000000 := by have := HK1.out.1; have := HXL.out; omega
  have HBL := Lib.hid hbl
  have HL1 := Lib.hid (show l1.length ≤ 100000001 by have := HK1.out.2; have := HXL.out; omega)
  have HRO := Lib.hid (rows_any B _ bs1 d1 _ hrd2 (by omega))
  clear ht1 hL1 hq1 hq2 hq3 HK1 hrd2 HN HOUT1 HNEW HT HRD HB1 HB2 HOUT2
  go_wp2_with fail
  obtain ⟨bx, hbx⟩ : ∃ bx, bx = w2.heap.size := ⟨_, rfl⟩
  rw [← hbx] at HTS HLY ⊢
  have HSB := Lib.hid (show w.heap.size < w1.heap.size ∧ w1.heap.size ≤ bx by omega)
  clear hbx
  revert HTS HLY HOUT3 HB3 HRO
  generalize World.alloc w2 _ = W3
  intro HOUT3 HB3 HRO HLY HTS
  refine Calls.mono HRO.out ?_
  rintro e w4 ⟨rfl, hr4, ho4⟩
  have HT4 := Lib.hid (HTS.out.step HLY.out hr4 ho4)
  have HS2L := Lib.hid (listS_len HKR.out)
  have HS2R := Lib.hid (listS_rest HKR.out)
  have HS2F := Lib.hid (listS_fitS HKR.out)
  have hdef : listP sR bs1 = loopR sR (rowsN bs1) (rcount bs1).2.1 (rcount bs1).2.2 := rfl
  have hrw := rowsN_le bs1
  have hle := rcount_len bs1 HKR.out
  obtain ⟨L2, hL2⟩ : ∃ L, L = listP sR bs1 := ⟨_, rfl⟩
  rw [← hL2] at hdef HS2L HS2R HS2F HTP
  obtain ⟨m, hm⟩ : ∃ m, m = rowsN bs1 := ⟨_, rfl⟩
  obtain ⟨r, hr⟩ : ∃ r, r = (rcount bs1).2.1 := ⟨_, rfl⟩
  obtain ⟨d, hd⟩ : ∃ d, d = (rcount bs1).2.2 := ⟨_, rfl⟩
  rw [← hm, ← hr, ← hd] at hdef
  rw [← hr, ← hd] at HT4
  rw [← hm, ← hr] at hrw
  rw [← hr] at hle
  rw [← hm]
  have HD2 := Lib.hid hdef
  have hm9 : m ≤ 100000001 := by omega
  clear hr4 ho4 hdef hL2 hm hr hd hrw hle hbl
  go_wp2_with fail
  go_loopw [13] (fun i wr => ∃ (q : Nat) (v2 : Value) (pre : List Sp) (bs' : List Nat) (bad' : Bool), i = .int .u64 (q : Int) ∧ q ≤ m ∧ pre.length = q ∧ Hid ((pre ++ (loopR sR (m - q) bs' bad').1, (loopR sR (m - q) bs' bad').2) = L2) ∧ TSI W3 wr B (.pointer (some ⟨g, 0, none⟩)) w1.heap.size bx (.slice A1 l1.length c1) v2 l1 pre bs' bad') (fun i _ => m - (intOf i).toNat)
  case atStart => exact ⟨0, _, [], r, d, rfl, by omega, rfl, by rw [HD2.out]; exact Lib.hid rfl, HT4.out⟩
  case round =>
    obtain ⟨q, v2, pre, bs', bad', rfl, hq, hpl, hpre, hti⟩ := hrel
    have HPL := Lib.hid hpl
    obtain ⟨A2, c2, rfl, _, _, _⟩ := rdv_own hti.o2
    have HTI := Lib.hid hti
    by_cases hlt : q < m
    · have HNX := Lib.hid (loop_next sR (m - q) bs' bad' pre L2 (by omega) hpre.out)
      have hk : sR bs' = (⟨wrap64 ((rcount bs').1 : Int), unfoldN (rcount (rcount bs').2.1).1, unfoldN (rcount (rcount (rcount bs').2.1).2.1).1⟩, (rcount (rcount (rcount bs').2.1).2.1).2) := rfl
      rw [hk] at HNX
      have HTD := Lib.hid hti.drew
      have HC := Lib.hid (rcount_any B _ bs' bad' wr.drew hti.drew.rdr)
      obtain ⟨u, hu⟩ : ∃ u, u = (rcount bs').1 := ⟨_, rfl⟩
      have hul : u < 18446744073709551616 := by rw [hu]; exact rcount_lt bs' hti.rdr.small'
      have HN1 := Lib.hid (fun W h => rnum_any B (.pointer (some ⟨g, 0, none⟩)) (rcount bs').2.1 (rcount bs').2.2 W h)
      have HN2 := Lib.hid (fun W h => rnum_any B (.pointer (some ⟨g, 0, none⟩)) (rcount (rcount bs').2.1).2.1 (rcount (rcount bs').2.1).2.2 W h)
      obtain ⟨z1, hz1⟩ : ∃ z, z = unfoldN (rcount (rcount bs').2.1).1 := ⟨_, rfl⟩
      obtain ⟨z2, hz2⟩ : ∃ z, z = unfoldN (rcount (rcount (rcount bs').2.1).2.1).1 := ⟨_, rfl⟩
      obtain ⟨b1, hb1⟩ : ∃ z, z = (rcount bs').2.1 := ⟨_, rfl⟩
      obtain ⟨x1, hx1⟩ : ∃ z, z = (rcount bs').2.2 := ⟨_, rfl⟩
      rw [← hu, ← hz1, ← hz2] at HNX
      rw [← hz1] at HN1
      rw [← hz2] at HN2
      rw [← hu, ← hb1, ← hx1] at HC
      rw [← hb1, ← hx1] at HN1
      rw [← hb1] at HN2 HNX
      obtain ⟨b2, hb2⟩ : ∃ z, z = (rcount b1).2.1 := ⟨_, rfl⟩
      obtain ⟨x2, hx2⟩ : ∃ z, z = (rcount b1).2.2 := ⟨_, rfl⟩
      rw [← hb2, ← hx2] at HN1 HN2
      rw [← hb2] at HNX
      obtain ⟨T, hT⟩ : ∃ T, T = wrap64 (u : Int) := ⟨_, rfl⟩
      rw [← hT] at HNX
      have hwT : IntKind.i64.wrap (u : Int) = T := by rw [hT, IntKind.wrap_i64]; unfold wrap64; omega
      have e1 : wr.drew.cell? ⟨bx, 1, none⟩ = some (.slice A2 pre.length c2) := hti.drew.cells.2.1
      have k1 : wr.cell? ⟨bx, 1, none⟩ = some (.slice A2 pre.length c2) := hti.cells.2.1
      have hpm : pre.length ≤ 100000001 := by omega
      clear hT hu hk hpl hz1 hz2 hb1 hx1 hb2 hx2 hti
      go_wp2_with fail
      go_region_law (first | (go_simp; go_at_call 55; refine Calls.mono HC.out ?_; rintro e w5 ⟨rfl, hr5, ho5⟩; have h5 := HTD.out.step HLY.out hr5 ho5; have j1 : w5.cell? ⟨bx, 1, none⟩ = some (.slice A2 pre.length c2) := h5.cells.2.1) | (go_simp; go_at_call 56; (with_reducible refine Calls.mono (HN1.out w5 hr5) ?_); rintro e w6 ⟨rfl, hr6, ho6⟩; have h6 := h5.step HLY.out hr6 ho6; have j2 : w6.cell? ⟨bx, 1, none⟩ = some (.slice A2 pre.length c2) := h6.cells.2.1) | (go_simp; go_at_call 56; (with_reducible refine Calls.mono (HN2.out w6 hr6) ?_); rintro e w7 ⟨rfl, hr7, ho7⟩; have h7 := h6.step HLY.out hr7 ho7; have j3 : w7.cell? ⟨bx, 1, none⟩ = some (.slice A2 pre.length c2) := h7.cells.2.1; have j4 := (World.cell?_alloc_lt w7 (.cells #[.int .i64 (T), .int .i64 z1, .int .i64 z2] 54) ⟨bx, 1, none⟩ (World.block_lt_of_cell? _ _ j3)).trans j3) | (refine step_append_rowv elem28 (by simp [Region.wanted]) (.tmp 16) (.tmp 25) (by rfl) W3.heap.size (.slice A2 pre.length c2) pre.length (rowV Sp.vals pre) (by rfl) (h7.o2.alloc _) (some ⟨w7.heap.size, 0, none⟩) 1 1 [.int .i64 (T), .int .i64 z1, .int .i64 z2] (by rfl) (rdv_one3 w7 _ _ _ 54) (svals_one ⟨_, _, _⟩) (by intro h; cases h) (by unfold maxLen; omega) (by omega) (by have := h7.size; rw [World.size_alloc]; omega) ?_; intro v8 w8 hown8 hg8 _; obtain ⟨A8, c8, rfl, _, _, _⟩ := rdv_own hown8; obtain ⟨hq8, hti8⟩ := TSI.push h7 HLY.out ⟨T, z1, z2⟩ hown8 hg8; have l1 : w8.cell? ⟨bx, 1, none⟩ = some (.slice A2 pre.length c2) := (cell_of_row w8 _ 1 _ 30 (0, 0) hq8).trans rfl; have l2 : w8.frozen? ⟨bx, 1, none⟩ = false := frozen_box hq8 1))
      all_goals
        have HTI8 := Lib.hid hti8
        clear hwT hti8 hq8 h5 h6 h7 hr5 hr6 hr7 ho5 ho6 ho7 hown8 hg8 j1 j2 j3 j4 l1 l2
        go_wp2_with fail
        go_roundw
        case rel => exact ⟨q + 1, _, pre ++ [⟨T, z1, z2⟩], _, _, by go_num, by omega, by rw [List.length_append, HPL.out]; rfl, by have := HNX.out; rw [show m - q - 1 = m - (q + 1) by omega] at this; exact Lib.hid this, HTI8.out⟩
        case measure => simp [intOf]; omega
    · obtain rfl : q = m := by omega
      have hp := hpre.out
      rw [Nat.sub_self] at hp
      have hL2 : L2 = (pre, bs', bad') := by rw [← hp]; simp [loopR]
      subst hL2
      dsimp only at HS2L HS2R HS2F HTP
      have hsz := hti.size
      have HT5 := Lib.hid (takeKeys_any B _ bs' bad' wr hti.rdr (fun k hk => by have := (HBB.out k hk).2; have := HLY.out.box; have := HLY.out.low; omega) (by have := HS2L.out.1; have := HBL.out; omega))
      have HHE := Lib.hid (show ∀ k, B k → w.heap.size < k from fun k hk => (HBB.out k hk).1)
      clear hti hp hpl hsz
      go_wp2_with fail
      refine Calls.mono HT5.out ?_
      rintro e w5 ⟨v3, rfl, ht5⟩
      obtain ⟨⟨l3, bs3, d3⟩, hL3⟩ : ∃ y, y = listP kR bs' := ⟨_, rfl⟩
      rw [← hL3] at ht5 HTP
      dsimp only at ht5 HTP
      obtain ⟨A3, c3, rfl, _, _, _⟩ := rdv_own ht5.own
      obtain ⟨y1, y2, hfn, hrd5⟩ := FN.make HTI.out HLY.out ht5 HHE.out HSB.out.1 HB3.out HOUT3.out HS2F.out
      have HFN := Lib.hid hfn
      have HEN := Lib.hid (end_any B _ bs3 d3 _ hrd5)
      clear hL3 ht5 hfn hrd5 HT5
      go_upto_region 8 with fail
      clear y1 y2
      revert HFN HEN
      generalize World.setCell w5 _ _ = W5
      intro HFN HEN
      obtain ⟨z0, z1, z2⟩ := HFN.out.c
      obtain ⟨r0, r1, r2⟩ := HFN.out.r
      have f0 := frozen_box HFN.out.ret 0
      have f1 := frozen_box HFN.out.ret 1
      have f2 := frozen_box HFN.out.ret 2
      by_cases hok : d3 = false ∧ bs3 = []
      · have hev : endV bs3 d3 = .nilIface := if_pos hok
        rw [hev] at HEN
        obtain ⟨rfl, rfl⟩ := hok
        have HG := Lib.hid (good_any _ _ W5 HFN.out.foot.at_ HFN.out.fit)
        unfold FV.val FV.cs at HG
        dsimp only at HG
        obtain ⟨gb, hgb⟩ : ∃ r, r = goodB ⟨l1, pre, l3⟩ := ⟨_, rfl⟩
        rw [← hgb] at HG
        have HGB := Lib.hid hgb
        clear hev hgb
        go_wp2_with fail
        refine Calls.mono HEN.out ?_
        rintro e w6 ⟨v, rfl, rfl, rfl⟩
        cases gb with
        | true =>
          have HOK := Lib.hid (okT_yes HTP.out HGB.out.symm)
          go_wp2_with fail
          refine Calls.mono HG.out ?_
          rintro e w7 ⟨rfl, hb7⟩
          have HFN7 := Lib.hid (HFN.out.later hb7)
          clear z0 z1 z2 r0 r1 r2 f0 f1 f2 hb7
          obtain ⟨z0, z1, z2⟩ := HFN7.out.c
          obtain ⟨r0, r1, r2⟩ := HFN7.out.r
          have f0 := frozen_box HFN7.out.ret 0
          have f1 := frozen_box HFN7.out.ret 1
          have f2 := frozen_box HFN7.out.ret 2
          go_wp2_with fail
          obtain ⟨s1, s2⟩ := HFN7.out.store (.slice A1 l1.length c1) (.slice A2 pre.length c2) (.slice A3 l3.length c3)
          have s3 := HFN7.out.done (.slice A1 l1.length c1) (.slice A2 pre.length c2) (.slice A3 l3.length c3)
          exact bodyPost_ret (results25 _ w.heap.size ⟨A1, l1.length, c1, A2, pre.length, c2, A3, l3.length, c3⟩ .nilIface s1 _ rfl rfl) rfl ⟨_, by rw [HOK.out.1], by rw [HOK.out.2]; exact s3, s2⟩
        | false =>
          have HOK := Lib.hid (okT_no (show okT xs = false by rw [okT_eq HTP.out, ← HGB.out]; rfl))
          go_wp2_with fail
          refine Calls.mono HG.out ?_
          rintro e w7 ⟨rfl, hb7⟩
          have HFN7 := Lib.hid (HFN.out.later hb7)
          clear z0 z1 z2 r0 r1 r2 f0 f1 f2 hb7
          obtain ⟨r0, r1, r2⟩ := HFN7.out.r
          have f0 := frozen_box HFN7.out.ret 0
          have f1 := frozen_box HFN7.out.ret 1
          have f2 := frozen_box HFN7.out.ret 2
          go_wp2_with fail
          obtain ⟨s1, s2⟩ := HFN7.out.store (.slice none 0 0) (.slice none 0 0) (.slice none 0 0)
          exact bodyPost_ret (results25 _ w.heap.size nilF eForm s1 _ rfl rfl) rfl ⟨_, by rw [HOK.out.1], by rw [HOK.out.2]; exact ftg_nil _, s2⟩
      · have hev : endV bs3 d3 = .iface 51 (.int .i64 2) := if_neg hok
        rw [hev] at HEN
        have HOK := Lib.hid (okT_no (show okT xs = false by
          rw [okT_eq HTP.out]
          cases d3 with
          | true => rfl
          | false => rw [decide_eq_false (fun e => hok ⟨rfl, e⟩)]; rfl))
        clear hev hok
        go_wp2_with fail
        refine Calls.mono HEN.out ?_
        rintro e w6 ⟨v, rfl, rfl, rfl⟩
        go_wp2_with fail
        obtain ⟨s1, s2⟩ := HFN.out.store (.slice none 0 0) (.slice none 0 0) (.slice none 0 0)
        exact bodyPost_ret (results25 _ w.heap.size nilF eForm s1 _ rfl rfl) rfl ⟨_, by rw [HOK.out.1], by rw [HOK.out.2]; exact ftg_nil _, s2⟩
end Go.Proofs.Ytmicheheibkmjaa
