/- RPut, WCodec, WRf, WRfMath, WRfC: put together. -/
import Derived.Test.YtejpjbmbcdgomaaPt30
import Derived.Test.YtejpjbmbcdgomaaPt43
import Derived.Test.YtejpjbmbcdgomaaPt25
import Derived.BigQuiet
import Derived.Deep.QuietTactic
/- The document's Put: a store's text. Written by gen_rput.py. -/
namespace Go.Proofs.Ytejpjbmbcdgomaa
set_option maxRecDepth 100000
open Go.RowKit

theorem OwnB.below {w w' : World} {B : Nat} {v : Value} {xs : List Nat} (h : OwnB w B v xs) (hb : Below w.heap.size w w') : OwnB w' B v xs := own_same h fun q hq => by
  obtain ⟨_, e⟩ := own_at h hq
  exact hb.block q (Array.getElem?_eq_some_iff.1 e).1
/-- A store's text, of its entries. -/
def txtE (l : List En) : List Nat := cntN (liveE l).length ++ ((liveE l).flatMap entB ++ [83])
theorem txtE_ents (ts : Tb) : txtE (ents ts) = putB ts := by unfold txtE putB; rw [liveE_ents]
def enQ (e : En) (q : Nat) : Obj := .cells #[.int .i64 (e.t : Int), .int .i64 e.x.k, .int .i64 e.x.c.v, .int .i64 (q : Int), .bool e.x.c.dead] 46 (0, 0)
/-- The text under construction, beside an entry in its box. -/
def TxA (W1 w : World) (lv : Value) (xs : List Nat) (p6 : Nat) (o : Obj) : Prop := OwnB w W1.heap.size lv xs ∧ Below W1.heap.size W1 w ∧ w.heap[p6]? = some o
theorem TxA.appended {W1 w w' : World} {lv lv' : Value} {xs ys : List Nat} {p6 q : Nat} {e : En} (h : TxA W1 w lv xs p6 (enQ e q)) (ho : OwnB w' W1.heap.size lv' (xs ++ ys)) (hb : Below W1.heap.size w w') (ht : Touch w w' w'.heap.size lv.ownBlock) : TxA W1 w' lv' (xs ++ ys) p6 (enQ e q) := by
  have hp := (Array.getElem?_eq_some_iff.1 h.2.2).1
  refine ⟨ho, h.2.1.trans hb, (ht.block p6 hp (by have := ht.size; omega) fun c => ?_).trans h.2.2⟩
  obtain ⟨cur, e2⟩ := own_at h.1 c
  have e3 := h.2.2
  rw [e2] at e3
  unfold enQ at e3
  simp at e3
set_option maxHeartbeats 16000000 in
theorem r9text_any {w : World} {A : Option Addr} {c : Nat} {l : List En} {last : Int} (h : Ens w A l) (hl : l.length ≤ 100000) (hnum : ∀ e ∈ l, e.t < 4 ∧ CellOk e.x) : Calls Try.prog 37 #[.agg #[.slice A l.length c, .int .i64 last]] w fun e w' => ∃ v, e = .returned v ∧ OwnB w' w.heap.size v (txtE l) ∧ Below w.heap.size w w' := by
  obtain ⟨n, hn⟩ : ∃ n, n = l.length := ⟨_, rfl⟩
  obtain ⟨W1, hW1⟩ : ∃ W1, W1 = w.alloc (.cells #[.slice A n c, .int .i64 last] 31) := ⟨_, rfl⟩
  obtain ⟨p0, hp0⟩ : ∃ p0, p0 = w.heap.size := ⟨_, rfl⟩
  have b0 : W1.heap[p0]? = some (.cells #[.slice A n c, .int .i64 last] 31 (0, 0)) := by rw [hW1, hp0]; exact heap_alloc_new w _
  have bb : Below w.heap.size w W1 := by rw [hW1]; exact (Below.refl _ _).alloc (Nat.le_refl _) _
  have HW := Lib.hid hW1
  have HP := Lib.hid hp0
  have HBW := Lib.hid (And.intro bb (RowAt.below h bb))
  have HC : Hid (∀ wr, Below W1.heap.size W1 wr → wr.cell? ⟨p0, 0, none⟩ = some (.slice A n c)) := Lib.hid fun wr hb => by
    have e0 := (hb.block p0 (Array.getElem?_eq_some_iff.1 b0).1).trans b0
    rw [cell_of_row _ _ 0 _ _ _ e0]; rfl
  have HLV := Lib.hid (r9live_any (c := c) (last := last) (RowAt.below h bb) hl)
  rw [← hn] at HLV
  have hlv : (liveE l).length ≤ l.length := List.length_filter_le _ _
  obtain ⟨lv, hlvn⟩ : ∃ lv, lv = (liveE l).length := ⟨_, rfl⟩
  rw [← hlvn] at HLV hlv
  obtain ⟨RES, hres⟩ : ∃ RES, RES = txtE l := ⟨_, rfl⟩
  have HG : Hid (RES = (cntN lv ++ (liveE (l.drop 0)).flatMap entB) ++ [83]) := Lib.hid (by rw [hres, hlvn, List.append_assoc]; rfl)
  rw [← hres, ← hn]
  have HN := Lib.hid (And.intro hn hl)
  have HNM := Lib.hid hnum
  have f1 : IntKind.u64.wrap (lv : Int) = (lv : Int) := by rw [IntKind.wrap_u64]; omega
  have y0 : W1.cell? ⟨p0, 0, none⟩ = some (.slice A n c) := HC.out W1 (Below.refl _ _)
  have y1 : W1.cell? ⟨p0, 1, none⟩ = some (.int .i64 last) := by rw [cell_of_row _ _ 1 _ _ _ b0]; rfl
  have hlv2 : lv ≤ 100000 := Nat.le_trans hlv hl
  have HLL := Lib.hid hlv2
  clear hW1 hp0 b0 bb hres hn h hl hnum hlvn hlv hlv2
  go_enter Try.func37, Try.ntmps37
  go_upto_region 1 with fail
  rw [← HW.out, ← HP.out]
  go_wp2_with fail
  refine Calls.mono HLV.out ?_
  rintro e w2 ⟨rfl, b2⟩
  have HB2 := Lib.hid b2
  clear b2
  go_wp2_with fail
  refine Calls.mono (refCount_any lv (by have := HLL.out; omega) w2) ?_
  rintro e w3 ⟨v3, rfl, h3, b3⟩
  have HB3 : Hid (OwnB w3 W1.heap.size v3 (cntN lv) ∧ Below W1.heap.size W1 w3) := Lib.hid ⟨own_down h3 HB2.out.size, HB2.out.trans (b3.mono HB2.out.size)⟩
  clear h3 b3 y0 y1 f1
  go_wp2_with fail
  go_loopw [3, 4, 5, 10, 11, 12, 13, 14, 15, 16, 17, 18, 19, 20, 21, 22, 23, 24, 25, 26, 27, 28, 29, 30, 31, 32, 33, 34, 35, 36, 37, 38, 39, 40, 41, 42, 43, 44, 45, 46, 47, 48, 49, 50] (fun bv ix _ _ _ _ _ _ _ _ _ _ _ _ _ _ _ _ _ _ _ _ _ _ _ _ _ _ _ _ _ _ _ _ _ _ _ _ _ _ _ _ _ _ wr => ∃ (z : Nat) (xs : List Nat), ix = .int .i64 (z : Int) ∧ z ≤ n ∧ RES = (xs ++ (liveE (l.drop z)).flatMap entB) ++ [83] ∧ xs.length ≤ 10 + 40 * z ∧ OwnB wr W1.heap.size bv xs ∧ Below W1.heap.size W1 wr) (fun bv ix _ _ _ _ _ _ _ _ _ _ _ _ _ _ _ _ _ _ _ _ _ _ _ _ _ _ _ _ _ _ _ _ _ _ _ _ _ _ _ _ _ _ wr => n - (intOf ix).toNat)
  case atStart => exact ⟨0, cntN lv, rfl, Nat.zero_le _, HG.out, by have := cntN_len lv (by have := HLL.out; omega); omega, HB3.out⟩
  case round =>
    obtain ⟨z, xs0, rfl, hz, he, hx, ho, hb⟩ := hrel
    have HE := Lib.hid he
    have HXL := Lib.hid hx
    have HO := Lib.hid (And.intro ho hb)
    have s0 := HC.out wr hb
    clear he hx ho
    by_cases hlt : z < n
    · have hzl : z < l.length := by rw [← HN.out.1]; exact hlt
      obtain ⟨b, off, rfl, hcl⟩ := Ens.cell (RowAt.below HBW.out.2 hb) (by omega)
      obtain ⟨x0, x1, x2, x3, x4⟩ := hcl z hzl
      obtain ⟨e, hx0⟩ : ∃ e, e = l[z] := ⟨_, rfl⟩
      have hda : l.drop z = e :: l.drop (z + 1) := drop_at (by rw [hx0]; exact List.getElem?_eq_getElem hzl)
      have hok := HNM.out e (by rw [hx0]; exact List.getElem_mem hzl)
      rw [← hx0] at x0 x1 x2 x3 x4
      have HDA := Lib.hid hda
      have HOK := Lib.hid hok
      have hnb : n ≤ 100000 := by rw [HN.out.1]; exact HN.out.2
      have HLN : Hid (z + 1 ≤ 100000) := Lib.hid (by omega)
      obtain ⟨q, hq⟩ : ∃ q : Nat, q = e.x.c.s.toNat := ⟨_, rfl⟩
      have hqs : e.x.c.s = (q : Int) := by have := hok.2.2.2.1; omega
      have HQQ := Lib.hid hq
      rw [hqs] at x3
      have hq2 : q < 18446744073709551616 := by have := hok.2.2.2.2; omega
      obtain ⟨p6, hp6⟩ : ∃ p6, p6 = wr.heap.size := ⟨_, rfl⟩
      obtain ⟨we, hwe⟩ : ∃ we, we = wr.alloc (.cells #[.int .i64 (e.t : Int), .int .i64 e.x.k, .int .i64 e.x.c.v, .int .i64 (q : Int), .bool e.x.c.dead] 46) := ⟨_, rfl⟩
      have hbe : Below wr.heap.size wr we := by rw [hwe]; exact (Below.refl _ _).alloc (Nat.le_refl _) _
      have HO1 : Hid (TxA W1 we u3 xs0 p6 (enQ e q)) := Lib.hid ⟨HO.out.1.below hbe, HO.out.2.trans (hbe.mono HO.out.2.size), by rw [hwe, hp6]; exact heap_alloc_new wr _⟩
      have HWE := Lib.hid hwe
      have HP6 := Lib.hid hp6
      have HQ2 := Lib.hid hq2
      clear hcl hx0 hzl hda hwe hp6 hb hok hq hqs hq2 hbe
      go_upto_region 6 with fail
      rw [← HWE.out, ← HP6.out]
      clear s0 x0 x1 x2 x3 x4
      obtain ⟨vd, hvd⟩ : ∃ vd, vd = e.x.c.dead := ⟨_, rfl⟩
      have m4 : we.cell? ⟨p6, 4, none⟩ = some (.bool vd) := by rw [cell_of_row _ _ 4 _ _ _ HO1.out.2.2, hvd]; rfl
      have HVD := Lib.hid hvd
      clear hvd
      cases vd with
      | true =>
        have HD : Hid (RES = (xs0 ++ (liveE (l.drop (z + 1))).flatMap entB) ++ [83]) := Lib.hid (by
          rw [HE.out, HDA.out]
          unfold liveE
          rw [List.filter_cons_of_neg (by rw [← HVD.out]; decide)])
        go_wp2_with fail
        go_roundw
        case rel => exact ⟨z + 1, xs0, by go_num, by omega, HD.out, by have := HXL.out; omega, HO1.out.1, HO1.out.2.1⟩
        case measure => simp [intOf]; omega
      | false =>
        have HL1 : Hid (xs0.length = xs0.length) := Lib.hid rfl
        have HCT := Lib.hid (cntN_len e.t (by have := HOK.out.1; omega))
        have HCK := Lib.hid (cntN_len (foldN e.x.k) (foldN_lt HOK.out.2.1))
        have HCV := Lib.hid (cntN_len (foldN e.x.c.v) (foldN_lt HOK.out.2.2.1))
        have HCQ := Lib.hid (cntN_len q HQ2.out)
        have u1 : IntKind.u64.wrap (e.t : Int) = (e.t : Int) := by have := HOK.out.1; rw [IntKind.wrap_u64]; omega
        have u4 : IntKind.u64.wrap (q : Int) = (q : Int) := by have := HQ2.out; rw [IntKind.wrap_u64]; omega
        have yc : we.cell? ⟨p6, 0, none⟩ = some (.int .i64 (e.t : Int)) := by rw [cell_of_row _ _ 0 _ _ _ HO1.out.2.2]; rfl
        go_wp2_with fail
        refine Calls.mono (refCount_any e.t (by have := HOK.out.1; omega) we) ?_
        rintro e9 w1a ⟨v9, rfl, h9, b9⟩
        obtain ⟨A9, c9, rfl, r9, n9, _⟩ := OwnB.rdv h9
        have HR1 := Lib.hid (And.intro r9 n9)
        have HO1a : Hid (TxA W1 w1a u3 xs0 p6 (enQ e q)) := Lib.hid ⟨HO1.out.1.below b9, HO1.out.2.1.trans (b9.mono HO1.out.2.1.size), (b9.block p6 (Array.getElem?_eq_some_iff.1 HO1.out.2.2).1).trans HO1.out.2.2⟩
        clear h9 b9 r9 n9 yc m4
        obtain ⟨m9, hm9⟩ : ∃ m9, m9 = (cntN e.t).length := ⟨_, rfl⟩
        have HM1 := Lib.hid hm9
        rw [← hm9] at HR1 ⊢
        clear hm9
        go_wp2_with (at_builtin; refine wpList_appB rfl (.tmp 25) (.tmp 30) rfl W1.heap.size u3 xs0 rfl HO1a.out.1 A9 m9 c9 (cntN e.t) rfl HR1.out.1 HR1.out.2 (by rw [HM1.out]; have := HXL.out; have := HLN.out; have := HCT.out; omega) HO1a.out.2.1.size ?_; intro lv1 w1b ho hb ht hq; have HO2 := Lib.hid (HO1a.out.appended ho hb ht); have yc : w1b.cell? ⟨p6, 1, none⟩ = some (.int .i64 e.x.k) := by { rw [cell_of_row _ _ 1 _ _ _ HO2.out.2.2]; rfl }; clear ho hb ht hq)
        obtain ⟨xs1, hxs1⟩ : ∃ z, z = xs0 ++ (cntN e.t) := ⟨_, rfl⟩
        rw [← hxs1] at HO2
        have HX1 := Lib.hid hxs1
        have HL2 : Hid (xs1.length = xs0.length + (cntN e.t).length) := Lib.hid (by rw [hxs1]; simp)
        clear hxs1
        refine Calls.mono (refNum_any e.x.k HOK.out.2.1 w1b) ?_
        rintro e9 w2a ⟨v9, rfl, h9, b9⟩
        obtain ⟨A9, c9, rfl, r9, n9, _⟩ := OwnB.rdv h9
        have HR2 := Lib.hid (And.intro r9 n9)
        have HO2a : Hid (TxA W1 w2a lv1 xs1 p6 (enQ e q)) := Lib.hid ⟨HO2.out.1.below b9, HO2.out.2.1.trans (b9.mono HO2.out.2.1.size), (b9.block p6 (Array.getElem?_eq_some_iff.1 HO2.out.2.2).1).trans HO2.out.2.2⟩
        clear h9 b9 r9 n9 yc
        obtain ⟨m9, hm9⟩ : ∃ m9, m9 = (cntN (foldN e.x.k)).length := ⟨_, rfl⟩
        have HM2 := Lib.hid hm9
        rw [← hm9] at HR2 ⊢
        clear hm9
        go_wp2_with (at_builtin; refine wpList_appB rfl (.tmp 32) (.tmp 36) rfl W1.heap.size lv1 xs1 rfl HO2a.out.1 A9 m9 c9 (cntN (foldN e.x.k)) rfl HR2.out.1 HR2.out.2 (by rw [HM2.out]; have := HXL.out; have := HLN.out; have := HCT.out; have := HL2.out; have := HCK.out; omega) HO2a.out.2.1.size ?_; intro lv2 w2b ho hb ht hq; have HO3 := Lib.hid (HO2a.out.appended ho hb ht); have yc : w2b.cell? ⟨p6, 2, none⟩ = some (.int .i64 e.x.c.v) := by { rw [cell_of_row _ _ 2 _ _ _ HO3.out.2.2]; rfl }; clear ho hb ht hq)
        obtain ⟨xs2, hxs2⟩ : ∃ z, z = xs1 ++ (cntN (foldN e.x.k)) := ⟨_, rfl⟩
        rw [← hxs2] at HO3
        have HX2 := Lib.hid hxs2
        have HL3 : Hid (xs2.length = xs1.length + (cntN (foldN e.x.k)).length) := Lib.hid (by rw [hxs2]; simp)
        clear hxs2
        refine Calls.mono (refNum_any e.x.c.v HOK.out.2.2.1 w2b) ?_
        rintro e9 w3a ⟨v9, rfl, h9, b9⟩
        obtain ⟨A9, c9, rfl, r9, n9, _⟩ := OwnB.rdv h9
        have HR3 := Lib.hid (And.intro r9 n9)
        have HO3a : Hid (TxA W1 w3a lv2 xs2 p6 (enQ e q)) := Lib.hid ⟨HO3.out.1.below b9, HO3.out.2.1.trans (b9.mono HO3.out.2.1.size), (b9.block p6 (Array.getElem?_eq_some_iff.1 HO3.out.2.2).1).trans HO3.out.2.2⟩
        clear h9 b9 r9 n9 yc
        obtain ⟨m9, hm9⟩ : ∃ m9, m9 = (cntN (foldN e.x.c.v)).length := ⟨_, rfl⟩
        have HM3 := Lib.hid hm9
        rw [← hm9] at HR3 ⊢
        clear hm9
        go_wp2_with (at_builtin; refine wpList_appB rfl (.tmp 38) (.tmp 42) rfl W1.heap.size lv2 xs2 rfl HO3a.out.1 A9 m9 c9 (cntN (foldN e.x.c.v)) rfl HR3.out.1 HR3.out.2 (by rw [HM3.out]; have := HXL.out; have := HLN.out; have := HCT.out; have := HL2.out; have := HCK.out; have := HL3.out; have := HCV.out; omega) HO3a.out.2.1.size ?_; intro lv3 w3b ho hb ht hq; have HO4 := Lib.hid (HO3a.out.appended ho hb ht); have yc : w3b.cell? ⟨p6, 3, none⟩ = some (.int .i64 (q : Int)) := by { rw [cell_of_row _ _ 3 _ _ _ HO4.out.2.2]; rfl }; clear ho hb ht hq)
        obtain ⟨xs3, hxs3⟩ : ∃ z, z = xs2 ++ (cntN (foldN e.x.c.v)) := ⟨_, rfl⟩
        rw [← hxs3] at HO4
        have HX3 := Lib.hid hxs3
        have HL4 : Hid (xs3.length = xs2.length + (cntN (foldN e.x.c.v)).length) := Lib.hid (by rw [hxs3]; simp)
        clear hxs3
        refine Calls.mono (refCount_any q HQ2.out w3b) ?_
        rintro e9 w4a ⟨v9, rfl, h9, b9⟩
        obtain ⟨A9, c9, rfl, r9, n9, _⟩ := OwnB.rdv h9
        have HR4 := Lib.hid (And.intro r9 n9)
        have HO4a : Hid (TxA W1 w4a lv3 xs3 p6 (enQ e q)) := Lib.hid ⟨HO4.out.1.below b9, HO4.out.2.1.trans (b9.mono HO4.out.2.1.size), (b9.block p6 (Array.getElem?_eq_some_iff.1 HO4.out.2.2).1).trans HO4.out.2.2⟩
        clear h9 b9 r9 n9 yc
        obtain ⟨m9, hm9⟩ : ∃ m9, m9 = (cntN q).length := ⟨_, rfl⟩
        have HM4 := Lib.hid hm9
        rw [← hm9] at HR4 ⊢
        clear hm9
        go_wp2_with (at_builtin; refine wpList_appB rfl (.tmp 44) (.tmp 49) rfl W1.heap.size lv3 xs3 rfl HO4a.out.1 A9 m9 c9 (cntN q) rfl HR4.out.1 HR4.out.2 (by rw [HM4.out]; have := HXL.out; have := HLN.out; have := HCT.out; have := HL2.out; have := HCK.out; have := HL3.out; have := HCV.out; have := HL4.out; have := HCQ.out; omega) HO4a.out.2.1.size ?_; intro lv4 w4b ho hb ht hq; have HO5 := Lib.hid (HO4a.out.appended ho hb ht); clear ho hb ht hq)
        obtain ⟨xs4, hxs4⟩ : ∃ z, z = xs3 ++ (cntN q) := ⟨_, rfl⟩
        rw [← hxs4] at HO5
        have HX4 := Lib.hid hxs4
        have HL5 : Hid (xs4.length = xs3.length + (cntN q).length) := Lib.hid (by rw [hxs4]; simp)
        clear hxs4

        have HFN : Hid (RES = (xs4 ++ (liveE (l.drop (z + 1))).flatMap entB) ++ [83] ∧ xs4.length ≤ 10 + 40 * (z + 1)) := Lib.hid (by
          refine ⟨?_, ?_⟩
          · rw [HE.out, HDA.out]
            unfold liveE
            rw [List.filter_cons_of_pos (by rw [← HVD.out]; decide), List.flatMap_cons, HX4.out, HX3.out, HX2.out, HX1.out]
            have e9 : entB e = cntN e.t ++ (cntN (foldN e.x.k) ++ (cntN (foldN e.x.c.v) ++ cntN q)) := by rw [HQQ.out]; rfl
            rw [e9]
            simp only [List.append_assoc]
          · have := HL2.out; have := HL3.out; have := HL4.out; have := HL5.out; have := HCT.out; have := HCK.out; have := HCV.out; have := HCQ.out; have := HXL.out
            omega)
        go_wp2_with fail
        go_roundw
        case rel => exact ⟨z + 1, xs4, by go_num, by omega, HFN.out.1, HFN.out.2, HO5.out.1, HO5.out.2.1⟩
        case measure => simp [intOf]; omega
    · obtain rfl : z = n := by omega
      have HRR : Hid (RES = xs0 ++ [83]) := Lib.hid (by
        have h9 := HE.out
        rw [List.drop_of_length_le (by rw [← HN.out.1]; exact Nat.le_refl _)] at h9
        simpa [liveE] using h9)
      have HZN : Hid (z ≤ 100000) := Lib.hid (by rw [HN.out.1]; exact HN.out.2)
      clear hb
      have HRD : Hid (∀ T, Rdv (wr.alloc (.cells #[.int .u8 83] T)) (some ⟨wr.heap.size, 0, none⟩) 1 1 (valsB [83])) := Lib.hid fun T => ⟨rfl, fun _ => ⟨wr.heap.size, 0, rfl, fun j u hj => by
        rw [Nat.zero_add, cell_of_row _ wr.heap.size j _ T (0, 0) (heap_alloc_new wr _)]
        simpa [valsB] using hj⟩⟩
      have HOW : Hid (∀ o, OwnB (wr.alloc o) W1.heap.size u3 xs0 ∧ Below W1.heap.size W1 (wr.alloc o)) := Lib.hid fun o => ⟨HO.out.1.below ((Below.refl _ _).alloc (Nat.le_refl _) o), HO.out.2.trans (((Below.refl _ _).alloc (Nat.le_refl _) o).mono HO.out.2.size)⟩
      go_wp2_with (at_builtin; go_loud (refine wpList_appB rfl (.tmp 51) (.tmp 52) rfl W1.heap.size u3 xs0 rfl (HOW.out _).1 (some ⟨wr.heap.size, 0, none⟩) 1 1 [83] rfl (HRD.out _) (fun h => by cases h) (by have := HXL.out; have := HZN.out; omega) (HOW.out _).2.size ?_); intro lv9 w9 ho9 hb9 ht9 hq9; have HO9 := Lib.hid (And.intro ho9 ((HOW.out _).2.trans hb9)); clear ho9 hb9 ht9 hq9)
      go_ret
      refine ⟨_, rfl, ?_, HBW.out.1.trans (HO9.out.2.mono HBW.out.1.size)⟩
      rw [HRR.out]
      exact own_down HO9.out.1 HBW.out.1.size
end Go.Proofs.Ytejpjbmbcdgomaa

/- Counts and numbers, there and back. -/
namespace Go.Proofs.Ytejpjbmbcdgomaa
set_option maxRecDepth 100000
open Go.RowKit

end Go.Proofs.Ytejpjbmbcdgomaa

/- The document's reader in memory: it reads bytes that came in. The contracts of fail, Byte, Flag, Done. -/
namespace Go.Proofs.Ytejpjbmbcdgomaa
set_option maxRecDepth 100000
open Go.RowKit

/-- The document's reader: its block, the bytes that are left of what came in. -/
structure Rf (w : World) (B g : Nat) (A : Option Addr) (n c : Nat) (bs : List Nat) (bad : Bool) : Prop where
  low : B ≤ g
  block : w.heap[g]? = some (.cells #[.slice A n c, .bool bad] 127 (0, 0))
  row : Rdv w A n 1 (valsB bs)
  lies : (A = none ∧ n = 0 ∧ c = 0) ∨ ∃ b off, A = some ⟨b, off, none⟩ ∧ b < B ∧ n ≤ c
  hbad : bad = true → bs = []
  small : ∀ x ∈ bs, x < 256
  len : n ≤ 140737488355328
def Rfx (w : World) (B g : Nat) (bs : List Nat) (bad : Bool) : Prop := ∃ A n c, Rf w B g A n c bs bad
theorem Rf.lt {w : World} {B g : Nat} {A : Option Addr} {n c : Nat} {bs : List Nat} {bad : Bool} (h : Rf w B g A n c bs bad) : g < w.heap.size := (Array.getElem?_eq_some_iff.1 h.block).1
theorem Rf.blen {w : World} {B g : Nat} {A : Option Addr} {n c : Nat} {bs : List Nat} {bad : Bool} (h : Rf w B g A n c bs bad) : bs.length = n := by have := h.row.1; rw [valsB_length] at this; omega
theorem Rf.c0 {w : World} {B g : Nat} {A : Option Addr} {n c : Nat} {bs : List Nat} {bad : Bool} (h : Rf w B g A n c bs bad) : w.cell? ⟨g, 0, none⟩ = some (.slice A n c) := cell_of_row w g 0 _ 127 (0, 0) h.block
theorem Rf.c1 {w : World} {B g : Nat} {A : Option Addr} {n c : Nat} {bs : List Nat} {bad : Bool} (h : Rf w B g A n c bs bad) : w.cell? ⟨g, 1, none⟩ = some (.bool bad) := cell_of_row w g 1 _ 127 (0, 0) h.block
theorem Rf.f {w : World} {B g : Nat} {A : Option Addr} {n c : Nat} {bs : List Nat} {bad : Bool} (h : Rf w B g A n c bs bad) (o : Nat) : w.frozen? ⟨g, o, none⟩ = false := by
  have := h.block
  simp [World.frozen?, this]
/-- It stands where its block stands and what came in. -/
theorem Rf.stays {w w' : World} {B g : Nat} {A : Option Addr} {n c : Nat} {bs : List Nat} {bad : Bool} (h : Rf w B g A n c bs bad) (hg : w'.heap[g]? = w.heap[g]?) (hk : ∀ k, k < B → w'.heap[k]? = w.heap[k]?) : Rf w' B g A n c bs bad := by
  refine ⟨h.low, hg.trans h.block, ⟨h.row.1, fun hn => ?_⟩, h.lies, h.hbad, h.small, h.len⟩
  obtain ⟨b, off, e, hc⟩ := h.row.2 hn
  rcases h.lies with ⟨_, h0, _⟩ | ⟨b', off', e', h1, h2⟩
  · omega
  · rw [e] at e'
    injection e' with e'
    injection e' with e1 e2 e3
    subst e1
    exact ⟨b, off, e, fun j u hj => by rw [← hc j u hj]; exact World.cell?_of_block (hk b h1)⟩
theorem Rfx.stays {w w' : World} {B g : Nat} {bs : List Nat} {bad : Bool} (h : Rfx w B g bs bad) (hg : w'.heap[g]? = w.heap[g]?) (hk : ∀ k, k < B → w'.heap[k]? = w.heap[k]?) : Rfx w' B g bs bad := by
  obtain ⟨A, n, c, h⟩ := h
  exact ⟨A, n, c, h.stays hg hk⟩
theorem Rfx.small {w : World} {B g : Nat} {bs : List Nat} {bad : Bool} (h : Rfx w B g bs bad) : ∀ x ∈ bs, x < 256 := by
  obtain ⟨A, n, c, h⟩ := h
  exact h.small
theorem Rfx.empty {w : World} {B g : Nat} {bs : List Nat} (h : Rfx w B g bs true) : bs = [] := by
  obtain ⟨A, n, c, h⟩ := h
  exact h.hbad rfl
theorem Rfx.len {w : World} {B g : Nat} {bs : List Nat} {bad : Bool} (h : Rfx w B g bs bad) : bs.length ≤ 140737488355328 := by
  obtain ⟨A, n, c, h⟩ := h
  rw [h.blen]; exact h.len
/-- Only the reader's block is changed. -/
abbrev OnlyG (w w' : World) (g : Nat) : Prop := Only w w' (.pointer (some ⟨g, 0, none⟩))
theorem OnlyG.at {w w' : World} {g : Nat} (h : OnlyG w w' g) {k : Nat} (hk : k < w.heap.size) (hne : k ≠ g) : w'.heap[k]? = w.heap[k]? :=
  h.block k hk (fun he => by injection he with he; injection he with he; injection he with he; exact hne he.symm)
/-- The first m bytes are taken. -/
theorem Rf.cut {w : World} {B g b off n c : Nat} {bs : List Nat} (h : Rf w B g (some ⟨b, off, none⟩) n c bs false) (m : Nat) (hmn : m ≤ n) (off' c' : Nat) (ho : off' = off + m ∨ n = m) (hc : n - m ≤ c') :
    Rf (w.setCell ⟨g, 0, none⟩ (.slice (some ⟨b, off', none⟩) (n - m) c')) B g (some ⟨b, off', none⟩) (n - m) c' (bs.drop m) false := by
  have hl := h.blen
  have h1 : b < B := by
    rcases h.lies with ⟨h0, _⟩ | ⟨b', off', e', h1, h2⟩
    · cases h0
    · injection e' with e'; injection e' with e1; omega
  have hbg : b ≠ g := by have := h.low; omega
  have hcell : ∀ o, (w.setCell ⟨g, 0, none⟩ (.slice (some ⟨b, off', none⟩) (n - m) c')).cell? ⟨b, o, none⟩ = w.cell? ⟨b, o, none⟩ := fun o => World.cell?_of_block (Deep.blk_setCell_other w ⟨g, 0, none⟩ _ b hbg)
  have hblock := h.block
  refine ⟨h.low, ?_, ⟨by rw [valsB_length, List.length_drop]; omega, fun _ => ⟨b, off', rfl, fun j u hj => ?_⟩⟩, .inr ⟨b, off', rfl, h1, hc⟩, (fun h => by cases h), (fun x hx => h.small x (List.mem_of_mem_drop hx)), by have := h.len; omega⟩
  · simp [World.setCell, Array.getElem?_modify, hblock]
  · rw [valsB_get, List.getElem?_drop] at hj
    cases hx : bs[m + j]? with
    | none => rw [hx] at hj; cases hj
    | some x =>
      rw [hx] at hj
      cases hj
      have hj' := (List.getElem?_eq_some_iff.1 hx).1
      obtain ⟨b', o', e, hc'⟩ := h.row.2 (by omega)
      injection e with e
      injection e with e1 e2
      subst e1 e2
      rcases ho with rfl | rfl
      · rw [hcell, Nat.add_assoc]
        exact hc' _ _ (by rw [valsB_get, hx]; rfl)
      · omega
theorem Rf.cellAt {w : World} {B g : Nat} {A : Option Addr} {n c : Nat} {bs : List Nat} {bad : Bool} (h : Rf w B g A n c bs bad) (hn : 0 < n) : ∃ b off, A = some ⟨b, off, none⟩ ∧ n ≤ c ∧ ∀ j (hj : j < bs.length), w.cell? ⟨b, off + j, none⟩ = some (.int .u8 ((bs[j] : Nat) : Int)) := by
  obtain ⟨b, off, e, hc⟩ := h.row.2 hn
  rcases h.lies with ⟨_, h0, _⟩ | ⟨b', off', e', h1, h2⟩
  · omega
  · exact ⟨b, off, e, h2, fun j hj => hc j _ (by rw [valsB_get, List.getElem?_eq_getElem hj]; rfl)⟩

end Go.Proofs.Ytejpjbmbcdgomaa

/- The document's count, read from its last group, and the program's, read from its first one: the same. -/
namespace Go.Proofs.Ytejpjbmbcdgomaa
set_option maxRecDepth 100000
open Go.RowKit

def valH : List Nat → Nat
  | [] => 0
  | b :: t => b % 128 + 128 * valH t
end Go.Proofs.Ytejpjbmbcdgomaa

/- The contract of the document's reader's Count. -/
namespace Go.Proofs.Ytejpjbmbcdgomaa
set_option maxRecDepth 100000
open Go.RowKit

theorem Rdv.drewN {w : World} {A : Option Addr} {n size : Nat} {ys : List Value} (h : Rdv w A n size ys) (k : Nat) : Rdv (w.drewN k) A n size ys := h.ext (fun _ _ => rfl)
theorem Rf.below {w w' : World} {B g : Nat} {A : Option Addr} {n c : Nat} {bs : List Nat} {bad : Bool} (h : Rf w B g A n c bs bad) (k : Below w.heap.size w w') : Rf w' B g A n c bs bad :=
  h.stays (k.block g h.lt) (fun j hj => k.block j (by have := h.lt; have := h.low; omega))
end Go.Proofs.Ytejpjbmbcdgomaa
