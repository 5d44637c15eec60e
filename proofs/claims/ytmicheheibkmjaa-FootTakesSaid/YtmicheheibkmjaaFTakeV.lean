/- The document's Take. -/
import Derived.Test.YtmicheheibkmjaaFTakeE
import Derived.Test.YtmicheheibkmjaaFPutR
import Derived.Test.YtmicheheibkmjaaFRefG
import Derived.Test.YtmicheheibkmjaaReg
namespace Go.Proofs.Ytmicheheibkmjaa
set_option maxRecDepth 100000
open Go.RowKit Go.Shelf

theorem tabB_P {t : Int} (h : tabB t = true) : tabP t := by
  unfold tabB at h
  simp only [Bool.and_eq_true, decide_eq_true_iff] at h
  exact h
theorem tab_of_good {f : Ft} (h : goodB f = true) : TabF f := by
  have hk : ∀ l : List K, kgB l = true → ∀ x ∈ l, tabP x.t := fun l hl x hx => by
    by_cases hg : kg l l.length
    · obtain ⟨i, hi, rfl⟩ := List.getElem_of_mem hx
      exact tabB_P (hg i hi hi).1
    · rw [kg_false hg] at hl; cases hl
  have hs : ∀ l : List Sp, sgB l = true → ∀ x ∈ l, tabP x.t := fun l hl x hx => by
    by_cases hg : sg l l.length
    · obtain ⟨i, hi, rfl⟩ := List.getElem_of_mem hx
      exact tabB_P (hg i hi hi).1
    · rw [sg_false hg] at hl; cases hl
  unfold goodB at h
  rw [Bool.and_eq_true, Bool.and_eq_true] at h
  exact ⟨hk _ h.1, hs _ h.2.2, hk _ h.2.1⟩
/-- Its keys are numbers. -/
def FitY (f : Ft) : Prop := (∀ y ∈ f.rs, Fits y.k) ∧ ∀ y ∈ f.ws, Fits y.k
theorem fit_of_good {f : Ft} (h : goodB f = true) (hy : FitY f) (hs : ∀ s ∈ f.sp, FitS s) (h1 : f.rs.length ≤ 100000) (h2 : f.sp.length ≤ 100000) (h3 : f.ws.length ≤ 100000) : FitF f := by
  obtain ⟨t1, t2, t3⟩ := tab_of_good h
  refine ⟨fun x hx => ⟨t1 x hx, hy.1 x hx⟩, fun x hx => ?_, fun x hx => ⟨t3 x hx, hy.2 x hx⟩, by omega, by omega, by omega⟩
  have := hs x hx
  unfold FitS at this
  exact ⟨t2 x hx, ⟨by omega, by omega⟩, by omega, by omega⟩
theorem putB_small (f : Ft) : ∀ b ∈ putB f, b < 256 := by
  have hk : ∀ x : K, ∀ b ∈ kB x, b < 256 := fun x b hb => by
    unfold kB at hb
    rcases List.mem_append.1 hb with h | h <;> exact cntN_small_all _ b h
  have hs : ∀ x : Sp, ∀ b ∈ sB x, b < 256 := fun x b hb => by
    unfold sB at hb
    rcases List.mem_append.1 hb with h | h
    · exact cntN_small_all _ b h
    · rcases List.mem_append.1 h with h | h <;> exact cntN_small_all _ b h
  have hks : ∀ l : List K, ∀ b ∈ ksB l, b < 256 := fun l b hb => by
    unfold ksB at hb
    rcases List.mem_append.1 hb with h | h
    · exact cntN_small_all _ b h
    · obtain ⟨x, _, hx⟩ := List.mem_flatMap.1 h
      exact hk x b hx
  intro b hb
  unfold putB at hb
  rcases List.mem_append.1 hb with h | h
  · exact hks _ b h
  · rcases List.mem_append.1 h with h | h
    · unfold ssB at h
      rcases List.mem_append.1 h with h | h
      · exact cntN_small_all _ b h
      · obtain ⟨x, _, hx⟩ := List.mem_flatMap.1 h
        exact hs x b hx
    · exact hks _ b h
set_option maxHeartbeats 16000000 in
theorem reftake_foot (A : Option Addr) (n c : Nat) (xs : List Nat) (w : World) (hr : Rdv w A n 1 (valsB xs)) (hnil : A = none → c = 0 ∧ n = 0) (hn : n ≤ 100000000) (hs : ∀ x ∈ xs, x < 256) :
    Calls Try.prog 29 #[.slice A n c] w fun e w' => ∃ x : FV, e = .returned (.tuple #[x.val, .bool (okM xs)]) ∧ FtG w' x (footM xs) ∧ Below w.heap.size w w' := by
  have hb0 := (Below.refl w.heap.size w).alloc (Nat.le_refl _) (.cells #[.slice none 0 0, .slice none 0 0, .slice none 0 0] 30)
  have HB0 := Lib.hid hb0
  have hxl : xs.length = n := by have := hr.1; rw [valsB_length] at this; omega
  have HXL := Lib.hid hxl
  have HS := Lib.hid hs
  have HRW := Lib.hid hr
  have hsz0 : (w.alloc (.cells #[.slice none 0 0, .slice none 0 0, .slice none 0 0] 30)).heap.size = w.heap.size + 1 := World.size_alloc ..
  have HSZ0 := Lib.hid hsz0
  have HNEW := Lib.hid (heap_alloc_new w (.cells #[.slice none 0 0, .slice none 0 0, .slice none 0 0] 30))
  have HNIL := Lib.hid hnil
  clear hr hnil hb0 hs hxl hsz0
  go_enter Try.func29, Try.ntmps29
  go_upto_region 1 with fail
  revert HB0 HNEW HSZ0
  generalize World.alloc w _ = W0
  intro HB0 HSZ0 HNEW
  have hbe := (Below.refl W0.heap.size W0).alloc (Nat.le_refl _) (.cells #[] 5)
  have HBE := Lib.hid (HB0.out.trans (hbe.mono HB0.out.size))
  have HRE := Lib.hid (show Rdv (W0.alloc (.cells #[] 5)) A n 1 (valsB xs) from HRW.out.ext (stays_b HBE.out))
  have HOE := Lib.hid ((hbe.block w.heap.size (by rw [HSZ0.out]; omega)).trans HNEW.out)
  have HSZE := Lib.hid (show (W0.alloc (.cells #[] 5)).heap.size = w.heap.size + 2 by rw [World.size_alloc, HSZ0.out])
  clear hbe
  go_wp2_with (at_builtin; refine wpList_append_empty elemB rfl (.tmp 9) (.tmp 10) rfl ⟨W0.heap.size, 0, none⟩ rfl A n c (valsB xs) rfl HRE.out (fun h => (HNIL.out h).1) (by unfold maxLen; omega) (by omega) ?_; intro A' c' w1 ha1 ha2 ha3 ha4)
  have HB1 := Lib.hid (HBE.out.trans (ha4.mono HBE.out.size))
  have HOUT1 := Lib.hid ((ha4.block w.heap.size (by rw [HSZE.out]; omega)).trans HOE.out)
  have hs1 := ha4.size
  rw [HSZE.out] at hs1
  have hlies : (A' = none ∧ n = 0 ∧ c' = 0) ∨ ∃ b off, A' = some ⟨b, off, none⟩ ∧ b < w1.heap.size ∧ n ≤ c' := by
    rcases ha2 with ⟨e, h0⟩ | ⟨e, h5, _⟩
    · exact .inr ⟨_, _, e, by have := HSZ0.out; omega, ha3⟩
    · exact .inr ⟨_, _, e, h5, ha3⟩
  have hb2 := (Below.refl w1.heap.size w1).alloc (Nat.le_refl _) (.cells #[.slice A' n c', .bool false] 88)
  have HRF := Lib.hid (show Rfx (w1.alloc (.cells #[.slice A' n c', .bool false] 88)) w1.heap.size w1.heap.size xs false from ⟨A', n, c', Nat.le_refl _, heap_alloc_new w1 _, ha1.ext (stays_b hb2), hlies, (fun h => by cases h), HS.out, by omega⟩)
  have HB2 := Lib.hid (HB1.out.trans (hb2.mono HB1.out.size))
  have HOUT2 := Lib.hid ((hb2.block w.heap.size (by omega)).trans HOUT1.out)
  have HSZ2 := Lib.hid (show (w1.alloc (.cells #[.slice A' n c', .bool false] 88)).heap.size = w1.heap.size + 1 from World.size_alloc ..)
  clear ha1 ha2 ha3 ha4 hb2 hlies HB1 HOUT1 HOE HRE HBE
  go_upto_region 2 with fail
  obtain ⟨g, hg⟩ : ∃ g, g = w1.heap.size := ⟨_, rfl⟩
  rw [← hg] at HRF HSZ2 ⊢
  rw [← hg] at hs1
  clear hg
  revert HB2 HOUT2 HRF HSZ2
  generalize World.alloc w1 _ = w2
  intro HB2 HOUT2 HSZ2 HRF
  have HT1 := Lib.hid (reftake_any g g xs false w2 HRF.out (by rw [HSZ2.out]; omega) (by rw [HSZ2.out]; omega))
  go_wp2_with fail
  refine Calls.mono HT1.out ?_
  rintro e w3 ⟨v1, rfl, ht1⟩
  have HKA := Lib.hid (listKM_all HS.out)
  have HL1 := Lib.hid (listM_len (R := kM) xs)
  have HTP := Lib.hid (show takeM xs = (⟨(listM kM xs).1, (listM sM (listM kM xs).2.1).1, (listM kM (listM sM (listM kM xs).2.1).2.1).1⟩, (listM kM (listM sM (listM kM xs).2.1).2.1).2) from rfl)
  obtain ⟨⟨l1, bs1, d1⟩, hL1⟩ : ∃ y, y = listM kM xs := ⟨_, rfl⟩
  rw [← hL1] at ht1 HKA HTP HL1
  dsimp only at ht1 HKA HTP HL1
  obtain ⟨A1, c1, rfl, _, _, _⟩ := rdv_own ht1.own
  have hs3 := ht1.only.size
  have HB3 := Lib.hid (HB2.out.trans (ht1.only.below (M := w.heap.size) (fun k e => by injection e with e; injection e with e; injection e with e; omega) HB2.out.size))
  have HOUT3 := Lib.hid ((OnlyG.at ht1.only (k := w.heap.size) (by have := HSZ2.out; omega) (by omega)).trans HOUT2.out)
  have hb4 := (Below.refl w3.heap.size w3).alloc (Nat.le_refl _) (.cells #[.slice A1 l1.length c1, .slice none 0 0, .slice none 0 0] 30)
  have h4 := ht1.later (by rw [HSZ2.out]; omega) (by rw [HSZ2.out]; omega) hb4
  have HTS := Lib.hid (show RSI (w3.alloc (.cells #[.slice A1 l1.length c1, .slice none 0 0, .slice none 0 0] 30)) (w3.alloc (.cells #[.slice A1 l1.length c1, .slice none 0 0, .slice none 0 0] 30)) g g w2.heap.size w3.heap.size (.slice A1 l1.length c1) (.slice none 0 0) l1 [] bs1 d1 from
    ⟨h4.rfx, rfl, rfl, rfl, Nat.le_refl _, fun _ _ _ => rfl, heap_alloc_new w3 _, h4.own, World.ownsRow_nil _ _ _ _⟩)
  have HLY := Lib.hid (show LayR (w3.alloc (.cells #[.slice A1 l1.length c1, .slice none 0 0, .slice none 0 0] 30)) g g w2.heap.size w3.heap.size from ⟨by rw [HSZ2.out]; omega, by rw [HSZ2.out]; omega, hs3, by rw [World.size_alloc]; omega⟩)
  have HOUT4 := Lib.hid ((hb4.block w.heap.size (by have := HSZ2.out; omega)).trans HOUT3.out)
  have HB4 := Lib.hid (HB3.out.trans (hb4.mono HB3.out.size))
  clear ht1 hL1 hb4 h4 HRF HT1
  go_upto_region 3 with fail
  obtain ⟨bx, hbx⟩ : ∃ bx, bx = w3.heap.size := ⟨_, rfl⟩
  rw [← hbx] at HTS HLY ⊢
  rw [← hbx] at hs3
  clear hbx
  revert HTS HLY HOUT4 HB4
  generalize World.alloc w3 _ = W3
  intro HOUT4 HB4 HLY HTS
  have HSM := Lib.hid (small_any g g bs1 d1 W3 HTS.out.rfx)
  go_wp2_with fail
  refine Calls.mono HSM.out ?_
  rintro e w4 ⟨rfl, hr4, ho4⟩
  have HT4 := Lib.hid (HTS.out.step HLY.out hr4 ho4)
  have HSA := Lib.hid (listSM_all HKA.out.2)
  have HL2 := Lib.hid (listM_len (R := sM) bs1)
  have hdef : listM sM bs1 = loopM sM (smallV (rcount bs1).1).toNat (rcount bs1).2.1 (rcount bs1).2.2 := rfl
  have hle := smallV_le (rcount bs1).1
  obtain ⟨L2, hL2⟩ : ∃ L, L = listM sM bs1 := ⟨_, rfl⟩
  rw [← hL2] at hdef HSA HTP HL2
  have hNl : (-1 : Int) ≤ smallV (rcount bs1).1 := by unfold smallV; split <;> omega
  obtain ⟨N, hN⟩ : ∃ N, N = smallV (rcount bs1).1 := ⟨_, rfl⟩
  obtain ⟨r, hr⟩ : ∃ r, r = (rcount bs1).2.1 := ⟨_, rfl⟩
  obtain ⟨d, hd⟩ : ∃ d, d = (rcount bs1).2.2 := ⟨_, rfl⟩
  rw [← hN, ← hr, ← hd] at hdef
  rw [← hr, ← hd] at HT4
  rw [← hN] at hle hNl ⊢
  obtain ⟨m, hm⟩ : ∃ m, m = N.toNat := ⟨_, rfl⟩
  rw [← hm] at hdef hle
  have hNm : N ≤ m := by omega
  have hNm2 : 0 < m → (m : Int) ≤ N := fun h => by omega
  have HNM := Lib.hid hNm2
  have HD2 := Lib.hid hdef
  clear hr4 ho4 hdef hL2 hm hN hr hd hNm2
  go_wp2_with fail
  go_loopw [7] (fun i wr => ∃ (q : Nat) (v2 : Value) (pre : List Sp) (bs' : List Nat) (bad' : Bool), i = .int .i64 (q : Int) ∧ q ≤ m ∧ pre.length = q ∧ Hid ((pre ++ (loopM sM (m - q) bs' bad').1, (loopM sM (m - q) bs' bad').2) = L2) ∧ RSI W3 wr g g w2.heap.size bx (.slice A1 l1.length c1) v2 l1 pre bs' bad') (fun i _ => m - (intOf i).toNat)
  case atStart => exact ⟨0, _, [], r, d, rfl, by omega, rfl, by rw [HD2.out]; exact Lib.hid rfl, HT4.out⟩
  case round =>
    obtain ⟨q, v2, pre, bs', bad', rfl, hq, hpl, hpre, hti⟩ := hrel
    have HPL := Lib.hid hpl
    obtain ⟨A2, c2, rfl, _, _, _⟩ := rdv_own hti.o2
    have HTI := Lib.hid hti
    obtain ⟨Ar, nr, cr, hrf⟩ := hti.rfx
    have k1 := hrf.c1
    clear hrf
    by_cases hgo : q < m ∧ bad' = false
    · obtain ⟨hlt, rfl⟩ := hgo
      have hqN : (q : Int) < N := by have := HNM.out (by omega); omega
      have HN := Lib.hid (loopM_next (R := sM) (m - q) bs' pre L2 (by omega) hpre.out)
      have hk : sM bs' = (⟨smallV (rcount bs').1, unfoldN (rcount (rcount bs').2.1).1, unfoldN (rcount (rcount (rcount bs').2.1).2.1).1⟩, (rcount (rcount (rcount bs').2.1).2.1).2) := rfl
      rw [hk] at HN
      have HS1 := Lib.hid (small_any g g bs' false wr hti.rfx)
      obtain ⟨T, hT⟩ : ∃ T, T = smallV (rcount bs').1 := ⟨_, rfl⟩
      rw [← hT] at HS1 HN
      clear hti hT hk hpl
      go_wp2_with fail
      refine Calls.mono HS1.out ?_
      rintro e w5 ⟨rfl, h3, h4⟩
      have H5 := Lib.hid (HTI.out.step HLY.out h3 h4)
      have hb6 := (Below.refl w5.heap.size w5).alloc (Nat.le_refl _) (.cells #[.int .i64 T, .int .i64 0, .int .i64 0] 54)
      have H6 := Lib.hid (H5.out.later HLY.out hb6)
      have HBX := Lib.hid (heap_alloc_new w5 (.cells #[.int .i64 T, .int .i64 0, .int .i64 0] 54))
      have hs5 : W3.heap.size ≤ w5.heap.size := H5.out.size
      have hlow := HLY.out.low
      have hgm := HLY.out.rdr
      have hmb := HLY.out.box
      have HV1 := Lib.hid (show (Value.slice A1 l1.length c1).ownBlock ≠ some w5.heap.size from fun e => by have := (H5.out.o1.lt _ e).2; omega)
      have HV2 := Lib.hid (show (Value.slice A2 pre.length c2).ownBlock ≠ some w5.heap.size from fun e => by have := (H5.out.o2.lt _ e).2; omega)
      have HSZ := Lib.hid (show w5.heap.size < (w5.alloc (.cells #[.int .i64 T, .int .i64 0, .int .i64 0] 54)).heap.size by rw [World.size_alloc]; omega)
      have HNU := Lib.hid (mnum_any g g _ _ _ H6.out.rfx)
      obtain ⟨z1, hz1⟩ : ∃ z, z = unfoldN (rcount (rcount bs').2.1).1 := ⟨_, rfl⟩
      rw [← hz1] at HNU HN
      clear h3 h4 hz1 hb6 k1
      go_wp2_with fail
      refine Calls.mono HNU.out ?_
      rintro e w6 ⟨rfl, h5, h6⟩
      have H7 := Lib.hid (H6.out.step HLY.out h5 h6)
      have hbx := (h6.at HSZ.out (by omega)).trans HBX.out
      have k1 : w6.cell? ⟨w5.heap.size, 1, none⟩ = some (.int .i64 0) := (cell_of_row w6 _ 1 _ 54 (0, 0) hbx).trans rfl
      have f1 : w6.frozen? ⟨w5.heap.size, 1, none⟩ = false := frozen_box hbx 1
      have HBX2 := Lib.hid (show (w6.setCell ⟨w5.heap.size, 1, none⟩ (.int .i64 z1)).heap[w5.heap.size]? = some (.cells #[.int .i64 T, .int .i64 z1, .int .i64 0] 54 (0, 0)) from box_set hbx 1 (.int .i64 z1))
      have H8 := Lib.hid (H7.out.set HLY.out (j := 1) (u := .int .i64 z1) hs5 HV1.out HV2.out)
      have HSZ8 := Lib.hid (show w5.heap.size < (w6.setCell ⟨w5.heap.size, 1, none⟩ (.int .i64 z1)).heap.size by rw [World.size_setCell]; exact Nat.lt_of_lt_of_le HSZ.out h6.size)
      clear h5 h6 hbx
      go_upto_region 9 with fail
      clear k1 f1
      revert H8 HBX2 HSZ8
      generalize World.setCell w6 _ _ = w7
      intro HBX2 H8 HSZ8
      have HNU2 := Lib.hid (mnum_any g g _ _ _ H8.out.rfx)
      obtain ⟨z2, hz2⟩ : ∃ z, z = unfoldN (rcount (rcount (rcount bs').2.1).2.1).1 := ⟨_, rfl⟩
      rw [← hz2] at HNU2 HN
      clear hz2
      go_wp2_with fail
      refine Calls.mono HNU2.out ?_
      rintro e w8 ⟨rfl, h5, h6⟩
      have H9 := Lib.hid (H8.out.step HLY.out h5 h6)
      have hbx := (h6.at HSZ8.out (by omega)).trans HBX2.out
      have k1 : w8.cell? ⟨w5.heap.size, 2, none⟩ = some (.int .i64 0) := (cell_of_row w8 _ 2 _ 54 (0, 0) hbx).trans rfl
      have f1 : w8.frozen? ⟨w5.heap.size, 2, none⟩ = false := frozen_box hbx 2
      have HBX3 := Lib.hid (show (w8.setCell ⟨w5.heap.size, 2, none⟩ (.int .i64 z2)).heap[w5.heap.size]? = some (.cells #[.int .i64 T, .int .i64 z1, .int .i64 z2] 54 (0, 0)) from box_set hbx 2 (.int .i64 z2))
      have H10 := Lib.hid (H9.out.set HLY.out (j := 2) (u := .int .i64 z2) hs5 HV1.out HV2.out)
      clear h5 h6 hbx
      go_upto_region 10 with fail
      clear k1 f1
      revert H10 HBX3
      generalize World.setCell w8 _ _ = w9
      intro HBX3 H10
      have j0 : w9.cell? ⟨w5.heap.size, 0, none⟩ = some (.int .i64 T) := (cell_of_row _ _ 0 _ 54 (0, 0) HBX3.out).trans rfl
      have j1 : w9.cell? ⟨w5.heap.size, 1, none⟩ = some (.int .i64 z1) := (cell_of_row _ _ 1 _ 54 (0, 0) HBX3.out).trans rfl
      have j2 : w9.cell? ⟨w5.heap.size, 2, none⟩ = some (.int .i64 z2) := (cell_of_row _ _ 2 _ 54 (0, 0) HBX3.out).trans rfl
      have j3 : w9.cell? ⟨bx, 1, none⟩ = some (.slice A2 pre.length c2) := H10.out.cells.2.1
      go_wp2_with (at_builtin; refine wpList_append_rowv elem28 rfl (.tmp 41) (.tmp 43) rfl W3.heap.size _ _ _ rfl (H10.out.o2.alloc (.cells #[.int .i64 T, .int .i64 z1, .int .i64 z2] 54)) (some ⟨w9.heap.size, 0, none⟩) 1 1 [.int .i64 T, .int .i64 z1, .int .i64 z2] rfl (rdv_one3 w9 _ _ _ 54) (svals_one ⟨_, _, _⟩) (fun h => by cases h) (by unfold maxLen; have := HPL.out; omega) (by have := HPL.out; omega) (by have := H10.out.size; rw [World.size_alloc]; omega) ?_; intro v10 w10 hown hgr _; obtain ⟨A10, c10, rfl, _, _, _⟩ := rdv_own hown; obtain ⟨hq10, hti10⟩ := RSI.push H10.out HLY.out ⟨T, z1, z2⟩ hown hgr; have i1 : w10.cell? ⟨bx, 1, none⟩ = some (.slice A2 pre.length c2) := (cell_of_row w10 _ 1 _ 30 (0, 0) hq10).trans rfl; have i2 : w10.frozen? ⟨bx, 1, none⟩ = false := frozen_box hq10 1; have H11 := Lib.hid hti10; clear hown hgr hq10 hti10)
      go_roundw
      case rel => exact ⟨q + 1, _, pre ++ [⟨T, z1, z2⟩], _, _, by go_num, by omega, by rw [List.length_append, HPL.out]; rfl, by have := HN.out; rw [show m - q - 1 = m - (q + 1) by omega] at this; exact Lib.hid this, H11.out⟩
      case measure => simp [intOf]; omega
    · have HL2E := Lib.hid (show L2 = (pre, bs', bad') by
        by_cases h : q < m
        · obtain rfl : bad' = true := by
            cases bad' with
            | true => rfl
            | false => exact absurd ⟨h, rfl⟩ hgo
          rw [← hpre.out, loopM_bad]
        · obtain rfl : q = m := by omega
          have hp := hpre.out
          rw [Nat.sub_self] at hp
          rw [← hp]; simp [loopM])
      have hout : ¬ (q : Int) < N ∨ ((q : Int) < N ∧ bad' = true) := by
        by_cases h : (q : Int) < N
        · refine .inr ⟨h, ?_⟩
          cases bad' with
          | true => rfl
          | false => exact absurd ⟨by omega, rfl⟩ hgo
        · exact .inl h
      have hL2 := HL2E.out
      subst hL2
      dsimp only at HSA HTP HL2
      have hsz := hti.size
      have hlow := HLY.out.low
      have hgm := HLY.out.rdr
      have hmb := HLY.out.box
      have HT5 := Lib.hid (reftake_any g g bs' bad' wr hti.rfx (by omega) (by omega))
      clear hti hpl hgo
      have hgs : w.heap.size < g := by omega
      rcases hout with hqN | ⟨hqN, rfl⟩
      all_goals
        go_wp2_with fail
        refine Calls.mono HT5.out ?_
        rintro e w5 ⟨v3, rfl, ht5⟩
        have HL3 := Lib.hid (listM_len (R := kM) bs')
        have HKB := Lib.hid (listKM_all HSA.out.2)
        obtain ⟨⟨l3, bs3, d3⟩, hL3⟩ : ∃ y, y = listM kM bs' := ⟨_, rfl⟩
        rw [← hL3] at ht5 HTP HL3 HKB
        dsimp only at ht5 HTP HL3 HKB
        obtain ⟨A3, c3, rfl, _, _, _⟩ := rdv_own ht5.own
        obtain ⟨y1, y2, hfn, hrd5⟩ := FN.makeR HTI.out HLY.out ht5 hgs HB4.out HOUT4.out HSA.out.1
        have HFN := Lib.hid hfn
        have HRD := Lib.hid hrd5
        clear hL3 ht5 hfn hrd5 HT5
        go_upto_region 12 with fail
        clear y1 y2
        revert HFN HRD
        generalize World.setCell w5 _ _ = W5
        intro HFN HRD
        obtain ⟨z0, z1, z2⟩ := HFN.out.c
        obtain ⟨r0, r1, r2⟩ := HFN.out.r
        have f0 := frozen_box HFN.out.ret 0
        have f1 := frozen_box HFN.out.ret 1
        have f2 := frozen_box HFN.out.ret 2
        have hgl : g < W5.heap.size := by obtain ⟨_, _, _, hrf⟩ := HRD.out; exact hrf.lt
        have HLT := Lib.hid (show ∀ W2, Below W5.drew.heap.size W5.drew W2 → FN w W2 bx (.slice A1 l1.length c1) (.slice A2 pre.length c2) (.slice A3 l3.length c3) l1 pre l3 from fun W2 hw => HFN.out.later ((Below.refl _ _).drew.trans hw))
        have HCE := Lib.hid (show ∀ W2, Below W5.drew.heap.size W5.drew W2 → W2.cell? ⟨bx, 0, none⟩ = some (.slice A1 l1.length c1) ∧ W2.cell? ⟨bx, 1, none⟩ = some (.slice A2 pre.length c2) ∧ W2.cell? ⟨bx, 2, none⟩ = some (.slice A3 l3.length c3) from fun W2 hw => (HLT.out W2 hw).c)
        obtain ⟨dn, hdn⟩ : ∃ b, b = (!d3 && decide (bs3 = [])) := ⟨_, rfl⟩
        have HDN := Lib.hid (show ∀ W2, Below W5.drew.heap.size W5.drew W2 → Calls Try.prog 64 #[.pointer (some ⟨g, 0, none⟩)] W2 fun e w' => e = .returned (.bool dn) ∧ W2 = w' from fun W2 hw => by
          rw [hdn]
          exact mdone_any g g bs3 d3 W2 (HRD.out.stays (hw.block g hgl) (fun k hk => hw.block k (Nat.lt_trans hk hgl))))
        have HDQ := Lib.hid hdn
        clear hdn
        cases dn with
        | false =>
          have HOK := Lib.hid (okM_no (show okM xs = false by rw [okM_eq HTP.out, ← HDQ.out]; rfl))
          go_wp2_with fail
          refine wp_region_noPanic ?_
          refine wp_region_abs 15 67 [.is (.pointer (some ⟨g, 0, none⟩)), .is (.bool false), .is (.bool true), .is (.bool true), .is undef, .is undef, .is undef, .is (.bool true), .is (.bool true), .is undef, .is undef, .is undef, .is undef, .is undef, .is undef]
            [49, 50, 51, 52, 53, 54, 55, 56, 57, 58, 59, 60, 61, 62, 63]
            [[], [0], [1], [2, 1], [3], [4, 3], [5, 3], [3, 6], [7, 5], [8], [9, 8], [10, 8], [8], [12, 8], [11, 13, 8]] (by kernel_rfl) (by rfl) rfl rfl (by kernel_rfl) (fun _ _ _ _ h => h.elim) ?_ ?_
          · refine ⟨?_, ?_, ?_, ?_, ?_, ?_, ?_, ?_, ?_, ?_, ?_, ?_, ?_, ?_, ?_, trivial⟩
            · intro W2 hw K hK
              go_simp
              exact hK _ _ rfl (Below.refl _ _)
            · intro W2 hw K hK
              have hcc := HDN.out W2 hw
              go_simp
              refine Calls.mono hcc ?_
              rintro e9 w5 ⟨rfl, rfl⟩
              exact hK _ _ rfl (Below.refl _ _)
            · intro W2 hw K hK
              go_simp
              exact hK _ _ rfl (Below.refl _ _)
            · intro W2 hw K hK
              go_simp
              exact hK _ _ rfl (Below.refl _ _)
            · intro W2 hw K hK
              go_simp
              exact hK _ _ rfl (Below.refl _ _)
            · intro W2 hw K hK
              go_simp
              exact hK _ _ rfl (Below.refl _ _)
            · intro W2 hw K hK
              go_simp
              exact hK _ _ rfl (Below.refl _ _)
            · intro W2 hw K hK
              go_simp
              exact hK _ _ rfl (Below.refl _ _)
            · intro W2 hw K hK
              go_simp
              exact hK _ _ rfl (Below.refl _ _)
            · intro W2 hw K hK
              go_simp
              exact hK _ _ rfl (Below.refl _ _)
            · intro W2 hw K hK
              go_simp
              exact hK _ _ rfl (Below.refl _ _)
            · intro W2 hw K hK
              go_simp
              exact hK _ _ rfl (Below.refl _ _)
            · intro W2 hw K hK
              go_simp
              exact hK _ _ rfl (Below.refl _ _)
            · intro W2 hw K hK
              go_simp
              exact hK _ _ rfl (Below.refl _ _)
            · intro W2 hw K hK
              go_simp
              exact hK _ _ rfl (Below.refl _ _)
          · intro W2 hw2
            simp only [Behind]
            have HFN7 := Lib.hid (HFN.out.later ((Below.refl _ _).drew.trans hw2))
            clear hw2 z0 z1 z2 r0 r1 r2 f0 f1 f2
            simp only [List.drop, Act.put, List.setIfInBounds_toArray, List.set_cons_zero, List.set_cons_succ]
            obtain ⟨z0, z1, z2⟩ := HFN7.out.c
            obtain ⟨r0, r1, r2⟩ := HFN7.out.r
            have f0 := frozen_box HFN7.out.ret 0
            have f1 := frozen_box HFN7.out.ret 1
            have f2 := frozen_box HFN7.out.ret 2
            go_wp2_with fail
            refine NoPanic.normal ?_
            go_wp2_with fail
            obtain ⟨s1, s2⟩ := HFN7.out.store (.slice none 0 0) (.slice none 0 0) (.slice none 0 0)
            exact bodyPost_ret (results29 _ w.heap.size nilF (.bool false) s1 _ rfl rfl) rfl ⟨_, by rw [HOK.out.1], by rw [HOK.out.2]; exact ftg_nil _, s2⟩
        | true =>
          have hdb : d3 = false ∧ bs3 = [] := by
            have := HDQ.out
            cases d3 with
            | true => cases this
            | false => exact ⟨rfl, of_decide_eq_true this.symm⟩
          obtain ⟨gb, hgb⟩ : ∃ r, r = goodB ⟨l1, pre, l3⟩ := ⟨_, rfl⟩
          have HGD := Lib.hid (show ∀ W2, Below W5.drew.heap.size W5.drew W2 → Calls Try.prog 21 #[.agg #[.slice A1 l1.length c1, .slice A2 pre.length c2, .slice A3 l3.length c3]] W2 fun e w' => e = .returned (.bool gb) ∧ Below W2.heap.size W2 w' from fun W2 hw => by
            rw [hgb]
            exact refgood_any ⟨A1, l1.length, c1, A2, pre.length, c2, A3, l3.length, c3⟩ ⟨l1, pre, l3⟩ W2 (HLT.out W2 hw).foot.at_ (HLT.out W2 hw).fit)
          have HGB := Lib.hid hgb
          have HDB := Lib.hid hdb
          clear hgb hdb
          cases gb with
          | false =>
            have HOK := Lib.hid (okM_no (show okM xs = false by rw [okM_eq HTP.out, ← HGB.out, Bool.false_and, Bool.and_false]))
            go_wp2_with fail
            refine wp_region_noPanic ?_
            refine wp_region_abs 15 67 [.is (.pointer (some ⟨g, 0, none⟩)), .is (.bool true), .is (.bool false), .is (.bool false), .is (.agg #[.slice A1 l1.length c1, .slice A2 pre.length c2, .slice A3 l3.length c3]), .is (.bool false), .is (.bool true), .is (.bool true), .is (.bool true), .is undef, .is undef, .is undef, .is undef, .is undef, .is undef]
              [49, 50, 51, 52, 53, 54, 55, 56, 57, 58, 59, 60, 61, 62, 63]
              [[], [0], [1], [2, 1], [3], [4, 3], [5, 3], [3, 6], [7, 5], [8], [9, 8], [10, 8], [8], [12, 8], [11, 13, 8]] (by kernel_rfl) (by rfl) rfl rfl (by kernel_rfl) (fun _ _ _ _ h => h.elim) ?_ ?_
            · refine ⟨?_, ?_, ?_, ?_, ?_, ?_, ?_, ?_, ?_, ?_, ?_, ?_, ?_, ?_, ?_, trivial⟩
              · intro W2 hw K hK
                go_simp
                exact hK _ _ rfl (Below.refl _ _)
              · intro W2 hw K hK
                have hcc := HDN.out W2 hw
                go_simp
                refine Calls.mono hcc ?_
                rintro e9 w5 ⟨rfl, rfl⟩
                exact hK _ _ rfl (Below.refl _ _)
              · intro W2 hw K hK
                go_simp
                exact hK _ _ rfl (Below.refl _ _)
              · intro W2 hw K hK
                go_simp
                exact hK _ _ rfl (Below.refl _ _)
              · intro W2 hw K hK
                obtain ⟨x0, x1, x2⟩ := HCE.out W2 hw
                go_simp
                exact hK _ _ rfl (Below.refl _ _)
              · intro W2 hw K hK
                have hcc := HGD.out W2 hw
                go_simp
                refine Calls.mono hcc ?_
                rintro e9 w5 ⟨rfl, hb5⟩
                exact hK _ _ rfl hb5
              · intro W2 hw K hK
                go_simp
                exact hK _ _ rfl (Below.refl _ _)
              · intro W2 hw K hK
                go_simp
                exact hK _ _ rfl (Below.refl _ _)
              · intro W2 hw K hK
                go_simp
                exact hK _ _ rfl (Below.refl _ _)
              · intro W2 hw K hK
                go_simp
                exact hK _ _ rfl (Below.refl _ _)
              · intro W2 hw K hK
                go_simp
                exact hK _ _ rfl (Below.refl _ _)
              · intro W2 hw K hK
                go_simp
                exact hK _ _ rfl (Below.refl _ _)
              · intro W2 hw K hK
                go_simp
                exact hK _ _ rfl (Below.refl _ _)
              · intro W2 hw K hK
                go_simp
                exact hK _ _ rfl (Below.refl _ _)
              · intro W2 hw K hK
                go_simp
                exact hK _ _ rfl (Below.refl _ _)
            · intro W2 hw2
              simp only [Behind]
              have HFN7 := Lib.hid (HFN.out.later ((Below.refl _ _).drew.trans hw2))
              clear hw2 z0 z1 z2 r0 r1 r2 f0 f1 f2
              simp only [List.drop, Act.put, List.setIfInBounds_toArray, List.set_cons_zero, List.set_cons_succ]
              obtain ⟨z0, z1, z2⟩ := HFN7.out.c
              obtain ⟨r0, r1, r2⟩ := HFN7.out.r
              have f0 := frozen_box HFN7.out.ret 0
              have f1 := frozen_box HFN7.out.ret 1
              have f2 := frozen_box HFN7.out.ret 2
              go_wp2_with fail
              refine NoPanic.normal ?_
              go_wp2_with fail
              obtain ⟨s1, s2⟩ := HFN7.out.store (.slice none 0 0) (.slice none 0 0) (.slice none 0 0)
              exact bodyPost_ret (results29 _ w.heap.size nilF (.bool false) s1 _ rfl rfl) rfl ⟨_, by rw [HOK.out.1], by rw [HOK.out.2]; exact ftg_nil _, s2⟩
          | true =>
            have HFT := Lib.hid (fit_of_good HGB.out.symm ⟨HKA.out.1, HKB.out.1⟩ HSA.out.1 HL1.out HL2 HL3.out)
            obtain ⟨P, hP⟩ : ∃ P, P = putB ⟨l1, pre, l3⟩ := ⟨_, rfl⟩
            have HPU := Lib.hid (show ∀ W2, Below W5.drew.heap.size W5.drew W2 → Calls Try.prog 27 #[.agg #[.slice A1 l1.length c1, .slice A2 pre.length c2, .slice A3 l3.length c3]] W2 fun e w' => ∃ v, e = .returned v ∧ OwnB w' (W2.heap.size + 1) v P ∧ Below W2.heap.size W2 w' from fun W2 hw => by
              rw [hP]
              exact refPut_any ⟨A1, l1.length, c1, A2, pre.length, c2, A3, l3.length, c3⟩ ⟨l1, pre, l3⟩ W2 (HLT.out W2 hw).foot HFT.out HL1.out HL2 HL3.out)
            have HPS := Lib.hid (show ∀ x ∈ P, x < 256 by rw [hP]; exact putB_small _)
            obtain ⟨s1, hs1⟩ : ∃ s, s = strN P := ⟨_, rfl⟩
            obtain ⟨s2, hs2⟩ : ∃ s, s = strN xs := ⟨_, rfl⟩
            have HS1 := Lib.hid hs1
            have HCV := Lib.hid (show ∀ W2, Below W5.drew.heap.size W5.drew W2 → (convert 40 9 (.slice A n c)).run Try.prog W2 = .ok (.string s2) W2 from fun W2 hw => by
              rw [hs2]
              exact run_str W2 A n c xs (HRW.out.ext (stays_b (HLT.out W2 hw).below)))
            obtain ⟨r, hr⟩ : ∃ r, r = !decide (P = xs) := ⟨_, rfl⟩
            have HNE := Lib.hid (show (!(s1.toList == s2.toList)) = r by
              have h := strN_beq P xs HPS.out HS.out
              rw [← hs1, ← hs2] at h
              rw [hr, ← h])
            have HPP := Lib.hid hP
            have HRQ := Lib.hid hr
            clear hP hs1 hs2 hr
            go_wp2_with fail
            refine wp_region_noPanic ?_
            refine wp_region_abs 15 67 [.is (.pointer (some ⟨g, 0, none⟩)), .is (.bool true), .is (.bool false), .is (.bool false), .is (.agg #[.slice A1 l1.length c1, .slice A2 pre.length c2, .slice A3 l3.length c3]), .is (.bool true), .is (.bool false), .is (.bool false), .is (.bool false), .is (.agg #[.slice A1 l1.length c1, .slice A2 pre.length c2, .slice A3 l3.length c3]), .tells (fun _ v _ wa => ∃ A9 c9, v = .slice A9 P.length c9 ∧ Rdv wa A9 P.length 1 (valsB P)), .is (.string s1), .is (.slice A n c), .is (.string s2), .is (.bool r)]
              [49, 50, 51, 52, 53, 54, 55, 56, 57, 58, 59, 60, 61, 62, 63]
              [[], [0], [1], [2, 1], [3], [4, 3], [5, 3], [3, 6], [7, 5], [8], [9, 8], [10, 8], [8], [12, 8], [11, 13, 8]] (by kernel_rfl) (by rfl) rfl rfl (by kernel_rfl) (fun _ _ _ _ h => h.elim) ?_ ?_
            · refine ⟨?_, ?_, ?_, ?_, ?_, ?_, ?_, ?_, ?_, ?_, ?_, ?_, ?_, ?_, ?_, trivial⟩
              · intro W2 hw K hK
                go_simp
                exact hK _ _ rfl (Below.refl _ _)
              · intro W2 hw K hK
                have hcc := HDN.out W2 hw
                go_simp
                refine Calls.mono hcc ?_
                rintro e9 w5 ⟨rfl, rfl⟩
                exact hK _ _ rfl (Below.refl _ _)
              · intro W2 hw K hK
                go_simp
                exact hK _ _ rfl (Below.refl _ _)
              · intro W2 hw K hK
                go_simp
                exact hK _ _ rfl (Below.refl _ _)
              · intro W2 hw K hK
                obtain ⟨x0, x1, x2⟩ := HCE.out W2 hw
                go_simp
                exact hK _ _ rfl (Below.refl _ _)
              · intro W2 hw K hK
                have hcc := HGD.out W2 hw
                go_simp
                refine Calls.mono hcc ?_
                rintro e9 w5 ⟨rfl, hb5⟩
                exact hK _ _ rfl hb5
              · intro W2 hw K hK
                go_simp
                exact hK _ _ rfl (Below.refl _ _)
              · intro W2 hw K hK
                go_simp
                exact hK _ _ rfl (Below.refl _ _)
              · intro W2 hw K hK
                go_simp
                exact hK _ _ rfl (Below.refl _ _)
              · intro W2 hw K hK
                obtain ⟨x0, x1, x2⟩ := HCE.out W2 hw
                go_simp
                exact hK _ _ rfl (Below.refl _ _)
              · intro W2 hw K hK
                have hcc := HPU.out W2 hw
                go_simp
                refine Calls.mono hcc ?_
                rintro e9 w5 ⟨v9, rfl, ho9, hb5⟩
                obtain ⟨A9, c9, rfl, hr9, _, _⟩ := ho9.rdv
                exact hK _ _ ⟨A9, c9, rfl, hr9⟩ hb5
              · rintro W2 hw v _ wa ⟨_, A9, c9, rfl, h9⟩ x9 K hK
                have e9 := run_str W2 A9 P.length c9 P (h9.ext (stays_b x9))
                rw [← HS1.out] at e9
                go_simp
                exact hK _ _ rfl (Below.refl _ _)
              · intro W2 hw K hK
                go_simp
                exact hK _ _ rfl (Below.refl _ _)
              · intro W2 hw K hK
                have e9 := HCV.out W2 hw
                go_simp
                exact hK _ _ rfl (Below.refl _ _)
              · intro W2 hw K hK
                have e9 := HNE.out
                go_simp
                exact hK _ _ rfl (Below.refl _ _)
            · intro W2 hw2
              intro v9 _ _ _ _ _ _
              simp only [Behind]
              have HFN7 := Lib.hid (HFN.out.later ((Below.refl _ _).drew.trans hw2))
              clear hw2 z0 z1 z2 r0 r1 r2 f0 f1 f2
              simp only [List.drop, Act.put, List.setIfInBounds_toArray, List.set_cons_zero, List.set_cons_succ]
              obtain ⟨z0, z1, z2⟩ := HFN7.out.c
              obtain ⟨r0, r1, r2⟩ := HFN7.out.r
              have f0 := frozen_box HFN7.out.ret 0
              have f1 := frozen_box HFN7.out.ret 1
              have f2 := frozen_box HFN7.out.ret 2
              cases r with
              | true =>
                have HOK := Lib.hid (okM_no (show okM xs = false by
                  have h := HRQ.out
                  rw [HPP.out] at h
                  have h2 : decide (putB ⟨l1, pre, l3⟩ = xs) = false := by simpa using h.symm
                  rw [okM_eq HTP.out, h2, Bool.and_false, Bool.and_false]))
                go_wp2_with fail
                refine NoPanic.normal ?_
                go_wp2_with fail
                obtain ⟨s1, s2⟩ := HFN7.out.store (.slice none 0 0) (.slice none 0 0) (.slice none 0 0)
                exact bodyPost_ret (results29 _ w.heap.size nilF (.bool false) s1 _ rfl rfl) rfl ⟨_, by rw [HOK.out.1], by rw [HOK.out.2]; exact ftg_nil _, s2⟩
              | false =>
                have HOK := Lib.hid (show okM xs = true ∧ footM xs = ⟨l1, pre, l3⟩ from by
                  have h := HRQ.out
                  rw [HPP.out] at h
                  have h2 : putB ⟨l1, pre, l3⟩ = xs := by simpa using h.symm
                  have h3 := HTP.out
                  rw [HDB.out.1, HDB.out.2] at h3
                  exact okM_yes h3 HGB.out.symm h2)
                go_wp2_with fail
                refine NoPanic.normal ?_
                go_wp2_with fail
                obtain ⟨s1, s2⟩ := HFN7.out.store (.slice A1 l1.length c1) (.slice A2 pre.length c2) (.slice A3 l3.length c3)
                have s3 := HFN7.out.done (.slice A1 l1.length c1) (.slice A2 pre.length c2) (.slice A3 l3.length c3)
                exact bodyPost_ret (results29 _ w.heap.size ⟨A1, l1.length, c1, A2, pre.length, c2, A3, l3.length, c3⟩ (.bool true) s1 _ rfl rfl) rfl ⟨_, by rw [HOK.out.1], by rw [HOK.out.2]; exact s3, s2⟩
end Go.Proofs.Ytmicheheibkmjaa
