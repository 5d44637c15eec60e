/- SlRefO: put together. -/
import Derived.Test.YtjmjehhmkjhalaaQb37
/- The document's Open of a manifest. Written by gen_slrefo.py. -/
namespace Go.Proofs.Ytjmjehhmkjhalaa
set_option maxRecDepth 100000
open Go.RowKit

set_option maxHeartbeats 8000000 in
theorem drefopen_any (l : List Nat) (hl : l.length = 64) (hs : ∀ x ∈ l, x < 256) (w : World) :
    Calls Try.prog 56 #[.agg (secV l)] w fun e w' => DOpE l w e w' ∧ Below w.heap.size w w' := by
  have HL := Lib.hid hl
  have HS := Lib.hid hs
  have HOP := Lib.hid (fun W => refOpen_any l hl hs W)
  clear hl hs
  go_enter Try.func56, Try.ntmps56
  go_upto_region 1 with (fail)
  obtain ⟨rp, hrp⟩ : ∃ rp, rp = w.heap.size + 1 := ⟨_, rfl⟩
  obtain ⟨w1, hw1⟩ : ∃ w1, w1 = (w.alloc (.cells (secV l) 75)).alloc (.cells zeroC 91) := ⟨_, rfl⟩
  have hb1 : Below w.heap.size w w1 := by rw [hw1]; exact ((Below.refl _ w).alloc (Nat.le_refl _) _).alloc (by simp) _
  have h1s : Sec w1 w.heap.size l := by rw [hw1]; exact (heap_alloc_old _ _ (by simp)).trans (heap_alloc_new w _)
  have h1r : w1.heap[rp]? = some (.cells zeroC 91 (0, 0)) := by rw [hw1, hrp]; exact heap_alloc2_new w _ _
  have H1 := Lib.hid (And.intro hb1 (And.intro h1s (And.intro h1r (by omega : w.heap.size ≤ rp))))
  unfold zeroC at hw1
  rw [← hw1, ← hrp]
  clear hw1 hrp hb1 h1s h1r
  go_wp2_with (first | refine wpList_load_sec (by rfl) (.tmp 1) rfl w.heap.size rfl l HL.out H1.out.2.1 ?_)
  refine Calls.mono (HOP.out w1) ?_
  rintro e w2 ⟨ho, hb2⟩
  obtain ⟨h1a, h1b, h1c, h1d⟩ := H1.out
  have hr2 : w2.heap[rp]? = some (.cells zeroC 91 (0, 0)) := (hb2.block _ (Array.getElem?_eq_some_iff.1 h1c).1).trans h1c
  have H2 := Lib.hid (And.intro (h1a.trans (hb2.mono h1a.size)) (And.intro hr2 h1d))
  clear h1a h1b h1c h1d hr2 hb2 H1
  rcases ho with ⟨hn, rfl⟩ | ⟨st, kd, d, A, c, hn, rfl, hr, hnil, hle, hlt⟩
  · have HN := Lib.hid (openM_none (f := c50) hn)
    clear hn
    go_upto_region 2 with (fail)
    obtain ⟨w3, hw3⟩ : ∃ w3, w3 = w2.alloc (.cells #[.int .i64 0, .int .i64 0, .slice none 0 0] 172) := ⟨_, rfl⟩
    have hb3 : Below w2.heap.size w2 w3 := by rw [hw3]; exact (Below.refl _ _).alloc (Nat.le_refl _) _
    have g3 : w3.heap[w2.heap.size]? = some (.cells #[.int .i64 0, .int .i64 0, .slice none 0 0] 172 (0, 0)) := by rw [hw3]; exact heap_alloc_new w2 _
    rw [← hw3]
    clear hw3
    obtain ⟨h2a, h2b, h2c⟩ := H2.out
    have hr3 := (hb3.block _ (Array.getElem?_eq_some_iff.1 h2b).1).trans h2b
    have k0 := (cell_of_row _ _ 0 _ _ (0, 0) hr3).trans rfl
    have k1 := (cell_of_row _ _ 1 _ _ (0, 0) hr3).trans rfl
    have k2 := (cell_of_row _ _ 2 _ _ (0, 0) hr3).trans rfl
    have k3 := (cell_of_row _ _ 3 _ _ (0, 0) hr3).trans rfl
    have k4 := (cell_of_row _ _ 4 _ _ (0, 0) hr3).trans rfl
    have k5 := (cell_of_row _ _ 5 _ _ (0, 0) hr3).trans rfl
    have f0 := frozen_at hr3 0
    have f1 := frozen_at hr3 1
    have f2 := frozen_at hr3 2
    have f3 := frozen_at hr3 3
    have f4 := frozen_at hr3 4
    have f5 := frozen_at hr3 5
    unfold zeroC at k0 k1 k2 k3 k4 k5
    have HF := Lib.hid (finD_bad hr3 (h2a.trans (hb3.mono h2a.size)) h2c HN.out)
    clear h2a h2b h2c hr3 hb3 g3
    go_wp2_with fail
    refine bodyPost_ret (resRO HF.out.1 _ rfl) rfl ?_
    exact HF.out.2
  · have HDS := Lib.hid (openN_small HS.out hn)
    have HON := Lib.hid hn
    have HR := Lib.hid hr
    have hlr : (A = none ∧ d.length = 0 ∧ c = 0) ∨ ∃ b off, A = some ⟨b, off, none⟩ ∧ b < w2.heap.size ∧ d.length ≤ c := by
      rcases hlt with h0 | ⟨b, h0, h1⟩
      · have h2 := hnil h0
        exact .inl ⟨h0, by omega, h2⟩
      · exact .inr ⟨b, 0, h0, h1, hle⟩
    clear hnil hle hlt
    obtain ⟨n, hdn⟩ : ∃ n, n = d.length := ⟨_, rfl⟩
    rw [← hdn] at HR HDS hlr ⊢
    have HLR := Lib.hid hlr
    clear hlr
    have HDN := Lib.hid hdn
    clear hn hr hdn
    by_cases hk : kd = 3
    · subst hk
      go_upto_region 4 with (fail)
      obtain ⟨w3, hw3⟩ : ∃ w3, w3 = w2.alloc (.cells #[.int .i64 (st : Int), .int .i64 3, .slice A n c] 172) := ⟨_, rfl⟩
      have hb3 : Below w2.heap.size w2 w3 := by rw [hw3]; exact (Below.refl _ _).alloc (Nat.le_refl _) _
      have g3 : w3.heap[w2.heap.size]? = some (.cells #[.int .i64 (st : Int), .int .i64 3, .slice A n c] 172 (0, 0)) := by rw [hw3]; exact heap_alloc_new w2 _
      rw [← hw3]
      obtain ⟨xb, hxb⟩ : ∃ xb, xb = w2.heap.size := ⟨_, rfl⟩
      rw [← hxb] at g3 ⊢
      obtain ⟨h2a, h2b, h2c⟩ := H2.out
      have hr3 := (hb3.block _ (Array.getElem?_eq_some_iff.1 h2b).1).trans h2b
      have x2 := (cell_of_row _ _ 2 _ _ (0, 0) g3).trans rfl
      have HR3 := Lib.hid (HR.out.ext (stays_b hb3))
      have H3 := Lib.hid (And.intro (h2a.trans (hb3.mono h2a.size)) (And.intro hr3 h2c))
      have HG3 := Lib.hid g3
      have HB3S := Lib.hid hb3.size
      clear hw3 hxb h2a h2b h2c hr3 hb3 g3 HR H2
      go_upto_region 5 with (fail)
      obtain ⟨gr, hgr⟩ : ∃ gr, gr = w3.heap.size := ⟨_, rfl⟩
      obtain ⟨w4, hw4⟩ : ∃ w4, w4 = w3.alloc (.cells #[.slice A n c, .bool false] 179) := ⟨_, rfl⟩
      have hb4 : Below w3.heap.size w3 w4 := by rw [hw4]; exact (Below.refl _ _).alloc (Nat.le_refl _) _
      have g4 : w4.heap[gr]? = some (.cells #[.slice A n c, .bool false] 179 (0, 0)) := by rw [hw4, hgr]; exact heap_alloc_new w3 _
      have hRF : Rfx w4 gr gr d false := ⟨A, n, c, ⟨Nat.le_refl _, g4, HR3.out.ext (stays_b hb4), by
        rcases HLR.out with h | ⟨b, off, h1, h2, h3⟩
        · exact .inl h
        · exact .inr ⟨b, off, h1, by have := HB3S.out; omega, h3⟩, (fun h => by cases h), HDS.out.1, by have := HDS.out.2; omega⟩⟩
      have hI4 : (Below w.heap.size w w4 ∧ w4.heap[rp]? = some (.cells zeroC 91 (0, 0)) ∧ w.heap.size ≤ rp ∧ rp < gr ∧ w.heap.size ≤ gr) := by
        obtain ⟨h3a, h3b, h3c⟩ := H3.out
        have h9 := (Array.getElem?_eq_some_iff.1 h3b).1
        exact ⟨h3a.trans (hb4.mono h3a.size), (hb4.block _ h9).trans h3b, h3c, by omega, by have := h3a.size; omega⟩
      have H4 := Lib.hid hI4
      have HRF := Lib.hid hRF
      have g3' := (hb4.block _ (Array.getElem?_eq_some_iff.1 HG3.out).1).trans HG3.out
      have hTI : TI w w4 rp xb gr d false #[.int .i64 (st : Int), .int .i64 3, .slice A n c] :=
        ⟨H4.out.1, H4.out.2.1, g3', hRF, H4.out.2.2.2.1, by have := (Array.getElem?_eq_some_iff.1 HG3.out).1; omega, H4.out.2.2.1⟩
      have HT := Lib.hid hTI.drew
      rw [← hw4, ← hgr]
      clear hw4 hgr hb4 g4 hRF hI4 H3 HG3 HB3S x2 g3' HR3 HLR H4 HRF hTI
      have x0 := (cell_of_row _ _ 0 _ _ (0, 0) HT.out.sl).trans rfl
      have HS0 := HDS.out.1
      obtain ⟨v1, hv1⟩ : ∃ v, v = c50 (rcount d).1 := ⟨_, rfl⟩
      obtain ⟨b1, hb1⟩ : ∃ x, x = (rcount d).2.1 := ⟨_, rfl⟩
      obtain ⟨y1, hy1⟩ : ∃ x, x = (rcount d).2.2 := ⟨_, rfl⟩
      have HTC := Lib.hid (show ∀ W, TI w W rp xb gr d false #[.int .i64 (st : Int), .int .i64 3, .slice A n c] → Calls Try.prog 124 #[.pointer (some ⟨gr, 0, none⟩)] W fun e w' => e = .returned (.int .i64 v1) ∧ TI w w' rp xb gr b1 y1 #[.int .i64 (st : Int), .int .i64 3, .slice A n c] ∧ (∀ k, k < W.heap.size → k ≠ gr → w'.heap[k]? = W.heap[k]?) ∧ W.heap.size ≤ w'.heap.size from fun W h => by rw [hv1, hb1, hy1]; exact h.count)
      have HV1 := Lib.hid hv1
      have HX1 := Lib.hid hb1
      have s1 := rcount_small (bs := d) HS0
      have l1 := rcount_len (bs := d) HS0
      rw [← hb1] at s1 l1
      have HS1 := Lib.hid s1
      have HL1 := Lib.hid (show b1.length ≤ 50 by have := HDS.out.2; have := HDN.out; omega)
      clear hv1 hb1 hy1 s1 l1 HS0
      go_cut [7] from 27 to 31 (fun z wx => ∃ mb, z = .pointer (some ⟨mb, 0, none⟩) ∧ DI w wx rp mb gr gr b1 y1 #[.int .i64 (st : Int), .int .i64 v1, .int .i64 0, .int .i64 0, .int .i64 0, .slice none 0 0] ∧ gr < mb)
      case first =>
        have hbA : Below w4.heap.size w4 (w4.alloc (.cells #[.int .i64 0, .int .i64 0, .int .i64 0, .int .i64 0, .int .i64 0, .slice none 0 0] 91)) := (Below.refl _ _).alloc (Nat.le_refl _) _
        have HTA := Lib.hid ((HT.out.of_drew.later hbA).drew)
        have HMA := Lib.hid (And.intro (heap_alloc_new w4 (.cells #[.int .i64 0, .int .i64 0, .int .i64 0, .int .i64 0, .int .i64 0, .slice none 0 0] 91)) HT.out.of_drew.gl)
        have x1 := (cell_of_row _ _ 0 _ _ (0, 0) HTA.out.sl).trans rfl
        clear hbA
        go_region_law (first | (go_simp; go_at_call 124; refine Calls.mono (HTC.out _ HTA.out) ?_; rintro e wn ⟨rfl, ht, hk, hz⟩; have hm := (hk w4.heap.size (by have := (Array.getElem?_eq_some_iff.1 HMA.out.1).1; exact this) (by have := HMA.out.2; omega)).trans HMA.out.1; have HMB := Lib.hid hm; have HMG := Lib.hid HMA.out.2; have HT9 := Lib.hid ht; have x2 := (cell_of_row _ _ 0 _ _ (0, 0) ht.sl).trans rfl; have k0 := (cell_of_row _ _ 0 _ _ (0, 0) hm).trans rfl; have k1 := (cell_of_row _ _ 1 _ _ (0, 0) hm).trans rfl; have k2 := (cell_of_row _ _ 2 _ _ (0, 0) hm).trans rfl; have k3 := (cell_of_row _ _ 3 _ _ (0, 0) hm).trans rfl; have k4 := (cell_of_row _ _ 4 _ _ (0, 0) hm).trans rfl; have k5 := (cell_of_row _ _ 5 _ _ (0, 0) hm).trans rfl; have f0 := frozen_at hm 0; have f1 := frozen_at hm 1; have f2 := frozen_at hm 2; have f3 := frozen_at hm 3; have f4 := frozen_at hm 4; have f5 := frozen_at hm 5; clear ht hk hz hm) | (go_simp; go_at_call 124; refine Calls.mono (HTC.out _ HT.out) ?_; rintro e wn ⟨rfl, ht, hk, hz⟩; have x2 := (cell_of_row _ _ 0 _ _ (0, 0) ht.sl).trans rfl; have HDB := Lib.hid (ht.fresh #[.int .i64 (st : Int), .int .i64 v1, .int .i64 0, .int .i64 0, .int .i64 0, .slice none 0 0]); have HMG := Lib.hid ht.gl; have x3 := (cell_of_row _ _ 0 _ _ (0, 0) (ht.later ((Below.refl _ wn).alloc (Nat.le_refl _) (.cells #[.int .i64 0, .int .i64 0, .int .i64 0, .int .i64 0, .int .i64 0, .slice none 0 0] 91))).sl).trans rfl; clear ht hk hz))
        all_goals first
          | (have HDQ := HDB
             go_wp2_with fail
             go_meet
             exact ⟨_, rfl, HDB.out, HMG.out⟩)
          | (have HDI := Lib.hid (HT9.out.open HMB.out HMG.out (.int .i64 (st : Int)) (.int .i64 v1) (.int .i64 0) (.int .i64 0) (.int .i64 0) (.slice none 0 0))
             go_wp2_with fail
             go_meet
             exact ⟨_, rfl, HDI.out, HMG.out⟩)
      case rest =>
      obtain ⟨mb, rfl, hD, hgm⟩ := hcut
      have HJ1 := Lib.hid hD
      have HGM := Lib.hid hgm
      clear hD hgm x0 HT HTC
      -- three counts
      obtain ⟨v2, hv2⟩ : ∃ v, v = c50 (rcount b1).1 := ⟨_, rfl⟩
      have s2 := rcount_small (bs := b1) HS1.out
      have l2 := rcount_len (bs := b1) HS1.out
      have HC2 := Lib.hid HJ1.out.count
      obtain ⟨b2, hb2⟩ : ∃ x, x = (rcount b1).2.1 := ⟨_, rfl⟩
      obtain ⟨y2, hy2⟩ : ∃ x, x = (rcount b1).2.2 := ⟨_, rfl⟩
      rw [← hb2] at s2 l2
      rw [← hv2, ← hb2, ← hy2] at HC2
      have HV2 := Lib.hid hv2
      have HX2 := Lib.hid hb2
      have HS2 := Lib.hid s2
      have HL2 := Lib.hid (show b2.length ≤ 50 by have := HL1.out; omega)
      clear hv2 hb2 hy2 s2 l2
      go_wp2_with fail
      refine Calls.mono HC2.out ?_
      rintro e u2 ⟨rfl, hi, _, _⟩
      have f1 := frozen_at hi.mf 2
      have k1 := (cell_of_row _ _ 2 _ _ (0, 0) hi.mf).trans rfl
      have HK2 := Lib.hid hi
      clear hi
      go_wp2_with fail
      obtain ⟨t2, ht2⟩ : ∃ t, t = u2.setCell ⟨mb, 2, none⟩ (.int .i64 v2) := ⟨_, rfl⟩
      have HJ2 : Hid (DI w t2 rp mb gr gr b2 y2 #[.int .i64 (st : Int), .int .i64 v1, .int .i64 v2, .int .i64 0, .int .i64 0, .slice none 0 0]) := Lib.hid (by rw [ht2]; exact HK2.out.set (by have := HGM.out; omega) 2 (.int .i64 v2))
      rw [← ht2]
      clear ht2 f1 k1 HK2
      obtain ⟨v3, hv3⟩ : ∃ v, v = c50 (rcount b2).1 := ⟨_, rfl⟩
      have s3 := rcount_small (bs := b2) HS2.out
      have l3 := rcount_len (bs := b2) HS2.out
      have HC3 := Lib.hid HJ2.out.count
      obtain ⟨b3, hb3⟩ : ∃ x, x = (rcount b2).2.1 := ⟨_, rfl⟩
      obtain ⟨y3, hy3⟩ : ∃ x, x = (rcount b2).2.2 := ⟨_, rfl⟩
      rw [← hb3] at s3 l3
      rw [← hv3, ← hb3, ← hy3] at HC3
      have HV3 := Lib.hid hv3
      have HX3 := Lib.hid hb3
      have HS3 := Lib.hid s3
      have HL3 := Lib.hid (show b3.length ≤ 50 by have := HL2.out; omega)
      clear hv3 hb3 hy3 s3 l3
      go_wp2_with fail
      refine Calls.mono HC3.out ?_
      rintro e u3 ⟨rfl, hi, _, _⟩
      have f1 := frozen_at hi.mf 3
      have k1 := (cell_of_row _ _ 3 _ _ (0, 0) hi.mf).trans rfl
      have HK3 := Lib.hid hi
      clear hi
      go_wp2_with fail
      obtain ⟨t3, ht3⟩ : ∃ t, t = u3.setCell ⟨mb, 3, none⟩ (.int .i64 v3) := ⟨_, rfl⟩
      have HJ3 : Hid (DI w t3 rp mb gr gr b3 y3 #[.int .i64 (st : Int), .int .i64 v1, .int .i64 v2, .int .i64 v3, .int .i64 0, .slice none 0 0]) := Lib.hid (by rw [ht3]; exact HK3.out.set (by have := HGM.out; omega) 3 (.int .i64 v3))
      rw [← ht3]
      clear ht3 f1 k1 HK3
      obtain ⟨v4, hv4⟩ : ∃ v, v = c50 (rcount b3).1 := ⟨_, rfl⟩
      have s4 := rcount_small (bs := b3) HS3.out
      have l4 := rcount_len (bs := b3) HS3.out
      have HC4 := Lib.hid HJ3.out.count
      obtain ⟨b4, hb4⟩ : ∃ x, x = (rcount b3).2.1 := ⟨_, rfl⟩
      obtain ⟨y4, hy4⟩ : ∃ x, x = (rcount b3).2.2 := ⟨_, rfl⟩
      rw [← hb4] at s4 l4
      rw [← hv4, ← hb4, ← hy4] at HC4
      have HV4 := Lib.hid hv4
      have HX4 := Lib.hid hb4
      have HS4 := Lib.hid s4
      have HL4 := Lib.hid (show b4.length ≤ 50 by have := HL3.out; omega)
      clear hv4 hb4 hy4 s4 l4
      go_wp2_with fail
      refine Calls.mono HC4.out ?_
      rintro e u4 ⟨rfl, hi, _, _⟩
      have f1 := frozen_at hi.mf 4
      have k1 := (cell_of_row _ _ 4 _ _ (0, 0) hi.mf).trans rfl
      have HK4 := Lib.hid hi
      clear hi
      go_wp2_with fail
      obtain ⟨t4, ht4⟩ : ∃ t, t = u4.setCell ⟨mb, 4, none⟩ (.int .i64 v4) := ⟨_, rfl⟩
      have HJ4 : Hid (DI w t4 rp mb gr gr b4 y4 #[.int .i64 (st : Int), .int .i64 v1, .int .i64 v2, .int .i64 v3, .int .i64 v4, .slice none 0 0]) := Lib.hid (by rw [ht4]; exact HK4.out.set (by have := HGM.out; omega) 4 (.int .i64 v4))
      rw [← ht4]
      clear ht4 f1 k1 HK4
      obtain ⟨k5, hk5⟩ : ∃ x, x = (rcount b4).1 := ⟨_, rfl⟩
      obtain ⟨n5, hn5⟩ : ∃ x, x = c50 k5 := ⟨_, rfl⟩
      obtain ⟨b5, hb5⟩ : ∃ x, x = (rcount b4).2.1 := ⟨_, rfl⟩
      obtain ⟨y5, hy5⟩ : ∃ x, x = (rcount b4).2.2 := ⟨_, rfl⟩
      have HC5 := Lib.hid HJ4.out.count
      have s5 := rcount_small (bs := b4) HS4.out
      have l5 := rcount_len (bs := b4) HS4.out
      rw [← hb5] at s5 l5
      rw [← hk5, ← hn5, ← hb5, ← hy5] at HC5
      have HSB := Lib.hid s5
      have HLB := Lib.hid (show b5.length ≤ 50 by have := HL4.out; omega)
      have HAT : Hid (b5 = atH d) := Lib.hid (by rw [hb5, HX4.out, HX3.out, HX2.out, HX1.out]; rfl)
      have HKN : Hid (k5 = cntH d) := Lib.hid (by rw [hk5, HX4.out, HX3.out, HX2.out, HX1.out]; rfl)
      have HN5 : Hid ((n5 = -1 ∧ 5 ≤ k5) ∨ (n5 = (k5 : Int))) := Lib.hid (by
        rw [hn5]; unfold c50
        split
        · exact .inl ⟨rfl, by omega⟩
        · exact .inr rfl)
      clear hk5 hb5 hy5 s5 l5 hn5
      go_wp2_with fail
      refine Calls.mono HC5.out ?_
      rintro e w9 ⟨rfl, hi9, _, _⟩
      have HI9 := Lib.hid hi9
      clear hi9
      go_wp2_with fail
      obtain ⟨bh, hbh⟩ : ∃ bh, bh = w9.heap.size := ⟨_, rfl⟩
      have HBH := Lib.hid (show mb < bh ∧ w.heap.size ≤ bh ∧ bh ≤ w9.heap.size ∧ rp < bh ∧ gr < bh from ⟨by have := HI9.out.ml; omega, by have := HI9.out.below.size; omega, by omega, by have := HI9.out.rl; omega, by have := HI9.out.gl; omega⟩)
      clear hbh
      go_loopw [9] (fun i wr => ∃ (q : Nat) (A5 : Option Addr) (c5 : Nat) (yq : Bool), i = .int .i64 (q : Int) ∧ (q : Int) ≤ max 0 n5 ∧ Hid (q ≤ 51 ∧ (yq = false → q + (readH q b5).2.length ≤ 50)) ∧ DI w wr rp mb gr gr (readH q b5).2 yq #[.int .i64 (st : Int), .int .i64 v1, .int .i64 v2, .int .i64 v3, .int .i64 v4, .slice A5 q c5] ∧ wr.ownsRow bh 3 1 (.slice A5 q c5) q (rowV zV ((readH q b5).1.map c50)) ∧ bh ≤ wr.heap.size) (fun i _ => n5.toNat - (intOf i).toNat)
      case atStart => exact ⟨0, none, 0, y5, rfl, by omega, Lib.hid ⟨by omega, fun _ => by have := HLB.out; show 0 + b5.length ≤ 50; omega⟩, HI9.out, World.ownsRow_nil _ _ _ _, HBH.out.2.2.1⟩
      case round =>
        obtain ⟨q, A5, c5, yq, rfl, hq, hqn, hI, hO, hB⟩ := hrel
        have HI := Lib.hid hI
        have HO := Lib.hid hO
        have HBL := Lib.hid hB
        have HQN := hqn
        have z1 := hI.badc
        have HQ := Lib.hid hq
        clear hI hO hB hq hqn
        by_cases hgo : (q : Int) < n5 ∧ yq = false
        · obtain ⟨hlt, hy⟩ := hgo
          subst hy
          have dq : decide ((q : Int) < n5) = true := decide_eq_true hlt
          have HLT := Lib.hid hlt
          have hsm := readH_small q HSB.out
          have HQ2 := Lib.hid (show q + 1 ≤ 51 ∧ ((rcount (readH q b5).2).2.2 = false → q + 1 + (rcount (readH q b5).2).2.1.length ≤ 50) from by
            have h1 := HQN.out.2 rfl
            exact ⟨by omega, fun h => by have := rcount_less hsm h; omega⟩)
          have HCQ := Lib.hid HI.out.drew.count
          obtain ⟨vx, hvx⟩ : ∃ v, v = c50 (rcount (readH q b5).2).1 := ⟨_, rfl⟩
          rw [← hvx] at HCQ
          have HRS := Lib.hid (readH_succ q b5)
          have HVX := Lib.hid hvx
          obtain ⟨bq, hbq⟩ : ∃ b, b = (rcount (readH q b5).2).2.1 := ⟨_, rfl⟩
          obtain ⟨yr, hyr⟩ : ∃ b, b = (rcount (readH q b5).2).2.2 := ⟨_, rfl⟩
          rw [← hbq, ← hyr] at HCQ HQ2
          have HBQ := Lib.hid hbq
          have ka := (cell_of_row _ _ 5 _ _ (0, 0) HI.out.mf).trans rfl
          have kb := (cell_of_row _ _ 5 _ _ (0, 0) HI.out.drew.mf).trans rfl
          obtain ⟨X, hX⟩ : ∃ X, X = rowV zV ((readH q b5).1.map c50) := ⟨_, rfl⟩
          rw [← hX] at HO
          have HX := Lib.hid hX
          have HOA := Lib.hid (show ∀ w10 : World, (∀ k, k < wr.drew.heap.size → k ≠ gr → w10.heap[k]? = wr.drew.heap[k]?) → wr.drew.heap.size ≤ w10.heap.size → (w10.alloc (.cells #[.int .i64 vx] 3)).ownsRow bh 3 1 (.slice A5 q c5) q X ∧ bh ≤ (w10.alloc (.cells #[.int .i64 vx] 3)).heap.size from fun w10 h1 h2 => by
            refine ⟨own_keep HO.out fun r hr => ?_, ?_⟩
            · obtain ⟨l1, l2⟩ := HO.out.lt r hr
              have l3 : r < wr.drew.heap.size := l2
              exact (heap_alloc_old _ _ (by omega)).trans (h1 r l3 (by have := HBH.out.2.2.2.2; omega))
            · have h3 := HBL.out
              have h4 : wr.drew.heap.size = wr.heap.size := rfl
              rw [World.size_alloc]; omega)
          have hq51 : q ≤ 51 := HQN.out.1
          clear hlt hvx hbq hyr hsm hX
          go_upto_region 13 with (fail)
          go_region_law (first | (go_simp; go_at_call 124; refine Calls.mono HCQ.out ?_; rintro e w10 ⟨rfl, hi, hk, hz⟩; have kc := (cell_of_row _ _ 5 _ _ (0, 0) hi.mf).trans rfl; have HI10 := Lib.hid hi; have kd := (cell_of_row _ _ 5 _ _ (0, 0) (hi.later ((Below.refl _ w10).alloc (Nat.le_refl _) (.cells #[.int .i64 vx] 3))).mf).trans rfl; have HOB := Lib.hid (HOA.out w10 hk hz); clear hi hk hz) | (refine step_append_rowv elemI (by simp [Region.wanted]) (.tmp 56) (.tmp 59) rfl bh (.slice A5 q c5) q X (by simp [Act.eval]) HOB.out.1 (some ⟨w10.heap.size, 0, none⟩) 1 1 [.int .i64 vx] (by simp [Act.eval]) (rdv_fresh1 w10 vx _) (fun u hu => by rw [List.mem_singleton.1 hu]; rfl) (fun h => by cases h) (by unfold maxLen; omega) (by omega) HOB.out.2 ?_; rintro v6 w11 ho hg hq; obtain ⟨A6, c6, rfl, _⟩ := rdv_own ho; have HO11 := Lib.hid ho; have HI11 := Lib.hid ((HI10.out.later ((Below.refl _ _).alloc (Nat.le_refl _) _)).grown (bh := bh) hg (fun k e => (HOB.out.1.lt k e).1) HBH.out.1 HBH.out.2.2.2.1 HBH.out.2.2.2.2); have HS11 := Lib.hid (Nat.le_trans HOB.out.2 hg.size); have fm := frozen_at HI11.out.mf 5; have km := (cell_of_row _ _ 5 _ _ (0, 0) HI11.out.mf).trans rfl; clear ho hg hq))
          all_goals
            (go_wp2_with fail
             clear ka kb kc kd fm km hq51 z1 dq
             obtain ⟨t9, ht9⟩ : ∃ t, t = w11.setCell ⟨mb, 5, none⟩ (.slice A6 (q + 1) c6) := ⟨_, rfl⟩
             have HI12 : Hid (DI w t9 rp mb gr gr bq yr #[.int .i64 (st : Int), .int .i64 v1, .int .i64 v2, .int .i64 v3, .int .i64 v4, .slice A6 (q + 1) c6]) := Lib.hid (by rw [ht9]; exact HI11.out.set (by have := HGM.out; omega) 5 (.slice A6 (q + 1) c6))
             have HO12 : Hid (t9.ownsRow bh 3 1 (.slice A6 (q + 1) c6) (q + 1) (rowV zV ((readH (q + 1) b5).1.map c50))) := Lib.hid (by
               rw [ht9, HRS.out, List.map_append, rowV_append, ← HX.out]
               have e9 : rowV zV ([(rcount (readH q b5).2).1].map c50) = [.int .i64 vx] := by rw [HVX.out]; rfl
               rw [e9]
               exact own_keep HO11.out fun r hr => Deep.blk_setCell_other _ _ _ _ (by have h1 := (HO11.out.lt r hr).1; have h2 := HBH.out.1; intro h3; have h4 : r = mb := h3; omega))
             have HS12 : Hid (bh ≤ t9.heap.size) := Lib.hid (by rw [ht9, World.size_setCell]; exact HS11.out)
             rw [← ht9]
             clear ht9
             go_wp2_with fail
             go_roundw
             case rel => exact ⟨q + 1, A6, c6, yr, by go_num, by have := HLT.out; omega, Lib.hid (by rw [HRS.out, ← HBQ.out]; exact HQ2.out), by rw [HRS.out, ← HBQ.out]; exact HI12.out, HO12.out, HS12.out⟩
             case measure => simp [intOf]; have := HLT.out; omega)
        · have HRE := Lib.hid (show yq = true → (readH q b5).2 = [] from fun e => by
            obtain ⟨A9, n9, c9, h⟩ := HI.out.rd
            exact h.hbad e)
          have HQK := Lib.hid (show q ≤ cntH d ∧ (q = cntH d ∨ (readH q b5).2 = [] ∨ (q = 0 ∧ 5 ≤ cntH d)) from by
            have h1 := HQ.out
            have h2 := HN5.out
            rw [← HKN.out]
            rcases h2 with ⟨h2, h3⟩ | h2
            · exact ⟨by omega, .inr (.inr ⟨by omega, h3⟩)⟩
            · refine ⟨by omega, ?_⟩
              by_cases h5 : (q : Int) < n5
              · refine .inr (.inl (HRE.out ?_))
                cases hy : yq with
                | true => rfl
                | false => exact absurd ⟨h5, hy⟩ hgo
              · exact .inl (by omega))
          have hcase : (decide ((q : Int) < n5) = false) ∨ (decide ((q : Int) < n5) = true ∧ yq = true) := by
            by_cases h5 : (q : Int) < n5
            · refine .inr ⟨decide_eq_true h5, ?_⟩
              cases hy : yq with
              | true => rfl
              | false => exact absurd ⟨h5, hy⟩ hgo
            · exact .inl (decide_eq_false h5)
          have HPM : Hid (partM c50 st d q = ⟨(st : Int), v1, v2, v3, v4, (readH q b5).1.map c50⟩) := Lib.hid (by
            unfold partM
            rw [HV1.out, HV2.out, HV3.out, HV4.out, HX3.out, HX2.out, HX1.out, ← HAT.out])
          obtain ⟨m, hm⟩ : ∃ m : Mf, m = ⟨(st : Int), v1, v2, v3, v4, (readH q b5).1.map c50⟩ := ⟨_, rfl⟩
          rw [← hm] at HPM
          have HMM := Lib.hid hm
          have hml : m.heads.length = q := by rw [hm]; simp [readH_len]
          have HML := Lib.hid hml
          have hON : openN l = some (st, 3, d) := HON.out
          have HNB := Lib.hid (fun (h : ¬ ((readH q b5).2 = [77] ∧ GoodM m)) => doc_not (f := c50) hON HQK.out.1 (by rw [← HAT.out]; exact HQK.out.2) (by rw [← HAT.out, HPM.out]; exact h))
          have HNY := Lib.hid (fun (h1 : (readH q b5).2 = [77]) (h2 : GoodM m) => by
            have h3 := doc_some (f := c50) hON HQK.out.1 (by rw [← HAT.out]; exact HQK.out.2) (by rw [← HAT.out]; exact h1) (by rw [HPM.out]; exact h2)
            rw [HPM.out] at h3
            exact h3)
          have hOM : wr.ownsRow bh 3 1 (.slice A5 q c5) q (rowV zV m.heads) := by rw [hm]; exact HO.out
          have HOM := Lib.hid hOM
          obtain ⟨R, hR⟩ : ∃ R, R = (readH q b5).2 := ⟨_, rfl⟩
          rw [← hR] at HI HNB HNY HRE
          have HBY := Lib.hid HI.out.byte
          have HQ5 := Lib.hid HQN.out.1
          clear hm hml hON hOM hR hgo HKN HAT HV1 HV2 HV3 HV4 HX1 HX2 HX3 HX4 HPM HO HQN HQ HQK HN5
          rcases hcase with dq | ⟨dq, hyq⟩
          case' inr => rw [hyq] at z1; clear hyq
          all_goals
            by_cases hb77 : byteT R = 77
            · have e77 : ((byteT R : Nat) : Int) = 77 := by omega
              have HB77 := Lib.hid hb77
              rw [e77] at HBY
              clear e77 hb77
              go_wp2_with fail
              refine Calls.mono HBY.out ?_
              rintro e w12 ⟨rfl, hi, hk, hz⟩
              have HI12 := Lib.hid hi
              have hOM : w12.ownsRow bh 3 1 (.slice A5 q c5) q (rowV zV m.heads) := own_keep HOM.out fun r hr => hk r (HOM.out.lt r hr).2 (by have := HBH.out.2.2.2.2; have := (HOM.out.lt r hr).1; omega)
              have HO12 := Lib.hid hOM
              have HEN := Lib.hid (mdone_any _ _ _ _ w12 hi.rd)
              clear hi hk hz hOM HBY
              by_cases hend : (yq || decide (R.length = 0)) = false ∧ R.drop 1 = []
              · have hR77 : R = [77] := by
                  have h1 := HB77.out
                  rcases R with _ | ⟨r, t⟩
                  · exact absurd h1 (by decide)
                  · have h2 : t = [] := hend.2
                    have h3 : r = 77 := h1
                    rw [h2, h3]
                have HR77 := Lib.hid hR77
                have he9 : (!(yq || decide (R.length = 0)) && decide (R.drop 1 = [])) = true := by rw [hend.1, decide_eq_true hend.2]; rfl
                rw [he9] at HEN
                have HG := Lib.hid (rfgood_any m A5 c5 w12 (zs_own (c := c5) HO12.out HML.out) (by rw [HML.out]; have := HQ5.out; omega))
                unfold mfC at HG
                rw [HML.out] at HG
                obtain ⟨gb, hgb⟩ : ∃ gb, gb = goodB m := ⟨_, rfl⟩
                rw [← hgb] at HG
                have HGB := Lib.hid hgb
                have hmc : (#[.int .i64 m.gen, .int .i64 m.epoch, .int .i64 m.base, .int .i64 m.area, .int .i64 m.len, .slice A5 q c5] : Array Value) = #[.int .i64 (st : Int), .int .i64 v1, .int .i64 v2, .int .i64 v3, .int .i64 v4, .slice A5 q c5] := by rw [HMM.out]
                rw [hmc] at HG
                have HMC := Lib.hid hmc
                clear hend hR77 he9 hgb hmc
                have m0 := (cell_of_row _ _ 0 _ _ (0, 0) HI12.out.mf).trans rfl
                have m1 := (cell_of_row _ _ 1 _ _ (0, 0) HI12.out.mf).trans rfl
                have m2 := (cell_of_row _ _ 2 _ _ (0, 0) HI12.out.mf).trans rfl
                have m3 := (cell_of_row _ _ 3 _ _ (0, 0) HI12.out.mf).trans rfl
                have m4 := (cell_of_row _ _ 4 _ _ (0, 0) HI12.out.mf).trans rfl
                have m5 := (cell_of_row _ _ 5 _ _ (0, 0) HI12.out.mf).trans rfl
                go_wp2_with fail
                refine Calls.mono HEN.out ?_
                rintro e w13 ⟨rfl, rfl⟩
                go_wp2_with fail
                refine Calls.mono HG.out ?_
                rintro e w14 ⟨rfl, hb14⟩
                have HI14 := Lib.hid (HI12.out.later hb14)
                have HO14 : Hid (w14.ownsRow bh 3 1 (.slice A5 q c5) q (rowV zV m.heads)) := Lib.hid (own_keep HO12.out fun r hr => hb14.block r (HO12.out.lt r hr).2)
                clear hb14 m0 m1 m2 m3 m4 m5
                cases gb with
                | false =>
                  have hr3 := HI14.out.res
                  have k0 := (cell_of_row _ _ 0 _ _ (0, 0) hr3).trans rfl
                  have k1 := (cell_of_row _ _ 1 _ _ (0, 0) hr3).trans rfl
                  have k2 := (cell_of_row _ _ 2 _ _ (0, 0) hr3).trans rfl
                  have k3 := (cell_of_row _ _ 3 _ _ (0, 0) hr3).trans rfl
                  have k4 := (cell_of_row _ _ 4 _ _ (0, 0) hr3).trans rfl
                  have k5 := (cell_of_row _ _ 5 _ _ (0, 0) hr3).trans rfl
                  have f0 := frozen_at hr3 0
                  have f1 := frozen_at hr3 1
                  have f2 := frozen_at hr3 2
                  have f3 := frozen_at hr3 3
                  have f4 := frozen_at hr3 4
                  have f5 := frozen_at hr3 5
                  unfold zeroC at k0 k1 k2 k3 k4 k5
                  have HF := Lib.hid (finD_bad hr3 HI14.out.below HI14.out.rlo (HNB.out fun q => by have h9 := (goodB_iff m).2 q.2; rw [← HGB.out] at h9; cases h9))
                  clear hr3
                  go_wp2_with fail
                  refine bodyPost_ret (resRO HF.out.1 _ rfl) rfl ?_
                  exact HF.out.2
                | true =>
                  have HGM2 := Lib.hid ((goodB_iff m).1 HGB.out.symm)
                  have m0 := (cell_of_row _ _ 0 _ _ (0, 0) HI14.out.mf).trans rfl
                  have m1 := (cell_of_row _ _ 1 _ _ (0, 0) HI14.out.mf).trans rfl
                  have m2 := (cell_of_row _ _ 2 _ _ (0, 0) HI14.out.mf).trans rfl
                  have m3 := (cell_of_row _ _ 3 _ _ (0, 0) HI14.out.mf).trans rfl
                  have m4 := (cell_of_row _ _ 4 _ _ (0, 0) HI14.out.mf).trans rfl
                  have m5 := (cell_of_row _ _ 5 _ _ (0, 0) HI14.out.mf).trans rfl
                  have hr3 := HI14.out.res
                  have k0 := (cell_of_row _ _ 0 _ _ (0, 0) hr3).trans rfl
                  have k1 := (cell_of_row _ _ 1 _ _ (0, 0) hr3).trans rfl
                  have k2 := (cell_of_row _ _ 2 _ _ (0, 0) hr3).trans rfl
                  have k3 := (cell_of_row _ _ 3 _ _ (0, 0) hr3).trans rfl
                  have k4 := (cell_of_row _ _ 4 _ _ (0, 0) hr3).trans rfl
                  have k5' := (cell_of_row _ _ 5 _ _ (0, 0) hr3).trans rfl
                  have f0 := frozen_at hr3 0
                  have f1 := frozen_at hr3 1
                  have f2 := frozen_at hr3 2
                  have f3 := frozen_at hr3 3
                  have f4 := frozen_at hr3 4
                  have f5 := frozen_at hr3 5
                  unfold zeroC at k0 k1 k2 k3 k4 k5' hr3
                  have HF := Lib.hid (set6 _ _ _ _ _ _ _ _ _ (.int .i64 (st : Int)) (.int .i64 v1) (.int .i64 v2) (.int .i64 v3) (.int .i64 v4) (.slice A5 q c5) hr3)
                  have HF2 := Lib.hid (set6_below HI14.out.below HI14.out.rlo (.int .i64 (st : Int)) (.int .i64 v1) (.int .i64 v2) (.int .i64 v3) (.int .i64 v4) (.slice A5 q c5))
                  clear hr3
                  go_wp2_with fail
                  refine bodyPost_ret (resRO HF.out _ rfl) rfl ?_
                  refine ⟨.inr ⟨m, A5, c5, HNY.out HR77.out HGM2.out, ?_, ?_⟩, HF2.out⟩
                  · unfold mfC
                    rw [HML.out, HMC.out]
                    rfl
                  · rw [HML.out]
                    have h9 := own_keep HO14.out fun r hr => set6_other w14 rp r (.int .i64 (st : Int)) (.int .i64 v1) (.int .i64 v2) (.int .i64 v3) (.int .i64 v4) (.slice A5 q c5) (by have := (HO14.out.lt r hr).1; have := HBH.out.2.2.2.1; omega)
                    exact own_lower h9 HBH.out.2.1
              · have hend' : (!(yq || decide (R.length = 0)) && decide (R.drop 1 = [])) = false := by
                  cases h1 : (yq || decide (R.length = 0)) with
                  | true => rfl
                  | false => rw [decide_eq_false (fun h2 => hend ⟨h1, h2⟩)]; rfl
                rw [hend'] at HEN
                have hno : R ≠ [77] := fun e => hend (by
                  rw [e]
                  refine ⟨?_, rfl⟩
                  cases hy : yq with
                  | false => rfl
                  | true => have := HRE.out hy; rw [e] at this; cases this)
                have HNO := Lib.hid (HNB.out fun q => hno q.1)
                clear hend hend' hno
                go_wp2_with fail
                refine Calls.mono HEN.out ?_
                rintro e w13 ⟨rfl, rfl⟩
                have hr3 := HI12.out.res
                have k0 := (cell_of_row _ _ 0 _ _ (0, 0) hr3).trans rfl
                have k1 := (cell_of_row _ _ 1 _ _ (0, 0) hr3).trans rfl
                have k2 := (cell_of_row _ _ 2 _ _ (0, 0) hr3).trans rfl
                have k3 := (cell_of_row _ _ 3 _ _ (0, 0) hr3).trans rfl
                have k4 := (cell_of_row _ _ 4 _ _ (0, 0) hr3).trans rfl
                have k5 := (cell_of_row _ _ 5 _ _ (0, 0) hr3).trans rfl
                have f0 := frozen_at hr3 0
                have f1 := frozen_at hr3 1
                have f2 := frozen_at hr3 2
                have f3 := frozen_at hr3 3
                have f4 := frozen_at hr3 4
                have f5 := frozen_at hr3 5
                unfold zeroC at k0 k1 k2 k3 k4 k5
                have HF := Lib.hid (finD_bad hr3 HI12.out.below HI12.out.rlo HNO.out)
                clear hr3
                go_wp2_with fail
                refine bodyPost_ret (resRO HF.out.1 _ rfl) rfl ?_
                exact HF.out.2
            · have HNO := Lib.hid (HNB.out fun q => hb77 (by rw [q.1]; rfl))
              have e77 : (((byteT R : Nat) : Int) != 77) = true := by rw [bne_iff_ne]; omega
              clear hb77
              go_wp2_with fail
              refine Calls.mono HBY.out ?_
              rintro e w12 ⟨rfl, hi, hk, hz⟩
              have HI12 := Lib.hid hi
              clear hi hk hz
              have hr3 := HI12.out.res
              have k0 := (cell_of_row _ _ 0 _ _ (0, 0) hr3).trans rfl
              have k1 := (cell_of_row _ _ 1 _ _ (0, 0) hr3).trans rfl
              have k2 := (cell_of_row _ _ 2 _ _ (0, 0) hr3).trans rfl
              have k3 := (cell_of_row _ _ 3 _ _ (0, 0) hr3).trans rfl
              have k4 := (cell_of_row _ _ 4 _ _ (0, 0) hr3).trans rfl
              have k5 := (cell_of_row _ _ 5 _ _ (0, 0) hr3).trans rfl
              have f0 := frozen_at hr3 0
              have f1 := frozen_at hr3 1
              have f2 := frozen_at hr3 2
              have f3 := frozen_at hr3 3
              have f4 := frozen_at hr3 4
              have f5 := frozen_at hr3 5
              unfold zeroC at k0 k1 k2 k3 k4 k5
              have HF := Lib.hid (finD_bad hr3 HI12.out.below HI12.out.rlo HNO.out)
              clear hr3
              go_wp2_with fail
              refine bodyPost_ret (resRO HF.out.1 _ rfl) rfl ?_
              exact HF.out.2
    · have HN := Lib.hid (openM_kind (f := c50) HON.out hk)
      have dk : ((kd : Int) != 3) = true := by rw [bne_iff_ne]; omega
      clear hk
      go_upto_region 2 with (fail)
      obtain ⟨w3, hw3⟩ : ∃ w3, w3 = w2.alloc (.cells #[.int .i64 (st : Int), .int .i64 (kd : Int), .slice A n c] 172) := ⟨_, rfl⟩
      have hb3 : Below w2.heap.size w2 w3 := by rw [hw3]; exact (Below.refl _ _).alloc (Nat.le_refl _) _
      have g3 : w3.heap[w2.heap.size]? = some (.cells #[.int .i64 (st : Int), .int .i64 (kd : Int), .slice A n c] 172 (0, 0)) := by rw [hw3]; exact heap_alloc_new w2 _
      rw [← hw3]
      obtain ⟨xb, hxb⟩ : ∃ xb, xb = w2.heap.size := ⟨_, rfl⟩
      rw [← hxb] at g3 ⊢
      clear hw3 hxb
      have x1 := (cell_of_row _ _ 1 _ _ (0, 0) g3).trans rfl
      obtain ⟨h2a, h2b, h2c⟩ := H2.out
      have hr3 := (hb3.block _ (Array.getElem?_eq_some_iff.1 h2b).1).trans h2b
      have k0 := (cell_of_row _ _ 0 _ _ (0, 0) hr3).trans rfl
      have k1 := (cell_of_row _ _ 1 _ _ (0, 0) hr3).trans rfl
      have k2 := (cell_of_row _ _ 2 _ _ (0, 0) hr3).trans rfl
      have k3 := (cell_of_row _ _ 3 _ _ (0, 0) hr3).trans rfl
      have k4 := (cell_of_row _ _ 4 _ _ (0, 0) hr3).trans rfl
      have k5 := (cell_of_row _ _ 5 _ _ (0, 0) hr3).trans rfl
      have f0 := frozen_at hr3 0
      have f1 := frozen_at hr3 1
      have f2 := frozen_at hr3 2
      have f3 := frozen_at hr3 3
      have f4 := frozen_at hr3 4
      have f5 := frozen_at hr3 5
      unfold zeroC at k0 k1 k2 k3 k4 k5
      have HF := Lib.hid (finD_bad hr3 (h2a.trans (hb3.mono h2a.size)) h2c HN.out)
      clear h2a h2b h2c hr3 hb3 g3
      go_wp2_with fail
      refine bodyPost_ret (resRO HF.out.1 _ rfl) rfl ?_
      exact HF.out.2
end Go.Proofs.Ytjmjehhmkjhalaa
