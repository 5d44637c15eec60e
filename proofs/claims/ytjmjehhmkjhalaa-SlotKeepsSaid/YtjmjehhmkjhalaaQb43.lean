/- SlSave: put together. -/
import Derived.Test.YtjmjehhmkjhalaaQb40
import Derived.Test.YtjmjehhmkjhalaaQb42
/- slot.Save. -/
namespace Go.Proofs.Ytjmjehhmkjhalaa
set_option maxRecDepth 100000
open Go.RowKit

/-- A good manifest's sector. -/
def secX (m : Mf) (h : GoodM m) : Sx := ⟨secM m, secM_len h, secM_small h⟩
/-- What saving comes to. -/
def saveG (p : Pw) (ds : List Dk) (i : Int) (x : Sx) : Value × Pw × List Dk :=
  if sizeV ds 0 < 2 then (eRange, p, ds) else if (stepP p).1 = false then (eDown, (stepP p).2, ds) else flushM (stepP p).2 (setAt ds 0 fun e => e.more ⟨i, x⟩) 0
theorem size_has {ds : List Dk} (h : ¬ sizeV ds 0 < 2) {i : Int} (h0 : 0 ≤ i) (h1 : i < 2) : hasB ds 0 i = true := by
  unfold sizeV at h
  by_cases hb : hasB ds 0 0 = true
  · rw [if_pos hb] at h
    obtain ⟨j, hj0, hj, hi1, hi2⟩ := hasB_true hb
    have hj0' : j = 0 := by omega
    subst hj0'
    simp only [Int.toNat_zero, List.getElem?_eq_getElem hj] at h
    unfold hasB
    simp only [Int.toNat_zero, List.getElem?_eq_getElem hj, Option.map_some, Option.getD_some, Bool.and_eq_true, decide_eq_true_eq]
    omega
  · rw [if_neg hb] at h; omega
theorem setAt_len (ds : List Dk) (j : Nat) (f : Dk → Dk) : (setAt ds j f).length = ds.length := by
  unfold setAt
  split <;> simp
theorem stepP_armed (p : Pw) (ha : p.armed ≤ 9223372036854775807) : (stepP p).2.armed ≤ 9223372036854775807 := by
  unfold stepP
  split
  · exact ha
  · split
    · exact ha
    · dsimp only
      split <;> omega
theorem stepP_steps (p : Pw) : (stepP p).2.steps ≤ p.steps + 1 := by
  unfold stepP
  split
  · exact Nat.le_succ _
  · split
    · exact Nat.le_succ _
    · exact Nat.le_refl _
set_option maxHeartbeats 4000000 in
theorem slsave_bad {w : World} {F : Nat → Prop} {g : Nat} {p : Pw} {ds : List Dk} {K : Nat} (_ : St w F g p ds K) (m : Mf) (A : Option Addr) (c : Nat) (hz : Zs w A m.heads) (hn : m.heads.length ≤ 9223372036854775807) (hg : goodB m = false) :
    Calls Try.prog 58 #[.pointer (some ⟨g, 0, none⟩), .agg (mfC m A c)] w fun e w' => e = .returned eForm ∧ Below w.heap.size w w' := by
  have hb1 : Below w.heap.size w (w.alloc (.cells (mfC m A c) 93)) := (Below.refl _ _).alloc (Nat.le_refl _) _
  have HC := Lib.hid (slseal_bad m A c _ (RowAt.below hz hb1) hn hg)
  have HM := Lib.hid (heap_alloc_new w (.cells (mfC m A c) 93))
  have HB1 := Lib.hid hb1
  unfold eForm at HC ⊢
  unfold mfC at HC HM HB1 ⊢
  clear hb1 hz hn hg
  go_enter Try.func58, Try.ntmps58
  go_upto_region 1 with (fail)
  obtain ⟨w1, hw1⟩ : ∃ w1, w1 = w.alloc (.cells #[.int .i64 m.gen, .int .i64 m.epoch, .int .i64 m.base, .int .i64 m.area, .int .i64 m.len, .slice A m.heads.length c] 93) := ⟨_, rfl⟩
  rw [← hw1] at HC HM HB1 ⊢
  clear hw1
  have k0 := (cell_of_row _ _ 0 _ _ (0, 0) HM.out).trans rfl
  have k1 := (cell_of_row _ _ 1 _ _ (0, 0) HM.out).trans rfl
  have k2 := (cell_of_row _ _ 2 _ _ (0, 0) HM.out).trans rfl
  have k3 := (cell_of_row _ _ 3 _ _ (0, 0) HM.out).trans rfl
  have k4 := (cell_of_row _ _ 4 _ _ (0, 0) HM.out).trans rfl
  have k5 := (cell_of_row _ _ 5 _ _ (0, 0) HM.out).trans rfl
  go_wp2_with fail
  refine Calls.mono HC.out ?_
  rintro e w2 ⟨rfl, hb2⟩
  have HB2 := Lib.hid ((HB1.out.trans (hb2.mono HB1.out.size)).alloc (Nat.le_trans HB1.out.size hb2.size) (.cells (secV (noughts 64)) 75))
  have hsz : (secV (noughts 64)).size = 64 := by rw [secV_size]; exact noughts64
  have hst := fun w1 => store_new w1 (noughts 64) noughts64
  clear hb2 k0 k1 k2 k3 k4 k5
  go_wp2_with fail
  go_ret
  exact ⟨rfl, HB2.out⟩
set_option maxHeartbeats 4000000 in
theorem slsave_nat {w : World} {F : Nat → Prop} {g : Nat} {p : Pw} {ds : List Dk} {K : Nat} (h : St w F g p ds K) (gn ep b a l : Nat) (hs : List Nat) (A : Option Addr) (c : Nat) (hz : Zs w A (hs.map fun n : Nat => (n : Int))) (hg : GoodM (natM gn ep b a l hs)) (hl : ds.length ≤ 1000) (hK : K ≤ 1000000) (hps : p.steps ≤ 100000000) (ha : p.armed ≤ 9223372036854775807) :
    Calls Try.prog 58 #[.pointer (some ⟨g, 0, none⟩), .agg #[.int .i64 (gn : Int), .int .i64 (ep : Int), .int .i64 (b : Int), .int .i64 (a : Int), .int .i64 (l : Int), .slice A hs.length c]] w fun e w' =>
      e = .returned (saveG p ds ((gn % 2 : Nat) : Int) (secX _ hg)).1 ∧ ∃ F', St w' F' g (saveG p ds ((gn % 2 : Nat) : Int) (secX _ hg)).2.1 (saveG p ds ((gn % 2 : Nat) : Int) (secX _ hg)).2.2 (K + 1) ∧ Chg w w' F F' := by
  have hb1 : Below w.heap.size w (w.alloc (.cells #[.int .i64 (gn : Int), .int .i64 (ep : Int), .int .i64 (b : Int), .int .i64 (a : Int), .int .i64 (l : Int), .slice A hs.length c] 93)) := (Below.refl _ _).alloc (Nat.le_refl _) _
  have HC := Lib.hid (slseal_nat gn ep b a l hs A c _ (RowAt.below hz hb1) hg)
  have HM := Lib.hid (heap_alloc_new w (.cells #[.int .i64 (gn : Int), .int .i64 (ep : Int), .int .i64 (b : Int), .int .i64 (a : Int), .int .i64 (l : Int), .slice A hs.length c] 93))
  have HB1 := Lib.hid hb1
  have HH := Lib.hid h
  have HG := Lib.hid hg
  have HLN := Lib.hid (And.intro hl (And.intro hK (And.intro hps ha)))
  have HSL := Lib.hid (secM_len hg)
  obtain ⟨x, hx⟩ : ∃ x, x = secX _ hg := ⟨_, rfl⟩
  have hxl : x.l = secM (natM gn ep b a l hs) := by rw [hx]; rfl
  rw [← hx]
  rw [← hxl] at HC HSL
  obtain ⟨S, hS⟩ : ∃ S, S = x.l := ⟨_, rfl⟩
  rw [← hS] at HC HSL
  have HSX := Lib.hid hS
  have e2 : (gn : Int).tmod 2 = ((gn % 2 : Nat) : Int) := by rw [Int.tmod_eq_emod_of_nonneg (by omega)]; omega
  obtain ⟨i, hi⟩ : ∃ i : Int, i = ((gn % 2 : Nat) : Int) := ⟨_, rfl⟩
  rw [← hi] at e2 ⊢
  have HI := Lib.hid (show 0 ≤ i ∧ i < 2 by omega)
  obtain ⟨k, hk⟩ : ∃ k, k = hs.length := ⟨_, rfl⟩
  rw [← hk] at HC HM HB1 ⊢
  have HRG := Lib.hid (show ∀ r, saveG p ds i x = r → (if sizeV ds 0 < 2 then (eRange, p, ds) else if (stepP p).1 = false then (eDown, (stepP p).2, ds) else flushM (stepP p).2 (setAt ds 0 fun e => e.more ⟨i, x⟩) 0) = r from fun r h => h)
  obtain ⟨R, hR⟩ : ∃ R, R = saveG p ds i x := ⟨_, rfl⟩
  rw [← hR]
  have HR := Lib.hid (HRG.out R hR.symm)
  clear HRG hb1 h hz hg hl hK hps ha hx hxl hS hi hk hR
  go_enter Try.func58, Try.ntmps58
  go_upto_region 1 with (fail)
  obtain ⟨w1, hw1⟩ : ∃ w1, w1 = w.alloc (.cells #[.int .i64 (gn : Int), .int .i64 (ep : Int), .int .i64 (b : Int), .int .i64 (a : Int), .int .i64 (l : Int), .slice A k c] 93) := ⟨_, rfl⟩
  obtain ⟨mb, hmb⟩ : ∃ mb, mb = w.heap.size := ⟨_, rfl⟩
  rw [← hmb] at HM ⊢
  rw [← hw1] at HC HM HB1 ⊢
  clear hw1 hmb
  have k0 := (cell_of_row _ _ 0 _ _ (0, 0) HM.out).trans rfl
  have k1 := (cell_of_row _ _ 1 _ _ (0, 0) HM.out).trans rfl
  have k2 := (cell_of_row _ _ 2 _ _ (0, 0) HM.out).trans rfl
  have k3 := (cell_of_row _ _ 3 _ _ (0, 0) HM.out).trans rfl
  have k4 := (cell_of_row _ _ 4 _ _ (0, 0) HM.out).trans rfl
  have k5 := (cell_of_row _ _ 5 _ _ (0, 0) HM.out).trans rfl
  go_wp2_with fail
  refine Calls.mono HC.out ?_
  rintro e w2 ⟨rfl, hb2⟩
  have HB2 := Lib.hid ((HB1.out.trans (hb2.mono HB1.out.size)).alloc (Nat.le_trans HB1.out.size hb2.size) (.cells (secV S) 75))
  have HM2 := Lib.hid ((heap_alloc_old w2 (.cells (secV S) 75) (Nat.lt_of_lt_of_le (Array.getElem?_eq_some_iff.1 HM.out).1 hb2.size)).trans ((hb2.block mb (Array.getElem?_eq_some_iff.1 HM.out).1).trans HM.out))
  have HS2 := Lib.hid (show Sec (w2.alloc (.cells (secV S) 75)) w2.heap.size S from heap_alloc_new w2 _)
  have hsz : (secV S).size = 64 := by rw [secV_size]; exact HSL.out
  have hst := fun w1 => store_new w1 S HSL.out
  clear hb2 k0 k1 k2 k3 k4 k5
  go_upto_region 4 with (fail)
  obtain ⟨w3, hw3⟩ : ∃ w3, w3 = w2.alloc (.cells (secV S) 75) := ⟨_, rfl⟩
  obtain ⟨sb, hsb⟩ : ∃ sb, sb = w2.heap.size := ⟨_, rfl⟩
  rw [← hw3] at HB2 HM2 HS2 ⊢
  rw [← hsb] at HS2 ⊢
  clear hw3 hsb hst hsz
  have HT := Lib.hid (HH.out.below HB2.out)
  have HSZ := Lib.hid (st_size_gen HT.out 0 HLN.out.1)
  by_cases h2 : sizeV ds 0 < 2
  · have hr := HR.out
    rw [if_pos h2] at hr
    subst hr
    have d1 : decide ((sizeV ds 0 : Int) < 2) = true := decide_eq_true (by omega)
    obtain ⟨z, hz⟩ : ∃ z, z = sizeV ds 0 := ⟨_, rfl⟩
    rw [← hz] at d1 HSZ
    clear hz h2
    go_wp2_with fail
    refine Calls.mono HSZ.out ?_
    rintro e w4 ⟨rfl, rfl⟩
    go_wp2_with fail
    go_ret
    exact ⟨rfl, F, HT.out.mono (Nat.le_succ _), Chg.of_below HB2.out F⟩
  · have hr := HR.out
    rw [if_neg h2] at hr
    have d1 : decide ((sizeV ds 0 : Int) < 2) = false := decide_eq_false (by omega)
    have hwr := st_write HT.out 0 i x HLN.out.1 (by have := HLN.out.2.1; omega) (by have := HLN.out.2.2.1; omega) HLN.out.2.2.2
    unfold writeM at hwr
    rw [if_neg (by rw [size_has h2 HI.out.1 HI.out.2]; decide)] at hwr
    obtain ⟨z, hz⟩ : ∃ z, z = sizeV ds 0 := ⟨_, rfl⟩
    rw [← hz] at d1 HSZ
    have m0 := (cell_of_row _ _ 0 _ _ (0, 0) HM2.out).trans rfl
    by_cases hst : (stepP p).1 = false
    · rw [if_pos hst] at hr hwr
      subst hr
      have HWR := Lib.hid hwr
      clear hwr hz h2 hst
      unfold eDown at HWR
      go_wp2_with fail
      refine Calls.mono HSZ.out ?_
      rintro e w4 ⟨rfl, rfl⟩
      rw [show x.val = .agg (secV S) by rw [HSX.out]; rfl] at HWR
      go_wp2_with (first | refine wpList_load_sec (by rfl) (.tmp 5) rfl sb rfl S HSL.out HS2.out ?_)
      refine Calls.mono HWR.out ?_
      rintro e w5 ⟨rfl, F', s5, c5⟩
      have H5 := Lib.hid (And.intro s5 ((Chg.of_below HB2.out F).trans c5))
      clear s5 c5
      go_wp2_with fail
      go_ret
      exact ⟨rfl, F', H5.out.1, H5.out.2⟩
    · rw [if_neg hst] at hr hwr
      have HWR := Lib.hid hwr
      have hR1 : R.1 = (flushM (stepP p).2 (setAt ds 0 fun e => e.more ⟨i, x⟩) 0).1 := by rw [← hr]
      subst hr
      have HFL := Lib.hid (fun (W : World) (F' : Nat → Prop) (hs : St W F' g (stepP p).2 (setAt ds 0 fun e => e.more ⟨i, x⟩) (K + 1)) => st_flush hs 0 (by rw [setAt_len]; exact HLN.out.1) (by have := HLN.out.2.1; omega) (by have := stepP_steps p; have := HLN.out.2.2.1; omega) (stepP_armed p HLN.out.2.2.2))
      obtain ⟨p1, hp1⟩ : ∃ p1, p1 = (stepP p).2 := ⟨_, rfl⟩
      obtain ⟨d1', hd1⟩ : ∃ d1, d1 = setAt ds 0 fun e => e.more ⟨i, x⟩ := ⟨_, rfl⟩
      rw [← hp1, ← hd1] at HFL
      have hwe : ∀ W F', St W F' g (stepP p).2 (setAt ds (Int.toNat 0) fun e => e.more ⟨i, x⟩) (K + 1) = St W F' g p1 d1' (K + 1) := fun W F' => by rw [hp1, hd1]; rfl
      have HWE := Lib.hid hwe
      have HPD := Lib.hid (And.intro hp1 hd1)
      obtain ⟨fl, hfl⟩ : ∃ fl, fl = flushM p1 d1' 0 := ⟨_, rfl⟩
      rw [← hfl] at HFL
      have HFF := Lib.hid hfl
      clear hz h2 hst hR1 hwr hp1 hd1 hwe hfl
      rw [show x.val = .agg (secV S) by rw [HSX.out]; rfl] at HWR
      go_wp2_with fail
      refine Calls.mono HSZ.out ?_
      rintro e w4 ⟨rfl, rfl⟩
      go_wp2_with (first | refine wpList_load_sec (by rfl) (.tmp 5) rfl sb rfl S HSL.out HS2.out ?_)
      refine Calls.mono HWR.out ?_
      rintro e w5 ⟨rfl, F', s5, c5⟩
      rw [show (St w5 F' g (stepP p).2 (setAt ds (Int.toNat 0) fun e => e.more ⟨i, x⟩) (K + 1)) = St w5 F' g p1 d1' (K + 1) from HWE.out w5 F'] at s5
      have HFW := Lib.hid (HFL.out w5 F' s5)
      have H5 := Lib.hid ((Chg.of_below HB2.out F).trans c5)
      clear s5 c5
      go_wp2_with fail
      refine Calls.mono HFW.out ?_
      rintro e w6 ⟨rfl, s6, c6⟩
      have H6 := Lib.hid (And.intro s6 (H5.out.trans c6))
      clear s6 c6
      go_wp2_with fail
      go_ret
      rw [← HPD.out.1, ← HPD.out.2, ← HFF.out]
      exact ⟨rfl, F', H6.out.1, H6.out.2⟩
end Go.Proofs.Ytjmjehhmkjhalaa
