/- SlSeals: put together. -/
import Derived.Test.YtjmjehhmkjhalaaQs00
import Derived.Test.YtjmjehhmkjhalaaQs01
import Derived.Test.YtjmjehhmkjhalaaQb45
import Derived.Test.YtjmjehhmkjhalaaQb34
import Derived.Test.YtjmjehhmkjhalaaQs02
/- SlotSeals: the law. Written by gen_slseals.py. -/
namespace Go.Proofs.Ytjmjehhmkjhalaa
set_option maxRecDepth 100000
open Go.RowKit

theorem to_nat_heads {m : Mf} {g e b a l : Nat} {hs : List Nat} (h : m = natM g e b a l hs) : m.heads = hs.map fun n : Nat => (n : Int) := by rw [h]; rfl
/-- slot.Seal of a good one. -/
theorem slseal_ok {m : Mf} (hg : GoodM m) (A : Option Addr) (c : Nat) (w : World) (h : Zs w A m.heads) : Calls Try.prog 50 #[.agg (mfC m A c)] w fun e w' => e = .returned (.tuple #[.agg (secV (secM m)), .nilIface]) ∧ Below w.heap.size w w' := by
  obtain ⟨g, e, b, a, l, hs, rfl⟩ := mf_nat hg
  have h2 := slseal_nat g e b a l hs A c w h hg
  unfold mfC
  rw [show (natM g e b a l hs).heads.length = hs.length by simp [natM]]
  exact h2
theorem drefseal_ok {m : Mf} (hg : GoodM m) (A : Option Addr) (c : Nat) (w : World) (h : Zs w A m.heads) : Calls Try.prog 55 #[.agg (mfC m A c)] w fun e w' => e = .returned (.agg (secV (secM m))) ∧ Below w.heap.size w w' := by
  obtain ⟨g, e, b, a, l, hs, rfl⟩ := mf_nat hg
  have h2 := drefseal_nat g e b a l hs A c w h hg
  unfold mfC
  rw [show (natM g e b a l hs).heads.length = hs.length by simp [natM]]
  exact h2
/-- What stands beside: the argument's block mb, the program's pb with its own heads. -/
structure SeI (w W : World) (m : Mf) (mb pb : Nat) (A A2 : Option Addr) (c c2 b2 : Nat) : Prop where
  below : Below w.heap.size w W
  arg : W.heap[mb]? = some (.cells (mfC m A c) 91 (0, 0))
  prog : W.heap[pb]? = some (.cells (mfC m A2 c2) 93 (0, 0))
  own : W.ownsRow w.heap.size 3 1 (.slice A2 m.heads.length c2) m.heads.length (rowV zV m.heads)
  hi : ∀ r, (Value.slice A2 m.heads.length c2).ownBlock = some r → r < b2
  size : b2 ≤ W.heap.size
  lt : mb < b2 ∧ pb < b2
theorem SeI.later {w W W' : World} {m : Mf} {mb pb : Nat} {A A2 : Option Addr} {c c2 b2 : Nat} (h : SeI w W m mb pb A A2 c c2 b2) (hb : Below W.heap.size W W') : SeI w W' m mb pb A A2 c c2 b2 :=
  ⟨h.below.trans (hb.mono h.below.size), (hb.block _ (Array.getElem?_eq_some_iff.1 h.arg).1).trans h.arg, (hb.block _ (Array.getElem?_eq_some_iff.1 h.prog).1).trans h.prog, own_keep h.own fun r hr => hb.block r (h.own.lt r hr).2, h.hi, Nat.le_trans h.size hb.size, h.lt⟩
/-- A cell of a newer block is turned. -/
theorem SeI.turn {w W : World} {m : Mf} {mb pb : Nat} {A A2 : Option Addr} {c c2 b2 : Nat} (h : SeI w W m mb pb A A2 c c2 b2) (r o : Nat) (v : Value) (hr : b2 ≤ r) (hw : w.heap.size ≤ b2) : SeI w (W.setCell ⟨r, o, none⟩ v) m mb pb A A2 c c2 b2 :=
  ⟨h.below.setCell (by show w.heap.size ≤ r; omega) _, (Deep.blk_setCell_other _ _ _ _ (show mb ≠ r by have := h.lt; omega)).trans h.arg, (Deep.blk_setCell_other _ _ _ _ (show pb ≠ r by have := h.lt; omega)).trans h.prog, own_keep h.own fun q hq => Deep.blk_setCell_other _ _ _ _ (show q ≠ r by have := h.hi q hq; omega), h.hi, by rw [World.size_setCell]; exact h.size, h.lt⟩
set_option maxHeartbeats 8000000 in
theorem slseals_law (m : Mf) (A : Option Addr) (c : Nat) (w : World) (hz : Zs w A m.heads) (_ : m.heads.length ≤ 9223372036854775807) (hnil : A = none → c = 0) :
    Calls Try.prog 7 #[.agg (mfC m A c)] w fun e w' => e = .returned (.bool true) ∧ Below w.heap.size w w' := by
  have HZ := Lib.hid hz
  have HNI := Lib.hid hnil
  have hbA : Below w.heap.size w (w.alloc (.cells (mfC m A c) 91)) := (Below.refl _ _).alloc (Nat.le_refl _) _
  have hmA := heap_alloc_new w (.cells (mfC m A c) 91)
  obtain ⟨n, hn⟩ : ∃ n, n = m.heads.length := ⟨_, rfl⟩
  have HN := Lib.hid hn
  have e6 : mfC m A c = #[.int .i64 m.gen, .int .i64 m.epoch, .int .i64 m.base, .int .i64 m.area, .int .i64 m.len, .slice A n c] := by rw [hn]; rfl
  have HE6 := Lib.hid e6
  rw [e6] at hbA hmA ⊢
  have HBA := Lib.hid hbA
  have HMA := Lib.hid hmA
  clear hz hnil hbA hmA hn e6
  go_enter Try.func7, Try.ntmps7
  go_upto_region 1 with (fail)
  obtain ⟨w0, hw0⟩ : ∃ w0, w0 = w.alloc (.cells #[.int .i64 m.gen, .int .i64 m.epoch, .int .i64 m.base, .int .i64 m.area, .int .i64 m.len, .slice A n c] 91) := ⟨_, rfl⟩
  obtain ⟨mb, hmb⟩ : ∃ mb, mb = w.heap.size := ⟨_, rfl⟩
  rw [← hw0] at HBA HMA ⊢
  rw [← hmb] at HMA ⊢
  have HMB := Lib.hid hmb
  clear hw0 hmb
  go_wp2_with fail
  refine Calls.mono (slalive_any w0) ?_
  rintro e w1 ⟨rfl, hb1⟩
  have HB1 := Lib.hid (HBA.out.trans (hb1.mono HBA.out.size))
  have HM1 := Lib.hid ((hb1.block mb (Array.getElem?_eq_some_iff.1 HMA.out).1).trans HMA.out)
  clear hb1
  have k0 := (cell_of_row _ _ 0 _ _ (0, 0) HM1.out).trans rfl
  have k1 := (cell_of_row _ _ 1 _ _ (0, 0) HM1.out).trans rfl
  have k2 := (cell_of_row _ _ 2 _ _ (0, 0) HM1.out).trans rfl
  have k3 := (cell_of_row _ _ 3 _ _ (0, 0) HM1.out).trans rfl
  have k4 := (cell_of_row _ _ 4 _ _ (0, 0) HM1.out).trans rfl
  have k5 := (cell_of_row _ _ 5 _ _ (0, 0) HM1.out).trans rfl
  have hlg := large15_any m A c w1
  rw [HE6.out, ← HN.out] at hlg
  have HLG := Lib.hid hlg
  clear hlg
  by_cases h20 : 20 < n
  · rw [decide_eq_true h20] at HLG
    clear h20
    go_wp2_with fail
    refine Calls.mono HLG.out ?_
    rintro e w2 ⟨rfl, hb2⟩
    have HB2 := Lib.hid (HB1.out.trans (hb2.mono HB1.out.size))
    clear hb2
    go_wp2_with fail
    go_ret
    exact ⟨rfl, HB2.out⟩
  rw [decide_eq_false h20] at HLG
  have HN20 := Lib.hid (show n ≤ 20 by omega)
  clear h20
  go_wp2_with fail
  refine Calls.mono HLG.out ?_
  rintro e w2 ⟨rfl, hb2⟩
  have HB2 := Lib.hid (HB1.out.trans (hb2.mono HB1.out.size))
  have HM2 := Lib.hid ((hb2.block mb (Array.getElem?_eq_some_iff.1 HM1.out).1).trans HM1.out)
  clear hb2 k0 k1 k2 k3 k4 k5
  have k0 := (cell_of_row _ _ 0 _ _ (0, 0) HM2.out).trans rfl
  have k1 := (cell_of_row _ _ 1 _ _ (0, 0) HM2.out).trans rfl
  have k2 := (cell_of_row _ _ 2 _ _ (0, 0) HM2.out).trans rfl
  have k3 := (cell_of_row _ _ 3 _ _ (0, 0) HM2.out).trans rfl
  have k4 := (cell_of_row _ _ 4 _ _ (0, 0) HM2.out).trans rfl
  have k5 := (cell_of_row _ _ 5 _ _ (0, 0) HM2.out).trans rfl
  have hpr := program15_any m A c w2 (RowAt.below HZ.out HB2.out) HNI.out (by rw [← HN.out]; exact HN20.out)
  rw [HE6.out] at hpr
  have HPR := Lib.hid hpr
  clear hpr
  go_wp2_with fail
  refine Calls.mono HPR.out ?_
  rintro e w3 ⟨_, rfl, A2, c2, rfl, ho3, hb3⟩
  rw [show mfC m A2 c2 = #[.int .i64 m.gen, .int .i64 m.epoch, .int .i64 m.base, .int .i64 m.area, .int .i64 m.len, .slice A2 n c2] by rw [HN.out]; rfl]
  have HO3 := Lib.hid ho3
  have HB3 := Lib.hid (HB2.out.trans (hb3.mono HB2.out.size))
  have HM3 := Lib.hid ((hb3.block mb (Array.getElem?_eq_some_iff.1 HM2.out).1).trans HM2.out)
  clear hb3 ho3 k0 k1 k2 k3 k4 k5
  go_upto_region 6 with (fail)
  obtain ⟨w4, hw4⟩ : ∃ w4, w4 = w3.alloc (.cells #[.int .i64 m.gen, .int .i64 m.epoch, .int .i64 m.base, .int .i64 m.area, .int .i64 m.len, .slice A2 n c2] 93) := ⟨_, rfl⟩
  obtain ⟨pb, hpb⟩ : ∃ pb, pb = w3.heap.size := ⟨_, rfl⟩
  have hs4 : SeI w w4 m mb pb A A2 c c2 (pb + 1) := by
    have hb4 : Below w3.heap.size w3 w4 := by rw [hw4]; exact (Below.refl _ _).alloc (Nat.le_refl _) _
    refine ⟨HB3.out.trans (hb4.mono HB3.out.size), ?_, ?_, ?_, fun r hr => ?_, ?_, ?_⟩
    · rw [HE6.out]; exact (hb4.block mb (Array.getElem?_eq_some_iff.1 HM3.out).1).trans HM3.out
    · rw [show mfC m A2 c2 = #[.int .i64 m.gen, .int .i64 m.epoch, .int .i64 m.base, .int .i64 m.area, .int .i64 m.len, .slice A2 n c2] by rw [HN.out]; rfl, hw4, hpb]; exact heap_alloc_new w3 _
    · exact own_lower (own_keep HO3.out fun r hr => hb4.block r (HO3.out.lt r hr).2) HB2.out.size
    · have := (HO3.out.lt r hr).2; omega
    · rw [hw4, hpb, World.size_alloc]; exact Nat.le_refl _
    · have := (Array.getElem?_eq_some_iff.1 HM3.out).1; omega
  have HS4 := Lib.hid hs4
  have HPB := Lib.hid (show w.heap.size ≤ pb by rw [hpb]; exact HB3.out.size)
  rw [← hw4, ← hpb]
  clear hw4 hpb hs4 HM3 HO3 HB3
  have HAL := Lib.hid (show ∀ W : World, SeI w W m mb pb A A2 c c2 (pb + 1) → W.heap[mb]? = some (.cells #[.int .i64 m.gen, .int .i64 m.epoch, .int .i64 m.base, .int .i64 m.area, .int .i64 m.len, .slice A n c] 91 (0, 0)) ∧ W.heap[pb]? = some (.cells #[.int .i64 m.gen, .int .i64 m.epoch, .int .i64 m.base, .int .i64 m.area, .int .i64 m.len, .slice A2 n c2] 93 (0, 0)) ∧ Zs W A m.heads ∧ Zs W A2 m.heads from fun W h => ⟨by rw [← HE6.out]; exact h.arg, by rw [HN.out]; exact h.prog, RowAt.below HZ.out h.below, zs_own (c := c2) h.own rfl⟩)
  have HL9 := Lib.hid (show m.heads.length ≤ 9223372036854775807 by rw [← HN.out]; have := HN20.out; omega)
  have hp4 := (HAL.out _ HS4.out).2.1
  have k0 := (cell_of_row _ _ 0 _ _ (0, 0) hp4).trans rfl
  have k1 := (cell_of_row _ _ 1 _ _ (0, 0) hp4).trans rfl
  have k2 := (cell_of_row _ _ 2 _ _ (0, 0) hp4).trans rfl
  have k3 := (cell_of_row _ _ 3 _ _ (0, 0) hp4).trans rfl
  have k4 := (cell_of_row _ _ 4 _ _ (0, 0) hp4).trans rfl
  have k5 := (cell_of_row _ _ 5 _ _ (0, 0) hp4).trans rfl
  clear hp4
  by_cases hgb : goodB m = true
  · have hgm := (goodB_iff m).1 hgb
    have HGM := Lib.hid hgm
    have HGB := Lib.hid hgb
    obtain ⟨S, hS⟩ : ∃ S, S = secM m := ⟨_, rfl⟩
    have HSL := Lib.hid (show S.length = 64 by rw [hS]; exact secM_len hgm)
    have HSS := Lib.hid (show ∀ x ∈ S, x < 256 by rw [hS]; exact secM_small hgm)
    have HOM := Lib.hid (show openM cI S = some m by rw [hS]; exact openM_sec conv_cI hgm)
    have hse := slseal_ok hgm A2 c2 w4 (HAL.out _ HS4.out).2.2.2
    rw [← hS, show mfC m A2 c2 = #[.int .i64 m.gen, .int .i64 m.epoch, .int .i64 m.base, .int .i64 m.area, .int .i64 m.len, .slice A2 n c2] by rw [HN.out]; rfl] at hse
    have HSE := Lib.hid hse
    have HDS := Lib.hid (show ∀ W, SeI w W m mb pb A A2 c c2 (pb + 1) → Calls Try.prog 55 #[.agg #[.int .i64 m.gen, .int .i64 m.epoch, .int .i64 m.base, .int .i64 m.area, .int .i64 m.len, .slice A n c]] W fun e w' => e = .returned (.agg (secV S)) ∧ Below W.heap.size W w' from fun W h => by
      have h9 := drefseal_ok hgm A c W (HAL.out _ h).2.2.1
      rw [← hS, HE6.out] at h9
      exact h9)
    clear hse hgm hgb hS
    go_wp2_with fail
    refine Calls.mono HSE.out ?_
    rintro e w5 ⟨rfl, hb5⟩
    have HS5 := Lib.hid ((HS4.out.later hb5).later ((Below.refl _ w5).alloc (Nat.le_refl _) (.cells (secV S) 75)))
    have HC5 := Lib.hid (show Sec (w5.alloc (.cells (secV S) 75)) w5.heap.size S from heap_alloc_new w5 _)
    have hsz : (secV S).size = 64 := by rw [secV_size]; exact HSL.out
    have hst := fun w1 => store_new w1 S HSL.out
    clear hb5 k0 k1 k2 k3 k4 k5 HSE
    go_upto_region 7 with (fail)
    obtain ⟨w6, hw6⟩ : ∃ w6, w6 = w5.alloc (.cells (secV S) 75) := ⟨_, rfl⟩
    obtain ⟨sb, hsb⟩ : ∃ sb, sb = w5.heap.size := ⟨_, rfl⟩
    rw [← hw6] at HS5 HC5 ⊢
    rw [← hsb] at HC5 ⊢
    clear hw6 hsb hsz hst
    have hm6 := (HAL.out _ HS5.out).1
    have k0 := (cell_of_row _ _ 0 _ _ (0, 0) hm6).trans rfl
    have k1 := (cell_of_row _ _ 1 _ _ (0, 0) hm6).trans rfl
    have k2 := (cell_of_row _ _ 2 _ _ (0, 0) hm6).trans rfl
    have k3 := (cell_of_row _ _ 3 _ _ (0, 0) hm6).trans rfl
    have k4 := (cell_of_row _ _ 4 _ _ (0, 0) hm6).trans rfl
    have k5 := (cell_of_row _ _ 5 _ _ (0, 0) hm6).trans rfl
    have hrg := rfgood_any m A c w6 (HAL.out _ HS5.out).2.2.1 HL9.out
    rw [HE6.out, HGB.out] at hrg
    have HRG := Lib.hid hrg
    clear hm6 hrg
    go_wp2_with fail
    refine Calls.mono HRG.out ?_
    rintro e w7 ⟨rfl, hb7⟩
    have HS7 := Lib.hid (HS5.out.later hb7)
    have HC7 := Lib.hid (HC5.out.old hb7)
    clear hb7 k0 k1 k2 k3 k4 k5 HRG
    have hp7 := (HAL.out _ HS7.out).2.1
    have k0 := (cell_of_row _ _ 0 _ _ (0, 0) hp7).trans rfl
    have k1 := (cell_of_row _ _ 1 _ _ (0, 0) hp7).trans rfl
    have k2 := (cell_of_row _ _ 2 _ _ (0, 0) hp7).trans rfl
    have k3 := (cell_of_row _ _ 3 _ _ (0, 0) hp7).trans rfl
    have k4 := (cell_of_row _ _ 4 _ _ (0, 0) hp7).trans rfl
    have k5 := (cell_of_row _ _ 5 _ _ (0, 0) hp7).trans rfl
    have hsg := slgood_any m A2 c2 w7 (HAL.out _ HS7.out).2.2.2 HL9.out
    rw [show mfC m A2 c2 = #[.int .i64 m.gen, .int .i64 m.epoch, .int .i64 m.base, .int .i64 m.area, .int .i64 m.len, .slice A2 n c2] by rw [HN.out]; rfl, HGB.out] at hsg
    have HSG := Lib.hid hsg
    clear hp7 hsg
    go_wp2_with fail
    refine Calls.mono HSG.out ?_
    rintro e w8 ⟨rfl, hb8⟩
    have HS8 := Lib.hid (HS7.out.later hb8)
    have HC8 := Lib.hid (HC7.out.old hb8)
    clear hb8 k0 k1 k2 k3 k4 k5 HSG
    have hp8 := (HAL.out _ HS8.out).2.1
    have hm8 := (HAL.out _ HS8.out).1
    have k0 := (cell_of_row _ _ 0 _ _ (0, 0) hp8).trans rfl
    have k1 := (cell_of_row _ _ 1 _ _ (0, 0) hp8).trans rfl
    have k2 := (cell_of_row _ _ 2 _ _ (0, 0) hp8).trans rfl
    have k3 := (cell_of_row _ _ 3 _ _ (0, 0) hp8).trans rfl
    have k4 := (cell_of_row _ _ 4 _ _ (0, 0) hp8).trans rfl
    have k5 := (cell_of_row _ _ 5 _ _ (0, 0) hp8).trans rfl
    have x0 := (cell_of_row _ _ 0 _ _ (0, 0) hm8).trans rfl
    have x1 := (cell_of_row _ _ 1 _ _ (0, 0) hm8).trans rfl
    have x2 := (cell_of_row _ _ 2 _ _ (0, 0) hm8).trans rfl
    have x3 := (cell_of_row _ _ 3 _ _ (0, 0) hm8).trans rfl
    have x4 := (cell_of_row _ _ 4 _ _ (0, 0) hm8).trans rfl
    have x5 := (cell_of_row _ _ 5 _ _ (0, 0) hm8).trans rfl
    have hsm := same15_any m A2 A c2 c w8 (HAL.out _ HS8.out).2.2.2 (HAL.out _ HS8.out).2.2.1 HL9.out
    rw [show mfC m A2 c2 = #[.int .i64 m.gen, .int .i64 m.epoch, .int .i64 m.base, .int .i64 m.area, .int .i64 m.len, .slice A2 n c2] by rw [HN.out]; rfl, HE6.out] at hsm
    have HSM := Lib.hid hsm
    clear hp8 hm8 hsm
    go_wp2_with fail
    refine Calls.mono HSM.out ?_
    rintro e w9 ⟨rfl, hb9⟩
    have HS9 := Lib.hid (HS8.out.later hb9)
    have HC9 := Lib.hid (HC8.out.old hb9)
    clear hb9 k0 k1 k2 k3 k4 k5 x0 x1 x2 x3 x4 x5 HSM
    go_wp2_with (first | refine wpList_load_sec (by rfl) (.tmp 4) rfl sb rfl S HSL.out HC9.out ?_)
    refine Calls.mono (slopen_any S HSL.out HSS.out w9) ?_
    rintro e wa ⟨ho, hba⟩
    have HSa := Lib.hid (HS9.out.later hba)
    have HCa := Lib.hid (HC9.out.old hba)
    clear hba
    rcases ho with ⟨hn, _⟩ | ⟨m2, A3, c3, hn, rfl, hown⟩
    · rw [HOM.out] at hn; cases hn
    · have hmm : m2 = m := by rw [HOM.out] at hn; injection hn with hn; exact hn.symm
      subst hmm
      have HO9 := Lib.hid hown
      rw [show mfC m2 A3 c3 = #[.int .i64 m2.gen, .int .i64 m2.epoch, .int .i64 m2.base, .int .i64 m2.area, .int .i64 m2.len, .slice A3 n c3] by rw [HN.out]; rfl]
      clear hn hown
      go_upto_region 13 with (fail)
      obtain ⟨wb, hwb⟩ : ∃ wb, wb = wa.alloc (.cells #[.int .i64 m2.gen, .int .i64 m2.epoch, .int .i64 m2.base, .int .i64 m2.area, .int .i64 m2.len, .slice A3 n c3] 93) := ⟨_, rfl⟩
      obtain ⟨xb, hxb⟩ : ∃ xb, xb = wa.heap.size := ⟨_, rfl⟩
      have hbb : Below wa.heap.size wa wb := by rw [hwb]; exact (Below.refl _ _).alloc (Nat.le_refl _) _
      have HSb := Lib.hid (HSa.out.later hbb)
      have HCb := Lib.hid (HCa.out.old hbb)
      have HXb := Lib.hid (show wb.heap[xb]? = some (.cells #[.int .i64 m2.gen, .int .i64 m2.epoch, .int .i64 m2.base, .int .i64 m2.area, .int .i64 m2.len, .slice A3 n c3] 93 (0, 0)) by rw [hwb, hxb]; exact heap_alloc_new wa _)
      have HOb := Lib.hid (own_keep HO9.out fun r hr => hbb.block r (HO9.out.lt r hr).2)
      rw [← hwb, ← hxb]
      clear hwb hxb hbb HO9
      have HF := Lib.hid (show ∀ W2, Below wb.drew.heap.size wb.drew W2 → SeI w W2 m2 mb pb A A2 c c2 (pb + 1) ∧ Sec W2 sb S ∧ W2.heap[xb]? = some (.cells #[.int .i64 m2.gen, .int .i64 m2.epoch, .int .i64 m2.base, .int .i64 m2.area, .int .i64 m2.len, .slice A3 n c3] 93 (0, 0)) ∧ W2.ownsRow w9.heap.size 3 1 (.slice A3 m2.heads.length c3) m2.heads.length (rowV zV m2.heads) from fun W2 hw => by
        have hb2 : Below wb.heap.size wb W2 := (Below.refl _ wb).drew.trans hw
        exact ⟨HSb.out.later hb2, HCb.out.old hb2, (hb2.block xb (Array.getElem?_eq_some_iff.1 HXb.out).1).trans HXb.out, own_keep HOb.out fun r hr => hb2.block r (HOb.out.lt r hr).2⟩)
      have HSV := Lib.hid (show (⟨S, HSL.out, HSS.out⟩ : Sx).val = .agg (secV S) from rfl)
      refine wp_region_noPanic ?_
      refine wp_region_abs 17 73 [
        .is .nilIface,
        .is (.bool false),
        .is (.bool false),
        .is .nilIface,
        .is (.bool false),
        .is (.bool false),
        .is (.bool false),
        .is (.agg (secV S)),
        .is (.agg #[.int .i64 m2.gen, .int .i64 m2.epoch, .int .i64 m2.base, .int .i64 m2.area, .int .i64 m2.len, .slice A n c]),
        .is (.agg (secV S)),
        .is (.bool false),
        .is (.bool false),
        .is (.bool false),
        .is (.agg #[.int .i64 m2.gen, .int .i64 m2.epoch, .int .i64 m2.base, .int .i64 m2.area, .int .i64 m2.len, .slice A3 n c3]),
        .is (.agg #[.int .i64 m2.gen, .int .i64 m2.epoch, .int .i64 m2.base, .int .i64 m2.area, .int .i64 m2.len, .slice A n c]),
        .is (.bool true),
        .is (.bool false)]
        [46, 47, 48, 49, 50, 51, 52, 53, 54, 55, 56, 57, 58, 59, 60, 61, 62]
        [[], [0], [1], [2], [3, 2], [2, 4], [5], [6], [6], [8, 6], [7, 9, 6], [6, 10], [11], [12], [12], [13, 14, 12], [15, 12]] (by kernel_rfl) (by rfl) rfl rfl (by kernel_rfl) (fun _ _ _ _ h => h.elim) ?_ ?_
      · refine ⟨?_, ?_, ?_, ?_, ?_, ?_, ?_, ?_, ?_, ?_, ?_, ?_, ?_, ?_, ?_, ?_, ?_, trivial⟩
        · intro W2 hw K hK
          go_simp
          exact hK _ _ rfl (Below.refl _ _)
        · intro W2 hw K hK
          go_simp
          exact hK _ _ rfl (Below.refl _ _)
        · intro W2 hw K hK
          go_simp
          exact hK _ _ rfl (Below.refl _ _)
        · intro W2 hw K hK
          go_simp
          exact hK _ _ rfl (Below.refl _ _)
        · intro W2 hw K hK
          go_simp
          exact hK _ _ rfl (Below.refl _ _)
        · intro W2 hw K hK
          go_simp
          exact hK _ _ rfl (Below.refl _ _)
        · intro W2 hw K hK
          go_simp
          exact hK _ _ rfl (Below.refl _ _)
        · intro W2 hw
          exact does_load (.tmp 4) (by rfl) rfl rfl (load_sec (HF.out W2 hw).2.1 HSL.out)
        · intro W2 hw K hK
          have hm9 := (HAL.out _ (HF.out W2 hw).1).1
          have k0 := (cell_of_row _ _ 0 _ _ (0, 0) hm9).trans rfl
          have k1 := (cell_of_row _ _ 1 _ _ (0, 0) hm9).trans rfl
          have k2 := (cell_of_row _ _ 2 _ _ (0, 0) hm9).trans rfl
          have k3 := (cell_of_row _ _ 3 _ _ (0, 0) hm9).trans rfl
          have k4 := (cell_of_row _ _ 4 _ _ (0, 0) hm9).trans rfl
          have k5 := (cell_of_row _ _ 5 _ _ (0, 0) hm9).trans rfl
          clear hm9
          go_simp
          exact hK _ _ rfl (Below.refl _ _)
        · intro W2 hw K hK
          have HDD := Lib.hid (HDS.out W2 (HF.out W2 hw).1)
          go_simp
          refine Calls.mono HDD.out ?_
          rintro e w' ⟨rfl, hb⟩
          exact hK _ _ rfl hb
        · intro W2 hw
          exact does_neq ⟨S, HSL.out, HSS.out⟩ (by rfl) rfl rfl rfl
        · intro W2 hw K hK
          go_simp
          exact hK _ _ rfl (Below.refl _ _)
        · intro W2 hw K hK
          go_simp
          exact hK _ _ rfl (Below.refl _ _)
        · intro W2 hw K hK
          have hm9 := (HF.out W2 hw).2.2.1
          have k0 := (cell_of_row _ _ 0 _ _ (0, 0) hm9).trans rfl
          have k1 := (cell_of_row _ _ 1 _ _ (0, 0) hm9).trans rfl
          have k2 := (cell_of_row _ _ 2 _ _ (0, 0) hm9).trans rfl
          have k3 := (cell_of_row _ _ 3 _ _ (0, 0) hm9).trans rfl
          have k4 := (cell_of_row _ _ 4 _ _ (0, 0) hm9).trans rfl
          have k5 := (cell_of_row _ _ 5 _ _ (0, 0) hm9).trans rfl
          clear hm9
          go_simp
          exact hK _ _ rfl (Below.refl _ _)
        · intro W2 hw K hK
          have hm9 := (HAL.out _ (HF.out W2 hw).1).1
          have k0 := (cell_of_row _ _ 0 _ _ (0, 0) hm9).trans rfl
          have k1 := (cell_of_row _ _ 1 _ _ (0, 0) hm9).trans rfl
          have k2 := (cell_of_row _ _ 2 _ _ (0, 0) hm9).trans rfl
          have k3 := (cell_of_row _ _ 3 _ _ (0, 0) hm9).trans rfl
          have k4 := (cell_of_row _ _ 4 _ _ (0, 0) hm9).trans rfl
          have k5 := (cell_of_row _ _ 5 _ _ (0, 0) hm9).trans rfl
          clear hm9
          go_simp
          exact hK _ _ rfl (Below.refl _ _)
        · intro W2 hw K hK
          have hsm := same15_any m2 A3 A c3 c W2 (zs_own (c := c3) (HF.out W2 hw).2.2.2 rfl) (HAL.out _ (HF.out W2 hw).1).2.2.1 HL9.out
          rw [show mfC m2 A3 c3 = #[.int .i64 m2.gen, .int .i64 m2.epoch, .int .i64 m2.base, .int .i64 m2.area, .int .i64 m2.len, .slice A3 n c3] by rw [HN.out]; rfl, HE6.out] at hsm
          have HSM := Lib.hid hsm
          clear hsm
          go_simp
          refine Calls.mono HSM.out ?_
          rintro e w' ⟨rfl, hb⟩
          exact hK _ _ rfl hb
        · intro W2 hw K hK
          go_simp
          exact hK _ _ rfl (Below.refl _ _)
      · intro W2 hw2
        simp only [Behind]
        have HG := Lib.hid (HF.out W2 hw2)
        clear hw2
        simp only [List.drop, Act.put, List.setIfInBounds_toArray, List.set_cons_zero, List.set_cons_succ]
        go_wp2_with fail
        refine NoPanic.normal ?_
        obtain ⟨b3, hA3, hb3, hg3⟩ : ∃ b3, A3 = some ⟨b3, 0, none⟩ ∧ w9.heap.size ≤ b3 ∧ ∃ cur, W2.heap[b3]? = some (.cells cur 3 (0, 0)) := by
          rcases HG.out.2.2.2.2 with ⟨_, h0⟩ | ⟨g, cap, cur, hv, hb, hg, _⟩
          · have := HGM.out.h1; omega
          · injection hv with hv1
            exact ⟨g, hv1, hb, cur, hg⟩
        obtain ⟨cur, hg3⟩ := hg3
        subst hA3
        obtain ⟨b4, o4, e4, hc4⟩ := zs_cells (zs_own (c := c3) HG.out.2.2.2 rfl) (by have := HGM.out.h1; omega)
        injection e4 with e4
        injection e4 with e4 e5
        subst e4 e5
        have hpos : 0 < m2.heads.length := by have := HGM.out.h1; omega
        obtain ⟨hd, hhd⟩ : ∃ h, h = m2.heads[0]'hpos := ⟨_, rfl⟩
        have h0 := hc4 0 hpos
        rw [← hhd, Nat.zero_add] at h0
        have hbd := HGM.out.hs hd (by rw [hhd]; exact List.getElem_mem hpos)
        have e1 : IntKind.i64.wrap (hd + 1) = hd + 1 := IntWalk.i64_in _ (by omega)
        have fz := frozen_at hg3 0
        have hn0 : 0 < n := by rw [HN.out]; exact hpos
        have k5 := (cell_of_row _ _ 5 _ _ (0, 0) HG.out.2.2.1).trans rfl
        have HT := Lib.hid (HG.out.1.turn b3 0 (.int .i64 (hd + 1)) (by have := HS9.out.size; omega) (by have := HPB.out; omega))
        clear hc4 hhd hbd hg3 hb3 hpos
        go_upto_region 16 with (fail)
        obtain ⟨w10, hw10⟩ : ∃ w10, w10 = W2.setCell ⟨b3, 0, none⟩ (.int .i64 (hd + 1)) := ⟨_, rfl⟩
        rw [← hw10] at HT ⊢
        clear hw10 h0 e1 fz hn0 k5
        have hp8 := (HAL.out _ HT.out).2.1
        have hm8 := (HAL.out _ HT.out).1
        have k0 := (cell_of_row _ _ 0 _ _ (0, 0) hp8).trans rfl
        have k1 := (cell_of_row _ _ 1 _ _ (0, 0) hp8).trans rfl
        have k2 := (cell_of_row _ _ 2 _ _ (0, 0) hp8).trans rfl
        have k3 := (cell_of_row _ _ 3 _ _ (0, 0) hp8).trans rfl
        have k4 := (cell_of_row _ _ 4 _ _ (0, 0) hp8).trans rfl
        have k5 := (cell_of_row _ _ 5 _ _ (0, 0) hp8).trans rfl
        have x0 := (cell_of_row _ _ 0 _ _ (0, 0) hm8).trans rfl
        have x1 := (cell_of_row _ _ 1 _ _ (0, 0) hm8).trans rfl
        have x2 := (cell_of_row _ _ 2 _ _ (0, 0) hm8).trans rfl
        have x3 := (cell_of_row _ _ 3 _ _ (0, 0) hm8).trans rfl
        have x4 := (cell_of_row _ _ 4 _ _ (0, 0) hm8).trans rfl
        have x5 := (cell_of_row _ _ 5 _ _ (0, 0) hm8).trans rfl
        have hsm := same15_any m2 A2 A c2 c w10 (HAL.out _ HT.out).2.2.2 (HAL.out _ HT.out).2.2.1 HL9.out
        rw [show mfC m2 A2 c2 = #[.int .i64 m2.gen, .int .i64 m2.epoch, .int .i64 m2.base, .int .i64 m2.area, .int .i64 m2.len, .slice A2 n c2] by rw [HN.out]; rfl, HE6.out] at hsm
        have HSM := Lib.hid hsm
        clear hp8 hm8 hsm
        go_wp2_with fail
        refine Calls.mono HSM.out ?_
        rintro e w11 ⟨rfl, hb11⟩
        have HB11 := Lib.hid (HT.out.later hb11).below
        clear hb11
        go_wp2_with fail
        go_ret
        exact ⟨rfl, HB11.out⟩
  · have hgf : goodB m = false := by simpa using hgb
    have HGB := Lib.hid hgf
    have hse := slseal_bad m A2 c2 w4 (HAL.out _ HS4.out).2.2.2 HL9.out hgf
    unfold eForm at hse
    rw [show mfC m A2 c2 = #[.int .i64 m.gen, .int .i64 m.epoch, .int .i64 m.base, .int .i64 m.area, .int .i64 m.len, .slice A2 n c2] by rw [HN.out]; rfl] at hse
    have HSE := Lib.hid hse
    clear hse hgf hgb
    go_wp2_with fail
    refine Calls.mono HSE.out ?_
    rintro e w5 ⟨rfl, hb5⟩
    have HS5 := Lib.hid ((HS4.out.later hb5).later ((Below.refl _ w5).alloc (Nat.le_refl _) (.cells (secV (noughts 64)) 75)))
    have HC5 := Lib.hid (show Sec (w5.alloc (.cells (secV (noughts 64)) 75)) w5.heap.size (noughts 64) from heap_alloc_new w5 _)
    have hsz : (secV (noughts 64)).size = 64 := by rw [secV_size]; exact noughts64
    have hst := fun w1 => store_new w1 (noughts 64) noughts64
    clear hb5 k0 k1 k2 k3 k4 k5 HSE
    go_upto_region 7 with (fail)
    obtain ⟨w6, hw6⟩ : ∃ w6, w6 = w5.alloc (.cells (secV (noughts 64)) 75) := ⟨_, rfl⟩
    obtain ⟨sb, hsb⟩ : ∃ sb, sb = w5.heap.size := ⟨_, rfl⟩
    rw [← hw6] at HS5 HC5 ⊢
    rw [← hsb] at HC5 ⊢
    clear hw6 hsb hsz hst
    have hm6 := (HAL.out _ HS5.out).1
    have k0 := (cell_of_row _ _ 0 _ _ (0, 0) hm6).trans rfl
    have k1 := (cell_of_row _ _ 1 _ _ (0, 0) hm6).trans rfl
    have k2 := (cell_of_row _ _ 2 _ _ (0, 0) hm6).trans rfl
    have k3 := (cell_of_row _ _ 3 _ _ (0, 0) hm6).trans rfl
    have k4 := (cell_of_row _ _ 4 _ _ (0, 0) hm6).trans rfl
    have k5 := (cell_of_row _ _ 5 _ _ (0, 0) hm6).trans rfl
    have hrg := rfgood_any m A c w6 (HAL.out _ HS5.out).2.2.1 HL9.out
    rw [HE6.out, HGB.out] at hrg
    have HRG := Lib.hid hrg
    clear hm6 hrg
    go_wp2_with fail
    refine Calls.mono HRG.out ?_
    rintro e w7 ⟨rfl, hb7⟩
    have HS7 := Lib.hid (HS5.out.later hb7)
    have HC7 := Lib.hid (HC5.out.old hb7)
    clear hb7 k0 k1 k2 k3 k4 k5 HRG
    have hp7 := (HAL.out _ HS7.out).2.1
    have k0 := (cell_of_row _ _ 0 _ _ (0, 0) hp7).trans rfl
    have k1 := (cell_of_row _ _ 1 _ _ (0, 0) hp7).trans rfl
    have k2 := (cell_of_row _ _ 2 _ _ (0, 0) hp7).trans rfl
    have k3 := (cell_of_row _ _ 3 _ _ (0, 0) hp7).trans rfl
    have k4 := (cell_of_row _ _ 4 _ _ (0, 0) hp7).trans rfl
    have k5 := (cell_of_row _ _ 5 _ _ (0, 0) hp7).trans rfl
    have hsg := slgood_any m A2 c2 w7 (HAL.out _ HS7.out).2.2.2 HL9.out
    rw [show mfC m A2 c2 = #[.int .i64 m.gen, .int .i64 m.epoch, .int .i64 m.base, .int .i64 m.area, .int .i64 m.len, .slice A2 n c2] by rw [HN.out]; rfl, HGB.out] at hsg
    have HSG := Lib.hid hsg
    clear hp7 hsg
    go_wp2_with fail
    refine Calls.mono HSG.out ?_
    rintro e w8 ⟨rfl, hb8⟩
    have HS8 := Lib.hid (HS7.out.later hb8)
    have HC8 := Lib.hid (HC7.out.old hb8)
    clear hb8 k0 k1 k2 k3 k4 k5 HSG
    have hp8 := (HAL.out _ HS8.out).2.1
    have hm8 := (HAL.out _ HS8.out).1
    have k0 := (cell_of_row _ _ 0 _ _ (0, 0) hp8).trans rfl
    have k1 := (cell_of_row _ _ 1 _ _ (0, 0) hp8).trans rfl
    have k2 := (cell_of_row _ _ 2 _ _ (0, 0) hp8).trans rfl
    have k3 := (cell_of_row _ _ 3 _ _ (0, 0) hp8).trans rfl
    have k4 := (cell_of_row _ _ 4 _ _ (0, 0) hp8).trans rfl
    have k5 := (cell_of_row _ _ 5 _ _ (0, 0) hp8).trans rfl
    have x0 := (cell_of_row _ _ 0 _ _ (0, 0) hm8).trans rfl
    have x1 := (cell_of_row _ _ 1 _ _ (0, 0) hm8).trans rfl
    have x2 := (cell_of_row _ _ 2 _ _ (0, 0) hm8).trans rfl
    have x3 := (cell_of_row _ _ 3 _ _ (0, 0) hm8).trans rfl
    have x4 := (cell_of_row _ _ 4 _ _ (0, 0) hm8).trans rfl
    have x5 := (cell_of_row _ _ 5 _ _ (0, 0) hm8).trans rfl
    have hsm := same15_any m A2 A c2 c w8 (HAL.out _ HS8.out).2.2.2 (HAL.out _ HS8.out).2.2.1 HL9.out
    rw [show mfC m A2 c2 = #[.int .i64 m.gen, .int .i64 m.epoch, .int .i64 m.base, .int .i64 m.area, .int .i64 m.len, .slice A2 n c2] by rw [HN.out]; rfl, HE6.out] at hsm
    have HSM := Lib.hid hsm
    clear hp8 hm8 hsm
    go_wp2_with fail
    refine Calls.mono HSM.out ?_
    rintro e w9 ⟨rfl, hb9⟩
    have HS9 := Lib.hid (HS8.out.later hb9)
    have HC9 := Lib.hid (HC8.out.old hb9)
    clear hb9 k0 k1 k2 k3 k4 k5 x0 x1 x2 x3 x4 x5 HSM
    have e1 := equal_noughts
    go_wp2_with (first | refine wpList_load_sec (by rfl) (.tmp 4) rfl sb rfl (noughts 64) noughts64 HC9.out ?_)
    refine Calls.mono (is_errno 2 (by decide) w9) ?_
    rintro e w10 ⟨rfl, rfl⟩
    go_wp2_with (first | refine wpList_load_sec (by rfl) (.tmp 4) rfl sb rfl (noughts 64) noughts64 HC9.out ?_)
    go_ret
    exact ⟨rfl, HS9.out.below⟩
end Go.Proofs.Ytjmjehhmkjhalaa
