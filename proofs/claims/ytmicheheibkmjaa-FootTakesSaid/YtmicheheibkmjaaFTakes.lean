/- FootTakes: the law, walked. -/
import Derived.Test.YtmicheheibkmjaaFTakeV
import Derived.Test.YtmicheheibkmjaaFFeet
import Derived.Test.YtmicheheibkmjaaFAlive
import Derived.Deep.CutRange
import Derived.Deep.CutBlock
namespace Go.Proofs.Ytmicheheibkmjaa
set_option maxRecDepth 100000
open Go.RowKit Go.Shelf

theorem putB_long (f : Ft) : f.rs.length ≤ (putB f).length ∧ f.sp.length ≤ (putB f).length ∧ f.ws.length ≤ (putB f).length := by
  have h1 := flatMap_long codecK f.rs
  have h2 := flatMap_long codecS f.sp
  have h3 := flatMap_long codecK f.ws
  unfold putB ksB ssB
  simp only [List.length_append]
  omega
/-- The program and the document take the same. -/
theorem ok_same (xs : List Nat) (hs : ∀ x ∈ xs, x < 256) (hl : xs.length ≤ 3000) : okM xs = okT xs ∧ footM xs = footT xs ∧ (okT xs = true → FitF (footT xs) ∧ goodB (footT xs) = true ∧ putB (footT xs) = xs) := by
  obtain ⟨⟨f, r, d⟩, hT⟩ : ∃ y, y = takeP xs := ⟨_, rfl⟩
  have hk := okT_eq hT.symm
  by_cases h : okT xs = true
  · rw [hk] at h
    simp only [Bool.and_eq_true, Bool.not_eq_true', decide_eq_true_iff] at h
    obtain ⟨rfl, rfl, hg⟩ := h
    obtain ⟨e, hf⟩ := take_yes xs f hs hT.symm (tab_of_good hg)
    obtain ⟨l1, l2, l3⟩ := putB_long f
    rw [← e] at l1 l2 l3
    have hm := takeM_put f hf (by omega) (by omega) (by omega)
    rw [← e] at hm
    have k1 := okM_yes hm hg e.symm
    have k2 := okT_yes hT.symm hg
    have k3 : okT xs = true := by rw [hk, hg]; rfl
    rw [k1.1, k1.2, k2.2, k3]
    exact ⟨rfl, rfl, fun _ => ⟨hf, hg, e.symm⟩⟩
  · have h0 : okT xs = false := by simpa using h
    have hM : okM xs = false := by
      cases hmm : okM xs with
      | false => rfl
      | true =>
        exfalso
        obtain ⟨⟨f', r', d'⟩, hM⟩ : ∃ y, y = takeM xs := ⟨_, rfl⟩
        rw [okM_eq hM.symm] at hmm
        simp only [Bool.and_eq_true, Bool.not_eq_true', decide_eq_true_iff] at hmm
        obtain ⟨⟨rfl, rfl⟩, hg, hp⟩ := hmm
        have hq := hM
        unfold takeM at hq
        injection hq with hq1 _
        have ha := listKM_all hs
        have hb := listSM_all ha.2
        have hc := listKM_all hb.2
        have hf : FitF f' := by
          refine fit_of_good hg ⟨?_, ?_⟩ ?_ ?_ ?_ ?_
          · rw [hq1]; exact ha.1
          · rw [hq1]; exact hc.1
          · rw [hq1]; exact hb.1
          · rw [hq1]; exact listM_len _
          · rw [hq1]; exact listM_len _
          · rw [hq1]; exact listM_len _
        have hT2 := take_put f' hf
        rw [hp] at hT2
        have := okT_eq hT2
        rw [h0, hg] at this
        cases this
    have k1 := okM_no hM
    have k2 := okT_no h0
    rw [k1.2, k2.2, h0, hM]
    exact ⟨rfl, rfl, fun h => by cases h⟩
set_option maxHeartbeats 16000000 in
theorem takes_law (A : Option Addr) (n c : Nat) (xs : List Nat) (w : World) (hr : Rdv w A n 1 (valsB xs)) (hn : n ≤ 9223372036854775807) (hnil : A = none → c = 0) (hnc : n ≤ c) (hs : ∀ x ∈ xs, x < 256) :
    Calls Try.prog 6 #[.slice A n c] w fun e w' => e = .returned (.bool true) ∧ Below w.heap.size w w' := by
  have hxl : xs.length = n := by have := hr.1; rw [valsB_length] at this; omega
  have HXL := Lib.hid hxl
  have HS := Lib.hid hs
  have HR := Lib.hid hr
  have HNIL := Lib.hid (show A = none → c = 0 ∧ n = 0 from fun h => ⟨hnil h, by have := hnil h; omega⟩)
  clear hr hs hxl hnil
  go_enter Try.func6, Try.ntmps6
  go_wp2_with fail
  refine Calls.mono (alive_any w) ?_
  rintro e w1 ⟨rfl, hb1⟩
  have HB1 := Lib.hid hb1
  clear hb1
  by_cases hlt : n > 3000
  · go_wp2_with fail
    go_ret
    exact ⟨rfl, HB1.out⟩
  · have HC := Lib.hid (copy_any A n c xs w1 (HR.out.ext (stays_b HB1.out)) (fun h => (HNIL.out h).1) (by omega))
    have HOS := Lib.hid (ok_same xs HS.out (by have := HXL.out; omega))
    go_wp2_with fail
    refine Calls.mono HC.out ?_
    rintro e w2 ⟨g, cap, rfl, hmk, hlow, hb2⟩
    have HB2 := Lib.hid (HB1.out.trans (hb2.mono HB1.out.size))
    have HMK := Lib.hid hmk
    have HT := Lib.hid (take_foot (some ⟨g, 0, none⟩) n cap xs w2 hmk.row (fun h => by cases h) (by omega) HS.out)
    clear hmk hlow hb2
    obtain ⟨er, her⟩ : ∃ er, er = errT xs := ⟨_, rfl⟩
    obtain ⟨f, hf⟩ : ∃ f, f = footT xs := ⟨_, rfl⟩
    obtain ⟨ok, hok⟩ : ∃ ok, ok = okT xs := ⟨_, rfl⟩
    rw [← her, ← hf] at HT
    have HER := Lib.hid (show er = if ok then .nilIface else eForm by rw [her, hok]; rfl)
    rw [← hf, ← hok] at HOS
    clear her hf hok
    go_wp2_with fail
    refine Calls.mono HT.out ?_
    rintro e w3 ⟨x, rfl, hx, hb3⟩
    have HB3 := Lib.hid (HB2.out.trans (hb3.mono HB2.out.size))
    have hmk3 := HMK.out.at (hb3.block g HMK.out.lt)
    have hb4 := (Below.refl w3.heap.size w3).alloc (Nat.le_refl _) (.cells x.cs 30)
    have HB4 := Lib.hid (HB3.out.trans (hb4.mono HB3.out.size))
    have HMK4 := Lib.hid (hmk3.at (hb4.block g hmk3.lt))
    have HX4 := Lib.hid (hx.below hb4)
    have HFX4 := Lib.hid (show FBox (w3.alloc (.cells x.cs 30)) w3.heap.size x from heap_alloc_new w3 _)
    clear hx hb3 hmk3 hb4
    unfold FV.val FV.cs
    unfold FV.cs at HB4 HMK4 HX4 HFX4
    go_upto_region 7 with fail
    revert HB4 HMK4 HX4 HFX4
    generalize World.alloc w3 _ = w4
    intro HB4 HMK4 HX4 HFX4
    obtain ⟨bx, hbx⟩ : ∃ b, b = w3.heap.size := ⟨_, rfl⟩
    rw [← hbx] at HFX4 ⊢
    clear hbx
    have hrt := reftake_foot A n c xs w4 (HR.out.ext (stays_b HB4.out)) HNIL.out (by omega) HS.out
    rw [HOS.out.1, HOS.out.2.1] at hrt
    have HRT := Lib.hid hrt
    clear hrt
    go_wp2_with fail
    refine Calls.mono HRT.out ?_
    rintro e w5 ⟨y, rfl, hy, hb5⟩
    have HB5 := Lib.hid (HB4.out.trans (hb5.mono HB4.out.size))
    have hmk5 := HMK4.out.at (hb5.block g HMK4.out.lt)
    have hb6 := (Below.refl w5.heap.size w5).alloc (Nat.le_refl _) (.cells y.cs 30)
    have HB6 := Lib.hid (HB5.out.trans (hb6.mono HB5.out.size))
    have HMK6 := Lib.hid (hmk5.at (hb6.block g hmk5.lt))
    have HX6 := Lib.hid ((HX4.out.below hb5).below hb6)
    have HFX6 := Lib.hid ((HFX4.out.below hb5).below hb6)
    have HY6 := Lib.hid (hy.below hb6)
    have HFY6 := Lib.hid (show FBox (w5.alloc (.cells y.cs 30)) w5.heap.size y from heap_alloc_new w5 _)
    clear hy hb5 hmk5 hb6
    unfold FV.val FV.cs
    unfold FV.cs at HB6 HMK6 HX6 HFX6 HY6 HFY6
    go_upto_region 8 with fail
    revert HB6 HMK6 HX6 HFX6 HY6 HFY6
    generalize World.alloc w5 _ = w6
    intro HB6 HMK6 HX6 HFX6 HY6 HFY6
    obtain ⟨bz, hbz⟩ : ∃ b, b = w5.heap.size := ⟨_, rfl⟩
    rw [← hbz] at HFY6 ⊢
    clear hbz
    have HKP := Lib.hid (kept_any g n cap xs A c w6 HMK6.out (HR.out.ext (stays_b HB6.out)) (by omega))
    have HFS := Lib.hid (feet_same_any x y f w6 HX6.out.at_ HY6.out.at_)
    unfold FV.val FV.cs at HFS
    have x0 := HFX6.out.c0
    have x1 := HFX6.out.c1
    have x2 := HFX6.out.c2
    have y0 := HFY6.out.c0
    have y1 := HFY6.out.c1
    have y2 := HFY6.out.c2
    cases ok with
    | true =>
      have her := HER.out
      rw [if_pos rfl] at her
      subst her
      obtain ⟨q1, q2, q3⟩ := HOS.out.2.2 rfl
      obtain ⟨l1, l2, l3⟩ := putB_long f
      rw [q3] at l1 l2 l3
      have m1 : f.rs.length = x.n := HX6.out.at_.rs.len
      have m2 : f.sp.length = x.n2 := HX6.out.at_.sp.len
      have m3 : f.ws.length = x.n3 := HX6.out.at_.ws.len
      have m0 := HXL.out
      have HG := Lib.hid (show goodB f = true ∧ FitF f ∧ putB f = xs from ⟨q2, q1, q3⟩)
      have HM := Lib.hid (show x.n ≤ 100000 ∧ x.n2 ≤ 100000 ∧ x.n3 ≤ 100000 by omega)
      clear q1 q2 q3 l1 l2 l3 m1 m2 m3 m0
      go_wp2_with fail
      refine Calls.mono HKP.out ?_
      rintro e w7 ⟨rfl, rfl⟩
      go_wp2_with fail
      refine Calls.mono HFS.out ?_
      rintro e w8 ⟨rfl, hb8⟩
      have HB8 := Lib.hid (HB6.out.trans (hb8.mono HB6.out.size))
      have HX8 := Lib.hid (HX6.out.below hb8)
      have HFX8 := Lib.hid (HFX6.out.below hb8)
      clear x0 x1 x2 y0 y1 y2 hb8
      have x0 := HFX8.out.c0
      have x1 := HFX8.out.c1
      have x2 := HFX8.out.c2
      have hput := put_yes x f w8 HX8.out HG.out.1 HG.out.2.1 HM.out.1 HM.out.2.1 HM.out.2.2
      rw [HG.out.2.2] at hput
      have HP := Lib.hid hput
      clear hput
      unfold FV.val FV.cs at HP
      go_wp2_with fail
      refine Calls.mono HP.out ?_
      rintro e w9 ⟨_, rfl, A9, c9, rfl, hq1, hq2, hb9⟩
      have HB9 := Lib.hid (HB8.out.trans (hb9.mono HB8.out.size))
      have hsame := same_any A9 A xs.length c9 n c xs xs w9 hq1 (HR.out.ext (stays_b HB9.out)) HS.out HS.out
      rw [decide_eq_true rfl] at hsame
      have HSA := Lib.hid hsame
      clear hq1 hq2 hb9 hsame x0 x1 x2
      go_wp2_with fail
      refine Calls.mono HSA.out ?_
      rintro e w10 ⟨rfl, rfl⟩
      go_wp2_with fail
      go_ret
      exact ⟨rfl, HB9.out⟩
    | false =>
      have her := HER.out
      rw [if_neg (by decide)] at her
      have HI := Lib.hid (fun w => is_form w)
      subst her
      unfold eForm at HI ⊢
      go_wp2_with fail
      refine Calls.mono HKP.out ?_
      rintro e w7 ⟨rfl, rfl⟩
      go_wp2_with fail
      refine Calls.mono (HI.out _) ?_
      rintro e w8 ⟨rfl, rfl⟩
      go_wp2_with fail
      refine Calls.mono HFS.out ?_
      rintro e w8 ⟨rfl, hb8⟩
      have HB8 := Lib.hid (HB6.out.trans (hb8.mono HB6.out.size))
      clear x0 x1 x2 y0 y1 y2 hb8
      go_wp2_with fail
      go_ret
      exact ⟨rfl, HB8.out⟩
end Go.Proofs.Ytmicheheibkmjaa
