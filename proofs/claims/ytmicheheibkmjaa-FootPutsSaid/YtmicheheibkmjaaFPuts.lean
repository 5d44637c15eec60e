/- FootPuts: the law, walked. -/
import Derived.Test.YtmicheheibkmjaaFTakeW
import Derived.Test.YtmicheheibkmjaaFPutR
import Derived.Test.YtmicheheibkmjaaFMine
import Derived.Test.YtmicheheibkmjaaFLarge
import Derived.Test.YtmicheheibkmjaaFFeet
import Derived.Test.YtmicheheibkmjaaFRefG
import Derived.Test.YtmicheheibkmjaaFAlive
import Derived.Deep.CutRange
import Derived.Deep.CutBlock
namespace Go.Proofs.Ytmicheheibkmjaa
set_option maxRecDepth 100000
open Go.RowKit Go.Shelf

theorem tabB_P {t : Int} (h : tabB t = true) : tabP t := by
  unfold tabB at h
  simp only [Bool.and_eq_true, decide_eq_true_iff] at h
  exact h
theorem tab_of_good {f : Ft} (h : goodB f = true) : TabF f := by
  have hk : ∀ l : List K, kgB l = true → ∀ x ∈ l, tabP x.t := fun l hl x hx => by
    by_cases hg : kg l l.length
    · obtain ⟨i, hi, rfl⟩ := List.getElem_of_mem hx
      exact tabB_P (hg i hi hi).1
    · rw [kg_false hg] at hl; cases hl
  have hs : ∀ l : List Sp, sgB l = true → ∀ x ∈ l, tabP x.t := fun l hl x hx => by
    by_cases hg : sg l l.length
    · obtain ⟨i, hi, rfl⟩ := List.getElem_of_mem hx
      exact tabB_P (hg i hi hi).1
    · rw [sg_false hg] at hl; cases hl
  unfold goodB at h
  rw [Bool.and_eq_true, Bool.and_eq_true] at h
  exact ⟨hk _ h.1, hs _ h.2.2, hk _ h.2.1⟩
/-- Its keys are numbers. -/
def FitY (f : Ft) : Prop := (∀ y ∈ f.rs, Fits y.k) ∧ ∀ y ∈ f.ws, Fits y.k
theorem fit_of_good {f : Ft} (h : goodB f = true) (hy : FitY f) (hs : ∀ s ∈ f.sp, FitS s) (h1 : f.rs.length ≤ 1000) (h2 : f.sp.length ≤ 1000) (h3 : f.ws.length ≤ 1000) : FitF f := by
  obtain ⟨t1, t2, t3⟩ := tab_of_good h
  refine ⟨fun x hx => ⟨t1 x hx, hy.1 x hx⟩, fun x hx => ?_, fun x hx => ⟨t3 x hx, hy.2 x hx⟩, by omega, by omega, by omega⟩
  have := hs x hx
  unfold FitS at this
  exact ⟨t2 x hx, ⟨by omega, by omega⟩, by omega, by omega⟩
theorem one_foot {w : World} {x : FV} {f : Ft} (h : FtG w x f) : FtsG (w.alloc (.cells x.cs 30)) (some ⟨w.heap.size, 0, none⟩) 1 [f] := by
  have hb := (Below.refl w.heap.size w).alloc (Nat.le_refl _) (.cells x.cs 30)
  have hF : FBox (w.alloc (.cells x.cs 30)) w.heap.size x := heap_alloc_new w _
  refine ⟨rfl, fun _ => ⟨_, _, rfl, fun j hj => ?_⟩⟩
  obtain rfl : j = 0 := by omega
  exact ⟨x, h.below hb, hF.c0, hF.c1, hF.c2⟩
theorem take_of_put {f : Ft} (h : goodB f = true) (hf : FitF f) : errT (putB f) = .nilIface ∧ footT (putB f) = f := okT_yes (take_put f hf) h
theorem putB_small (f : Ft) : ∀ b ∈ putB f, b < 256 := by
  have hk : ∀ x : K, ∀ b ∈ kB x, b < 256 := fun x b hb => by
    unfold kB at hb
    rcases List.mem_append.1 hb with h | h <;> exact cntN_small_all _ b h
  have hs : ∀ x : Sp, ∀ b ∈ sB x, b < 256 := fun x b hb => by
    unfold sB at hb
    rcases List.mem_append.1 hb with h | h
    · exact cntN_small_all _ b h
    · rcases List.mem_append.1 h with h | h <;> exact cntN_small_all _ b h
  have hks : ∀ l : List K, ∀ b ∈ ksB l, b < 256 := fun l b hb => by
    unfold ksB at hb
    rcases List.mem_append.1 hb with h | h
    · exact cntN_small_all _ b h
    · obtain ⟨x, _, hx⟩ := List.mem_flatMap.1 h
      exact hk x b hx
  intro b hb
  unfold putB at hb
  rcases List.mem_append.1 hb with h | h
  · exact hks _ b h
  · rcases List.mem_append.1 h with h | h
    · unfold ssB at h
      rcases List.mem_append.1 h with h | h
      · exact cntN_small_all _ b h
      · obtain ⟨x, _, hx⟩ := List.mem_flatMap.1 h
        exact hs x b hx
    · exact hks _ b h
theorem putB_len {f : Ft} (h : FitF f) (h1 : f.rs.length ≤ 1000) (h2 : f.sp.length ≤ 1000) (h3 : f.ws.length ≤ 1000) : (putB f).length ≤ 100000 := by
  have := ksB_len h.rs h.few.1
  have := ssB_len h.sp h.few.2.1
  have := ksB_len h.ws h.few.2.2
  unfold putB
  rw [List.length_append, List.length_append]
  omega
set_option maxHeartbeats 16000000 in
theorem puts_law (x : FV) (f : Ft) (w : World) (hx : FtG w x f) (hy : FitY f) : Calls Try.prog 5 #[x.val] w fun e w' => e = .returned (.bool true) ∧ Below w.heap.size w w' := by
  have hbx := (Below.refl w.heap.size w).alloc (Nat.le_refl _) (.cells x.cs 30)
  have HB := Lib.hid hbx
  have HX := Lib.hid (hx.below hbx)
  have HF := Lib.hid (show FBox (w.alloc (.cells x.cs 30)) w.heap.size x from heap_alloc_new w _)
  have HY := Lib.hid hy
  unfold FV.val
  clear hbx hx hy
  go_enter Try.func5, Try.ntmps5
  go_upto_region 1 with fail
  revert HB HX HF
  generalize World.alloc w _ = W
  intro HB HX HF
  go_wp2_with fail
  refine Calls.mono (alive_any W) ?_
  rintro e w1 ⟨rfl, hb1⟩
  have HB1 := Lib.hid (HB.out.trans (hb1.mono HB.out.size))
  have HF1 := Lib.hid (HF.out.below hb1)
  have HX1 := Lib.hid (HX.out.below hb1)
  clear hb1
  have y0 := HF1.out.c0
  have y1 := HF1.out.c1
  have y2 := HF1.out.c2
  have HLA := Lib.hid (large_any _ 1 1 [f] _ (one_foot HX1.out) (by omega))
  have hb2 := (Below.refl w1.heap.size w1).alloc (Nat.le_refl _) (.cells x.cs 30)
  have HB2 := Lib.hid (HB1.out.trans (hb2.mono HB1.out.size))
  have HF2 := Lib.hid (HF1.out.below hb2)
  have HX2 := Lib.hid (HX1.out.below hb2)
  clear hb2
  unfold FV.cs at HLA HB2 HF2 HX2
  go_wp2_with fail
  clear y0 y1 y2
  revert HLA HB2 HF2 HX2
  generalize World.alloc w1 _ = w2
  intro HLA HB2 HF2 HX2
  refine Calls.mono HLA.out ?_
  rintro e w3 ⟨⟨r, rfl, hr⟩, hb3⟩
  have HB3 := Lib.hid (HB2.out.trans (hb3.mono HB2.out.size))
  have HF3 := Lib.hid (HF2.out.below hb3)
  have HX3 := Lib.hid (HX2.out.below hb3)
  clear hb3
  cases r with
  | true =>
    go_wp2_with fail
    go_ret
    exact ⟨rfl, HB3.out⟩
  | false =>
    obtain ⟨_, hfew⟩ := hr rfl
    have hff := hfew f (List.mem_cons_self ..)
    clear hfew hr
    have hl1 : f.rs.length = x.n := HX3.out.at_.rs.len
    have hl2 : f.sp.length = x.n2 := HX3.out.at_.sp.len
    have hl3 : f.ws.length = x.n3 := HX3.out.at_.ws.len
    have hm1 : x.n ≤ 60 := by omega
    have hm2 : x.n2 ≤ 60 := by omega
    have hm3 : x.n3 ≤ 60 := by omega
    have HQ := Lib.hid (show f.rs.length ≤ 1000 ∧ f.sp.length ≤ 1000 ∧ f.ws.length ≤ 1000 by omega)
    have HQL := Lib.hid (show f.rs.length = x.n ∧ f.sp.length = x.n2 ∧ f.ws.length = x.n3 from ⟨hl1, hl2, hl3⟩)
    have y0 := HF3.out.c0
    have y1 := HF3.out.c1
    have y2 := HF3.out.c2
    have HC := Lib.hid (copies_any x f w3 HX3.out (by omega) (by omega) (by omega))
    clear hff hl1 hl2 hl3
    unfold FV.val FV.cs at HC
    go_wp2_with fail
    refine Calls.mono HC.out ?_
    rintro e w4 ⟨z, rfl, hz, hb4, _⟩
    have HB4 := Lib.hid (HB3.out.trans (hb4.mono HB3.out.size))
    have HF4 := Lib.hid (HF3.out.below hb4)
    have HX4 := Lib.hid (HX3.out.below hb4)
    have HZ4 := Lib.hid hz
    have hb5 := (Below.refl w4.heap.size w4).alloc (Nat.le_refl _) (.cells z.cs 30)
    have HB5 := Lib.hid (HB4.out.trans (hb5.mono HB4.out.size))
    have HF5 := Lib.hid (HF4.out.below hb5)
    have HX5 := Lib.hid (HX4.out.below hb5)
    have HZ5 := Lib.hid (HZ4.out.below hb5)
    have HG5 := Lib.hid (show FBox (w4.alloc (.cells z.cs 30)) w4.heap.size z from heap_alloc_new w4 _)
    have HZL := Lib.hid (show z.n ≤ 60 ∧ z.n2 ≤ 60 ∧ z.n3 ≤ 60 by
      have := hz.at_.rs.len; have := hz.at_.sp.len; have := hz.at_.ws.len; have := HQL.out; omega)
    clear hb4 hz hb5 y0 y1 y2
    unfold FV.cs at HB5 HF5 HX5 HZ5 HG5
    go_upto_region 6 with fail
    revert HB5 HF5 HX5 HZ5 HG5
    generalize World.alloc w4 _ = w5
    intro HB5 HF5 HX5 HZ5 HG5
    obtain ⟨gx, hgx⟩ : ∃ gx, gx = w4.heap.size := ⟨_, rfl⟩
    rw [← hgx] at HG5 ⊢
    clear hgx
    have z0 := HG5.out.c0
    have z1 := HG5.out.c1
    have z2 := HG5.out.c2
    obtain ⟨gb, hgb⟩ : ∃ r, r = goodB f := ⟨_, rfl⟩
    have HGB := Lib.hid hgb
    cases gb with
    | false =>
      have HP := Lib.hid (put_no z f w5 HZ5.out hgb.symm)
      clear hgb
      unfold FV.val FV.cs at HP
      go_wp2_with fail
      refine Calls.mono HP.out ?_
      rintro e w6 ⟨rfl, hb6⟩
      have HB6 := Lib.hid (HB5.out.trans (hb6.mono HB5.out.size))
      have HF6 := Lib.hid (HF5.out.below hb6)
      have HX6 := Lib.hid (HX5.out.below hb6)
      have HZ6 := Lib.hid (HZ5.out.below hb6)
      have HG6 := Lib.hid (HG5.out.below hb6)
      clear hb6 z0 z1 z2
      have z0 := HG6.out.c0
      have z1 := HG6.out.c1
      have z2 := HG6.out.c2
      have y0 := HF6.out.c0
      have y1 := HF6.out.c1
      have y2 := HF6.out.c2
      have HS := Lib.hid (feet_same_any z x f w6 HZ6.out.at_ HX6.out.at_)
      unfold FV.val FV.cs at HS
      go_wp2_with fail
      refine Calls.mono HS.out ?_
      rintro e w7 ⟨rfl, hb7⟩
      have HB7 := Lib.hid (HB6.out.trans (hb7.mono HB6.out.size))
      have HF7 := Lib.hid (HF6.out.below hb7)
      have HX7 := Lib.hid (HX6.out.below hb7)
      clear hb7 z0 z1 z2 y0 y1 y2
      have y0 := HF7.out.c0
      have y1 := HF7.out.c1
      have y2 := HF7.out.c2
      have HR := Lib.hid (refgood_any x f w7 HX7.out.at_ HX7.out.fit)
      rw [← HGB.out] at HR
      unfold FV.val FV.cs at HR
      go_wp2_with fail
      refine Calls.mono HR.out ?_
      rintro e w8 ⟨rfl, hb8⟩
      have HB8 := Lib.hid (HB7.out.trans (hb8.mono HB7.out.size))
      clear hb8 y0 y1 y2
      go_wp2_with fail
      go_ret
      exact ⟨rfl, HB8.out⟩
    | true =>
      have HFT := Lib.hid (fit_of_good hgb.symm HY.out HX5.out.fit HQ.out.1 HQ.out.2.1 HQ.out.2.2)
      have HPS := Lib.hid (putB_small f)
      have hpl := putB_len HFT.out HQ.out.1 HQ.out.2.1 HQ.out.2.2
      have HP := Lib.hid (put_yes z f w5 HZ5.out hgb.symm HFT.out (by have := HZL.out; omega) (by have := HZL.out; omega) (by have := HZL.out; omega))
      have HTP := Lib.hid (take_of_put hgb.symm HFT.out)
      clear hgb
      obtain ⟨P, hP⟩ : ∃ P, P = putB f := ⟨_, rfl⟩
      have HPP := Lib.hid hP
      rw [← hP] at HP HPS HTP hpl
      clear hP
      unfold FV.val FV.cs at HP
      go_wp2_with fail
      refine Calls.mono HP.out ?_
      rintro e w6 ⟨_, rfl, A', c', rfl, hq1, hq2, hb6⟩
      have HB6 := Lib.hid (HB5.out.trans (hb6.mono HB5.out.size))
      have HF6 := Lib.hid (HF5.out.below hb6)
      have HX6 := Lib.hid (HX5.out.below hb6)
      have HZ6 := Lib.hid (HZ5.out.below hb6)
      have HG6 := Lib.hid (HG5.out.below hb6)
      have HR6 := Lib.hid hq1
      have HN6 := Lib.hid hq2
      clear hb6 z0 z1 z2 hq1 hq2
      have z0 := HG6.out.c0
      have z1 := HG6.out.c1
      have z2 := HG6.out.c2
      have y0 := HF6.out.c0
      have y1 := HF6.out.c1
      have y2 := HF6.out.c2
      have HS := Lib.hid (feet_same_any z x f w6 HZ6.out.at_ HX6.out.at_)
      unfold FV.val FV.cs at HS
      go_wp2_with fail
      refine Calls.mono HS.out ?_
      rintro e w7 ⟨rfl, hb7⟩
      have HB7 := Lib.hid (HB6.out.trans (hb7.mono HB6.out.size))
      have HF7 := Lib.hid (HF6.out.below hb7)
      have HX7 := Lib.hid (HX6.out.below hb7)
      have HR7 := Lib.hid (HR6.out.ext (stays_b hb7))
      clear hb7 z0 z1 z2 y0 y1 y2
      have y0 := HF7.out.c0
      have y1 := HF7.out.c1
      have y2 := HF7.out.c2
      have HR := Lib.hid (refgood_any x f w7 HX7.out.at_ HX7.out.fit)
      rw [← HGB.out] at HR
      unfold FV.val FV.cs at HR
      go_wp2_with fail
      refine Calls.mono HR.out ?_
      rintro e w8 ⟨rfl, hb8⟩
      have HB8 := Lib.hid (HB7.out.trans (hb8.mono HB7.out.size))
      have HF8 := Lib.hid (HF7.out.below hb8)
      have HX8 := Lib.hid (HX7.out.below hb8)
      have HR8 := Lib.hid (HR7.out.ext (stays_b hb8))
      clear hb8 y0 y1 y2
      have HT := Lib.hid (take_foot A' P.length c' P w8 HR8.out HN6.out (by omega) HPS.out)
      rw [HTP.out.1, HTP.out.2] at HT
      go_wp2_with fail
      refine Calls.mono HT.out ?_
      rintro e w9 ⟨q, rfl, hq, hb9⟩
      have HB9 := Lib.hid (HB8.out.trans (hb9.mono HB8.out.size))
      have HF9 := Lib.hid (HF8.out.below hb9)
      have HX9 := Lib.hid (HX8.out.below hb9)
      have HR9 := Lib.hid (HR8.out.ext (stays_b hb9))
      have hb10 := (Below.refl w9.heap.size w9).alloc (Nat.le_refl _) (.cells q.cs 30)
      have HB10 := Lib.hid (HB9.out.trans (hb10.mono HB9.out.size))
      have HF10 := Lib.hid (HF9.out.below hb10)
      have HX10 := Lib.hid (HX9.out.below hb10)
      have HR10 := Lib.hid (HR9.out.ext (stays_b hb10))
      have HQ10 := Lib.hid (hq.below hb10)
      have HQB := Lib.hid (show FBox (w9.alloc (.cells q.cs 30)) w9.heap.size q from heap_alloc_new w9 _)
      clear hb9 hb10 hq
      unfold FV.val FV.cs
      unfold FV.cs at HB10 HF10 HX10 HR10 HQ10 HQB
      go_upto_region 12 with fail
      revert HB10 HF10 HX10 HR10 HQ10 HQB
      generalize World.alloc w9 _ = w10
      intro HB10 HF10 HX10 HR10 HQ10 HQB
      obtain ⟨gq, hgq⟩ : ∃ gq, gq = w9.heap.size := ⟨_, rfl⟩
      rw [← hgq] at HQB ⊢
      clear hgq
      have y0 := HF10.out.c0
      have y1 := HF10.out.c1
      have y2 := HF10.out.c2
      have HRP := Lib.hid (refPut_any x f w10 HX10.out HFT.out (by omega) (by omega) (by omega))
      rw [← HPP.out] at HRP
      unfold FV.val FV.cs at HRP
      go_wp2_with fail
      refine Calls.mono HRP.out ?_
      rintro e w11 ⟨v11, rfl, ho11, hb11⟩
      obtain ⟨A11, c11, rfl, hr11, _, _⟩ := ho11.rdv
      have HB11 := Lib.hid (HB10.out.trans (hb11.mono HB10.out.size))
      have HF11 := Lib.hid (HF10.out.below hb11)
      have HX11 := Lib.hid (HX10.out.below hb11)
      have HQ11 := Lib.hid (HQ10.out.below hb11)
      have HQB11 := Lib.hid (HQB.out.below hb11)
      have hsame := same_any A' A11 P.length c' P.length c11 P P w11 (HR10.out.ext (stays_b hb11)) hr11 HPS.out HPS.out
      rw [decide_eq_true rfl] at hsame
      have HSA := Lib.hid hsame
      clear ho11 hr11 hb11 hsame y0 y1 y2
      go_wp2_with fail
      refine Calls.mono HSA.out ?_
      rintro e w12 ⟨rfl, rfl⟩
      have y0 := HF11.out.c0
      have y1 := HF11.out.c1
      have y2 := HF11.out.c2
      have q0 := HQB11.out.c0
      have q1 := HQB11.out.c1
      have q2 := HQB11.out.c2
      have HS2 := Lib.hid (feet_same_any q x f w11 HQ11.out.at_ HX11.out.at_)
      unfold FV.val FV.cs at HS2
      go_wp2_with fail
      refine Calls.mono HS2.out ?_
      rintro e w13 ⟨rfl, hb13⟩
      have HB13 := Lib.hid (HB11.out.trans (hb13.mono HB11.out.size))
      clear hb13 y0 y1 y2 q0 q1 q2
      go_wp2_with fail
      go_ret
      exact ⟨rfl, HB13.out⟩
end Go.Proofs.Ytmicheheibkmjaa
