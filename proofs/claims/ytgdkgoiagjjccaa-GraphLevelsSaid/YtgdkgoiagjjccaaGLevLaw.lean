/- GraphLevels' walk. -/
import Derived.Test.YtgdkgoiagjjccaaGAliv
import Derived.Test.YtgdkgoiagjjccaaGKeep
import Derived.Test.YtgdkgoiagjjccaaGRefK
import Derived.Test.YtgdkgoiagjjccaaGRefL
namespace Go.Proofs.Ytgdkgoiagjjccaa
set_option maxRecDepth 100000
open Go.RowKit Go.Shelf

theorem small_len {ls : List (List Int)} {n : Nat} (hs : SmallG ls) (hl : ls.length = n) : n ≤ 10000 := by have := hs.1; omega
set_option maxHeartbeats 4000000 in
theorem levels_law (A : Option Addr) (n c : Nat) (A2 : Option Addr) (n2 c2 : Nat) (ls : List (List Int)) (o : List Int) (w : World) (h : Rws w A n ls) (ho : Nums w A2 n2 o) (hn2 : n2 ≤ 9223372036854775807) :
    Calls Try.prog 8 #[.slice A n c, .slice A2 n2 c2] w fun e w' => e = .returned (.bool true) ∧ Below w.heap.size w w' := by
  have HH := Lib.hid h
  have HO := Lib.hid ho
  have HL := Lib.hid h.1
  have HA := Lib.hid (galive_any w)
  clear h ho
  go_enter Try.func8, Try.ntmps8
  go_wp2_with fail
  refine Calls.mono HA.out ?_
  rintro e w1 ⟨rfl, hb1⟩
  have HB1 := Lib.hid hb1
  have HH1 := Lib.hid (HH.out.below hb1)
  have HO1 := Lib.hid (HO.out.ext (stays_w hb1))
  clear hb1
  have CL := largeg_any A n c ls w1 HH1.out
  by_cases hs : SmallG ls
  · rw [decide_eq_true hs] at CL
    have HS := Lib.hid hs
    have hn := small_len hs HL.out
    clear hs
    by_cases h60 : 60 < n2
    · have h60' : (60 : Int) < (n2 : Int) := by omega
      go_wp2_with fail
      refine Calls.mono CL ?_
      rintro e w2 ⟨rfl, rfl⟩
      go_wp2_with fail
      go_ret
      exact ⟨rfl, HB1.out⟩
    · have h60' : ¬ (60 : Int) < (n2 : Int) := by omega
      have CG := refgood_any A n c ls w1 HH1.out
      by_cases hg : GoodL ls
      · rw [decide_eq_true hg] at CG
        have HG := Lib.hid hg
        have CV := levels_ok A n c ls w1 HH1.out hg hn
        have HCV := Lib.hid CV
        clear CV hg
        go_wp2_with fail
        refine Calls.mono CL ?_
        rintro e w2 ⟨rfl, rfl⟩
        clear CL
        go_wp2_with fail
        refine Calls.mono CG ?_
        rintro e w2 ⟨rfl, rfl⟩
        clear CG
        go_wp2_with fail
        refine Calls.mono HCV.out ?_
        rintro e w3 ⟨rfl, hV⟩
        have HV := Lib.hid hV
        have CG := goodg_any A n c ls w3 (HH1.out.below hV.below)
        rw [decide_eq_true HG.out] at CG
        clear hV HCV
        go_wp2_with fail
        refine Calls.mono CG ?_
        rintro e w4 ⟨rfl, rfl⟩
        clear CG
        by_cases hnn : n2 = n
        · subst hnn
          have CK := keeps_ok A n2 c A2 c2 ls o w3 (HH1.out.below HV.out.below) (HO1.out.ext (stays_w HV.out.below)) HG.out hn
          go_wp2_with fail
          refine Calls.mono CK ?_
          rintro e w4 ⟨rfl, hb4⟩
          have hb14 := HV.out.below.trans (hb4.mono HV.out.below.size)
          have HB4 := Lib.hid hb4
          have HB14 := Lib.hid hb14
          have CR := refkeeps_ok A n2 c A2 c2 ls o w4 (HH1.out.below hb14) (HO1.out.ext (stays_w hb14)) HG.out
          have CF := reflevels_ok A n2 c ls w4 (HH1.out.below hb14) HG.out hn
          have HCF := Lib.hid CF
          clear CK hb4 hb14 CF
          go_wp2_with fail
          refine Calls.mono CR ?_
          rintro e w5 ⟨rfl, rfl⟩
          clear CR
          have hbe : (keepsB ls o != keepsB ls o) = false := by simp
          go_wp2_with fail
          refine Calls.mono HCF.out ?_
          rintro e w6 ⟨_, rfl, A6, c6, rfl, hN, hb6⟩
          have hV4 := HV.out.ext (C := w3.heap.size) HV.out.below.size HV.out.lt HV.out.below.size HB4.out
          have hV6 := hV4.ext (C := w4.heap.size) (Nat.le_trans HV.out.below.size HB4.out.size) hV4.lt (Nat.le_trans HV.out.below.size HB4.out.size) hb6
          have HNV := Lib.hid (show Nums w6 (some ⟨w1.heap.size, 0, none⟩) n2 (lvTo ls n2) from ⟨lvTo_len ls n2, lvTo_fits HG.out n2 (by omega), fun _ => ⟨_, _, rfl, fun j hj => by rw [Nat.zero_add]; exact hV6.cells j hj⟩⟩)
          have HN6 := Lib.hid hN
          have HB6 := Lib.hid (HB14.out.trans (hb6.mono HB14.out.size))
          clear hN hb6 hV4 hV6
          go_wp2_with fail
          refine Calls.mono (ints_same (some ⟨w1.heap.size, 0, none⟩) n2 n2 A6 c6 (lvTo ls n2) w6 HNV.out HN6.out hn2) ?_
          rintro e w7 ⟨rfl, hb7⟩
          have HB7 := Lib.hid (HB6.out.trans (hb7.mono HB6.out.size))
          clear hb7
          go_wp2_with fail
          go_ret
          exact ⟨rfl, HB1.out.trans (HB7.out.mono HB1.out.size)⟩
        · have CK := keeps_form A n c A2 n2 c2 ls w3 (HH1.out.below HV.out.below) (fun hc => hnn hc.2)
          have CR := refkeeps_form A n c A2 n2 c2 ls w3 (HH1.out.below HV.out.below) (fun hc => hnn hc.2)
          have HCF := Lib.hid (reflevels_ok A n c ls w3 (HH1.out.below HV.out.below) HG.out hn)
          go_wp2_with fail
          refine Calls.mono CK ?_
          rintro e w4 ⟨rfl, rfl⟩
          go_wp2_with fail
          refine Calls.mono CR ?_
          rintro e w4 ⟨rfl, rfl⟩
          clear CK CR
          go_wp2_with fail
          refine Calls.mono HCF.out ?_
          rintro e w6 ⟨_, rfl, A6, c6, rfl, hN, hb6⟩
          have hV6 := HV.out.ext (C := w3.heap.size) HV.out.below.size HV.out.lt HV.out.below.size hb6
          have HNV := Lib.hid (show Nums w6 (some ⟨w1.heap.size, 0, none⟩) n (lvTo ls n) from ⟨lvTo_len ls n, lvTo_fits HG.out n (by omega), fun _ => ⟨_, _, rfl, fun j hj => by rw [Nat.zero_add]; exact hV6.cells j hj⟩⟩)
          have HN6 := Lib.hid hN
          have HB6 := Lib.hid (HV.out.below.trans (hb6.mono HV.out.below.size))
          clear hN hb6 hV6
          go_wp2_with fail
          refine Calls.mono (ints_same (some ⟨w1.heap.size, 0, none⟩) n n A6 c6 (lvTo ls n) w6 HNV.out HN6.out (by omega)) ?_
          rintro e w7 ⟨rfl, hb7⟩
          have HB7 := Lib.hid (HB6.out.trans (hb7.mono HB6.out.size))
          clear hb7
          go_wp2_with fail
          go_ret
          exact ⟨rfl, HB1.out.trans (HB7.out.mono HB1.out.size)⟩
      · rw [decide_eq_false hg] at CG
        have CV := levels_form A n c ls w1 HH1.out hg
        have CG2 := goodg_any A n c ls w1 HH1.out
        rw [decide_eq_false hg] at CG2
        have CK := keeps_form A n c A2 n2 c2 ls w1 HH1.out (fun hc => hg hc.1)
        have CR := refkeeps_form A n c A2 n2 c2 ls w1 HH1.out (fun hc => hg hc.1)
        have CI := is_err 2 2 (by decide) w1
        rw [decide_eq_true rfl] at CI
        unfold errV at CI CV
        have HCV := Lib.hid CV
        have HCG2 := Lib.hid CG2
        have HCK := Lib.hid CK
        have HCR := Lib.hid CR
        have HCI := Lib.hid CI
        clear CV CG2 CK CR CI hg
        go_wp2_with fail
        refine Calls.mono CL ?_
        rintro e w2 ⟨rfl, rfl⟩
        clear CL
        go_wp2_with fail
        refine Calls.mono CG ?_
        rintro e w2 ⟨rfl, rfl⟩
        clear CG
        go_wp2_with fail
        refine Calls.mono HCV.out ?_
        rintro e w2 ⟨rfl, rfl⟩
        go_wp2_with fail
        refine Calls.mono HCG2.out ?_
        rintro e w2 ⟨rfl, rfl⟩
        go_wp2_with fail
        refine Calls.mono HCK.out ?_
        rintro e w2 ⟨rfl, rfl⟩
        go_wp2_with fail
        refine Calls.mono HCR.out ?_
        rintro e w2 ⟨rfl, rfl⟩
        go_wp2_with fail
        refine Calls.mono HCI.out ?_
        rintro e w2 ⟨rfl, rfl⟩
        go_wp2_with fail
        go_ret
        exact ⟨rfl, HB1.out⟩
  · rw [decide_eq_false hs] at CL
    go_wp2_with fail
    refine Calls.mono CL ?_
    rintro e w2 ⟨rfl, rfl⟩
    go_wp2_with fail
    go_ret
    exact ⟨rfl, HB1.out⟩
end Go.Proofs.Ytgdkgoiagjjccaa
