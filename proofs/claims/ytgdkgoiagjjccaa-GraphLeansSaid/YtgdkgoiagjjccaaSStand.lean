/- A plan stands as the document says. -/
import Derived.Test.YtgdkgoiagjjccaaSRefA
import Derived.Test.YtgdkgoiagjjccaaZB
namespace Go.Proofs.Ytgdkgoiagjjccaa
set_option maxRecDepth 100000
open Go.RowKit

set_option maxHeartbeats 4000000 in
theorem stands_any {B : Nat} {W : World} {bp bt bw : Nat} {s : PS} {sa : Nat → Option Addr} {sc : Nat → Nat} (h : PlanAt B W bp bt bw s sa sc) (A : Option Addr) (c : Nat) (A2 : Option Addr) (c2 : Nat) (A3 : Option Addr) (c3 : Nat) (A4 : Option Addr) (c4 : Nat) (ls : List (List Int)) (hR : RefR W A A2 A3 A4 ls s) (hI : Inv ls s) :
    Calls Try.prog 46 #[ptr bp, refV A s.n c A2 c2 A3 s.m c3 A4 c4 s.picks] W fun e W' => e = .returned (.bool true) ∧ Below W.heap.size W W' := by
  have HB0 := Lib.hid ((Below.refl _ W).alloc (Nat.le_refl _) (.cells (refC A s.n c A2 c2 A3 s.m c3 A4 c4 s.picks) 74))
  have HBX := Lib.hid (heap_alloc_new W (.cells (refC A s.n c A2 c2 A3 s.m c3 A4 c4 s.picks) 74))
  obtain ⟨W1, hW1⟩ : ∃ W1, W1 = W.alloc (.cells (refC A s.n c A2 c2 A3 s.m c3 A4 c4 s.picks) 74) := ⟨_, rfl⟩
  rw [← hW1] at HB0 HBX
  have hn := h.big.1
  have hm := h.big.2
  have P1 := h.below HB0.out
  have R1 := hR.below HB0.out
  have HP := Lib.hid P1
  have HR := Lib.hid R1
  have HI := Lib.hid hI
  have CH := fun w => has_w P1 w
  have HX := Lib.hid (show ∀ W2, Ext W1.drew W2 → W2.heap[W.heap.size]? = some (.cells (refC A s.n c A2 c2 A3 s.m c3 A4 c4 s.picks) 74 (0, 0)) from fun W2 hw => (hw.block _ (Array.getElem?_eq_some_iff.1 HBX.out).1).trans HBX.out)
  have HPL := Lib.hid (show ∀ W2, Ext W1.drew W2 → PlanAt B W2 bp bt bw s sa sc from fun W2 hw => P1.drew.below hw)
  have HRR := Lib.hid (show ∀ W2, Ext W1.drew W2 → RefR W2 A A2 A3 A4 ls s from fun W2 hw => R1.drew.below hw)
  have hfit := rdyTo_fits s s.n hn
  have HF := Lib.hid hfit
  obtain ⟨R, hRd⟩ : ∃ R, R = rdyTo s s.n := ⟨_, rfl⟩
  have hRl : R.length ≤ s.n := by rw [hRd]; exact rdyTo_len s s.n
  have C50 := Lib.hid (fun W2 (hw : Ext W1.drew W2) => ready_any' (HPL.out W2 hw))
  have C74 := Lib.hid (fun W2 (hw : Ext W1.drew W2) => refready_any A c A2 c2 A3 c3 A4 c4 s.picks ls s W2 (HRR.out W2 hw) hI hn hm)
  have C73 := Lib.hid (fun W2 (hw : Ext W1.drew W2) => refleft_any A c A2 c2 A3 c3 A4 c4 s.picks ls s W2 (HRR.out W2 hw) hI hn)
  have C49 := Lib.hid (fun W2 (hw : Ext W1.drew W2) => left_any (HPL.out W2 hw))
  have C48 := Lib.hid (fun W2 (hw : Ext W1.drew W2) => done_any (HPL.out W2 hw))
  have C47 := Lib.hid (fun W2 (hw : Ext W1.drew W2) => picks_any (HPL.out W2 hw))
  rw [← hRd] at C50 C74
  have HCH := Lib.hid CH
  have hp0 := hI.pos
  have HWS := Lib.hid (fun i (hi : i < s.m) => (show s.hasOf (i : Int) = s.ws i by unfold PS.hasOf; rw [if_neg (by omega), Int.toNat_natCast]))
  have HM1 := Lib.hid (show s.hasOf (-1) = -1 by unfold PS.hasOf; rw [if_pos (.inl (by omega))])
  have HM2 := Lib.hid (show s.hasOf (s.m : Int) = -1 by unfold PS.hasOf; rw [if_pos (.inr (by omega))])
  unfold refV refC ptr at *
  clear h hR hI P1 R1 CH hfit hRd
  go_enter Try.func46, Try.ntmps46
  go_wp2_with fail
  rw [← hW1]
  clear hW1
  go_loop [5, 6] (fun x _ => ∃ t : Nat, x = .int .i64 ((t : Int) - 1) ∧ t ≤ s.m + 2) (fun x _ => (s.m + 1 - intOf x).toNat)
  case atStart => exact ⟨0, by simp, by omega⟩
  case round =>
    obtain ⟨t, rfl, ht⟩ := hrel
    have y2 := cell_of_row W1 _ 2 _ 74 (0, 0) HBX.out
    simp only [List.getElem?_toArray, List.getElem?_cons_zero, List.getElem?_cons_succ] at y2
    by_cases h0 : t = 0
    · subst h0
      have CX := HCH.out (-1)
      rw [HM1.out] at CX
      have HCX := Lib.hid CX
      clear CX
      go_wp2_with fail
      refine Calls.mono HCX.out ?_
      rintro e w2 ⟨rfl, rfl⟩
      go_wp2_with fail
      go_round
      case rel => exact ⟨1, rfl, by omega⟩
      case measure => simp only [intOf]; omega
    · obtain ⟨j, rfl⟩ : ∃ j, t = j + 1 := ⟨t - 1, by omega⟩
      rw [show ((j + 1 : Nat) : Int) - 1 = (j : Int) by omega]
      by_cases h1 : j < s.m
      · obtain ⟨b3, off3, rfl, hc3⟩ := (HR.out.has).2.2 (by omega)
        have c3 := hc3 j h1
        rw [haL_at s j h1] at c3
        have CX := HCH.out (j : Int)
        rw [HWS.out j h1] at CX
        obtain ⟨z, hz⟩ : ∃ z, z = s.ws j := ⟨_, rfl⟩
        rw [← hz] at CX c3
        have HCX := Lib.hid CX
        have j1 : (j : Int) < (s.m : Int) := by omega
        clear CX hc3 hz
        go_wp2_with fail
        refine Calls.mono HCX.out ?_
        rintro e w2 ⟨rfl, rfl⟩
        go_wp2_with fail
        go_round
        case rel => exact ⟨j + 2, by go_num, by omega⟩
        case measure => simp only [intOf]; omega
      · by_cases h2 : j = s.m
        · have CX := HCH.out (j : Int)
          rw [show s.hasOf (j : Int) = -1 by rw [h2]; exact HM2.out] at CX
          have HCX := Lib.hid CX
          have j1 : ¬ (j : Int) < (s.m : Int) := by omega
          have j2 : (j : Int) ≤ (s.m : Int) := by omega
          clear CX h2
          go_wp2_with fail
          refine Calls.mono HCX.out ?_
          rintro e w2 ⟨rfl, rfl⟩
          go_wp2_with fail
          go_round
          case rel => exact ⟨j + 2, by go_num, by omega⟩
          case measure => simp only [intOf]; omega
        · have j2 : ¬ (j : Int) ≤ (s.m : Int) := by omega
          clear h1 h2
          go_upto_region 9 with fail
          clear y2
          refine wp_region_noPanic ?_
          refine wp_region_abs 27 60 [
            .is (.pointer (some ⟨bp, 0, none⟩)),
            .tells fun _ v _ wa => ∃ A c, v = .slice A R.length c ∧ Nums wa A R.length R,
            .is (.agg #[.slice A s.n c, .slice A2 s.n c2, .slice A3 s.m c3, .slice A4 s.m c4, .int .i64 s.picks]),
            .tells fun _ v _ wa => ∃ A c, v = .slice A R.length c ∧ Nums wa A R.length R,
            .is (.bool true),
            .is (.bool true),
            .is (.pointer (some ⟨bp, 0, none⟩)),
            .is (.int .i64 s.left),
            .is (.agg #[.slice A s.n c, .slice A2 s.n c2, .slice A3 s.m c3, .slice A4 s.m c4, .int .i64 s.picks]),
            .is (.int .i64 s.left),
            .is (.bool true),
            .is (.bool true),
            .is (.bool true),
            .is (.pointer (some ⟨bp, 0, none⟩)),
            .is (.bool (decide (s.left = 0))),
            .is (.agg #[.slice A s.n c, .slice A2 s.n c2, .slice A3 s.m c3, .slice A4 s.m c4, .int .i64 s.picks]),
            .is (.int .i64 s.left),
            .is (.bool (decide (s.left = 0))),
            .is (.bool true),
            .is (.bool true),
            .is (.bool true),
            .is (.pointer (some ⟨bp, 0, none⟩)),
            .is (.int .i64 s.picks),
            .is (.pointer (some ⟨W.heap.size, 4, none⟩)),
            .is (.int .i64 s.picks),
            .is (.bool true),
            .is (.bool true)]
            [33, 34, 35, 36, 37, 38, 39, 40, 41, 42, 43, 44, 45, 46, 47, 48, 49, 50, 51, 52, 53, 54, 55, 56, 57, 58, 59]
            [[], [0], [], [2, 1], [1, 3], [4], [5], [6, 5], [5], [8, 7, 5], [7, 9, 5], [5, 10], [11, 9], [12], [13, 12], [12], [15, 14, 12], [16, 12], [14, 17, 12], [12, 18], [19, 16], [20], [21, 20], [20], [23, 20], [22, 24, 20], [20, 25]] (by kernel_rfl) (by rfl) rfl rfl (by kernel_rfl) (fun _ _ _ _ h => h.elim) ?_ ?_
          · refine ⟨?_, ?_, ?_, ?_, ?_, ?_, ?_, ?_, ?_, ?_, ?_, ?_, ?_, ?_, ?_, ?_, ?_, ?_, ?_, ?_, ?_, ?_, ?_, ?_, ?_, ?_, ?_, trivial⟩
            · intro W2 hw K hK
              go_simp
              exact hK _ _ rfl (Below.refl _ _)
            · intro W2 hw K hK
              go_simp
              refine Calls.mono (C50.out W2 hw) ?_
              rintro e w' ⟨v, rfl, A9, c9, rfl, h9, hb⟩
              exact hK _ _ ⟨_, _, rfl, h9⟩ hb
            · intro W2 hw K hK
              have g := HX.out W2 hw
              have y0 := cell_of_row W2 _ 0 _ 74 (0, 0) g
              have y1 := cell_of_row W2 _ 1 _ 74 (0, 0) g
              have y2 := cell_of_row W2 _ 2 _ 74 (0, 0) g
              have y3 := cell_of_row W2 _ 3 _ 74 (0, 0) g
              have y4 := cell_of_row W2 _ 4 _ 74 (0, 0) g
              simp only [List.getElem?_toArray, List.getElem?_cons_zero, List.getElem?_cons_succ] at y0 y1 y2 y3 y4
              clear g
              go_simp
              exact hK _ _ rfl (Below.refl _ _)
            · rintro W2 hw v1 _ _ - - K hK
              go_simp
              refine Calls.mono (C74.out W2 hw) ?_
              rintro e w' ⟨v, rfl, A9, c9, rfl, h9, -, hb⟩
              exact hK _ _ ⟨_, _, rfl, h9⟩ hb
            · rintro W2 hw v1 _ wa1 ⟨_, A8, c8, rfl, h8⟩ x8 v3 _ wa3 ⟨_, A9, c9, rfl, h9⟩ x9 K hK
              go_simp
              refine Calls.mono (ints_same A8 R.length c8 A9 c9 R W2 (h8.ext (stays_w x8)) (h9.ext (stays_w x9)) (by omega)) ?_
              rintro e w' ⟨rfl, hb⟩
              exact hK _ _ rfl hb
            · intro W2 hw K hK
              go_simp
              exact hK _ _ rfl (Below.refl _ _)
            · intro W2 hw K hK
              go_simp
              exact hK _ _ rfl (Below.refl _ _)
            · intro W2 hw K hK
              go_simp
              refine Calls.mono (C49.out W2 hw) ?_
              rintro e w' ⟨rfl, rfl⟩
              exact hK _ _ rfl (Below.refl _ _)
            · intro W2 hw K hK
              have g := HX.out W2 hw
              have y0 := cell_of_row W2 _ 0 _ 74 (0, 0) g
              have y1 := cell_of_row W2 _ 1 _ 74 (0, 0) g
              have y2 := cell_of_row W2 _ 2 _ 74 (0, 0) g
              have y3 := cell_of_row W2 _ 3 _ 74 (0, 0) g
              have y4 := cell_of_row W2 _ 4 _ 74 (0, 0) g
              simp only [List.getElem?_toArray, List.getElem?_cons_zero, List.getElem?_cons_succ] at y0 y1 y2 y3 y4
              clear g
              go_simp
              exact hK _ _ rfl (Below.refl _ _)
            · intro W2 hw K hK
              go_simp
              refine Calls.mono (C73.out W2 hw) ?_
              rintro e w' ⟨rfl, hb⟩
              exact hK _ _ rfl hb
            · intro W2 hw K hK
              go_simp
              exact hK _ _ rfl (Below.refl _ _)
            · intro W2 hw K hK
              go_simp
              exact hK _ _ rfl (Below.refl _ _)
            · intro W2 hw K hK
              go_simp
              exact hK _ _ rfl (Below.refl _ _)
            · intro W2 hw K hK
              go_simp
              exact hK _ _ rfl (Below.refl _ _)
            · intro W2 hw K hK
              go_simp
              refine Calls.mono (C48.out W2 hw) ?_
              rintro e w' ⟨rfl, rfl⟩
              exact hK _ _ rfl (Below.refl _ _)
            · intro W2 hw K hK
              have g := HX.out W2 hw
              have y0 := cell_of_row W2 _ 0 _ 74 (0, 0) g
              have y1 := cell_of_row W2 _ 1 _ 74 (0, 0) g
              have y2 := cell_of_row W2 _ 2 _ 74 (0, 0) g
              have y3 := cell_of_row W2 _ 3 _ 74 (0, 0) g
              have y4 := cell_of_row W2 _ 4 _ 74 (0, 0) g
              simp only [List.getElem?_toArray, List.getElem?_cons_zero, List.getElem?_cons_succ] at y0 y1 y2 y3 y4
              clear g
              go_simp
              exact hK _ _ rfl (Below.refl _ _)
            · intro W2 hw K hK
              go_simp
              refine Calls.mono (C73.out W2 hw) ?_
              rintro e w' ⟨rfl, hb⟩
              exact hK _ _ rfl hb
            · intro W2 hw K hK
              go_simp
              exact hK _ _ rfl (Below.refl _ _)
            · intro W2 hw K hK
              go_simp
              exact hK _ _ rfl (Below.refl _ _)
            · intro W2 hw K hK
              go_simp
              exact hK _ _ rfl (Below.refl _ _)
            · intro W2 hw K hK
              go_simp
              exact hK _ _ rfl (Below.refl _ _)
            · intro W2 hw K hK
              go_simp
              exact hK _ _ rfl (Below.refl _ _)
            · intro W2 hw K hK
              go_simp
              refine Calls.mono (C47.out W2 hw) ?_
              rintro e w' ⟨rfl, rfl⟩
              exact hK _ _ rfl (Below.refl _ _)
            · intro W2 hw K hK
              go_simp
              exact hK _ _ rfl (Below.refl _ _)
            · intro W2 hw K hK
              have g := HX.out W2 hw
              have y0 := cell_of_row W2 _ 0 _ 74 (0, 0) g
              have y1 := cell_of_row W2 _ 1 _ 74 (0, 0) g
              have y2 := cell_of_row W2 _ 2 _ 74 (0, 0) g
              have y3 := cell_of_row W2 _ 3 _ 74 (0, 0) g
              have y4 := cell_of_row W2 _ 4 _ 74 (0, 0) g
              simp only [List.getElem?_toArray, List.getElem?_cons_zero, List.getElem?_cons_succ] at y0 y1 y2 y3 y4
              clear g
              go_simp
              exact hK _ _ rfl (Below.refl _ _)
            · intro W2 hw K hK
              go_simp
              exact hK _ _ rfl (Below.refl _ _)
            · intro W2 hw K hK
              go_simp
              exact hK _ _ rfl (Below.refl _ _)
          · intro W2 hw2
            intro v1 _ _ _ _ _ _ v3 _ _ _ _ _ _
            simp only [Behind]
            have HW2 := Lib.hid (HB0.out.drew.trans (hw2.mono HB0.out.size))
            clear hw2
            simp only [List.drop, Act.put, List.setIfInBounds_toArray, List.set_cons_zero, List.set_cons_succ]
            go_wp2_with fail
            refine NoPanic.normal ?_
            go_wp2_with fail
            go_ret
            exact ⟨rfl, HW2.out⟩
end Go.Proofs.Ytgdkgoiagjjccaa
