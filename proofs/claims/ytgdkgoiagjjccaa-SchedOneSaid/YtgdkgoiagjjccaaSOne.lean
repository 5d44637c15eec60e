/- SchedOne: one worker takes the tasks in their order. -/
import Derived.Test.YtgdkgoiagjjccaaSLarge
import Derived.Test.YtgdkgoiagjjccaaSOneM
import Derived.Test.YtgdkgoiagjjccaaSAlive
namespace Go.Proofs.Ytgdkgoiagjjccaa
set_option maxRecDepth 100000
open Go.RowKit

set_option maxHeartbeats 4000000 in
theorem one_law (A : Option Addr) (n c : Nat) (ls : List (List Int)) (w : World) (h : Rws w A n ls) : Calls Try.prog 13 #[.slice A n c] w fun e w' => e = .returned (.bool true) ∧ Below w.heap.size w w' := by
  have HA := Lib.hid (alive21 w)
  have HH := Lib.hid h
  by_cases hS : SmallL ls
  · by_cases hG : GoodL ls
    · have hn : n ≤ 31 := by have := hS.1; have := h.1; omega
      have HL := Lib.hid (show ∀ w', Rws w' A n ls → Calls Try.prog 41 #[.slice A n c, .slice none 0 0] w' fun e w'' => e = .returned (.bool false) ∧ w' = w'' from fun w' h' => by
        have := large_any A n c none 0 0 ls w' h' (by decide)
        rw [decide_eq_true ⟨hS, by decide⟩] at this
        exact this)
      have HR := Lib.hid (show ∀ w', Rws w' A n ls → Calls Try.prog 33 #[.slice A n c] w' fun e w'' => e = .returned (.bool true) ∧ w' = w'' from fun w' h' => by
        have := refgood_any A n c ls w' h'
        rw [decide_eq_true hG] at this
        exact this)
      have mk := make_bools n (by omega)
      have HN := Lib.hid (show ∀ w', Rws w' A n ls → Calls Try.prog 42 #[.slice A n c, .slice (some ⟨w'.heap.size, 0, none⟩) n n, .int .i64 1] (w'.alloc (.cells (madeCells zB n) 4)) fun e w'' => ∃ bp, e = .returned (.tuple #[ptr bp, .nilIface]) ∧ ∃ bt bw sa sc, PlanAt (w'.heap.size + 1) w'' bp bt bw (nS (fun i => (List.replicate n false).getD i false) ls n 1 n n 0) sa sc ∧ Below (w'.heap.size + 1) (w'.alloc (.cells (madeCells zB n) 4)) w'' from fun w' h' => by
        have := new_ok A n c _ n ls _ 1 _ (h'.below ((Below.refl _ w').alloc (Nat.le_refl _) (.cells (madeCells zB n) 4))) (made_bls w' n (by omega)) hG (by decide) (by omega) (fun i => by have := hS.2 i; omega)
        simp only [World.size_alloc] at this
        exact this)
      have HO := Lib.hid (One.start ls (fun i => (List.replicate n false).getD i false) n (fun i => by simp [List.getD_eq_getElem?_getD, List.getElem?_replicate]; split <;> rfl) hG h.1)
      have HS := Lib.hid hS
      clear h hS hG
      go_enter Try.func13, Try.ntmps13
      go_wp2_with fail
      refine Calls.mono HA.out ?_
      rintro e w1 ⟨rfl, hb1⟩
      have HB1 := Lib.hid hb1
      clear hb1
      go_wp2_with fail
      refine Calls.mono (HL.out _ (HH.out.below HB1.out)) ?_
      rintro e w2 ⟨rfl, rfl⟩
      go_wp2_with fail
      refine Calls.mono (HR.out _ (HH.out.below HB1.out)) ?_
      rintro e w2 ⟨rfl, rfl⟩
      go_wp2_with fail
      refine Calls.mono (HN.out _ (HH.out.below HB1.out)) ?_
      rintro e w3 ⟨bp, rfl, bt, bw, sa, sc, hp, hb3⟩
      unfold ptr
      obtain ⟨s0, hs0⟩ : ∃ s, s = nS (fun i => (List.replicate n false).getD i false) ls n 1 n n 0 := ⟨_, rfl⟩
      have hsn : s0.n = n := by rw [hs0]; rfl
      rw [← hs0] at hp HO
      have HP := Lib.hid hp
      have HSN := Lib.hid hsn
      have HB3 := Lib.hid ((HB1.out.alloc HB1.out.size (.cells (madeCells zB n) 4)).trans (hb3.mono (by have := HB1.out.size; omega)))
      have hz1 := HB1.out.size
      clear hp hb3 hs0 hsn mk HN HL HR HA
      go_wp2_with fail
      go_loopw [5, 6, 7, 8, 30] (fun _ _ _ _ x wr => ∃ (i : Nat) (s : PS), x = .int .i64 (i : Int) ∧ i ≤ n ∧ Hid (s.n = n) ∧ Hid (One ls i 0 s) ∧ PlanAt (w1.heap.size + 1) wr bp bt bw s sa sc ∧ Below w.heap.size w wr) (fun _ _ _ _ x _ => n - (intOf x).toNat)
      case atStart => exact ⟨0, s0, rfl, by omega, HSN, HO, HP.out, HB3.out⟩
      case round =>
        obtain ⟨i, s, rfl, hi, hsn, ho, hP, hB⟩ := hrel
        clear HP HB3
        rename World => wo
        by_cases hlt : i < n
        · have HP := Lib.hid hP
          have HB := Lib.hid hB
          clear hP hB
          go_wp2_with fail
          go_loopw [6, 7, 8, 33] (fun _ _ _ x wr => ∃ (k : Nat) (s : PS), x = .int .i64 (k : Int) ∧ k ≤ 3 ∧ Hid (s.n = n) ∧ Hid (k < 3 → One ls i k s) ∧ Hid (k = 3 → One ls (i + 1) 0 s) ∧ PlanAt (w1.heap.size + 1) wr bp bt bw s sa sc ∧ Below w.heap.size w wr) (fun _ _ _ x _ => 3 - (intOf x).toNat)
          case atStart => exact ⟨0, s, rfl, by omega, hsn, fun _ => ho.out, fun h => absurd h (by decide), HP.out, HB.out⟩
          case round =>
            obtain ⟨k, s', rfl, hk, hsn', ho1, ho2, hP, hB⟩ := hrel
            clear HP HB
            by_cases hk3 : k < 3
            · have h1 := ho1.out hk3
              obtain ⟨e1, e2, e3⟩ := h1.next (by rw [hsn'.out]; omega) ⟨by omega, by omega⟩
              have C := pick_any hP h1.inv (fun i => by have := HS.out.2 i; omega) (by have := h1.picks; omega) 0
              rw [e1] at C
              unfold outV evV ptr at C
              have HC := Lib.hid C
              have hsn2 := (pick_picks s' 0).2.2.1
              have HX := Lib.hid (show Hid ((s'.pick 0).1.n = n) from hsn2.trans hsn'.out)
              have HE2 := Lib.hid e2
              have HE3 := Lib.hid e3
              have ne := neq_same ((k : Int) + 1) i 0
              unfold evV at ne
              have HB := Lib.hid hB
              clear C e1 e2 e3 hsn2 hP hB h1
              go_wp2_with fail
              refine Calls.mono HC.out ?_
              rintro e w4 ⟨rfl, hp4, hf4⟩
              have hb4 := Fr.below HB.out hf4 HB.out.size (by intro b hb; simp at hb; have := hp4.lo; omega)
              have HP4 := Lib.hid (hp4.alloc (.cells #[.int .i64 ((k : Int) + 1), .int .i64 (i : Int), .int .i64 0] 78))
              have HB4 := Lib.hid (hb4.alloc hb4.size (.cells #[.int .i64 ((k : Int) + 1), .int .i64 (i : Int), .int .i64 0] 78))
              clear hp4 hf4 hb4
              go_wp2_with fail
              go_roundw
              case rel =>
                refine ⟨k + 1, (s'.pick 0).1, by go_num, by omega, HX, fun h => ?_, fun h => ?_, HP4.out, HB4.out⟩
                · have := HE2.out (by omega)
                  rw [show ((k + 1 : Nat) : Int) = (k : Int) + 1 by omega]
                  exact this
                · exact HE3.out (by omega)
              case measure => simp [intOf]; omega
            · obtain rfl : k = 3 := by omega
              have HP := Lib.hid hP
              have HB := Lib.hid hB
              clear hP hB
              go_wp2_with fail
              go_roundw
              case rel => exact ⟨i + 1, s', by go_num, by omega, hsn', ho2.out rfl, HP.out, HB.out⟩
              case measure => simp [intOf]; omega
        · obtain rfl : i = n := by omega
          have e := One.done (by rw [hsn.out]; exact ho.out)
          have C := done_any hP
          rw [e] at C
          unfold ptr at C
          have HC := Lib.hid C
          have HB := Lib.hid hB
          clear C e hP hB
          go_wp2_with fail
          refine Calls.mono HC.out ?_
          rintro e w2 ⟨rfl, rfl⟩
          go_wp2_with fail
          go_ret
          exact ⟨rfl, HB.out⟩
    · have HL := Lib.hid (show ∀ w', Rws w' A n ls → Calls Try.prog 41 #[.slice A n c, .slice none 0 0] w' fun e w'' => e = .returned (.bool false) ∧ w' = w'' from fun w' h' => by
        have := large_any A n c none 0 0 ls w' h' (by decide)
        rw [decide_eq_true ⟨hS, by decide⟩] at this
        exact this)
      have HR := Lib.hid (show ∀ w', Rws w' A n ls → Calls Try.prog 33 #[.slice A n c] w' fun e w'' => e = .returned (.bool false) ∧ w' = w'' from fun w' h' => by
        have := refgood_any A n c ls w' h'
        rw [decide_eq_false hG] at this
        exact this)
      clear h hS hG
      go_enter Try.func13, Try.ntmps13
      go_wp2_with fail
      refine Calls.mono HA.out ?_
      rintro e w1 ⟨rfl, hb1⟩
      have HB1 := Lib.hid hb1
      clear hb1
      go_wp2_with fail
      refine Calls.mono (HL.out _ (HH.out.below HB1.out)) ?_
      rintro e w2 ⟨rfl, rfl⟩
      go_wp2_with fail
      refine Calls.mono (HR.out _ (HH.out.below HB1.out)) ?_
      rintro e w2 ⟨rfl, rfl⟩
      go_wp2_with fail
      go_ret
      exact ⟨rfl, HB1.out⟩
  · have HL := Lib.hid (show ∀ w', Rws w' A n ls → Calls Try.prog 41 #[.slice A n c, .slice none 0 0] w' fun e w'' => e = .returned (.bool true) ∧ w' = w'' from fun w' h' => by
      have := large_any A n c none 0 0 ls w' h' (by decide)
      rw [decide_eq_false (fun h => hS h.1)] at this
      exact this)
    clear h hS
    go_enter Try.func13, Try.ntmps13
    go_wp2_with fail
    refine Calls.mono HA.out ?_
    rintro e w1 ⟨rfl, hb1⟩
    have HB1 := Lib.hid hb1
    clear hb1
    go_wp2_with fail
    refine Calls.mono (HL.out _ (HH.out.below HB1.out)) ?_
    rintro e w2 ⟨rfl, rfl⟩
    go_wp2_with fail
    go_ret
    exact ⟨rfl, HB1.out⟩
end Go.Proofs.Ytgdkgoiagjjccaa
