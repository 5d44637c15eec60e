/- The same rows. -/
import Derived.Test.YtgdkgoiagjjccaaGLevM
import Derived.Test.YtgdkgoiagjjccaaZB
import Derived.Test.YtgdkgoiagjjccaaReg
import Derived.Deep.CutRange
import Derived.Deep.CutBlock
namespace Go.Proofs.Ytgdkgoiagjjccaa
set_option maxRecDepth 100000
open Go.RowKit Go.Shelf

set_option maxHeartbeats 2000000 in
theorem rows_same (A : Option Addr) (n c : Nat) (A2 : Option Addr) (c2 : Nat) (ls : List (List Int)) (w : World) (h : Rws w A n ls) (h2 : Rws w A2 n ls) :
    Calls Try.prog 29 #[.slice A n c, .slice A2 n c2] w fun e w' => e = .returned (.bool true) ∧ Below w.heap.size w w' := by
  have HH := Lib.hid h
  have HI := Lib.hid h2
  have hn := h.2.1
  clear h h2
  go_enter Try.func29, Try.ntmps29
  go_wp2_with fail
  go_loopw [5, 13] (fun _ i wr => ∃ q : Nat, i = .int .i64 (q : Int) ∧ q ≤ n ∧ Below w.heap.size w wr) (fun _ i _ => n - (intOf i).toNat)
  case atStart => exact ⟨0, rfl, by omega, Below.refl _ _⟩
  case round =>
    obtain ⟨q, rfl, hq, hbr⟩ := hrel
    rename World => wx
    by_cases hlt : q < n
    · obtain ⟨b, off, rfl, hc⟩ := (HH.out.below hbr).2.2 (by omega)
      obtain ⟨b2, off2, rfl, hc2⟩ := (HI.out.below hbr).2.2 (by omega)
      obtain ⟨B1, d1, x0, hn1, hm1⟩ := hc q hlt
      obtain ⟨B2, d2, y0, hn2, _⟩ := hc2 q hlt
      obtain ⟨l, hl⟩ : ∃ l, l = ls.getD q [] := ⟨_, rfl⟩
      rw [← hl] at x0 y0 hn1 hn2 hm1
      have HX0 := Lib.hid (show ∀ W2, Below wx.drew.heap.size wx.drew W2 → W2.cell? ⟨b, off + q, none⟩ = some (.slice B1 l.length d1) from fun W2 hw => (stays_w hw _ (World.block_lt_of_cell? _ _ x0)).trans x0)
      have HY0 := Lib.hid (show ∀ W2, Below wx.drew.heap.size wx.drew W2 → W2.cell? ⟨b2, off2 + q, none⟩ = some (.slice B2 l.length d2) from fun W2 hw => (stays_w hw _ (World.block_lt_of_cell? _ _ y0)).trans y0)
      have HC1 := Lib.hid (fun w' (hb : Below wx.heap.size wx w') => ints_same B1 l.length d1 B2 d2 l w' (Nums.ext hn1 (stays_w hb)) (Nums.ext hn2 (stays_w hb)) hm1)
      have HBX := Lib.hid hbr
      clear hc hc2 hl x0 y0 hn1 hn2 hbr
      go_wp2_with fail
      refine wp_region_noPanic ?_
      refine wp_region_abs 8 27 [
        .is (.slice (some ⟨b, off, none⟩) n c),
        .is (.int .i64 (q : Int)),
        .is (.pointer (some ⟨b, off + q, none⟩)),
        .is (.slice B1 l.length d1),
        .is (.slice (some ⟨b2, off2, none⟩) n c2),
        .is (.int .i64 (q : Int)),
        .is (.pointer (some ⟨b2, off2 + q, none⟩)),
        .is (.slice B2 l.length d2)]
        [16, 17, 18, 19, 20, 21, 22, 23]
        [[], [], [0, 1], [2], [], [], [4, 5], [6]] (by kernel_rfl) (by rfl) rfl rfl (by kernel_rfl) (fun _ _ _ _ h => h.elim) ?_ ?_
      · refine ⟨?_, ?_, ?_, ?_, ?_, ?_, ?_, ?_, trivial⟩
        · intro W2 hw K hK
          go_simp
          exact hK _ _ rfl (Below.refl _ _)
        · intro W2 hw K hK
          go_simp
          exact hK _ _ rfl (Below.refl _ _)
        · intro W2 hw K hK
          go_simp
          exact hK _ _ rfl (Below.refl _ _)
        · intro W2 hw K hK
          have c0 := HX0.out W2 hw
          go_simp
          exact hK _ _ rfl (Below.refl _ _)
        · intro W2 hw K hK
          go_simp
          exact hK _ _ rfl (Below.refl _ _)
        · intro W2 hw K hK
          go_simp
          exact hK _ _ rfl (Below.refl _ _)
        · intro W2 hw K hK
          go_simp
          exact hK _ _ rfl (Below.refl _ _)
        · intro W2 hw K hK
          have c0 := HY0.out W2 hw
          go_simp
          exact hK _ _ rfl (Below.refl _ _)
      · intro W2 hw2
        simp only [Behind]
        have HWX := Lib.hid (show Below wx.heap.size wx W2 from (Below.refl _ wx).drew.trans hw2)
        have HC2 := Lib.hid (HC1.out W2 HWX.out)
        clear hw2 HC1
        simp only [List.drop, Act.put, List.setIfInBounds_toArray, List.set_cons_zero, List.set_cons_succ]
        go_wp2_with fail
        refine Calls.mono HC2.out ?_
        rintro e w5 ⟨rfl, hb5⟩
        have HB5 := Lib.hid (HBX.out.trans ((HWX.out.trans (hb5.mono HWX.out.size)).mono HBX.out.size))
        clear hb5
        go_wp2_with fail
        refine NoPanic.normal ?_
        go_wp2_with fail
        go_roundw
        case rel => exact ⟨q + 1, by go_num, by omega, HB5.out⟩
        case measure => simp [intOf]; omega
    · obtain rfl : q = n := by omega
      have HB := Lib.hid hbr
      clear hbr
      go_wp2_with fail
      go_ret
      exact ⟨rfl, HB.out⟩
end Go.Proofs.Ytgdkgoiagjjccaa
