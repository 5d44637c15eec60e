/- The document's rising, between. -/
import Derived.Test.YtmicheheibkmjaaFGood1
namespace Go.Proofs.Ytmicheheibkmjaa
set_option maxRecDepth 100000
open Go.RowKit

theorem betw_any (a b : Int) (ha : -9223372036854775808 ≤ a) (hb : b ≤ 9223372036854775807) (w : World) : Calls Try.prog 45 #[.int .i64 a, .int .i64 b] w fun e w' => e = .returned (.bool (decide (a + 1 < b))) ∧ w = w' := by
  by_cases h1 : a < b
  · have hw : wrap64 (a + 1) = a + 1 := plus1 ha (by omega)
    have HE := Lib.hid (show decide (a + 1 < b) = (a + 1 != b) by
      rw [Bool.eq_iff_iff, decide_eq_true_iff, bne_iff_ne]; omega)
    have H1 := Lib.hid h1
    go_enter Try.func45, Try.ntmps45
    go_wp2_with fail
    go_ret
    exact ⟨by rw [HE.out]; rfl, rfl⟩
  · have HE := Lib.hid (show decide (a + 1 < b) = false by rw [decide_eq_false_iff_not]; omega)
    go_enter Try.func45, Try.ntmps45
    go_wp2_with fail
    go_ret
    exact ⟨by rw [HE.out]; rfl, rfl⟩
theorem tab_neg {t : Int} (h : t < 0) : tabB t = false := by simp [tabB]; omega
theorem tab_big {t : Int} (h : 3 < t) : tabB t = false := by simp [tabB]; omega
theorem tab_ok {t : Int} (h : ¬ t < 0) (h2 : ¬ 3 < t) : tabB t = true := by simp [tabB]; omega
set_option maxHeartbeats 8000000 in
theorem rising_any (A : Option Addr) (n c : Nat) (l : List K) (w : World) (h : Keys w A n l) (hn : n ≤ 9223372036854775807) : Calls Try.prog 46 #[.slice A n c] w fun e w' => e = .returned (.bool (kgB l)) ∧ Below w.heap.size w w' := by
  have HH := Lib.hid h
  have HL := Lib.hid h.len
  clear h
  go_enter Try.func46, Try.ntmps46
  go_wp2_with fail
  go_loopw [3] (fun i wr => ∃ q : Nat, i = .int .i64 (q : Int) ∧ q ≤ n ∧ Hid (kg l q) ∧ Below w.heap.size w wr) (fun i _ => n - (intOf i).toNat)
  case atStart => exact ⟨0, rfl, by omega, fun j _ h => by omega, Below.refl _ _⟩
  case round =>
    obtain ⟨q, rfl, hq, hno, hbr⟩ := hrel
    have HBR := Lib.hid hbr
    by_cases hlt : q < n
    · have hql : q < l.length := by rw [HL.out]; exact hlt
      obtain ⟨b, off, rfl, hc⟩ := Keys.cells (HH.out.below hbr) (by omega)
      obtain ⟨c0, c1⟩ := hc q hql
      have HF := Lib.hid (show ¬ (tabB l[q].t = true ∧ (0 < q → lessK l[q - 1] l[q] = true)) → kgB l = false from fun hh => kg_false fun hk => hh (hk q hql (by have := HL.out; omega)))
      have HS := Lib.hid (fun h1 h2 => kg_succ hql hno.out h1 h2)
      have HP := Lib.hid (show 0 < q → ∃ p : K, p = l[q - 1] ∧ wr.cell? ⟨b, off + (q - 1) * 2, none⟩ = some (.int .i64 p.t) ∧ wr.cell? ⟨b, off + (q - 1) * 2 + 1, none⟩ = some (.int .i64 p.k) from fun h0 => by
        obtain ⟨d0, d1⟩ := hc (q - 1) (by omega)
        exact ⟨_, rfl, d0, d1⟩)
      obtain ⟨k, hk⟩ : ∃ k, k = l[q] := ⟨_, rfl⟩
      rw [← hk] at c0 c1 HF HS
      have HX0 := Lib.hid (show ∀ W2, Below wr.drew.heap.size wr.drew W2 → W2.cell? ⟨b, off + q * 2, none⟩ = some (.int .i64 k.t) ∧ W2.cell? ⟨b, off + q * 2 + 1, none⟩ = some (.int .i64 k.k) from fun W2 hw =>
        ⟨(stays_w hw _ (World.block_lt_of_cell? _ _ c0)).trans c0, (stays_w hw _ (World.block_lt_of_cell? _ _ c1)).trans c1⟩)
      have hqi : (q : Int) < n := by omega
      clear hc hk hbr
      by_cases hneg : k.t < 0
      · have e0 : decide (k.t < 0) = true := decide_eq_true hneg
        have HR := Lib.hid (HF.out (by simp [tab_neg hneg]))
        clear HP HS HF hneg
        go_wp2_with fail
        refine wp_region_noPanic ?_
        refine wp_region_abs 30 41 [.is (.slice (some ⟨b, off, none⟩) n c), .is (.int .i64 (q : Int)), .is (.pointer (some ⟨b, off + q * 2, none⟩)), .is (.pointer (some ⟨b, off + q * 2, none⟩)), .is (.int .i64 k.t), .is (.bool true), .is (.bool true), .is undef, .is undef, .is undef, .is undef, .is undef, .is undef, .is (.bool true), .is (.bool true), .is undef, .is undef, .is undef, .is undef, .is undef, .is undef, .is undef, .is undef, .is undef, .is undef, .is undef, .is undef, .is undef, .is undef, .is undef]
          [10, 11, 12, 13, 14, 15, 16, 17, 18, 19, 20, 21, 22, 23, 24, 25, 26, 27, 28, 29, 30, 31, 32, 33, 34, 35, 36, 37, 38, 39]
          [[], [], [0, 1], [2], [3], [4], [5], [6], [6], [7, 8, 6], [9, 6], [10, 6], [11, 6], [6, 12], [13, 6], [14], [15, 14], [16, 14], [17], [17], [19, 17], [18, 20, 17], [21, 17], [17], [17], [23, 24, 17], [25, 17], [22, 26, 17], [27, 17], [17, 28, 14]] (by kernel_rfl) (by rfl) rfl rfl (by kernel_rfl) (fun _ _ _ _ h => h.elim) ?_ ?_
        · refine ⟨?_, ?_, ?_, ?_, ?_, ?_, ?_, ?_, ?_, ?_, ?_, ?_, ?_, ?_, ?_, ?_, ?_, ?_, ?_, ?_, ?_, ?_, ?_, ?_, ?_, ?_, ?_, ?_, ?_, ?_, trivial⟩
          · intro W2 hw K hK
            obtain ⟨b0, b1⟩ := HX0.out W2 hw
            go_simp
            exact hK _ _ rfl (Below.refl _ _)
          · intro W2 hw K hK
            obtain ⟨b0, b1⟩ := HX0.out W2 hw
            go_simp
            exact hK _ _ rfl (Below.refl _ _)
          · intro W2 hw K hK
            obtain ⟨b0, b1⟩ := HX0.out W2 hw
            go_simp
            exact hK _ _ rfl (Below.refl _ _)
          · intro W2 hw K hK
            obtain ⟨b0, b1⟩ := HX0.out W2 hw
            go_simp
            exact hK _ _ rfl (Below.refl _ _)
          · intro W2 hw K hK
            obtain ⟨b0, b1⟩ := HX0.out W2 hw
            go_simp
            exact hK _ _ rfl (Below.refl _ _)
          · intro W2 hw K hK
            obtain ⟨b0, b1⟩ := HX0.out W2 hw
            go_simp
            exact hK _ _ rfl (Below.refl _ _)
          · intro W2 hw K hK
            obtain ⟨b0, b1⟩ := HX0.out W2 hw
            go_simp
            exact hK _ _ rfl (Below.refl _ _)
          · intro W2 hw K hK
            go_simp
            exact hK _ _ rfl (Below.refl _ _)
          · intro W2 hw K hK
            go_simp
            exact hK _ _ rfl (Below.refl _ _)
          · intro W2 hw K hK
            go_simp
            exact hK _ _ rfl (Below.refl _ _)
          · intro W2 hw K hK
            go_simp
            exact hK _ _ rfl (Below.refl _ _)
          · intro W2 hw K hK
            go_simp
            exact hK _ _ rfl (Below.refl _ _)
          · intro W2 hw K hK
            go_simp
            exact hK _ _ rfl (Below.refl _ _)
          · intro W2 hw K hK
            obtain ⟨b0, b1⟩ := HX0.out W2 hw
            go_simp
            exact hK _ _ rfl (Below.refl _ _)
          · intro W2 hw K hK
            obtain ⟨b0, b1⟩ := HX0.out W2 hw
            go_simp
            exact hK _ _ rfl (Below.refl _ _)
          · intro W2 hw K hK
            go_simp
            exact hK _ _ rfl (Below.refl _ _)
          · intro W2 hw K hK
            go_simp
            exact hK _ _ rfl (Below.refl _ _)
          · intro W2 hw K hK
            go_simp
            exact hK _ _ rfl (Below.refl _ _)
          · intro W2 hw K hK
            go_simp
            exact hK _ _ rfl (Below.refl _ _)
          · intro W2 hw K hK
            go_simp
            exact hK _ _ rfl (Below.refl _ _)
          · intro W2 hw K hK
            go_simp
            exact hK _ _ rfl (Below.refl _ _)
          · intro W2 hw K hK
            go_simp
            exact hK _ _ rfl (Below.refl _ _)
          · intro W2 hw K hK
            go_simp
            exact hK _ _ rfl (Below.refl _ _)
          · intro W2 hw K hK
            go_simp
            exact hK _ _ rfl (Below.refl _ _)
          · intro W2 hw K hK
            go_simp
            exact hK _ _ rfl (Below.refl _ _)
          · intro W2 hw K hK
            go_simp
            exact hK _ _ rfl (Below.refl _ _)
          · intro W2 hw K hK
            go_simp
            exact hK _ _ rfl (Below.refl _ _)
          · intro W2 hw K hK
            go_simp
            exact hK _ _ rfl (Below.refl _ _)
          · intro W2 hw K hK
            go_simp
            exact hK _ _ rfl (Below.refl _ _)
          · intro W2 hw K hK
            go_simp
            exact hK _ _ rfl (Below.refl _ _)
        · intro W2 hw2
          simp only [Behind]
          have hw3 : Below wr.heap.size wr W2 := (Below.refl _ _).drew.trans hw2
          have HWX := Lib.hid (HBR.out.trans (hw3.mono HBR.out.size))
          clear hw2 hw3
          simp only [List.drop, Act.put, List.setIfInBounds_toArray, List.set_cons_zero, List.set_cons_succ]
          go_wp2_with fail
          refine NoPanic.normal ?_
          go_wp2_with fail
          go_ret
          exact ⟨by rw [HR.out]; rfl, HWX.out⟩
      · have e0 : decide (k.t < 0) = false := decide_eq_false hneg
        by_cases hbig : 3 < k.t
        · have e1 : decide (3 < k.t) = true := decide_eq_true hbig
          have e2 : decide (k.t > 3) = true := decide_eq_true hbig
          have HR := Lib.hid (HF.out (by simp [tab_big hbig]))
          clear HP HS HF hneg hbig
          go_wp2_with fail
          refine wp_region_noPanic ?_
          refine wp_region_abs 30 41 [.is (.slice (some ⟨b, off, none⟩) n c), .is (.int .i64 (q : Int)), .is (.pointer (some ⟨b, off + q * 2, none⟩)), .is (.pointer (some ⟨b, off + q * 2, none⟩)), .is (.int .i64 k.t), .is (.bool false), .is (.bool false), .is (.slice (some ⟨b, off, none⟩) n c), .is (.int .i64 (q : Int)), .is (.pointer (some ⟨b, off + q * 2, none⟩)), .is (.pointer (some ⟨b, off + q * 2, none⟩)), .is (.int .i64 k.t), .is (.bool true), .is (.bool true), .is (.bool true), .is undef, .is undef, .is undef, .is undef, .is undef, .is undef, .is undef, .is undef, .is undef, .is undef, .is undef, .is undef, .is undef, .is undef, .is undef]
            [10, 11, 12, 13, 14, 15, 16, 17, 18, 19, 20, 21, 22, 23, 24, 25, 26, 27, 28, 29, 30, 31, 32, 33, 34, 35, 36, 37, 38, 39]
            [[], [], [0, 1], [2], [3], [4], [5], [6], [6], [7, 8, 6], [9, 6], [10, 6], [11, 6], [6, 12], [13, 6], [14], [15, 14], [16, 14], [17], [17], [19, 17], [18, 20, 17], [21, 17], [17], [17], [23, 24, 17], [25, 17], [22, 26, 17], [27, 17], [17, 28, 14]] (by kernel_rfl) (by rfl) rfl rfl (by kernel_rfl) (fun _ _ _ _ h => h.elim) ?_ ?_
          · refine ⟨?_, ?_, ?_, ?_, ?_, ?_, ?_, ?_, ?_, ?_, ?_, ?_, ?_, ?_, ?_, ?_, ?_, ?_, ?_, ?_, ?_, ?_, ?_, ?_, ?_, ?_, ?_, ?_, ?_, ?_, trivial⟩
            · intro W2 hw K hK
              obtain ⟨b0, b1⟩ := HX0.out W2 hw
              go_simp
              exact hK _ _ rfl (Below.refl _ _)
            · intro W2 hw K hK
              obtain ⟨b0, b1⟩ := HX0.out W2 hw
              go_simp
              exact hK _ _ rfl (Below.refl _ _)
            · intro W2 hw K hK
              obtain ⟨b0, b1⟩ := HX0.out W2 hw
              go_simp
              exact hK _ _ rfl (Below.refl _ _)
            · intro W2 hw K hK
              obtain ⟨b0, b1⟩ := HX0.out W2 hw
              go_simp
              exact hK _ _ rfl (Below.refl _ _)
            · intro W2 hw K hK
              obtain ⟨b0, b1⟩ := HX0.out W2 hw
              go_simp
              exact hK _ _ rfl (Below.refl _ _)
            · intro W2 hw K hK
              obtain ⟨b0, b1⟩ := HX0.out W2 hw
              go_simp
              exact hK _ _ rfl (Below.refl _ _)
            · intro W2 hw K hK
              obtain ⟨b0, b1⟩ := HX0.out W2 hw
              go_simp
              exact hK _ _ rfl (Below.refl _ _)
            · intro W2 hw K hK
              obtain ⟨b0, b1⟩ := HX0.out W2 hw
              go_simp
              exact hK _ _ rfl (Below.refl _ _)
            · intro W2 hw K hK
              obtain ⟨b0, b1⟩ := HX0.out W2 hw
              go_simp
              exact hK _ _ rfl (Below.refl _ _)
            · intro W2 hw K hK
              obtain ⟨b0, b1⟩ := HX0.out W2 hw
              go_simp
              exact hK _ _ rfl (Below.refl _ _)
            · intro W2 hw K hK
              obtain ⟨b0, b1⟩ := HX0.out W2 hw
              go_simp
              exact hK _ _ rfl (Below.refl _ _)
            · intro W2 hw K hK
              obtain ⟨b0, b1⟩ := HX0.out W2 hw
              go_simp
              exact hK _ _ rfl (Below.refl _ _)
            · intro W2 hw K hK
              obtain ⟨b0, b1⟩ := HX0.out W2 hw
              go_simp
              exact hK _ _ rfl (Below.refl _ _)
            · intro W2 hw K hK
              obtain ⟨b0, b1⟩ := HX0.out W2 hw
              go_simp
              exact hK _ _ rfl (Below.refl _ _)
            · intro W2 hw K hK
              obtain ⟨b0, b1⟩ := HX0.out W2 hw
              go_simp
              exact hK _ _ rfl (Below.refl _ _)
            · intro W2 hw K hK
              go_simp
              exact hK _ _ rfl (Below.refl _ _)
            · intro W2 hw K hK
              go_simp
              exact hK _ _ rfl (Below.refl _ _)
            · intro W2 hw K hK
              go_simp
              exact hK _ _ rfl (Below.refl _ _)
            · intro W2 hw K hK
              go_simp
              exact hK _ _ rfl (Below.refl _ _)
            · intro W2 hw K hK
              go_simp
              exact hK _ _ rfl (Below.refl _ _)
            · intro W2 hw K hK
              go_simp
              exact hK _ _ rfl (Below.refl _ _)
            · intro W2 hw K hK
              go_simp
              exact hK _ _ rfl (Below.refl _ _)
            · intro W2 hw K hK
              go_simp
              exact hK _ _ rfl (Below.refl _ _)
            · intro W2 hw K hK
              go_simp
              exact hK _ _ rfl (Below.refl _ _)
            · intro W2 hw K hK
              go_simp
              exact hK _ _ rfl (Below.refl _ _)
            · intro W2 hw K hK
              go_simp
              exact hK _ _ rfl (Below.refl _ _)
            · intro W2 hw K hK
              go_simp
              exact hK _ _ rfl (Below.refl _ _)
            · intro W2 hw K hK
              go_simp
              exact hK _ _ rfl (Below.refl _ _)
            · intro W2 hw K hK
              go_simp
              exact hK _ _ rfl (Below.refl _ _)
            · intro W2 hw K hK
              go_simp
              exact hK _ _ rfl (Below.refl _ _)
          · intro W2 hw2
            simp only [Behind]
            have hw3 : Below wr.heap.size wr W2 := (Below.refl _ _).drew.trans hw2
            have HWX := Lib.hid (HBR.out.trans (hw3.mono HBR.out.size))
            clear hw2 hw3
            simp only [List.drop, Act.put, List.setIfInBounds_toArray, List.set_cons_zero, List.set_cons_succ]
            go_wp2_with fail
            refine NoPanic.normal ?_
            go_wp2_with fail
            go_ret
            exact ⟨by rw [HR.out]; rfl, HWX.out⟩
        · have e1 : decide (3 < k.t) = false := decide_eq_false hbig
          have e2 : decide (k.t > 3) = false := decide_eq_false hbig
          rw [tab_ok hneg hbig] at HF HS
          clear hneg hbig
          by_cases h0 : 0 < q
          · obtain ⟨p, hp, d0, d1⟩ := HP.out h0
            have HX := Lib.hid (show ∀ W2, Below wr.drew.heap.size wr.drew W2 → W2.cell? ⟨b, off + (q - 1) * 2, none⟩ = some (.int .i64 p.t) ∧ W2.cell? ⟨b, off + (q - 1) * 2 + 1, none⟩ = some (.int .i64 p.k) ∧ W2.cell? ⟨b, off + q * 2, none⟩ = some (.int .i64 k.t) ∧ W2.cell? ⟨b, off + q * 2 + 1, none⟩ = some (.int .i64 k.k) from fun W2 hw =>
              ⟨(stays_w hw _ (World.block_lt_of_cell? _ _ d0)).trans d0, (stays_w hw _ (World.block_lt_of_cell? _ _ d1)).trans d1, HX0.out W2 hw⟩)
            rw [← hp] at HF HS
            have C := less22 p k
            unfold K.val at C
            obtain ⟨r, hr⟩ : ∃ r, r = lessK p k := ⟨_, rfl⟩
            rw [← hr] at C HF HS
            have HC := Lib.hid C
            have hg0 : decide ((q : Int) > 0) = true := by rw [decide_eq_true_iff]; omega
            have hg1 : decide ((0 : Int) < q) = true := by rw [decide_eq_true_iff]; omega
            have hqn : (q : Int) - 1 < n := by omega
            have hwq : IntKind.i64.wrap ((q : Int) - 1) = (q : Int) - 1 := wrap_pred h0 (by omega)
            have hq1 : (0 : Int) ≤ (q : Int) - 1 := by omega
            have hq2 : ¬ ((q : Int) - 1 < 0) := by omega
            have hq3 : ((q : Int) - 1).toNat = q - 1 := by omega
            have hq4 : (q : Int) ≤ n := by omega
            have hq5 : (1 : Int) ≤ (q : Int) := by omega
            clear C hr hp HP d0 d1
            cases r with
            | false =>
              have HR := Lib.hid (HF.out (by simp [h0]))
              clear HF HS
              go_wp2_with fail
              refine wp_region_noPanic ?_
              refine wp_region_abs 30 41 [.is (.slice (some ⟨b, off, none⟩) n c), .is (.int .i64 (q : Int)), .is (.pointer (some ⟨b, off + q * 2, none⟩)), .is (.pointer (some ⟨b, off + q * 2, none⟩)), .is (.int .i64 k.t), .is (.bool false), .is (.bool false), .is (.slice (some ⟨b, off, none⟩) n c), .is (.int .i64 (q : Int)), .is (.pointer (some ⟨b, off + q * 2, none⟩)), .is (.pointer (some ⟨b, off + q * 2, none⟩)), .is (.int .i64 k.t), .is (.bool false), .is (.bool false), .is (.bool false), .is (.int .i64 (q : Int)), .is (.bool true), .is (.bool true), .is (.slice (some ⟨b, off, none⟩) n c), .is (.int .i64 (q : Int)), .is (.int .i64 ((q : Int) - 1)), .is (.pointer (some ⟨b, off + (q - 1) * 2, none⟩)), .is (.agg #[.int .i64 p.t, .int .i64 p.k]), .is (.slice (some ⟨b, off, none⟩) n c), .is (.int .i64 (q : Int)), .is (.pointer (some ⟨b, off + q * 2, none⟩)), .is (.agg #[.int .i64 k.t, .int .i64 k.k]), .is (.bool false), .is (.bool true), .is (.bool true)]
                [10, 11, 12, 13, 14, 15, 16, 17, 18, 19, 20, 21, 22, 23, 24, 25, 26, 27, 28, 29, 30, 31, 32, 33, 34, 35, 36, 37, 38, 39]
                [[], [], [0, 1], [2], [3], [4], [5], [6], [6], [7, 8, 6], [9, 6], [10, 6], [11, 6], [6, 12], [13, 6], [14], [15, 14], [16, 14], [17], [17], [19, 17], [18, 20, 17], [21, 17], [17], [17], [23, 24, 17], [25, 17], [22, 26, 17], [27, 17], [17, 28, 14]] (by kernel_rfl) (by rfl) rfl rfl (by kernel_rfl) (fun _ _ _ _ h => h.elim) ?_ ?_
              · refine ⟨?_, ?_, ?_, ?_, ?_, ?_, ?_, ?_, ?_, ?_, ?_, ?_, ?_, ?_, ?_, ?_, ?_, ?_, ?_, ?_, ?_, ?_, ?_, ?_, ?_, ?_, ?_, ?_, ?_, ?_, trivial⟩
                · intro W2 hw K hK
                  obtain ⟨d0, d1, b0, b1⟩ := HX.out W2 hw
                  go_simp
                  exact hK _ _ rfl (Below.refl _ _)
                · intro W2 hw K hK
                  obtain ⟨d0, d1, b0, b1⟩ := HX.out W2 hw
                  go_simp
                  exact hK _ _ rfl (Below.refl _ _)
                · intro W2 hw K hK
                  obtain ⟨d0, d1, b0, b1⟩ := HX.out W2 hw
                  go_simp
                  exact hK _ _ rfl (Below.refl _ _)
                · intro W2 hw K hK
                  obtain ⟨d0, d1, b0, b1⟩ := HX.out W2 hw
                  go_simp
                  exact hK _ _ rfl (Below.refl _ _)
                · intro W2 hw K hK
                  obtain ⟨d0, d1, b0, b1⟩ := HX.out W2 hw
                  go_simp
                  exact hK _ _ rfl (Below.refl _ _)
                · intro W2 hw K hK
                  obtain ⟨d0, d1, b0, b1⟩ := HX.out W2 hw
                  go_simp
                  exact hK _ _ rfl (Below.refl _ _)
                · intro W2 hw K hK
                  obtain ⟨d0, d1, b0, b1⟩ := HX.out W2 hw
                  go_simp
                  exact hK _ _ rfl (Below.refl _ _)
                · intro W2 hw K hK
                  obtain ⟨d0, d1, b0, b1⟩ := HX.out W2 hw
                  go_simp
                  exact hK _ _ rfl (Below.refl _ _)
                · intro W2 hw K hK
                  obtain ⟨d0, d1, b0, b1⟩ := HX.out W2 hw
                  go_simp
                  exact hK _ _ rfl (Below.refl _ _)
                · intro W2 hw K hK
                  obtain ⟨d0, d1, b0, b1⟩ := HX.out W2 hw
                  go_simp
                  exact hK _ _ rfl (Below.refl _ _)
                · intro W2 hw K hK
                  obtain ⟨d0, d1, b0, b1⟩ := HX.out W2 hw
                  go_simp
                  exact hK _ _ rfl (Below.refl _ _)
                · intro W2 hw K hK
                  obtain ⟨d0, d1, b0, b1⟩ := HX.out W2 hw
                  go_simp
                  exact hK _ _ rfl (Below.refl _ _)
                · intro W2 hw K hK
                  obtain ⟨d0, d1, b0, b1⟩ := HX.out W2 hw
                  go_simp
                  exact hK _ _ rfl (Below.refl _ _)
                · intro W2 hw K hK
                  obtain ⟨d0, d1, b0, b1⟩ := HX.out W2 hw
                  go_simp
                  exact hK _ _ rfl (Below.refl _ _)
                · intro W2 hw K hK
                  obtain ⟨d0, d1, b0, b1⟩ := HX.out W2 hw
                  go_simp
                  exact hK _ _ rfl (Below.refl _ _)
                · intro W2 hw K hK
                  obtain ⟨d0, d1, b0, b1⟩ := HX.out W2 hw
                  go_simp
                  exact hK _ _ rfl (Below.refl _ _)
                · intro W2 hw K hK
                  obtain ⟨d0, d1, b0, b1⟩ := HX.out W2 hw
                  go_simp
                  exact hK _ _ rfl (Below.refl _ _)
                · intro W2 hw K hK
                  obtain ⟨d0, d1, b0, b1⟩ := HX.out W2 hw
                  go_simp
                  exact hK _ _ rfl (Below.refl _ _)
                · intro W2 hw K hK
                  obtain ⟨d0, d1, b0, b1⟩ := HX.out W2 hw
                  go_simp
                  exact hK _ _ rfl (Below.refl _ _)
                · intro W2 hw K hK
                  obtain ⟨d0, d1, b0, b1⟩ := HX.out W2 hw
                  go_simp
                  exact hK _ _ rfl (Below.refl _ _)
                · intro W2 hw K hK
                  obtain ⟨d0, d1, b0, b1⟩ := HX.out W2 hw
                  go_simp
                  exact hK _ _ rfl (Below.refl _ _)
                · intro W2 hw K hK
                  obtain ⟨d0, d1, b0, b1⟩ := HX.out W2 hw
                  go_simp
                  exact hK _ _ rfl (Below.refl _ _)
                · intro W2 hw K hK
                  obtain ⟨d0, d1, b0, b1⟩ := HX.out W2 hw
                  go_simp
                  exact hK _ _ rfl (Below.refl _ _)
                · intro W2 hw K hK
                  obtain ⟨d0, d1, b0, b1⟩ := HX.out W2 hw
                  go_simp
                  exact hK _ _ rfl (Below.refl _ _)
                · intro W2 hw K hK
                  obtain ⟨d0, d1, b0, b1⟩ := HX.out W2 hw
                  go_simp
                  exact hK _ _ rfl (Below.refl _ _)
                · intro W2 hw K hK
                  obtain ⟨d0, d1, b0, b1⟩ := HX.out W2 hw
                  go_simp
                  exact hK _ _ rfl (Below.refl _ _)
                · intro W2 hw K hK
                  obtain ⟨d0, d1, b0, b1⟩ := HX.out W2 hw
                  go_simp
                  exact hK _ _ rfl (Below.refl _ _)
                · intro W2 hw K hK
                  have hcc := HC.out W2
                  go_simp
                  refine Calls.mono hcc ?_
                  rintro e9 w5 ⟨rfl, hb5⟩
                  exact hK _ _ rfl hb5
                · intro W2 hw K hK
                  obtain ⟨d0, d1, b0, b1⟩ := HX.out W2 hw
                  go_simp
                  exact hK _ _ rfl (Below.refl _ _)
                · intro W2 hw K hK
                  obtain ⟨d0, d1, b0, b1⟩ := HX.out W2 hw
                  go_simp
                  exact hK _ _ rfl (Below.refl _ _)
              · intro W2 hw2
                simp only [Behind]
                have hw3 : Below wr.heap.size wr W2 := (Below.refl _ _).drew.trans hw2
                have HWX := Lib.hid (HBR.out.trans (hw3.mono HBR.out.size))
                clear hw2 hw3
                simp only [List.drop, Act.put, List.setIfInBounds_toArray, List.set_cons_zero, List.set_cons_succ]
                go_wp2_with fail
                refine NoPanic.normal ?_
                go_wp2_with fail
                go_ret
                exact ⟨by rw [HR.out]; rfl, HWX.out⟩
            | true =>
              have HR := Lib.hid (HS.out (by first | rfl | trivial) (fun _ => by first | rfl | trivial))
              clear HF HS
              go_wp2_with fail
              refine wp_region_noPanic ?_
              refine wp_region_abs 30 41 [.is (.slice (some ⟨b, off, none⟩) n c), .is (.int .i64 (q : Int)), .is (.pointer (some ⟨b, off + q * 2, none⟩)), .is (.pointer (some ⟨b, off + q * 2, none⟩)), .is (.int .i64 k.t), .is (.bool false), .is (.bool false), .is (.slice (some ⟨b, off, none⟩) n c), .is (.int .i64 (q : Int)), .is (.pointer (some ⟨b, off + q * 2, none⟩)), .is (.pointer (some ⟨b, off + q * 2, none⟩)), .is (.int .i64 k.t), .is (.bool false), .is (.bool false), .is (.bool false), .is (.int .i64 (q : Int)), .is (.bool true), .is (.bool true), .is (.slice (some ⟨b, off, none⟩) n c), .is (.int .i64 (q : Int)), .is (.int .i64 ((q : Int) - 1)), .is (.pointer (some ⟨b, off + (q - 1) * 2, none⟩)), .is (.agg #[.int .i64 p.t, .int .i64 p.k]), .is (.slice (some ⟨b, off, none⟩) n c), .is (.int .i64 (q : Int)), .is (.pointer (some ⟨b, off + q * 2, none⟩)), .is (.agg #[.int .i64 k.t, .int .i64 k.k]), .is (.bool true), .is (.bool false), .is (.bool false)]
                [10, 11, 12, 13, 14, 15, 16, 17, 18, 19, 20, 21, 22, 23, 24, 25, 26, 27, 28, 29, 30, 31, 32, 33, 34, 35, 36, 37, 38, 39]
                [[], [], [0, 1], [2], [3], [4], [5], [6], [6], [7, 8, 6], [9, 6], [10, 6], [11, 6], [6, 12], [13, 6], [14], [15, 14], [16, 14], [17], [17], [19, 17], [18, 20, 17], [21, 17], [17], [17], [23, 24, 17], [25, 17], [22, 26, 17], [27, 17], [17, 28, 14]] (by kernel_rfl) (by rfl) rfl rfl (by kernel_rfl) (fun _ _ _ _ h => h.elim) ?_ ?_
              · refine ⟨?_, ?_, ?_, ?_, ?_, ?_, ?_, ?_, ?_, ?_, ?_, ?_, ?_, ?_, ?_, ?_, ?_, ?_, ?_, ?_, ?_, ?_, ?_, ?_, ?_, ?_, ?_, ?_, ?_, ?_, trivial⟩
                · intro W2 hw K hK
                  obtain ⟨d0, d1, b0, b1⟩ := HX.out W2 hw
                  go_simp
                  exact hK _ _ rfl (Below.refl _ _)
                · intro W2 hw K hK
                  obtain ⟨d0, d1, b0, b1⟩ := HX.out W2 hw
                  go_simp
                  exact hK _ _ rfl (Below.refl _ _)
                · intro W2 hw K hK
                  obtain ⟨d0, d1, b0, b1⟩ := HX.out W2 hw
                  go_simp
                  exact hK _ _ rfl (Below.refl _ _)
                · intro W2 hw K hK
                  obtain ⟨d0, d1, b0, b1⟩ := HX.out W2 hw
                  go_simp
                  exact hK _ _ rfl (Below.refl _ _)
                · intro W2 hw K hK
                  obtain ⟨d0, d1, b0, b1⟩ := HX.out W2 hw
                  go_simp
                  exact hK _ _ rfl (Below.refl _ _)
                · intro W2 hw K hK
                  obtain ⟨d0, d1, b0, b1⟩ := HX.out W2 hw
                  go_simp
                  exact hK _ _ rfl (Below.refl _ _)
                · intro W2 hw K hK
                  obtain ⟨d0, d1, b0, b1⟩ := HX.out W2 hw
                  go_simp
                  exact hK _ _ rfl (Below.refl _ _)
                · intro W2 hw K hK
                  obtain ⟨d0, d1, b0, b1⟩ := HX.out W2 hw
                  go_simp
                  exact hK _ _ rfl (Below.refl _ _)
                · intro W2 hw K hK
                  obtain ⟨d0, d1, b0, b1⟩ := HX.out W2 hw
                  go_simp
                  exact hK _ _ rfl (Below.refl _ _)
                · intro W2 hw K hK
                  obtain ⟨d0, d1, b0, b1⟩ := HX.out W2 hw
                  go_simp
                  exact hK _ _ rfl (Below.refl _ _)
                · intro W2 hw K hK
                  obtain ⟨d0, d1, b0, b1⟩ := HX.out W2 hw
                  go_simp
                  exact hK _ _ rfl (Below.refl _ _)
                · intro W2 hw K hK
                  obtain ⟨d0, d1, b0, b1⟩ := HX.out W2 hw
                  go_simp
                  exact hK _ _ rfl (Below.refl _ _)
                · intro W2 hw K hK
                  obtain ⟨d0, d1, b0, b1⟩ := HX.out W2 hw
                  go_simp
                  exact hK _ _ rfl (Below.refl _ _)
                · intro W2 hw K hK
                  obtain ⟨d0, d1, b0, b1⟩ := HX.out W2 hw
                  go_simp
                  exact hK _ _ rfl (Below.refl _ _)
                · intro W2 hw K hK
                  obtain ⟨d0, d1, b0, b1⟩ := HX.out W2 hw
                  go_simp
                  exact hK _ _ rfl (Below.refl _ _)
                · intro W2 hw K hK
                  obtain ⟨d0, d1, b0, b1⟩ := HX.out W2 hw
                  go_simp
                  exact hK _ _ rfl (Below.refl _ _)
                · intro W2 hw K hK
                  obtain ⟨d0, d1, b0, b1⟩ := HX.out W2 hw
                  go_simp
                  exact hK _ _ rfl (Below.refl _ _)
                · intro W2 hw K hK
                  obtain ⟨d0, d1, b0, b1⟩ := HX.out W2 hw
                  go_simp
                  exact hK _ _ rfl (Below.refl _ _)
                · intro W2 hw K hK
                  obtain ⟨d0, d1, b0, b1⟩ := HX.out W2 hw
                  go_simp
                  exact hK _ _ rfl (Below.refl _ _)
                · intro W2 hw K hK
                  obtain ⟨d0, d1, b0, b1⟩ := HX.out W2 hw
                  go_simp
                  exact hK _ _ rfl (Below.refl _ _)
                · intro W2 hw K hK
                  obtain ⟨d0, d1, b0, b1⟩ := HX.out W2 hw
                  go_simp
                  exact hK _ _ rfl (Below.refl _ _)
                · intro W2 hw K hK
                  obtain ⟨d0, d1, b0, b1⟩ := HX.out W2 hw
                  go_simp
                  exact hK _ _ rfl (Below.refl _ _)
                · intro W2 hw K hK
                  obtain ⟨d0, d1, b0, b1⟩ := HX.out W2 hw
                  go_simp
                  exact hK _ _ rfl (Below.refl _ _)
                · intro W2 hw K hK
                  obtain ⟨d0, d1, b0, b1⟩ := HX.out W2 hw
                  go_simp
                  exact hK _ _ rfl (Below.refl _ _)
                · intro W2 hw K hK
                  obtain ⟨d0, d1, b0, b1⟩ := HX.out W2 hw
                  go_simp
                  exact hK _ _ rfl (Below.refl _ _)
                · intro W2 hw K hK
                  obtain ⟨d0, d1, b0, b1⟩ := HX.out W2 hw
                  go_simp
                  exact hK _ _ rfl (Below.refl _ _)
                · intro W2 hw K hK
                  obtain ⟨d0, d1, b0, b1⟩ := HX.out W2 hw
                  go_simp
                  exact hK _ _ rfl (Below.refl _ _)
                · intro W2 hw K hK
                  have hcc := HC.out W2
                  go_simp
                  refine Calls.mono hcc ?_
                  rintro e9 w5 ⟨rfl, hb5⟩
                  exact hK _ _ rfl hb5
                · intro W2 hw K hK
                  obtain ⟨d0, d1, b0, b1⟩ := HX.out W2 hw
                  go_simp
                  exact hK _ _ rfl (Below.refl _ _)
                · intro W2 hw K hK
                  obtain ⟨d0, d1, b0, b1⟩ := HX.out W2 hw
                  go_simp
                  exact hK _ _ rfl (Below.refl _ _)
              · intro W2 hw2
                simp only [Behind]
                have hw3 : Below wr.heap.size wr W2 := (Below.refl _ _).drew.trans hw2
                have HWX := Lib.hid (HBR.out.trans (hw3.mono HBR.out.size))
                clear hw2 hw3
                simp only [List.drop, Act.put, List.setIfInBounds_toArray, List.set_cons_zero, List.set_cons_succ]
                go_wp2_with fail
                refine NoPanic.normal ?_
                go_wp2_with fail
                go_roundw
                case rel => exact ⟨q + 1, by go_num, by omega, HR.out, HWX.out⟩
                case measure => simp [intOf]; omega
          · have hg0 : decide ((q : Int) > 0) = false := by rw [decide_eq_false_iff_not]; omega
            have hg1 : decide ((0 : Int) < q) = false := by rw [decide_eq_false_iff_not]; omega
            have HR := Lib.hid (HS.out (by first | rfl | trivial) (fun h => absurd h h0))
            clear HP HS HF
            go_wp2_with fail
            refine wp_region_noPanic ?_
            refine wp_region_abs 30 41 [.is (.slice (some ⟨b, off, none⟩) n c), .is (.int .i64 (q : Int)), .is (.pointer (some ⟨b, off + q * 2, none⟩)), .is (.pointer (some ⟨b, off + q * 2, none⟩)), .is (.int .i64 k.t), .is (.bool false), .is (.bool false), .is (.slice (some ⟨b, off, none⟩) n c), .is (.int .i64 (q : Int)), .is (.pointer (some ⟨b, off + q * 2, none⟩)), .is (.pointer (some ⟨b, off + q * 2, none⟩)), .is (.int .i64 k.t), .is (.bool false), .is (.bool false), .is (.bool false), .is (.int .i64 (q : Int)), .is (.bool false), .is (.bool false), .is undef, .is undef, .is undef, .is undef, .is undef, .is undef, .is undef, .is undef, .is undef, .is undef, .is undef, .is (.bool false)]
              [10, 11, 12, 13, 14, 15, 16, 17, 18, 19, 20, 21, 22, 23, 24, 25, 26, 27, 28, 29, 30, 31, 32, 33, 34, 35, 36, 37, 38, 39]
              [[], [], [0, 1], [2], [3], [4], [5], [6], [6], [7, 8, 6], [9, 6], [10, 6], [11, 6], [6, 12], [13, 6], [14], [15, 14], [16, 14], [17], [17], [19, 17], [18, 20, 17], [21, 17], [17], [17], [23, 24, 17], [25, 17], [22, 26, 17], [27, 17], [17, 28, 14]] (by kernel_rfl) (by rfl) rfl rfl (by kernel_rfl) (fun _ _ _ _ h => h.elim) ?_ ?_
            · refine ⟨?_, ?_, ?_, ?_, ?_, ?_, ?_, ?_, ?_, ?_, ?_, ?_, ?_, ?_, ?_, ?_, ?_, ?_, ?_, ?_, ?_, ?_, ?_, ?_, ?_, ?_, ?_, ?_, ?_, ?_, trivial⟩
              · intro W2 hw K hK
                obtain ⟨b0, b1⟩ := HX0.out W2 hw
                go_simp
                exact hK _ _ rfl (Below.refl _ _)
              · intro W2 hw K hK
                obtain ⟨b0, b1⟩ := HX0.out W2 hw
                go_simp
                exact hK _ _ rfl (Below.refl _ _)
              · intro W2 hw K hK
                obtain ⟨b0, b1⟩ := HX0.out W2 hw
                go_simp
                exact hK _ _ rfl (Below.refl _ _)
              · intro W2 hw K hK
                obtain ⟨b0, b1⟩ := HX0.out W2 hw
                go_simp
                exact hK _ _ rfl (Below.refl _ _)
              · intro W2 hw K hK
                obtain ⟨b0, b1⟩ := HX0.out W2 hw
                go_simp
                exact hK _ _ rfl (Below.refl _ _)
              · intro W2 hw K hK
                obtain ⟨b0, b1⟩ := HX0.out W2 hw
                go_simp
                exact hK _ _ rfl (Below.refl _ _)
              · intro W2 hw K hK
                obtain ⟨b0, b1⟩ := HX0.out W2 hw
                go_simp
                exact hK _ _ rfl (Below.refl _ _)
              · intro W2 hw K hK
                obtain ⟨b0, b1⟩ := HX0.out W2 hw
                go_simp
                exact hK _ _ rfl (Below.refl _ _)
              · intro W2 hw K hK
                obtain ⟨b0, b1⟩ := HX0.out W2 hw
                go_simp
                exact hK _ _ rfl (Below.refl _ _)
              · intro W2 hw K hK
                obtain ⟨b0, b1⟩ := HX0.out W2 hw
                go_simp
                exact hK _ _ rfl (Below.refl _ _)
              · intro W2 hw K hK
                obtain ⟨b0, b1⟩ := HX0.out W2 hw
                go_simp
                exact hK _ _ rfl (Below.refl _ _)
              · intro W2 hw K hK
                obtain ⟨b0, b1⟩ := HX0.out W2 hw
                go_simp
                exact hK _ _ rfl (Below.refl _ _)
              · intro W2 hw K hK
                obtain ⟨b0, b1⟩ := HX0.out W2 hw
                go_simp
                exact hK _ _ rfl (Below.refl _ _)
              · intro W2 hw K hK
                obtain ⟨b0, b1⟩ := HX0.out W2 hw
                go_simp
                exact hK _ _ rfl (Below.refl _ _)
              · intro W2 hw K hK
                obtain ⟨b0, b1⟩ := HX0.out W2 hw
                go_simp
                exact hK _ _ rfl (Below.refl _ _)
              · intro W2 hw K hK
                obtain ⟨b0, b1⟩ := HX0.out W2 hw
                go_simp
                exact hK _ _ rfl (Below.refl _ _)
              · intro W2 hw K hK
                obtain ⟨b0, b1⟩ := HX0.out W2 hw
                go_simp
                exact hK _ _ rfl (Below.refl _ _)
              · intro W2 hw K hK
                obtain ⟨b0, b1⟩ := HX0.out W2 hw
                go_simp
                exact hK _ _ rfl (Below.refl _ _)
              · intro W2 hw K hK
                go_simp
                exact hK _ _ rfl (Below.refl _ _)
              · intro W2 hw K hK
                go_simp
                exact hK _ _ rfl (Below.refl _ _)
              · intro W2 hw K hK
                go_simp
                exact hK _ _ rfl (Below.refl _ _)
              · intro W2 hw K hK
                go_simp
                exact hK _ _ rfl (Below.refl _ _)
              · intro W2 hw K hK
                go_simp
                exact hK _ _ rfl (Below.refl _ _)
              · intro W2 hw K hK
                go_simp
                exact hK _ _ rfl (Below.refl _ _)
              · intro W2 hw K hK
                go_simp
                exact hK _ _ rfl (Below.refl _ _)
              · intro W2 hw K hK
                go_simp
                exact hK _ _ rfl (Below.refl _ _)
              · intro W2 hw K hK
                go_simp
                exact hK _ _ rfl (Below.refl _ _)
              · intro W2 hw K hK
                go_simp
                exact hK _ _ rfl (Below.refl _ _)
              · intro W2 hw K hK
                go_simp
                exact hK _ _ rfl (Below.refl _ _)
              · intro W2 hw K hK
                obtain ⟨b0, b1⟩ := HX0.out W2 hw
                go_simp
                exact hK _ _ rfl (Below.refl _ _)
            · intro W2 hw2
              simp only [Behind]
              have hw3 : Below wr.heap.size wr W2 := (Below.refl _ _).drew.trans hw2
              have HWX := Lib.hid (HBR.out.trans (hw3.mono HBR.out.size))
              clear hw2 hw3
              simp only [List.drop, Act.put, List.setIfInBounds_toArray, List.set_cons_zero, List.set_cons_succ]
              go_wp2_with fail
              refine NoPanic.normal ?_
              go_wp2_with fail
              go_roundw
              case rel => exact ⟨q + 1, by go_num, by omega, HR.out, HWX.out⟩
              case measure => simp [intOf]; omega
    · obtain rfl : n = q := by omega
      have HR := Lib.hid (kg_true (l := l) (by rw [HL.out]; exact hno.out))
      clear hbr
      go_wp2_with fail
      go_ret
      exact ⟨by rw [HR.out]; rfl, HBR.out⟩
end Go.Proofs.Ytmicheheibkmjaa
