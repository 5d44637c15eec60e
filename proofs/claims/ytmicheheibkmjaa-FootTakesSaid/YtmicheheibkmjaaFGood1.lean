/- foot.Good: keys in order, spans in order. -/
import Derived.Test.YtmicheheibkmjaaFSortK
import Derived.Test.YtmicheheibkmjaaFApart
import Derived.Test.YtmicheheibkmjaaGFeet
import Derived.Test.YtmicheheibkmjaaReg
namespace Go.Proofs.Ytmicheheibkmjaa
set_option maxRecDepth 100000
open Go.RowKit

def tabB (t : Int) : Bool := decide (0 ≤ t) && decide (t < 4)
theorem istable_any (t : Int) (w : World) : Calls Try.prog 43 #[.int .i64 t] w fun e w' => e = .returned (.bool (tabB t)) ∧ w = w' := by
  by_cases h0 : 0 ≤ t
  · have HE := Lib.hid (show tabB t = decide (t < 4) by simp [tabB, h0])
    go_enter Try.func43, Try.ntmps43
    go_wp2_with fail
    go_ret
    exact ⟨by rw [HE.out]; rfl, rfl⟩
  · have HE := Lib.hid (show tabB t = false by simp [tabB, h0])
    go_enter Try.func43, Try.ntmps43
    go_wp2_with fail
    go_ret
    exact ⟨by rw [HE.out]; rfl, rfl⟩
theorem lessK_lt (x y : K) : decide (compK x y < 0) = lessK x y := by
  rw [Bool.eq_iff_iff, lessK_iff, ← ltOf_key]
  rfl
set_option maxHeartbeats 1000000 in
theorem less_any (x y : K) (w : World) : Calls Try.prog 22 #[x.val, y.val] w fun e w' => e = .returned (.bool (lessK x y)) ∧ Below w.heap.size w w' := by
  obtain ⟨h1, h2, h3⟩ := alloc2g w (.cells #[.int .i64 x.t, .int .i64 x.k] 24) (.cells #[.int .i64 y.t, .int .i64 y.k] 24)
  have HB := Lib.hid h3
  have HX := Lib.hid (show KBox _ w.heap.size x from h1)
  have HY := Lib.hid (show KBox _ (w.heap.size + 1) y from h2)
  unfold K.val
  clear h1 h2 h3
  go_enter Try.func22, Try.ntmps22
  go_upto_region 1 with fail
  revert HB HX HY
  generalize World.alloc (World.alloc w _) _ = W
  intro HB HX HY
  have C := compare_any x y W
  unfold K.val at C
  have HE := Lib.hid (lessK_lt x y)
  obtain ⟨r, hr⟩ : ∃ r, r = compK x y := ⟨_, rfl⟩
  rw [← hr] at C HE
  have HC := Lib.hid C
  have x0 := HX.out.c0
  have x1 := HX.out.c1
  have y0 := HY.out.c0
  have y1 := HY.out.c1
  clear C hr
  go_wp2_with fail
  refine Calls.mono HC.out ?_
  rintro e w1 ⟨rfl, hb1, _⟩
  have HB1 := Lib.hid (HB.out.trans (hb1.mono HB.out.size))
  clear hb1 x0 x1 y0 y1
  go_wp2_with fail
  go_ret
  exact ⟨by rw [← HE.out]; rfl, HB1.out⟩
/-- The first keys are of tables that are, and rise. -/
def kg (l : List K) (q : Nat) : Prop := ∀ j (hj : j < l.length), j < q → tabB l[j].t = true ∧ (0 < j → lessK l[j - 1] l[j] = true)
noncomputable def kgB (l : List K) : Bool := @decide (kg l l.length) (Classical.propDecidable _)
theorem kg_true {l : List K} (h : kg l l.length) : kgB l = true := by unfold kgB; exact @decide_eq_true _ (Classical.propDecidable _) h
theorem kg_false {l : List K} (h : ¬ kg l l.length) : kgB l = false := by unfold kgB; exact @decide_eq_false _ (Classical.propDecidable _) h
theorem kg_succ {l : List K} {q : Nat} (hq : q < l.length) (h : kg l q) (ht : tabB l[q].t = true) (hl : 0 < q → lessK l[q - 1] l[q] = true) : kg l (q + 1) := by
  intro j hj hj2
  by_cases e : j = q
  · subst e; exact ⟨ht, hl⟩
  · exact h j hj (by omega)
theorem kbox {wr w2 : World} {k : K} (hb : Below (wr.alloc (.cells #[.int .i64 k.t, .int .i64 k.k] 24)).heap.size (wr.alloc (.cells #[.int .i64 k.t, .int .i64 k.k] 24)) w2) :
    w2.cell? ⟨wr.heap.size, 0, none⟩ = some (.int .i64 k.t) ∧ w2.cell? ⟨wr.heap.size, 1, none⟩ = some (.int .i64 k.k) := by
  have hg := (hb.block wr.heap.size (by rw [World.size_alloc]; omega)).trans (heap_alloc_new wr _)
  exact ⟨(cell_of_row w2 _ 0 _ 24 (0, 0) hg).trans rfl, (cell_of_row w2 _ 1 _ 24 (0, 0) hg).trans rfl⟩
theorem wrap_pred {q : Nat} (h0 : 0 < q) (h1 : q ≤ 9223372036854775807) : IntKind.i64.wrap ((q : Int) - 1) = (q : Int) - 1 := by
  simp [IntKind.wrap, IntKind.bits, IntKind.signed]
  omega
set_option maxHeartbeats 4000000 in
theorem keysgood_any (A : Option Addr) (n c : Nat) (l : List K) (w : World) (h : Keys w A n l) (hn : n ≤ 9223372036854775807) : Calls Try.prog 42 #[.slice A n c] w fun e w' => e = .returned (.bool (kgB l)) ∧ Below w.heap.size w w' := by
  have HH := Lib.hid h
  have HL := Lib.hid h.len
  clear h
  go_enter Try.func42, Try.ntmps42
  go_wp2_with fail
  go_loopw [3, 4, 7] (fun _ _ i wr => ∃ q : Nat, i = .int .i64 (q : Int) ∧ q ≤ n ∧ Hid (kg l q) ∧ Below w.heap.size w wr) (fun _ _ i _ => n - (intOf i).toNat)
  case atStart => exact ⟨0, rfl, by omega, fun j _ h => by omega, Below.refl _ _⟩
  case round =>
    obtain ⟨q, rfl, hq, hno, hbr⟩ := hrel
    have HBR := Lib.hid hbr
    by_cases hlt : q < n
    · have hql : q < l.length := by rw [HL.out]; exact hlt
      obtain ⟨b, off, rfl, hc⟩ := Keys.cells (HH.out.below hbr) (by omega)
      obtain ⟨c0, c1⟩ := hc q hql
      have HUW := Lib.hid (show Below wr.heap.size wr (wr.alloc (.cells #[.int .i64 l[q].t, .int .i64 l[q].k] 24)) from (Below.refl wr.heap.size wr).alloc (Nat.le_refl _) _)
      have HF := Lib.hid (show ¬ (tabB l[q].t = true ∧ (0 < q → lessK l[q - 1] l[q] = true)) → kgB l = false from fun hh => kg_false fun hk => hh (hk q hql (by have := HL.out; omega)))
      have HS := Lib.hid (fun h1 h2 => kg_succ hql hno.out h1 h2)
      have HP := Lib.hid (show 0 < q → ∃ p : K, p = l[q - 1] ∧ wr.cell? ⟨b, off + (q - 1) * 2, none⟩ = some (.int .i64 p.t) ∧ wr.cell? ⟨b, off + (q - 1) * 2 + 1, none⟩ = some (.int .i64 p.k) from fun h0 => by
        obtain ⟨d0, d1⟩ := hc (q - 1) (by omega)
        exact ⟨_, rfl, d0, d1⟩)
      obtain ⟨k, hk⟩ : ∃ k, k = l[q] := ⟨_, rfl⟩
      rw [← hk] at c0 c1 HUW HF HS
      have HT := Lib.hid (istable_any k.t)
      obtain ⟨tb, htb⟩ : ∃ tb, tb = tabB k.t := ⟨_, rfl⟩
      rw [← htb] at HT HF HS
      clear hc hk htb hbr
      cases tb with
      | false =>
        have HR := Lib.hid (HF.out (by simp))
        clear HP HS HF
        go_wp2_with fail
        refine wp_region_noPanic ?_
        refine wp_region_abs 17 31 [.is (.pointer (some ⟨wr.heap.size, 0, none⟩)), .is (.int .i64 k.t), .is (.bool false), .is (.bool true), .is (.bool true), .is undef, .is undef, .is undef, .is undef, .is undef, .is undef, .is undef, .is undef, .is undef, .is undef, .is undef, .is undef]
          [12, 13, 14, 15, 16, 17, 18, 19, 20, 21, 22, 23, 24, 25, 26, 27, 28]
          [[], [0], [1], [2], [3, 2], [4], [5, 4], [6, 4], [7], [7], [9, 7], [8, 10, 7], [11, 7], [7], [12, 13, 7], [14, 7], [7, 15, 4]] (by kernel_rfl) (by rfl) rfl rfl (by kernel_rfl) (fun _ _ _ _ h => h.elim) ?_ ?_
        · refine ⟨?_, ?_, ?_, ?_, ?_, ?_, ?_, ?_, ?_, ?_, ?_, ?_, ?_, ?_, ?_, ?_, ?_, trivial⟩
          · intro W2 hw K hK
            obtain ⟨b0, b1⟩ := kbox ((Below.refl _ _).drew.trans hw)
            go_simp
            exact hK _ _ rfl (Below.refl _ _)
          · intro W2 hw K hK
            obtain ⟨b0, b1⟩ := kbox ((Below.refl _ _).drew.trans hw)
            go_simp
            exact hK _ _ rfl (Below.refl _ _)
          · intro W2 hw K hK
            have hcc := HT.out W2
            go_simp
            refine Calls.mono hcc ?_
            rintro e9 w5 ⟨rfl, rfl⟩
            exact hK _ _ rfl (Below.refl _ _)
          · intro W2 hw K hK
            obtain ⟨b0, b1⟩ := kbox ((Below.refl _ _).drew.trans hw)
            go_simp
            exact hK _ _ rfl (Below.refl _ _)
          · intro W2 hw K hK
            obtain ⟨b0, b1⟩ := kbox ((Below.refl _ _).drew.trans hw)
            go_simp
            exact hK _ _ rfl (Below.refl _ _)
          · intro W2 hw K hK
            go_simp
            exact hK _ _ rfl (Below.refl _ _)
          · intro W2 hw K hK
            go_simp
            exact hK _ _ rfl (Below.refl _ _)
          · intro W2 hw K hK
            go_simp
            exact hK _ _ rfl (Below.refl _ _)
          · intro W2 hw K hK
            go_simp
            exact hK _ _ rfl (Below.refl _ _)
          · intro W2 hw K hK
            go_simp
            exact hK _ _ rfl (Below.refl _ _)
          · intro W2 hw K hK
            go_simp
            exact hK _ _ rfl (Below.refl _ _)
          · intro W2 hw K hK
            go_simp
            exact hK _ _ rfl (Below.refl _ _)
          · intro W2 hw K hK
            go_simp
            exact hK _ _ rfl (Below.refl _ _)
          · intro W2 hw K hK
            go_simp
            exact hK _ _ rfl (Below.refl _ _)
          · intro W2 hw K hK
            go_simp
            exact hK _ _ rfl (Below.refl _ _)
          · intro W2 hw K hK
            go_simp
            exact hK _ _ rfl (Below.refl _ _)
          · intro W2 hw K hK
            go_simp
            exact hK _ _ rfl (Below.refl _ _)
        · intro W2 hw2
          simp only [Behind]
          have hw3 : Below (wr.alloc (.cells #[.int .i64 k.t, .int .i64 k.k] 24)).heap.size (wr.alloc (.cells #[.int .i64 k.t, .int .i64 k.k] 24)) W2 := (Below.refl _ _).drew.trans hw2
          have HWX := Lib.hid (HBR.out.trans ((HUW.out.trans (hw3.mono HUW.out.size)).mono HBR.out.size))
          clear hw2 hw3
          simp only [List.drop, Act.put, List.setIfInBounds_toArray, List.set_cons_zero, List.set_cons_succ]
          go_wp2_with fail
          refine NoPanic.normal ?_
          go_wp2_with fail
          go_ret
          exact ⟨by rw [HR.out]; rfl, HWX.out⟩
      | true =>
        by_cases h0 : 0 < q
        · obtain ⟨p, hp, d0, d1⟩ := HP.out h0
          have HX := Lib.hid (show ∀ W2, Below (wr.alloc (.cells #[.int .i64 k.t, .int .i64 k.k] 24)).drew.heap.size (wr.alloc (.cells #[.int .i64 k.t, .int .i64 k.k] 24)).drew W2 → W2.cell? ⟨b, off + (q - 1) * 2, none⟩ = some (.int .i64 p.t) ∧ W2.cell? ⟨b, off + (q - 1) * 2 + 1, none⟩ = some (.int .i64 p.k) ∧ W2.cell? ⟨wr.heap.size, 0, none⟩ = some (.int .i64 k.t) ∧ W2.cell? ⟨wr.heap.size, 1, none⟩ = some (.int .i64 k.k) from fun W2 hw => by
            have hw3 : Below (wr.alloc (.cells #[.int .i64 k.t, .int .i64 k.k] 24)).heap.size (wr.alloc (.cells #[.int .i64 k.t, .int .i64 k.k] 24)) W2 := (Below.refl _ _).drew.trans hw
            have hw4 := HUW.out.trans (hw3.mono HUW.out.size)
            exact ⟨(stays_w hw4 _ (World.block_lt_of_cell? _ _ d0)).trans d0, (stays_w hw4 _ (World.block_lt_of_cell? _ _ d1)).trans d1, kbox hw3⟩)
          rw [← hp] at HF HS
          have C := less_any p k
          unfold K.val at C
          obtain ⟨r, hr⟩ : ∃ r, r = lessK p k := ⟨_, rfl⟩
          rw [← hr] at C HF HS
          have HC := Lib.hid C
          have hg0 : decide ((q : Int) > 0) = true := by rw [decide_eq_true_iff]; omega
          have hg1 : decide ((0 : Int) < q) = true := by rw [decide_eq_true_iff]; omega
          have hqn : (q : Int) - 1 < n := by omega
          have hwq : IntKind.i64.wrap ((q : Int) - 1) = (q : Int) - 1 := wrap_pred h0 (by omega)
          have hq1 : (0 : Int) ≤ (q : Int) - 1 := by omega
          have hq2 : ¬ ((q : Int) - 1 < 0) := by omega
          have hq3 : ((q : Int) - 1).toNat = q - 1 := by omega
          have hq4 : (q : Int) ≤ n := by omega
          have hq5 : (1 : Int) ≤ (q : Int) := by omega
          clear C hr hp HP d0 d1
          cases r with
          | false =>
            have HR := Lib.hid (HF.out (by simp [h0]))
            clear HF HS
            go_wp2_with fail
            refine wp_region_noPanic ?_
            refine wp_region_abs 17 31 [.is (.pointer (some ⟨wr.heap.size, 0, none⟩)), .is (.int .i64 k.t), .is (.bool true), .is (.bool false), .is (.bool false), .is (.int .i64 (q : Int)), .is (.bool true), .is (.bool true), .is (.slice (some ⟨b, off, none⟩) n c), .is (.int .i64 (q : Int)), .is (.int .i64 ((q : Int) - 1)), .is (.pointer (some ⟨b, off + (q - 1) * 2, none⟩)), .is (.agg #[.int .i64 p.t, .int .i64 p.k]), .is (.agg #[.int .i64 k.t, .int .i64 k.k]), .is (.bool false), .is (.bool true), .is (.bool true)]
              [12, 13, 14, 15, 16, 17, 18, 19, 20, 21, 22, 23, 24, 25, 26, 27, 28]
              [[], [0], [1], [2], [3, 2], [4], [5, 4], [6, 4], [7], [7], [9, 7], [8, 10, 7], [11, 7], [7], [12, 13, 7], [14, 7], [7, 15, 4]] (by kernel_rfl) (by rfl) rfl rfl (by kernel_rfl) (fun _ _ _ _ h => h.elim) ?_ ?_
            · refine ⟨?_, ?_, ?_, ?_, ?_, ?_, ?_, ?_, ?_, ?_, ?_, ?_, ?_, ?_, ?_, ?_, ?_, trivial⟩
              · intro W2 hw K hK
                obtain ⟨d0, d1, b0, b1⟩ := HX.out W2 hw
                go_simp
                exact hK _ _ rfl (Below.refl _ _)
              · intro W2 hw K hK
                obtain ⟨d0, d1, b0, b1⟩ := HX.out W2 hw
                go_simp
                exact hK _ _ rfl (Below.refl _ _)
              · intro W2 hw K hK
                have hcc := HT.out W2
                go_simp
                refine Calls.mono hcc ?_
                rintro e9 w5 ⟨rfl, rfl⟩
                exact hK _ _ rfl (Below.refl _ _)
              · intro W2 hw K hK
                obtain ⟨d0, d1, b0, b1⟩ := HX.out W2 hw
                go_simp
                exact hK _ _ rfl (Below.refl _ _)
              · intro W2 hw K hK
                obtain ⟨d0, d1, b0, b1⟩ := HX.out W2 hw
                go_simp
                exact hK _ _ rfl (Below.refl _ _)
              · intro W2 hw K hK
                obtain ⟨d0, d1, b0, b1⟩ := HX.out W2 hw
                go_simp
                exact hK _ _ rfl (Below.refl _ _)
              · intro W2 hw K hK
                obtain ⟨d0, d1, b0, b1⟩ := HX.out W2 hw
                go_simp
                exact hK _ _ rfl (Below.refl _ _)
              · intro W2 hw K hK
                obtain ⟨d0, d1, b0, b1⟩ := HX.out W2 hw
                go_simp
                exact hK _ _ rfl (Below.refl _ _)
              · intro W2 hw K hK
                obtain ⟨d0, d1, b0, b1⟩ := HX.out W2 hw
                go_simp
                exact hK _ _ rfl (Below.refl _ _)
              · intro W2 hw K hK
                obtain ⟨d0, d1, b0, b1⟩ := HX.out W2 hw
                go_simp
                exact hK _ _ rfl (Below.refl _ _)
              · intro W2 hw K hK
                obtain ⟨d0, d1, b0, b1⟩ := HX.out W2 hw
                go_simp
                exact hK _ _ rfl (Below.refl _ _)
              · intro W2 hw K hK
                obtain ⟨d0, d1, b0, b1⟩ := HX.out W2 hw
                go_simp
                exact hK _ _ rfl (Below.refl _ _)
              · intro W2 hw K hK
                obtain ⟨d0, d1, b0, b1⟩ := HX.out W2 hw
                go_simp
                exact hK _ _ rfl (Below.refl _ _)
              · intro W2 hw K hK
                obtain ⟨d0, d1, b0, b1⟩ := HX.out W2 hw
                go_simp
                exact hK _ _ rfl (Below.refl _ _)
              · intro W2 hw K hK
                have hcc := HC.out W2
                go_simp
                refine Calls.mono hcc ?_
                rintro e9 w5 ⟨rfl, hb5⟩
                exact hK _ _ rfl hb5
              · intro W2 hw K hK
                obtain ⟨d0, d1, b0, b1⟩ := HX.out W2 hw
                go_simp
                exact hK _ _ rfl (Below.refl _ _)
              · intro W2 hw K hK
                obtain ⟨d0, d1, b0, b1⟩ := HX.out W2 hw
                go_simp
                exact hK _ _ rfl (Below.refl _ _)
            · intro W2 hw2
              simp only [Behind]
              have hw3 : Below (wr.alloc (.cells #[.int .i64 k.t, .int .i64 k.k] 24)).heap.size (wr.alloc (.cells #[.int .i64 k.t, .int .i64 k.k] 24)) W2 := (Below.refl _ _).drew.trans hw2
              have HWX := Lib.hid (HBR.out.trans ((HUW.out.trans (hw3.mono HUW.out.size)).mono HBR.out.size))
              clear hw2 hw3
              simp only [List.drop, Act.put, List.setIfInBounds_toArray, List.set_cons_zero, List.set_cons_succ]
              go_wp2_with fail
              refine NoPanic.normal ?_
              go_wp2_with fail
              go_ret
              exact ⟨by rw [HR.out]; rfl, HWX.out⟩
          | true =>
            have HR := Lib.hid (HS.out (by first | rfl | trivial) (fun _ => by first | rfl | trivial))
            clear HF HS
            go_wp2_with fail
            refine wp_region_noPanic ?_
            refine wp_region_abs 17 31 [.is (.pointer (some ⟨wr.heap.size, 0, none⟩)), .is (.int .i64 k.t), .is (.bool true), .is (.bool false), .is (.bool false), .is (.int .i64 (q : Int)), .is (.bool true), .is (.bool true), .is (.slice (some ⟨b, off, none⟩) n c), .is (.int .i64 (q : Int)), .is (.int .i64 ((q : Int) - 1)), .is (.pointer (some ⟨b, off + (q - 1) * 2, none⟩)), .is (.agg #[.int .i64 p.t, .int .i64 p.k]), .is (.agg #[.int .i64 k.t, .int .i64 k.k]), .is (.bool true), .is (.bool false), .is (.bool false)]
              [12, 13, 14, 15, 16, 17, 18, 19, 20, 21, 22, 23, 24, 25, 26, 27, 28]
              [[], [0], [1], [2], [3, 2], [4], [5, 4], [6, 4], [7], [7], [9, 7], [8, 10, 7], [11, 7], [7], [12, 13, 7], [14, 7], [7, 15, 4]] (by kernel_rfl) (by rfl) rfl rfl (by kernel_rfl) (fun _ _ _ _ h => h.elim) ?_ ?_
            · refine ⟨?_, ?_, ?_, ?_, ?_, ?_, ?_, ?_, ?_, ?_, ?_, ?_, ?_, ?_, ?_, ?_, ?_, trivial⟩
              · intro W2 hw K hK
                obtain ⟨d0, d1, b0, b1⟩ := HX.out W2 hw
                go_simp
                exact hK _ _ rfl (Below.refl _ _)
              · intro W2 hw K hK
                obtain ⟨d0, d1, b0, b1⟩ := HX.out W2 hw
                go_simp
                exact hK _ _ rfl (Below.refl _ _)
              · intro W2 hw K hK
                have hcc := HT.out W2
                go_simp
                refine Calls.mono hcc ?_
                rintro e9 w5 ⟨rfl, rfl⟩
                exact hK _ _ rfl (Below.refl _ _)
              · intro W2 hw K hK
                obtain ⟨d0, d1, b0, b1⟩ := HX.out W2 hw
                go_simp
                exact hK _ _ rfl (Below.refl _ _)
              · intro W2 hw K hK
                obtain ⟨d0, d1, b0, b1⟩ := HX.out W2 hw
                go_simp
                exact hK _ _ rfl (Below.refl _ _)
              · intro W2 hw K hK
                obtain ⟨d0, d1, b0, b1⟩ := HX.out W2 hw
                go_simp
                exact hK _ _ rfl (Below.refl _ _)
              · intro W2 hw K hK
                obtain ⟨d0, d1, b0, b1⟩ := HX.out W2 hw
                go_simp
                exact hK _ _ rfl (Below.refl _ _)
              · intro W2 hw K hK
                obtain ⟨d0, d1, b0, b1⟩ := HX.out W2 hw
                go_simp
                exact hK _ _ rfl (Below.refl _ _)
              · intro W2 hw K hK
                obtain ⟨d0, d1, b0, b1⟩ := HX.out W2 hw
                go_simp
                exact hK _ _ rfl (Below.refl _ _)
              · intro W2 hw K hK
                obtain ⟨d0, d1, b0, b1⟩ := HX.out W2 hw
                go_simp
                exact hK _ _ rfl (Below.refl _ _)
              · intro W2 hw K hK
                obtain ⟨d0, d1, b0, b1⟩ := HX.out W2 hw
                go_simp
                exact hK _ _ rfl (Below.refl _ _)
              · intro W2 hw K hK
                obtain ⟨d0, d1, b0, b1⟩ := HX.out W2 hw
                go_simp
                exact hK _ _ rfl (Below.refl _ _)
              · intro W2 hw K hK
                obtain ⟨d0, d1, b0, b1⟩ := HX.out W2 hw
                go_simp
                exact hK _ _ rfl (Below.refl _ _)
              · intro W2 hw K hK
                obtain ⟨d0, d1, b0, b1⟩ := HX.out W2 hw
                go_simp
                exact hK _ _ rfl (Below.refl _ _)
              · intro W2 hw K hK
                have hcc := HC.out W2
                go_simp
                refine Calls.mono hcc ?_
                rintro e9 w5 ⟨rfl, hb5⟩
                exact hK _ _ rfl hb5
              · intro W2 hw K hK
                obtain ⟨d0, d1, b0, b1⟩ := HX.out W2 hw
                go_simp
                exact hK _ _ rfl (Below.refl _ _)
              · intro W2 hw K hK
                obtain ⟨d0, d1, b0, b1⟩ := HX.out W2 hw
                go_simp
                exact hK _ _ rfl (Below.refl _ _)
            · intro W2 hw2
              simp only [Behind]
              have hw3 : Below (wr.alloc (.cells #[.int .i64 k.t, .int .i64 k.k] 24)).heap.size (wr.alloc (.cells #[.int .i64 k.t, .int .i64 k.k] 24)) W2 := (Below.refl _ _).drew.trans hw2
              have HWX := Lib.hid (HBR.out.trans ((HUW.out.trans (hw3.mono HUW.out.size)).mono HBR.out.size))
              clear hw2 hw3
              simp only [List.drop, Act.put, List.setIfInBounds_toArray, List.set_cons_zero, List.set_cons_succ]
              go_wp2_with fail
              refine NoPanic.normal ?_
              go_wp2_with fail
              go_roundw
              case rel => exact ⟨q + 1, by go_num, by omega, HR.out, HWX.out⟩
              case measure => simp [intOf]; omega
        · have hg0 : decide ((q : Int) > 0) = false := by rw [decide_eq_false_iff_not]; omega
          have hg1 : decide ((0 : Int) < q) = false := by rw [decide_eq_false_iff_not]; omega
          have HR := Lib.hid (HS.out (by first | rfl | trivial) (fun h => absurd h h0))
          clear HP HS HF
          go_wp2_with fail
          refine wp_region_noPanic ?_
          refine wp_region_abs 17 31 [.is (.pointer (some ⟨wr.heap.size, 0, none⟩)), .is (.int .i64 k.t), .is (.bool true), .is (.bool false), .is (.bool false), .is (.int .i64 (q : Int)), .is (.bool false), .is (.bool false), .is undef, .is undef, .is undef, .is undef, .is undef, .is undef, .is undef, .is undef, .is (.bool false)]
            [12, 13, 14, 15, 16, 17, 18, 19, 20, 21, 22, 23, 24, 25, 26, 27, 28]
            [[], [0], [1], [2], [3, 2], [4], [5, 4], [6, 4], [7], [7], [9, 7], [8, 10, 7], [11, 7], [7], [12, 13, 7], [14, 7], [7, 15, 4]] (by kernel_rfl) (by rfl) rfl rfl (by kernel_rfl) (fun _ _ _ _ h => h.elim) ?_ ?_
          · refine ⟨?_, ?_, ?_, ?_, ?_, ?_, ?_, ?_, ?_, ?_, ?_, ?_, ?_, ?_, ?_, ?_, ?_, trivial⟩
            · intro W2 hw K hK
              obtain ⟨b0, b1⟩ := kbox ((Below.refl _ _).drew.trans hw)
              go_simp
              exact hK _ _ rfl (Below.refl _ _)
            · intro W2 hw K hK
              obtain ⟨b0, b1⟩ := kbox ((Below.refl _ _).drew.trans hw)
              go_simp
              exact hK _ _ rfl (Below.refl _ _)
            · intro W2 hw K hK
              have hcc := HT.out W2
              go_simp
              refine Calls.mono hcc ?_
              rintro e9 w5 ⟨rfl, rfl⟩
              exact hK _ _ rfl (Below.refl _ _)
            · intro W2 hw K hK
              obtain ⟨b0, b1⟩ := kbox ((Below.refl _ _).drew.trans hw)
              go_simp
              exact hK _ _ rfl (Below.refl _ _)
            · intro W2 hw K hK
              obtain ⟨b0, b1⟩ := kbox ((Below.refl _ _).drew.trans hw)
              go_simp
              exact hK _ _ rfl (Below.refl _ _)
            · intro W2 hw K hK
              obtain ⟨b0, b1⟩ := kbox ((Below.refl _ _).drew.trans hw)
              go_simp
              exact hK _ _ rfl (Below.refl _ _)
            · intro W2 hw K hK
              obtain ⟨b0, b1⟩ := kbox ((Below.refl _ _).drew.trans hw)
              go_simp
              exact hK _ _ rfl (Below.refl _ _)
            · intro W2 hw K hK
              obtain ⟨b0, b1⟩ := kbox ((Below.refl _ _).drew.trans hw)
              go_simp
              exact hK _ _ rfl (Below.refl _ _)
            · intro W2 hw K hK
              go_simp
              exact hK _ _ rfl (Below.refl _ _)
            · intro W2 hw K hK
              go_simp
              exact hK _ _ rfl (Below.refl _ _)
            · intro W2 hw K hK
              go_simp
              exact hK _ _ rfl (Below.refl _ _)
            · intro W2 hw K hK
              go_simp
              exact hK _ _ rfl (Below.refl _ _)
            · intro W2 hw K hK
              go_simp
              exact hK _ _ rfl (Below.refl _ _)
            · intro W2 hw K hK
              go_simp
              exact hK _ _ rfl (Below.refl _ _)
            · intro W2 hw K hK
              go_simp
              exact hK _ _ rfl (Below.refl _ _)
            · intro W2 hw K hK
              go_simp
              exact hK _ _ rfl (Below.refl _ _)
            · intro W2 hw K hK
              obtain ⟨b0, b1⟩ := kbox ((Below.refl _ _).drew.trans hw)
              go_simp
              exact hK _ _ rfl (Below.refl _ _)
          · intro W2 hw2
            simp only [Behind]
            have hw3 : Below (wr.alloc (.cells #[.int .i64 k.t, .int .i64 k.k] 24)).heap.size (wr.alloc (.cells #[.int .i64 k.t, .int .i64 k.k] 24)) W2 := (Below.refl _ _).drew.trans hw2
            have HWX := Lib.hid (HBR.out.trans ((HUW.out.trans (hw3.mono HUW.out.size)).mono HBR.out.size))
            clear hw2 hw3
            simp only [List.drop, Act.put, List.setIfInBounds_toArray, List.set_cons_zero, List.set_cons_succ]
            go_wp2_with fail
            refine NoPanic.normal ?_
            go_wp2_with fail
            go_roundw
            case rel => exact ⟨q + 1, by go_num, by omega, HR.out, HWX.out⟩
            case measure => simp [intOf]; omega
    · obtain rfl : n = q := by omega
      have HR := Lib.hid (kg_true (l := l) (by rw [HL.out]; exact hno.out))
      clear hbr
      go_wp2_with fail
      go_ret
      exact ⟨by rw [HR.out]; rfl, HBR.out⟩
end Go.Proofs.Ytmicheheibkmjaa
