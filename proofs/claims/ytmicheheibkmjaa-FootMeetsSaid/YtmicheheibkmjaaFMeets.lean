/- FootMeets: the law, walked. -/
import Derived.Test.YtmicheheibkmjaaFAlive
import Derived.Test.YtmicheheibkmjaaFLarge
import Derived.Test.YtmicheheibkmjaaFRefG
import Derived.Test.YtmicheheibkmjaaGRefM
import Derived.Deep.RegionLaw
namespace Go.Proofs.Ytmicheheibkmjaa
set_option maxRecDepth 100000
open Go.RowKit Go.Shelf

theorem meet_symm (a b : Ft) : meetB b a = meetB a b := by unfold meetB; exact Bool.or_comm _ _
theorem alloc3g (w : World) (x y z : Obj) : (((w.alloc x).alloc y).alloc z).heap[w.heap.size]? = some x ∧ (((w.alloc x).alloc y).alloc z).heap[w.heap.size + 1]? = some y ∧ (((w.alloc x).alloc y).alloc z).heap[w.heap.size + 2]? = some z ∧ Below w.heap.size w (((w.alloc x).alloc y).alloc z) := by
  obtain ⟨h1, h2, h3⟩ := alloc2g w x y
  have hz := heap_alloc_new ((w.alloc x).alloc y) z
  rw [World.size_alloc, World.size_alloc] at hz
  exact ⟨(heap_alloc_old ((w.alloc x).alloc y) z (by simp; omega)).trans h1, (heap_alloc_old ((w.alloc x).alloc y) z (by simp)).trans h2, hz, h3.alloc h3.size _⟩
theorem FBox.cs3 {w : World} {b : Nat} {x : FV} (h : FBox w b x) : w.cell? ⟨b, 0, none⟩ = some (.slice x.A x.n x.c) ∧ w.cell? ⟨b, 1, none⟩ = some (.slice x.A2 x.n2 x.c2) ∧ w.cell? ⟨b, 2, none⟩ = some (.slice x.A3 x.n3 x.c3) := ⟨h.c0, h.c1, h.c2⟩
theorem two_feet (w : World) (x y : FV) (f g : Ft) (hx : FtG w x f) (hy : FtG w y g) :
    FtsG (w.alloc (.cells #[.slice x.A x.n x.c, .slice x.A2 x.n2 x.c2, .slice x.A3 x.n3 x.c3, .slice y.A y.n y.c, .slice y.A2 y.n2 y.c2, .slice y.A3 y.n3 y.c3] 30)) (some ⟨w.heap.size, 0, none⟩) 2 [f, g] := by
  have hb : Below w.heap.size w (w.alloc (.cells #[.slice x.A x.n x.c, .slice x.A2 x.n2 x.c2, .slice x.A3 x.n3 x.c3, .slice y.A y.n y.c, .slice y.A2 y.n2 y.c2, .slice y.A3 y.n3 y.c3] 30)) := (Below.refl _ w).alloc (Nat.le_refl _) _
  have hc := fun j => cell_of_row (w.alloc (.cells #[.slice x.A x.n x.c, .slice x.A2 x.n2 x.c2, .slice x.A3 x.n3 x.c3, .slice y.A y.n y.c, .slice y.A2 y.n2 y.c2, .slice y.A3 y.n3 y.c3] 30)) w.heap.size j _ 30 (0, 0) (heap_alloc_new w _)
  refine ⟨rfl, fun _ => ⟨_, _, rfl, fun j hj => ?_⟩⟩
  rcases j with _ | _ | j
  · exact ⟨x, hx.below hb, (hc 0).trans rfl, (hc 1).trans rfl, (hc 2).trans rfl⟩
  · exact ⟨y, hy.below hb, (hc 3).trans rfl, (hc 4).trans rfl, (hc 5).trans rfl⟩
  · omega
theorem rdv_one2 (w : World) (a b : Value) (t : TypeId) : Rdv (w.alloc (.cells #[a, b] t)) (some ⟨w.heap.size, 0, none⟩) 1 2 [a, b] :=
  ⟨rfl, fun _ => ⟨_, _, rfl, fun j u hj => by
    rcases j with _ | _ | j
    · simp at hj; subst hj; rw [cell_of_row _ _ _ _ _ (0, 0) (heap_alloc_new w _)]; rfl
    · simp at hj; subst hj; rw [cell_of_row _ _ _ _ _ (0, 0) (heap_alloc_new w _)]; rfl
    · simp at hj⟩⟩
theorem own_one2 (w : World) (B : Nat) (hB : B ≤ w.heap.size) (k : K) : (w.alloc (.cells #[.int .i64 k.t, .int .i64 k.k] 24)).ownsRow B 24 2 (.slice (some ⟨w.heap.size, 0, none⟩) 1 1) 1 (rowV K.vals [k]) :=
  ⟨rfl, .inr ⟨w.heap.size, 1, _, rfl, hB, heap_alloc_new w _, Nat.le_refl _, by unfold maxLen; omega, rfl, rfl⟩⟩
set_option maxHeartbeats 16000000 in
theorem meets_law (x y : FV) (f g : Ft) (k : K) (w : World) (hx : FtG w x f) (hy : FtG w y g) : Calls Try.prog 4 #[x.val, y.val, k.val] w fun e w' => e = .returned (.bool true) ∧ Below w.heap.size w w' := by
  obtain ⟨h1, h2, h3, h4⟩ := alloc3g w (.cells x.cs 30) (.cells y.cs 30) (.cells #[.int .i64 k.t, .int .i64 k.k] 24)
  have HB := Lib.hid h4
  have HF := Lib.hid (show FBox _ w.heap.size x from h1)
  have HGB := Lib.hid (show FBox _ (w.heap.size + 1) y from h2)
  have HK := Lib.hid (show KBox _ (w.heap.size + 2) k from h3)
  have HX := Lib.hid (hx.below h4)
  have HY := Lib.hid (hy.below h4)
  have hsx := hx.at_.small
  unfold FV.cs at HB HF HGB HK HX HY
  unfold FV.val FV.cs K.val
  clear h1 h2 h3 h4 hx hy
  go_enter Try.func4, Try.ntmps4
  go_upto_region 1 with fail
  revert HB HF HGB HK HX HY
  generalize World.alloc (World.alloc (World.alloc w _) _) _ = W
  intro HB HF HGB HK HX HY
  go_wp2_with fail
  refine Calls.mono (alive_any W) ?_
  rintro e w1 ⟨rfl, hb1⟩
  have HB1 := Lib.hid (HB.out.trans (hb1.mono HB.out.size))
  have HF1 := Lib.hid (HF.out.below hb1)
  have HGB1 := Lib.hid (HGB.out.below hb1)
  have HK1 := Lib.hid (HK.out.below hb1)
  have HX1 := Lib.hid (HX.out.below hb1)
  have HY1 := Lib.hid (HY.out.below hb1)
  have HLA := Lib.hid (large_any _ 2 2 [f, g] _ (two_feet w1 x y f g HX1.out HY1.out) (by omega))
  have hbl := (Below.refl w1.heap.size w1).alloc (Nat.le_refl _) (.cells #[.slice x.A x.n x.c, .slice x.A2 x.n2 x.c2, .slice x.A3 x.n3 x.c3, .slice y.A y.n y.c, .slice y.A2 y.n2 y.c2, .slice y.A3 y.n3 y.c3] 30)
  have HBL := Lib.hid hbl
  obtain ⟨x0, x1, x2⟩ := HF1.out.cs3
  obtain ⟨y0, y1, y2⟩ := HGB1.out.cs3
  clear hb1 hbl
  go_wp2_with fail
  refine Calls.mono HLA.out ?_
  rintro e w2 ⟨⟨r, rfl, hr⟩, hb2⟩
  have hb12 := HBL.out.trans (hb2.mono HBL.out.size)
  have HB2 := Lib.hid (HB1.out.trans (hb12.mono HB1.out.size))
  have HF2 := Lib.hid (HF1.out.below hb12)
  have HGB2 := Lib.hid (HGB1.out.below hb12)
  have HK2 := Lib.hid (HK1.out.below hb12)
  have HX2 := Lib.hid (HX1.out.below hb12)
  have HY2 := Lib.hid (HY1.out.below hb12)
  clear hb2 hb12 x0 x1 x2 y0 y1 y2
  cases r with
  | true =>
    go_wp2_with fail
    go_ret
    exact ⟨rfl, HB2.out⟩
  | false =>
    obtain ⟨_, hfew⟩ := hr rfl
    have hff := hfew f (by simp)
    have lr := HX2.out.at_.rs.len
    have lw := HX2.out.at_.ws.len
    have hn1 : x.n ≤ 60 := by omega
    have hn3 : x.n3 ≤ 60 := by omega
    have HC5 := Lib.hid (show ∀ W2, Below w2.drew.heap.size w2.drew W2 → (W2.cell? ⟨w.heap.size, 0, none⟩ = some (.slice x.A x.n x.c) ∧ W2.cell? ⟨w.heap.size, 1, none⟩ = some (.slice x.A2 x.n2 x.c2) ∧ W2.cell? ⟨w.heap.size, 2, none⟩ = some (.slice x.A3 x.n3 x.c3)) ∧ W2.cell? ⟨w.heap.size + 1, 0, none⟩ = some (.slice y.A y.n y.c) ∧ W2.cell? ⟨w.heap.size + 1, 1, none⟩ = some (.slice y.A2 y.n2 y.c2) ∧ W2.cell? ⟨w.heap.size + 1, 2, none⟩ = some (.slice y.A3 y.n3 y.c3) from fun W2 hw =>
      ⟨(HF2.out.below ((Below.refl _ w2).drew.trans hw)).cs3, (HGB2.out.below ((Below.refl _ w2).drew.trans hw)).cs3⟩)
    have HM1 := Lib.hid (show ∀ W2, Below w2.drew.heap.size w2.drew W2 → Calls Try.prog 18 #[x.val, y.val] W2 fun e w'' => e = .returned (.bool (meetB f g)) ∧ Below W2.heap.size W2 w'' from fun W2 hw => meet_any x y f g W2 (HX2.out.below ((Below.refl _ w2).drew.trans hw)).at_ (HY2.out.below ((Below.refl _ w2).drew.trans hw)).at_)
    have HM2 := Lib.hid (show ∀ W2, Below w2.drew.heap.size w2.drew W2 → Calls Try.prog 19 #[x.val, y.val] W2 fun e w'' => e = .returned (.bool (meetB f g)) ∧ Below W2.heap.size W2 w'' from fun W2 hw => refmeet_any x y f g W2 (HX2.out.below ((Below.refl _ w2).drew.trans hw)).at_ (HY2.out.below ((Below.refl _ w2).drew.trans hw)).at_)
    have HM3 := Lib.hid (show ∀ W2, Below w2.drew.heap.size w2.drew W2 → Calls Try.prog 18 #[y.val, x.val] W2 fun e w'' => e = .returned (.bool (meetB f g)) ∧ Below W2.heap.size W2 w'' from fun W2 hw => by
      rw [← meet_symm f g]
      exact meet_any y x g f W2 (HY2.out.below ((Below.refl _ w2).drew.trans hw)).at_ (HX2.out.below ((Below.refl _ w2).drew.trans hw)).at_)
    have HG1 := Lib.hid (show ∀ W2, Below w2.drew.heap.size w2.drew W2 → Calls Try.prog 20 #[x.val] W2 fun e w'' => e = .returned (.bool (goodB f)) ∧ Below W2.heap.size W2 w'' from fun W2 hw => good_any x f W2 (HX2.out.below ((Below.refl _ w2).drew.trans hw)).at_ HX2.out.fit)
    have HG2 := Lib.hid (show ∀ W2, Below w2.drew.heap.size w2.drew W2 → Calls Try.prog 21 #[x.val] W2 fun e w'' => e = .returned (.bool (goodB f)) ∧ Below W2.heap.size W2 w'' from fun W2 hw => refgood_any x f W2 (HX2.out.below ((Below.refl _ w2).drew.trans hw)).at_ HX2.out.fit)
    obtain ⟨m, hm⟩ : ∃ m, m = meetB f g := ⟨_, rfl⟩
    obtain ⟨gd, hgd⟩ : ∃ gd, gd = goodB f := ⟨_, rfl⟩
    rw [← hm] at HM1 HM2 HM3
    rw [← hgd] at HG1 HG2
    unfold FV.val FV.cs at HM1 HM2 HM3 HG1 HG2
    clear hm hgd hr hfew hff lr lw
    go_wp2_with fail
    refine wp_region_noPanic ?_
    refine wp_region_abs 22 77 [.is (.agg #[.slice x.A x.n x.c, .slice x.A2 x.n2 x.c2, .slice x.A3 x.n3 x.c3]), .is (.agg #[.slice y.A y.n y.c, .slice y.A2 y.n2 y.c2, .slice y.A3 y.n3 y.c3]), .is (.bool m), .is (.agg #[.slice x.A x.n x.c, .slice x.A2 x.n2 x.c2, .slice x.A3 x.n3 x.c3]), .is (.agg #[.slice y.A y.n y.c, .slice y.A2 y.n2 y.c2, .slice y.A3 y.n3 y.c3]), .is (.bool m), .is (.bool false), .is (.bool false), .is (.agg #[.slice y.A y.n y.c, .slice y.A2 y.n2 y.c2, .slice y.A3 y.n3 y.c3]), .is (.agg #[.slice x.A x.n x.c, .slice x.A2 x.n2 x.c2, .slice x.A3 x.n3 x.c3]), .is (.bool m), .is (.agg #[.slice x.A x.n x.c, .slice x.A2 x.n2 x.c2, .slice x.A3 x.n3 x.c3]), .is (.agg #[.slice y.A y.n y.c, .slice y.A2 y.n2 y.c2, .slice y.A3 y.n3 y.c3]), .is (.bool m), .is (.bool false), .is (.bool false), .is (.bool false), .is (.agg #[.slice x.A x.n x.c, .slice x.A2 x.n2 x.c2, .slice x.A3 x.n3 x.c3]), .is (.bool gd), .is (.agg #[.slice x.A x.n x.c, .slice x.A2 x.n2 x.c2, .slice x.A3 x.n3 x.c3]), .is (.bool gd), .is (.bool false)]
      [15, 16, 17, 18, 19, 20, 21, 22, 23, 24, 25, 26, 27, 28, 29, 30, 31, 32, 33, 34, 35, 36]
      [[], [], [0, 1], [], [], [3, 4, 2], [2, 5], [6, 5], [7], [7], [8, 9, 7], [7], [7], [11, 12, 10, 7], [10, 13, 7], [7, 14], [15, 13], [16], [17, 16], [16], [19, 18, 16], [18, 20, 16]] (by kernel_rfl) (by rfl) rfl rfl (by kernel_rfl) (fun _ _ _ _ h => h.elim) ?_ ?_
    · refine ⟨?_, ?_, ?_, ?_, ?_, ?_, ?_, ?_, ?_, ?_, ?_, ?_, ?_, ?_, ?_, ?_, ?_, ?_, ?_, ?_, ?_, ?_, trivial⟩
      · intro W2 hw K hK
        obtain ⟨⟨x0, x1, x2⟩, y0, y1, y2⟩ := HC5.out W2 hw
        go_simp
        exact hK _ _ rfl (Below.refl _ _)
      · intro W2 hw K hK
        obtain ⟨⟨x0, x1, x2⟩, y0, y1, y2⟩ := HC5.out W2 hw
        go_simp
        exact hK _ _ rfl (Below.refl _ _)
      · intro W2 hw K hK
        have hcc := HM1.out W2 hw
        go_simp
        refine Calls.mono hcc ?_
        rintro e9 w5 ⟨rfl, hb5⟩
        exact hK _ _ rfl hb5
      · intro W2 hw K hK
        obtain ⟨⟨x0, x1, x2⟩, y0, y1, y2⟩ := HC5.out W2 hw
        go_simp
        exact hK _ _ rfl (Below.refl _ _)
      · intro W2 hw K hK
        obtain ⟨⟨x0, x1, x2⟩, y0, y1, y2⟩ := HC5.out W2 hw
        go_simp
        exact hK _ _ rfl (Below.refl _ _)
      · intro W2 hw K hK
        have hcc := HM2.out W2 hw
        go_simp
        refine Calls.mono hcc ?_
        rintro e9 w5 ⟨rfl, hb5⟩
        exact hK _ _ rfl hb5
      · intro W2 hw K hK
        obtain ⟨⟨x0, x1, x2⟩, y0, y1, y2⟩ := HC5.out W2 hw
        go_simp
        exact hK _ _ rfl (Below.refl _ _)
      · intro W2 hw K hK
        obtain ⟨⟨x0, x1, x2⟩, y0, y1, y2⟩ := HC5.out W2 hw
        go_simp
        exact hK _ _ rfl (Below.refl _ _)
      · intro W2 hw K hK
        obtain ⟨⟨x0, x1, x2⟩, y0, y1, y2⟩ := HC5.out W2 hw
        go_simp
        exact hK _ _ rfl (Below.refl _ _)
      · intro W2 hw K hK
        obtain ⟨⟨x0, x1, x2⟩, y0, y1, y2⟩ := HC5.out W2 hw
        go_simp
        exact hK _ _ rfl (Below.refl _ _)
      · intro W2 hw K hK
        have hcc := HM3.out W2 hw
        go_simp
        refine Calls.mono hcc ?_
        rintro e9 w5 ⟨rfl, hb5⟩
        exact hK _ _ rfl hb5
      · intro W2 hw K hK
        obtain ⟨⟨x0, x1, x2⟩, y0, y1, y2⟩ := HC5.out W2 hw
        go_simp
        exact hK _ _ rfl (Below.refl _ _)
      · intro W2 hw K hK
        obtain ⟨⟨x0, x1, x2⟩, y0, y1, y2⟩ := HC5.out W2 hw
        go_simp
        exact hK _ _ rfl (Below.refl _ _)
      · intro W2 hw K hK
        have hcc := HM1.out W2 hw
        go_simp
        refine Calls.mono hcc ?_
        rintro e9 w5 ⟨rfl, hb5⟩
        exact hK _ _ rfl hb5
      · intro W2 hw K hK
        obtain ⟨⟨x0, x1, x2⟩, y0, y1, y2⟩ := HC5.out W2 hw
        go_simp
        exact hK _ _ rfl (Below.refl _ _)
      · intro W2 hw K hK
        obtain ⟨⟨x0, x1, x2⟩, y0, y1, y2⟩ := HC5.out W2 hw
        go_simp
        exact hK _ _ rfl (Below.refl _ _)
      · intro W2 hw K hK
        obtain ⟨⟨x0, x1, x2⟩, y0, y1, y2⟩ := HC5.out W2 hw
        go_simp
        exact hK _ _ rfl (Below.refl _ _)
      · intro W2 hw K hK
        obtain ⟨⟨x0, x1, x2⟩, y0, y1, y2⟩ := HC5.out W2 hw
        go_simp
        exact hK _ _ rfl (Below.refl _ _)
      · intro W2 hw K hK
        have hcc := HG1.out W2 hw
        go_simp
        refine Calls.mono hcc ?_
        rintro e9 w5 ⟨rfl, hb5⟩
        exact hK _ _ rfl hb5
      · intro W2 hw K hK
        obtain ⟨⟨x0, x1, x2⟩, y0, y1, y2⟩ := HC5.out W2 hw
        go_simp
        exact hK _ _ rfl (Below.refl _ _)
      · intro W2 hw K hK
        have hcc := HG2.out W2 hw
        go_simp
        refine Calls.mono hcc ?_
        rintro e9 w5 ⟨rfl, hb5⟩
        exact hK _ _ rfl hb5
      · intro W2 hw K hK
        obtain ⟨⟨x0, x1, x2⟩, y0, y1, y2⟩ := HC5.out W2 hw
        go_simp
        exact hK _ _ rfl (Below.refl _ _)
    · intro W2 hw2
      simp only [Behind]
      have HWX := Lib.hid (show Below w.heap.size w W2 from HB2.out.trans (((Below.refl _ w2).drew.trans hw2).mono HB2.out.size))
      have HX7 := Lib.hid (show FtG W2 x f from HX2.out.below ((Below.refl _ w2).drew.trans hw2))
      have HY7 := Lib.hid (show FtG W2 y g from HY2.out.below ((Below.refl _ w2).drew.trans hw2))
      have HF7 := Lib.hid (show FBox W2 w.heap.size x from HF2.out.below ((Below.refl _ w2).drew.trans hw2))
      have HG7 := Lib.hid (show FBox W2 (w.heap.size + 1) y from HGB2.out.below ((Below.refl _ w2).drew.trans hw2))
      have HK7 := Lib.hid (show KBox W2 (w.heap.size + 2) k from HK2.out.below ((Below.refl _ w2).drew.trans hw2))
      clear hw2
      simp only [List.drop, Act.put, List.setIfInBounds_toArray, List.set_cons_zero, List.set_cons_succ]
      go_wp2_with fail
      refine NoPanic.normal ?_
      go_upto_region 7 with fail
      rename World => wz
      have hwz := HWX.out.size
      go_cut [45, 46, 47] from 38 to 47 (fun v45 v46 v47 wx => ∃ (A : Option Addr) (n c : Nat), v45 = .slice A n c ∧ v46 = .int .i64 (n : Int) ∧ v47 = .int .i64 0 ∧ ∃ ks : List K, Keys wx A n ks ∧ n ≤ 1000 ∧ Below wz.heap.size wz wx)
      case first =>
        have hba : Below wz.heap.size wz (wz.alloc (.cells #[.int .i64 k.t, .int .i64 k.k] 24)).drew := ((Below.refl _ wz).alloc (Nat.le_refl _) _).drew
        have HBA := Lib.hid hba
        have HO1 := Lib.hid (show (wz.alloc (.cells #[.int .i64 k.t, .int .i64 k.k] 24)).drew.ownsRow wz.heap.size 24 2 (.slice (some ⟨wz.heap.size, 0, none⟩) 1 1) 1 (rowV K.vals [k]) from own_one2 wz wz.heap.size (Nat.le_refl _) k)
        have HR1 := Lib.hid (HX7.out.below hba).at_.rs.row
        have hsa : wz.heap.size ≤ (wz.alloc (.cells #[.int .i64 k.t, .int .i64 k.k] 24)).drew.heap.size := hba.size
        obtain ⟨x0, _, x2⟩ : (wz.cell? ⟨w.heap.size, 0, none⟩ = some (.slice x.A x.n x.c) ∧ wz.cell? ⟨w.heap.size, 1, none⟩ = some (.slice x.A2 x.n2 x.c2) ∧ wz.cell? ⟨w.heap.size, 2, none⟩ = some (.slice x.A3 x.n3 x.c3)) := HF7.out.cs3
        obtain ⟨xa0, _, xa2⟩ : ((wz.alloc (.cells #[.int .i64 k.t, .int .i64 k.k] 24)).cell? ⟨w.heap.size, 0, none⟩ = some (.slice x.A x.n x.c) ∧ (wz.alloc (.cells #[.int .i64 k.t, .int .i64 k.k] 24)).cell? ⟨w.heap.size, 1, none⟩ = some (.slice x.A2 x.n2 x.c2) ∧ (wz.alloc (.cells #[.int .i64 k.t, .int .i64 k.k] 24)).cell? ⟨w.heap.size, 2, none⟩ = some (.slice x.A3 x.n3 x.c3)) := (HF7.out.below hba).cs3
        have k0 : wz.cell? ⟨w.heap.size + 2, 0, none⟩ = some (.int .i64 k.t) := HK7.out.c0
        have k1 : wz.cell? ⟨w.heap.size + 2, 1, none⟩ = some (.int .i64 k.k) := HK7.out.c1
        clear hba
        go_wp2_with fail
        go_region_law (first | (refine step_append_rowv elem27 (by simp [Region.wanted]) (.tmp 39) (.tmp 41) rfl wz.heap.size (.slice (some ⟨wz.heap.size, 0, none⟩) 1 1) 1 (rowV K.vals [k]) rfl HO1.out x.A x.n x.c (rowV K.vals f.rs) rfl HR1.out (ks_one _) HX7.out.nil1 (by unfold maxLen; omega) (by omega) hsa ?_; intro v5 w5 hown5 hg5 _; have HB5 := Lib.hid (HBA.out.grown hg5 hsa (fun q hq => (HO1.out.lt q hq).1)); have HO5 := Lib.hid hown5; obtain ⟨_, _, z2⟩ := (HF7.out.below HB5.out).cs3; have hs5 := HB5.out.size; clear hown5 hg5) | (refine step_append_rowv elem27 (by simp [Region.wanted]) (.tmp 42) (.tmp 44) rfl wz.heap.size v5 (1 + x.n) _ rfl HO5.out x.A3 x.n3 x.c3 (rowV K.vals f.ws) rfl (HX7.out.below HB5.out).at_.ws.row (ks_one _) HX7.out.nil3 (by unfold maxLen; omega) (by omega) hs5 ?_; intro v6 w6 hown6 hg6 _; have HB6 := Lib.hid (HB5.out.grown hg6 hs5 (fun q hq => (HO5.out.lt q hq).1)); have HO6 := Lib.hid hown6; obtain ⟨A6, c6, rfl, _, _, _⟩ := rdv_own hown6; clear hown6 hg6))
        all_goals
          go_wp2_with fail
          go_meet
          case rel =>
            have ho := HO6.out
            rw [← rowV_append, ← rowV_append] at ho
            exact ⟨A6, _, c6, rfl, rfl, rfl, [k] ++ f.rs ++ f.ws, (row_of ho (by rw [List.length_append, List.length_append, HX7.out.at_.rs.len, HX7.out.at_.ws.len]; rfl)).1, by omega, HB6.out⟩
      case rest =>
        obtain ⟨A, n, c, rfl, rfl, rfl, ks, hks, hn, hbc⟩ := hcut
        have HKS := Lib.hid hks
        have HL := Lib.hid hks.len
        have HBC := Lib.hid (HWX.out.trans (hbc.mono HWX.out.size))
        have HGC := Lib.hid (HG7.out.below hbc)
        have HKC := Lib.hid (HK7.out.below hbc)
        have HYC := Lib.hid (HY7.out.below hbc)
        clear hks hbc
        go_wp2_with fail
        go_loopw [8, 47] (fun _ i wr => ∃ q : Nat, i = .int .i64 (q : Int) ∧ q ≤ n ∧ Below w.heap.size w wr ∧ Hid (Below wc.heap.size wc wr)) (fun _ i _ => n - (intOf i).toNat)
        case atStart => exact ⟨0, rfl, by omega, HBC.out, Below.refl _ _⟩
        case round =>
          obtain ⟨q, rfl, hq, hbr, hbc⟩ := hrel
          have HBR := Lib.hid hbr
          clear hbr
          by_cases hlt : q < n
          · have hql : q < ks.length := by rw [HL.out]; exact hlt
            obtain ⟨b, off, rfl, hc⟩ := Keys.cells (HKS.out.below hbc.out) (by omega)
            obtain ⟨c0, c1⟩ := hc q hql
            obtain ⟨u, hu⟩ : ∃ u, u = ks[q] := ⟨_, rfl⟩
            rw [← hu] at c0 c1
            have HUW := Lib.hid (show Below wr.heap.size wr (wr.alloc (.cells #[.int .i64 u.t, .int .i64 u.k] 24)) from (Below.refl wr.heap.size wr).alloc (Nat.le_refl _) _)
            have HGR := Lib.hid (HGC.out.below hbc.out)
            have HKR := Lib.hid (HKC.out.below hbc.out)
            have HYR := Lib.hid (HYC.out.below hbc.out)
            have HW3 := Lib.hid (show ∀ W2, Below (wr.alloc (.cells #[.int .i64 u.t, .int .i64 u.k] 24)).drew.heap.size (wr.alloc (.cells #[.int .i64 u.t, .int .i64 u.k] 24)).drew W2 → Below wr.heap.size wr W2 from fun W2 hw => HUW.out.trans (((Below.refl _ _).drew.trans hw).mono HUW.out.size))
            have HC10 := Lib.hid (show ∀ W2, Below (wr.alloc (.cells #[.int .i64 u.t, .int .i64 u.k] 24)).drew.heap.size (wr.alloc (.cells #[.int .i64 u.t, .int .i64 u.k] 24)).drew W2 → (W2.cell? ⟨w.heap.size + 1, 0, none⟩ = some (.slice y.A y.n y.c) ∧ W2.cell? ⟨w.heap.size + 1, 1, none⟩ = some (.slice y.A2 y.n2 y.c2) ∧ W2.cell? ⟨w.heap.size + 1, 2, none⟩ = some (.slice y.A3 y.n3 y.c3)) ∧ (W2.cell? ⟨w.heap.size + 2, 0, none⟩ = some (.int .i64 k.t) ∧ W2.cell? ⟨w.heap.size + 2, 1, none⟩ = some (.int .i64 k.k)) ∧ W2.cell? ⟨wr.heap.size, 0, none⟩ = some (.int .i64 u.t) ∧ W2.cell? ⟨wr.heap.size, 1, none⟩ = some (.int .i64 u.k) from fun W2 hw =>
              ⟨(HGR.out.below (HW3.out W2 hw)).cs3, ⟨(HKR.out.below (HW3.out W2 hw)).c0, (HKR.out.below (HW3.out W2 hw)).c1⟩, kbox ((Below.refl _ _).drew.trans hw)⟩)
            have HR1 := Lib.hid (fun W2 hw => reads_any y g u W2 (HYR.out.below (HW3.out W2 hw)).at_)
            have HR2 := Lib.hid (fun W2 hw => refreads_any y g u W2 (HYR.out.below (HW3.out W2 hw)).at_)
            have HW1 := Lib.hid (fun W2 hw => writes_any y g u W2 (HYR.out.below (HW3.out W2 hw)).at_)
            have HW2 := Lib.hid (fun W2 hw => refwrites_any y g u W2 (HYR.out.below (HW3.out W2 hw)).at_)
            have HL1 := Lib.hid (fun W2 (_ : Below (wr.alloc (.cells #[.int .i64 u.t, .int .i64 u.k] 24)).drew.heap.size (wr.alloc (.cells #[.int .i64 u.t, .int .i64 u.k] 24)).drew W2) => less_any k u W2)
            have HL2 := Lib.hid (fun W2 (_ : Below (wr.alloc (.cells #[.int .i64 u.t, .int .i64 u.k] 24)).drew.heap.size (wr.alloc (.cells #[.int .i64 u.t, .int .i64 u.k] 24)).drew W2) => less22 k u W2)
            obtain ⟨rd, hrd⟩ : ∃ rd, rd = readsB g u := ⟨_, rfl⟩
            obtain ⟨wt, hwt⟩ : ∃ wt, wt = writesB g u := ⟨_, rfl⟩
            obtain ⟨ls, hls⟩ : ∃ ls, ls = lessK k u := ⟨_, rfl⟩
            rw [← hrd] at HR1 HR2
            rw [← hwt] at HW1 HW2
            rw [← hls] at HL1 HL2
            unfold FV.val FV.cs K.val at HR1 HR2 HW1 HW2
            unfold K.val at HL1 HL2
            clear hc hu hrd hwt hls
            go_wp2_with fail
            refine wp_region_noPanic ?_
            refine wp_region_abs 24 77 [.is (.agg #[.slice y.A y.n y.c, .slice y.A2 y.n2 y.c2, .slice y.A3 y.n3 y.c3]), .is (.agg #[.int .i64 u.t, .int .i64 u.k]), .is (.bool rd), .is (.agg #[.slice y.A y.n y.c, .slice y.A2 y.n2 y.c2, .slice y.A3 y.n3 y.c3]), .is (.agg #[.int .i64 u.t, .int .i64 u.k]), .is (.bool rd), .is (.bool false), .is (.bool false), .is (.agg #[.slice y.A y.n y.c, .slice y.A2 y.n2 y.c2, .slice y.A3 y.n3 y.c3]), .is (.agg #[.int .i64 u.t, .int .i64 u.k]), .is (.bool wt), .is (.agg #[.slice y.A y.n y.c, .slice y.A2 y.n2 y.c2, .slice y.A3 y.n3 y.c3]), .is (.agg #[.int .i64 u.t, .int .i64 u.k]), .is (.bool wt), .is (.bool false), .is (.bool false), .is (.bool false), .is (.agg #[.int .i64 k.t, .int .i64 k.k]), .is (.agg #[.int .i64 u.t, .int .i64 u.k]), .is (.bool ls), .is (.agg #[.int .i64 k.t, .int .i64 k.k]), .is (.agg #[.int .i64 u.t, .int .i64 u.k]), .is (.bool ls), .is (.bool false)]
              [51, 52, 53, 54, 55, 56, 57, 58, 59, 60, 61, 62, 63, 64, 65, 66, 67, 68, 69, 70, 71, 72, 73, 74]
              [[], [], [0, 1], [], [], [3, 4, 2], [2, 5], [6, 5], [7], [7], [8, 9, 7], [7], [7], [11, 12, 10, 7], [10, 13, 7], [7, 14], [15, 13], [16], [16], [17, 18, 16], [16], [16], [20, 21, 19, 16], [19, 22, 16]] (by kernel_rfl) (by rfl) rfl rfl (by kernel_rfl) (fun _ _ _ _ h => h.elim) ?_ ?_
            · refine ⟨?_, ?_, ?_, ?_, ?_, ?_, ?_, ?_, ?_, ?_, ?_, ?_, ?_, ?_, ?_, ?_, ?_, ?_, ?_, ?_, ?_, ?_, ?_, ?_, trivial⟩
              · intro W2 hw K hK
                obtain ⟨⟨y0, y1, y2⟩, ⟨k0, k1⟩, u0, u1⟩ := HC10.out W2 hw
                go_simp
                exact hK _ _ rfl (Below.refl _ _)
              · intro W2 hw K hK
                obtain ⟨⟨y0, y1, y2⟩, ⟨k0, k1⟩, u0, u1⟩ := HC10.out W2 hw
                go_simp
                exact hK _ _ rfl (Below.refl _ _)
              · intro W2 hw K hK
                have hcc := HR1.out W2 hw
                go_simp
                refine Calls.mono hcc ?_
                rintro e9 w5 ⟨rfl, hb5⟩
                exact hK _ _ rfl hb5
              · intro W2 hw K hK
                obtain ⟨⟨y0, y1, y2⟩, ⟨k0, k1⟩, u0, u1⟩ := HC10.out W2 hw
                go_simp
                exact hK _ _ rfl (Below.refl _ _)
              · intro W2 hw K hK
                obtain ⟨⟨y0, y1, y2⟩, ⟨k0, k1⟩, u0, u1⟩ := HC10.out W2 hw
                go_simp
                exact hK _ _ rfl (Below.refl _ _)
              · intro W2 hw K hK
                have hcc := HR2.out W2 hw
                go_simp
                refine Calls.mono hcc ?_
                rintro e9 w5 ⟨rfl, hb5⟩
                exact hK _ _ rfl hb5
              · intro W2 hw K hK
                obtain ⟨⟨y0, y1, y2⟩, ⟨k0, k1⟩, u0, u1⟩ := HC10.out W2 hw
                go_simp
                exact hK _ _ rfl (Below.refl _ _)
              · intro W2 hw K hK
                obtain ⟨⟨y0, y1, y2⟩, ⟨k0, k1⟩, u0, u1⟩ := HC10.out W2 hw
                go_simp
                exact hK _ _ rfl (Below.refl _ _)
              · intro W2 hw K hK
                obtain ⟨⟨y0, y1, y2⟩, ⟨k0, k1⟩, u0, u1⟩ := HC10.out W2 hw
                go_simp
                exact hK _ _ rfl (Below.refl _ _)
              · intro W2 hw K hK
                obtain ⟨⟨y0, y1, y2⟩, ⟨k0, k1⟩, u0, u1⟩ := HC10.out W2 hw
                go_simp
                exact hK _ _ rfl (Below.refl _ _)
              · intro W2 hw K hK
                have hcc := HW1.out W2 hw
                go_simp
                refine Calls.mono hcc ?_
                rintro e9 w5 ⟨rfl, hb5⟩
                exact hK _ _ rfl hb5
              · intro W2 hw K hK
                obtain ⟨⟨y0, y1, y2⟩, ⟨k0, k1⟩, u0, u1⟩ := HC10.out W2 hw
                go_simp
                exact hK _ _ rfl (Below.refl _ _)
              · intro W2 hw K hK
                obtain ⟨⟨y0, y1, y2⟩, ⟨k0, k1⟩, u0, u1⟩ := HC10.out W2 hw
                go_simp
                exact hK _ _ rfl (Below.refl _ _)
              · intro W2 hw K hK
                have hcc := HW2.out W2 hw
                go_simp
                refine Calls.mono hcc ?_
                rintro e9 w5 ⟨rfl, hb5⟩
                exact hK _ _ rfl hb5
              · intro W2 hw K hK
                obtain ⟨⟨y0, y1, y2⟩, ⟨k0, k1⟩, u0, u1⟩ := HC10.out W2 hw
                go_simp
                exact hK _ _ rfl (Below.refl _ _)
              · intro W2 hw K hK
                obtain ⟨⟨y0, y1, y2⟩, ⟨k0, k1⟩, u0, u1⟩ := HC10.out W2 hw
                go_simp
                exact hK _ _ rfl (Below.refl _ _)
              · intro W2 hw K hK
                obtain ⟨⟨y0, y1, y2⟩, ⟨k0, k1⟩, u0, u1⟩ := HC10.out W2 hw
                go_simp
                exact hK _ _ rfl (Below.refl _ _)
              · intro W2 hw K hK
                obtain ⟨⟨y0, y1, y2⟩, ⟨k0, k1⟩, u0, u1⟩ := HC10.out W2 hw
                go_simp
                exact hK _ _ rfl (Below.refl _ _)
              · intro W2 hw K hK
                obtain ⟨⟨y0, y1, y2⟩, ⟨k0, k1⟩, u0, u1⟩ := HC10.out W2 hw
                go_simp
                exact hK _ _ rfl (Below.refl _ _)
              · intro W2 hw K hK
                have hcc := HL1.out W2 hw
                go_simp
                refine Calls.mono hcc ?_
                rintro e9 w5 ⟨rfl, hb5⟩
                exact hK _ _ rfl hb5
              · intro W2 hw K hK
                obtain ⟨⟨y0, y1, y2⟩, ⟨k0, k1⟩, u0, u1⟩ := HC10.out W2 hw
                go_simp
                exact hK _ _ rfl (Below.refl _ _)
              · intro W2 hw K hK
                obtain ⟨⟨y0, y1, y2⟩, ⟨k0, k1⟩, u0, u1⟩ := HC10.out W2 hw
                go_simp
                exact hK _ _ rfl (Below.refl _ _)
              · intro W2 hw K hK
                have hcc := HL2.out W2 hw
                go_simp
                refine Calls.mono hcc ?_
                rintro e9 w5 ⟨rfl, hb5⟩
                exact hK _ _ rfl hb5
              · intro W2 hw K hK
                obtain ⟨⟨y0, y1, y2⟩, ⟨k0, k1⟩, u0, u1⟩ := HC10.out W2 hw
                go_simp
                exact hK _ _ rfl (Below.refl _ _)
            · intro W2 hw2
              simp only [Behind]
              have hw3 : Below (wr.alloc (.cells #[.int .i64 u.t, .int .i64 u.k] 24)).heap.size (wr.alloc (.cells #[.int .i64 u.t, .int .i64 u.k] 24)) W2 := (Below.refl _ _).drew.trans hw2
              have HWY := Lib.hid (HUW.out.trans (hw3.mono HUW.out.size))
              have HWX := Lib.hid (HBR.out.trans (HWY.out.mono HBR.out.size))
              clear hw2 hw3
              simp only [List.drop, Act.put, List.setIfInBounds_toArray, List.set_cons_zero, List.set_cons_succ]
              go_wp2_with fail
              refine NoPanic.normal ?_
              go_wp2_with fail
              go_roundw
              case rel => exact ⟨q + 1, by go_num, by omega, HWX.out, Lib.hid (hbc.out.trans (HWY.out.mono hbc.out.size))⟩
              case measure => simp [intOf]; omega
          · obtain rfl : n = q := by omega
            go_wp2_with fail
            go_ret
            exact ⟨rfl, HBR.out⟩
end Go.Proofs.Ytmicheheibkmjaa
