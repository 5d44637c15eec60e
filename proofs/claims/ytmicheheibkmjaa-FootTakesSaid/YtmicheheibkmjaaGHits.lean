/- Which feet meet: the library's search, foot.Meet. -/
import Derived.Test.YtmicheheibkmjaaGMeet
namespace Go.Proofs.Ytmicheheibkmjaa
set_option maxRecDepth 100000
open Go.RowKit Go.Shelf

set_option maxHeartbeats 1000000 in
theorem indextouch_any (A : Option Addr) (n c : Nat) (l : List K) (x : FV) (f : Ft) (b : Nat) (w : World) (h : Keys w A n l) (hx : FtAt w x f) (hf : FBox w b x) (hn : n ≤ 9223372036854775807) :
    Calls Try.prog 92 #[.slice A n c, .func (.func 78) #[] #[.pointer (some ⟨b, 0, none⟩)]] w fun e w' => (∃ z : Int, e = .returned (.int .i64 z) ∧ decide (0 ≤ z) = l.any (touchB f)) ∧ Below w.heap.size w w' := by
  have HH := Lib.hid h
  have HXX := Lib.hid hx
  have HF := Lib.hid hf
  have HL := Lib.hid h.len
  have HX := Lib.hid (show (∀ j (hj : j < l.length), j < n → touchB f l[j] = false) → l.any (touchB f) = false from fun hno => by
    rw [List.any_eq_false]
    intro x hx
    obtain ⟨i, hi, he⟩ := List.getElem_of_mem hx
    rw [← he, hno i hi (by have := h.len; omega)]
    simp)
  have HE := Lib.hid (show ∀ j (hj : j < l.length), touchB f l[j] = true → l.any (touchB f) = true from fun j hj he => List.any_eq_true.2 ⟨_, List.getElem_mem hj, he⟩)
  obtain ⟨R, hR⟩ : ∃ R, R = l.any (touchB f) := ⟨_, rfl⟩
  rw [← hR] at HX HE ⊢
  clear hR h hx hf
  go_enter Try.func92, Try.ntmps92
  go_wp2_with fail
  go_loopw [5, 8] (fun _ i wr => ∃ q : Nat, i = .int .i64 (q : Int) ∧ q ≤ n ∧ Hid (∀ j (hj : j < l.length), j < q → touchB f l[j] = false) ∧ Below w.heap.size w wr) (fun _ i _ => n - (intOf i).toNat)
  case atStart => exact ⟨0, rfl, by omega, fun j _ h => by omega, Below.refl _ _⟩
  case round =>
    obtain ⟨q, rfl, hq, hno, hbr⟩ := hrel
    have HBR := Lib.hid hbr
    by_cases hlt : q < n
    · have hql : q < l.length := by rw [HL.out]; exact hlt
      obtain ⟨bs, off, rfl, hc⟩ := Keys.cells (HH.out.below hbr) (by omega)
      obtain ⟨c0, c1⟩ := hc q hql
      have C := touch_any x f l[q] b wr (HXX.out.below hbr) (HF.out.below hbr)
      have HEK := Lib.hid (HE.out q hql)
      have HNK := Lib.hid (show touchB f l[q] = false → ∀ j (hj : j < l.length), j < q + 1 → touchB f l[j] = false from fun h j hj hj2 => by
        by_cases e : j = q
        · subst e; exact h
        · exact hno.out j hj (by omega))
      obtain ⟨y, hy⟩ : ∃ y, y = l[q] := ⟨_, rfl⟩
      rw [← hy] at c0 c1 C HEK HNK
      unfold K.val at C
      obtain ⟨r, hr⟩ : ∃ r, r = touchB f y := ⟨_, rfl⟩
      rw [← hr] at C HEK HNK
      have HC := Lib.hid C
      clear hc hy hbr C hr
      cases r with
      | true =>
        go_wp2_with fail
        refine Calls.mono HC.out ?_
        rintro e w2 ⟨rfl, hb2⟩
        have HB2 := Lib.hid (HBR.out.trans (hb2.mono HBR.out.size))
        clear hb2
        go_wp2_with fail
        go_ret
        exact ⟨⟨(q : Int), rfl, by rw [HEK.out (by first | rfl | trivial)]; exact decide_eq_true (by omega)⟩, HB2.out⟩
      | false =>
        go_wp2_with fail
        refine Calls.mono HC.out ?_
        rintro e w2 ⟨rfl, hb2⟩
        have HB2 := Lib.hid (HBR.out.trans (hb2.mono HBR.out.size))
        clear hb2
        go_wp2_with fail
        go_roundw
        case rel => exact ⟨q + 1, by go_num, by omega, HNK.out (by first | rfl | trivial), HB2.out⟩
        case measure => simp [intOf]; omega
    · obtain rfl : n = q := by omega
      have hR := HX.out hno.out
      clear hbr
      go_wp2_with fail
      go_ret
      exact ⟨⟨-1, rfl, by rw [hR]; rfl⟩, HBR.out⟩
set_option maxHeartbeats 400000 in
theorem containstouch_any (A : Option Addr) (n c : Nat) (l : List K) (x : FV) (f : Ft) (b : Nat) (w : World) (h : Keys w A n l) (hx : FtAt w x f) (hf : FBox w b x) (hn : n ≤ 9223372036854775807) :
    Calls Try.prog 77 #[.slice A n c, .func (.func 78) #[] #[.pointer (some ⟨b, 0, none⟩)]] w fun e w' => e = .returned (.bool (l.any (touchB f))) ∧ Below w.heap.size w w' := by
  have HI := Lib.hid (indextouch_any A n c l x f b w h hx hf hn)
  clear h hx hf
  go_enter Try.func77, Try.ntmps77
  go_wp2_with fail
  refine Calls.mono HI.out ?_
  rintro e w1 ⟨⟨z, rfl, hz⟩, hb1⟩
  have HB1 := Lib.hid hb1
  have HZ := Lib.hid hz
  clear hb1 hz
  go_wp2_with fail
  go_ret
  exact ⟨by rw [← HZ.out]; exact rfl, HB1.out⟩
set_option maxHeartbeats 1000000 in
theorem hits_any (x y : FV) (a b : Ft) (w : World) (hx : FtAt w x a) (hy : FtAt w y b) : Calls Try.prog 41 #[x.val, y.val] w fun e w' => e = .returned (.bool (hitsB a b)) ∧ Below w.heap.size w w' := by
  obtain ⟨h1, h2, h3⟩ := alloc2g w (.cells x.cs 30) (.cells y.cs 30)
  have HB := Lib.hid h3
  have HF := Lib.hid (show FBox ((w.alloc (.cells x.cs 30)).alloc (.cells y.cs 30)) w.heap.size x from h1)
  have HG := Lib.hid (show FBox ((w.alloc (.cells x.cs 30)).alloc (.cells y.cs 30)) (w.heap.size + 1) y from h2)
  have HX := Lib.hid (hx.below h3)
  have HY := Lib.hid (hy.below h3)
  unfold FV.cs at HB HF HG HX HY
  unfold FV.val FV.cs
  clear h1 h2 h3 hx hy
  go_enter Try.func41, Try.ntmps41
  go_upto_region 1 with fail
  revert HB HF HG HX HY
  generalize World.alloc (World.alloc w _) _ = W
  intro HB HF HG HX HY
  have HC := Lib.hid (containstouch_any x.A3 x.n3 x.c3 a.ws y b (w.heap.size + 1) W HX.out.ws HY.out HG.out HX.out.small.2.2)
  have y2 := HF.out.c2
  have HE := Lib.hid (show hitsB a b = a.ws.any (touchB b) from rfl)
  go_wp2_with fail
  refine Calls.mono HC.out ?_
  rintro e w1 ⟨rfl, hb1⟩
  have HB1 := Lib.hid (HB.out.trans (hb1.mono HB.out.size))
  clear hb1 y2
  go_wp2_with fail
  go_ret
  exact ⟨by rw [HE.out]; rfl, HB1.out⟩
set_option maxHeartbeats 1000000 in
theorem meet_any (x y : FV) (a b : Ft) (w : World) (hx : FtAt w x a) (hy : FtAt w y b) : Calls Try.prog 18 #[x.val, y.val] w fun e w' => e = .returned (.bool (meetB a b)) ∧ Below w.heap.size w w' := by
  obtain ⟨h1, h2, h3⟩ := alloc2g w (.cells x.cs 30) (.cells y.cs 30)
  have HB := Lib.hid h3
  have HF := Lib.hid (show FBox ((w.alloc (.cells x.cs 30)).alloc (.cells y.cs 30)) w.heap.size x from h1)
  have HG := Lib.hid (show FBox ((w.alloc (.cells x.cs 30)).alloc (.cells y.cs 30)) (w.heap.size + 1) y from h2)
  have HX := Lib.hid (hx.below h3)
  have HY := Lib.hid (hy.below h3)
  unfold FV.cs at HB HF HG HX HY
  unfold FV.val FV.cs
  clear h1 h2 h3 hx hy
  go_enter Try.func18, Try.ntmps18
  go_upto_region 1 with fail
  revert HB HF HG HX HY
  generalize World.alloc (World.alloc w _) _ = W
  intro HB HF HG HX HY
  have C := hits_any x y a b W HX.out HY.out
  unfold FV.val FV.cs at C
  have y0 := HF.out.c0
  have y1 := HF.out.c1
  have y2 := HF.out.c2
  have z0 := HG.out.c0
  have z1 := HG.out.c1
  have z2 := HG.out.c2
  cases hr : hitsB a b with
  | true =>
    rw [hr] at C
    have HC := Lib.hid C
    have HE := Lib.hid (show meetB a b = true by simp [meetB, hr])
    clear C hr
    go_wp2_with fail
    refine Calls.mono HC.out ?_
    rintro e w1 ⟨rfl, hb1⟩
    have HB1 := Lib.hid (HB.out.trans (hb1.mono HB.out.size))
    clear hb1 y0 y1 y2 z0 z1 z2
    go_wp2_with fail
    go_ret
    exact ⟨by rw [HE.out]; rfl, HB1.out⟩
  | false =>
    rw [hr] at C
    have HC := Lib.hid C
    have HE := Lib.hid (show meetB a b = hitsB b a by simp [meetB, hr])
    clear C hr
    go_wp2_with fail
    refine Calls.mono HC.out ?_
    rintro e w1 ⟨rfl, hb1⟩
    have HB1 := Lib.hid (HB.out.trans (hb1.mono HB.out.size))
    have C := hits_any y x b a w1 (HY.out.below hb1) (HX.out.below hb1)
    unfold FV.val FV.cs at C
    have HC2 := Lib.hid C
    have HF1 := HF.out.below hb1
    have HG1 := HG.out.below hb1
    clear y0 y1 y2 z0 z1 z2 C
    have y0 := HF1.c0
    have y1 := HF1.c1
    have y2 := HF1.c2
    have z0 := HG1.c0
    have z1 := HG1.c1
    have z2 := HG1.c2
    clear hb1 HF1 HG1
    go_wp2_with fail
    refine Calls.mono HC2.out ?_
    rintro e w2 ⟨rfl, hb2⟩
    have HB2 := Lib.hid (HB1.out.trans (hb2.mono HB1.out.size))
    clear hb2 y0 y1 y2 z0 z1 z2
    go_wp2_with fail
    go_ret
    exact ⟨by rw [HE.out]; rfl, HB2.out⟩
end Go.Proofs.Ytmicheheibkmjaa
