/- Does a foot read a key, write it? -/
import Derived.Test.YtmicheheibkmjaaFHas
import Derived.Shelf.GgClosure.Gives
import Derived.Deep.RegionLaw
import Derived.Deep.CutRange
import Derived.Deep.RegionHeld3
namespace Go.Proofs.Ytmicheheibkmjaa
set_option maxRecDepth 100000
open Go.RowKit Go.Shelf

theorem alloc2g (w : World) (x y : Obj) : ((w.alloc x).alloc y).heap[w.heap.size]? = some x ∧ ((w.alloc x).alloc y).heap[w.heap.size + 1]? = some y ∧ Below w.heap.size w ((w.alloc x).alloc y) :=
  ⟨(Below.heap_alloc _ _ _ (by simp)).trans (heap_alloc_new w x), (by have := heap_alloc_new (w.alloc x) y; rwa [World.size_alloc] at this), ((Below.refl _ w).alloc (Nat.le_refl _) _).alloc (by simp) _⟩
def inSp (k : K) (x : Sp) : Bool := decide (x.t = k.t) && (decide (x.lo ≤ k.k) && decide (k.k ≤ x.hi))
/-- A key in a box. -/
def KBox (w : World) (b : Nat) (k : K) : Prop := w.heap[b]? = some (.cells #[.int .i64 k.t, .int .i64 k.k] 24 (0, 0))
theorem KBox.below {w w' : World} {b : Nat} {k : K} (h : KBox w b k) (hb : Below w.heap.size w w') : KBox w' b k := (hb.block b (Array.getElem?_eq_some_iff.1 h).1).trans h
theorem KBox.c0 {w : World} {b : Nat} {k : K} (h : KBox w b k) : w.cell? ⟨b, 0, none⟩ = some (.int .i64 k.t) := (cell_of_row w b 0 _ 24 (0, 0) h).trans rfl
theorem KBox.c1 {w : World} {b : Nat} {k : K} (h : KBox w b k) : w.cell? ⟨b, 1, none⟩ = some (.int .i64 k.k) := (cell_of_row w b 1 _ 24 (0, 0) h).trans rfl
set_option maxHeartbeats 1000000 in
theorem inspan_any (x : Sp) (k : K) (b : Nat) (w : World) (h : KBox w b k) : Calls Try.prog 40 #[x.val, .pointer (some ⟨b, 0, none⟩)] w fun e w' => e = .returned (.bool (inSp k x)) ∧ Below w.heap.size w w' := by
  have hbx := (Below.refl w.heap.size w).alloc (Nat.le_refl _) (.cells #[.int .i64 x.t, .int .i64 x.lo, .int .i64 x.hi] 54)
  have HB := Lib.hid hbx
  have c0 := (h.below hbx).c0
  have c1 := (h.below hbx).c1
  have hlt := (Array.getElem?_eq_some_iff.1 h).1
  obtain ⟨R, hR⟩ : ∃ R, R = inSp k x := ⟨_, rfl⟩
  have HR := Lib.hid hR
  rw [← hR]
  unfold Sp.val
  clear h hbx hR
  by_cases h1 : x.t = k.t
  · by_cases h2 : x.lo ≤ k.k
    · by_cases h3 : k.k ≤ x.hi
      · have e1 : (x.t == k.t) = true := beq_iff_eq.2 h1
        have HE := Lib.hid (show R = true by rw [HR.out]; simp [inSp, h1, h2, h3])
        have H1 := Lib.hid h1
        clear h1
        go_enter Try.func40, Try.ntmps40
        go_wp2_with fail
        go_ret
        exact ⟨by rw [HE.out]; rfl, HB.out⟩
      · have e1 : (x.t == k.t) = true := beq_iff_eq.2 h1
        have HE := Lib.hid (show R = false by rw [HR.out]; simp [inSp, h1, h2, h3])
        have H1 := Lib.hid h1
        clear h1
        go_enter Try.func40, Try.ntmps40
        go_wp2_with fail
        go_ret
        exact ⟨by rw [HE.out]; rfl, HB.out⟩
    · have e1 : (x.t == k.t) = true := beq_iff_eq.2 h1
      have HE := Lib.hid (show R = false by rw [HR.out]; simp [inSp, h2])
      have H1 := Lib.hid h1
      clear h1
      go_enter Try.func40, Try.ntmps40
      go_wp2_with fail
      go_ret
      exact ⟨by rw [HE.out]; rfl, HB.out⟩
  · have e1 : (x.t == k.t) = false := beq_eq_false_iff_ne.2 h1
    have HE := Lib.hid (show R = false by rw [HR.out]; simp [inSp, h1])
    clear h1
    go_enter Try.func40, Try.ntmps40
    go_wp2_with fail
    go_ret
    exact ⟨by rw [HE.out]; rfl, HB.out⟩
set_option maxHeartbeats 1000000 in
theorem indexspan_any (A : Option Addr) (n c : Nat) (l : List Sp) (k : K) (b : Nat) (w : World) (h : Spans w A n l) (hk : KBox w b k) (hn : n ≤ 9223372036854775807) :
    Calls Try.prog 76 #[.slice A n c, .func (.func 40) #[] #[.pointer (some ⟨b, 0, none⟩)]] w fun e w' => (∃ z : Int, e = .returned (.int .i64 z) ∧ decide (0 ≤ z) = l.any (inSp k)) ∧ Below w.heap.size w w' := by
  have HH := Lib.hid h
  have HK := Lib.hid hk
  have HL := Lib.hid h.len
  have HX := Lib.hid (show (∀ j (hj : j < l.length), j < n → inSp k l[j] = false) → l.any (inSp k) = false from fun hno => by
    rw [List.any_eq_false]
    intro x hx
    obtain ⟨i, hi, he⟩ := List.getElem_of_mem hx
    rw [← he, hno i hi (by have := h.len; omega)]
    simp)
  have HE := Lib.hid (show ∀ j (hj : j < l.length), inSp k l[j] = true → l.any (inSp k) = true from fun j hj he => List.any_eq_true.2 ⟨_, List.getElem_mem hj, he⟩)
  obtain ⟨R, hR⟩ : ∃ R, R = l.any (inSp k) := ⟨_, rfl⟩
  rw [← hR] at HX HE ⊢
  clear hR h hk
  go_enter Try.func76, Try.ntmps76
  go_wp2_with fail
  go_loopw [5, 8] (fun _ i wr => ∃ q : Nat, i = .int .i64 (q : Int) ∧ q ≤ n ∧ Hid (∀ j (hj : j < l.length), j < q → inSp k l[j] = false) ∧ Below w.heap.size w wr) (fun _ i _ => n - (intOf i).toNat)
  case atStart => exact ⟨0, rfl, by omega, fun j _ h => by omega, Below.refl _ _⟩
  case round =>
    obtain ⟨q, rfl, hq, hno, hbr⟩ := hrel
    have HBR := Lib.hid hbr
    by_cases hlt : q < n
    · have hql : q < l.length := by rw [HL.out]; exact hlt
      obtain ⟨bs, off, rfl, hc⟩ := Spans.cells (HH.out.below hbr) (by omega)
      obtain ⟨c0, c1, c2⟩ := hc q hql
      have C := inspan_any l[q] k b wr (HK.out.below hbr)
      have HEK := Lib.hid (HE.out q hql)
      have HNK := Lib.hid (show inSp k l[q] = false → ∀ j (hj : j < l.length), j < q + 1 → inSp k l[j] = false from fun h j hj hj2 => by
        by_cases e : j = q
        · subst e; exact h
        · exact hno.out j hj (by omega))
      obtain ⟨y, hy⟩ : ∃ y, y = l[q] := ⟨_, rfl⟩
      rw [← hy] at c0 c1 c2 C HEK HNK
      unfold Sp.val at C
      obtain ⟨r, hr⟩ : ∃ r, r = inSp k y := ⟨_, rfl⟩
      rw [← hr] at C HEK HNK
      have HC := Lib.hid C
      clear hc hy hbr C hr
      cases r with
      | true =>
        go_wp2_with fail
        refine Calls.mono HC.out ?_
        rintro e w2 ⟨rfl, hb2⟩
        have HB2 := Lib.hid (HBR.out.trans (hb2.mono HBR.out.size))
        clear hb2
        go_wp2_with fail
        go_ret
        exact ⟨⟨(q : Int), rfl, by rw [HEK.out (by first | rfl | trivial)]; exact decide_eq_true (by omega)⟩, HB2.out⟩
      | false =>
        go_wp2_with fail
        refine Calls.mono HC.out ?_
        rintro e w2 ⟨rfl, hb2⟩
        have HB2 := Lib.hid (HBR.out.trans (hb2.mono HBR.out.size))
        clear hb2
        go_wp2_with fail
        go_roundw
        case rel => exact ⟨q + 1, by go_num, by omega, HNK.out (by first | rfl | trivial), HB2.out⟩
        case measure => simp [intOf]; omega
    · obtain rfl : n = q := by omega
      have hR := HX.out hno.out
      clear hbr
      go_wp2_with fail
      go_ret
      exact ⟨⟨-1, rfl, by rw [hR]; rfl⟩, HBR.out⟩
set_option maxHeartbeats 400000 in
theorem containsspan_any (A : Option Addr) (n c : Nat) (l : List Sp) (k : K) (b : Nat) (w : World) (h : Spans w A n l) (hk : KBox w b k) (hn : n ≤ 9223372036854775807) :
    Calls Try.prog 39 #[.slice A n c, .func (.func 40) #[] #[.pointer (some ⟨b, 0, none⟩)]] w fun e w' => e = .returned (.bool (l.any (inSp k))) ∧ Below w.heap.size w w' := by
  have HI := Lib.hid (indexspan_any A n c l k b w h hk hn)
  clear h hk
  go_enter Try.func39, Try.ntmps39
  go_wp2_with fail
  refine Calls.mono HI.out ?_
  rintro e w1 ⟨⟨z, rfl, hz⟩, hb1⟩
  have HB1 := Lib.hid hb1
  have HZ := Lib.hid hz
  clear hb1 hz
  go_wp2_with fail
  go_ret
  exact ⟨by rw [← HZ.out]; exact rfl, HB1.out⟩
end Go.Proofs.Ytmicheheibkmjaa
