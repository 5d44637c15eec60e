/- Which feet meet. -/
import Derived.Test.YtmicheheibkmjaaGRead
namespace Go.Proofs.Ytmicheheibkmjaa
set_option maxRecDepth 100000
open Go.RowKit Go.Shelf

/-- A foot. -/
structure Ft where
  rs : List K
  sp : List Sp
  ws : List K
/-- A foot's slices. -/
structure FV where
  A : Option Addr
  n : Nat
  c : Nat
  A2 : Option Addr
  n2 : Nat
  c2 : Nat
  A3 : Option Addr
  n3 : Nat
  c3 : Nat
def FV.cs (x : FV) : Array Value := #[.slice x.A x.n x.c, .slice x.A2 x.n2 x.c2, .slice x.A3 x.n3 x.c3]
def FV.val (x : FV) : Value := .agg x.cs
/-- It reads as a foot. -/
structure FtAt (w : World) (x : FV) (f : Ft) : Prop where
  rs : Keys w x.A x.n f.rs
  sp : Spans w x.A2 x.n2 f.sp
  ws : Keys w x.A3 x.n3 f.ws
  small : x.n ≤ 9223372036854775807 ∧ x.n2 ≤ 9223372036854775807 ∧ x.n3 ≤ 9223372036854775807
theorem FtAt.below {w w' : World} {x : FV} {f : Ft} (h : FtAt w x f) (hb : Below w.heap.size w w') : FtAt w' x f := ⟨h.rs.below hb, h.sp.below hb, h.ws.below hb, h.small⟩
def readsB (f : Ft) (k : K) : Bool := decide (k ∈ f.rs) || f.sp.any (inSp k)
def writesB (f : Ft) (k : K) : Bool := decide (k ∈ f.ws)
def touchB (f : Ft) (k : K) : Bool := readsB f k || writesB f k
def hitsB (a b : Ft) : Bool := a.ws.any (touchB b)
def meetB (a b : Ft) : Bool := hitsB a b || hitsB b a
/-- A foot in a box. -/
def FBox (w : World) (b : Nat) (x : FV) : Prop := w.heap[b]? = some (.cells x.cs 30 (0, 0))
theorem FBox.below {w w' : World} {b : Nat} {x : FV} (h : FBox w b x) (hb : Below w.heap.size w w') : FBox w' b x := (hb.block b (Array.getElem?_eq_some_iff.1 h).1).trans h
theorem FBox.c0 {w : World} {b : Nat} {x : FV} (h : FBox w b x) : w.cell? ⟨b, 0, none⟩ = some (.slice x.A x.n x.c) := (cell_of_row w b 0 _ 30 (0, 0) h).trans rfl
theorem FBox.c1 {w : World} {b : Nat} {x : FV} (h : FBox w b x) : w.cell? ⟨b, 1, none⟩ = some (.slice x.A2 x.n2 x.c2) := (cell_of_row w b 1 _ 30 (0, 0) h).trans rfl
theorem FBox.c2 {w : World} {b : Nat} {x : FV} (h : FBox w b x) : w.cell? ⟨b, 2, none⟩ = some (.slice x.A3 x.n3 x.c3) := (cell_of_row w b 2 _ 30 (0, 0) h).trans rfl

set_option maxHeartbeats 1000000 in
theorem reads_any (x : FV) (f : Ft) (k : K) (w : World) (h : FtAt w x f) : Calls Try.prog 16 #[x.val, k.val] w fun e w' => e = .returned (.bool (readsB f k)) ∧ Below w.heap.size w w' := by
  obtain ⟨h1, h2, h3⟩ := alloc2g w (.cells x.cs 30) (.cells #[.int .i64 k.t, .int .i64 k.k] 24)
  have HB := Lib.hid h3
  have HF := Lib.hid (show FBox ((w.alloc (.cells x.cs 30)).alloc (.cells #[.int .i64 k.t, .int .i64 k.k] 24)) w.heap.size x from h1)
  have HK := Lib.hid (show KBox ((w.alloc (.cells x.cs 30)).alloc (.cells #[.int .i64 k.t, .int .i64 k.k] 24)) (w.heap.size + 1) k from h2)
  have HH := Lib.hid (h.below h3)
  unfold FV.cs at HB HF HK HH
  unfold FV.val FV.cs K.val
  clear h1 h2 h3 h
  go_enter Try.func16, Try.ntmps16
  go_upto_region 1 with fail
  revert HB HF HK HH
  generalize World.alloc (World.alloc w _) _ = W
  intro HB HF HK HH
  have C := contains_any x.A x.n x.c f.rs k W HH.out.rs HH.out.small.1
  unfold K.val at C
  have y0 := HF.out.c0
  have k0 := HK.out.c0
  have k1 := HK.out.c1
  by_cases hr : k ∈ f.rs
  · rw [decide_eq_true hr] at C
    have HC := Lib.hid C
    have HE := Lib.hid (show readsB f k = true by simp [readsB, hr])
    clear C hr
    go_wp2_with fail
    refine Calls.mono HC.out ?_
    rintro e w1 ⟨rfl, hb1⟩
    have HB1 := Lib.hid (HB.out.trans (hb1.mono HB.out.size))
    clear hb1 y0 k0 k1
    go_wp2_with fail
    go_ret
    exact ⟨by rw [HE.out]; rfl, HB1.out⟩
  · rw [decide_eq_false hr] at C
    have HC := Lib.hid C
    have HE := Lib.hid (show readsB f k = f.sp.any (inSp k) by simp [readsB, hr])
    clear C hr
    go_wp2_with fail
    refine Calls.mono HC.out ?_
    rintro e w1 ⟨rfl, hb1⟩
    have HB1 := Lib.hid (HB.out.trans (hb1.mono HB.out.size))
    have HS := Lib.hid (containsspan_any x.A2 x.n2 x.c2 f.sp k (w.heap.size + 1) w1 (HH.out.sp.below hb1) (HK.out.below hb1) HH.out.small.2.1)
    have y1 := (HF.out.below hb1).c1
    clear hb1 y0 k0 k1
    go_wp2_with fail
    refine Calls.mono HS.out ?_
    rintro e w2 ⟨rfl, hb2⟩
    have HB2 := Lib.hid (HB1.out.trans (hb2.mono HB1.out.size))
    clear hb2 y1
    go_wp2_with fail
    go_ret
    exact ⟨by rw [HE.out]; rfl, HB2.out⟩
set_option maxHeartbeats 1000000 in
theorem writes_any (x : FV) (f : Ft) (k : K) (w : World) (h : FtAt w x f) : Calls Try.prog 17 #[x.val, k.val] w fun e w' => e = .returned (.bool (writesB f k)) ∧ Below w.heap.size w w' := by
  obtain ⟨h1, h2, h3⟩ := alloc2g w (.cells x.cs 30) (.cells #[.int .i64 k.t, .int .i64 k.k] 24)
  have HB := Lib.hid h3
  have HF := Lib.hid (show FBox ((w.alloc (.cells x.cs 30)).alloc (.cells #[.int .i64 k.t, .int .i64 k.k] 24)) w.heap.size x from h1)
  have HK := Lib.hid (show KBox ((w.alloc (.cells x.cs 30)).alloc (.cells #[.int .i64 k.t, .int .i64 k.k] 24)) (w.heap.size + 1) k from h2)
  have HH := Lib.hid (h.below h3)
  unfold FV.cs at HB HF HK HH
  unfold FV.val FV.cs K.val
  clear h1 h2 h3 h
  go_enter Try.func17, Try.ntmps17
  go_upto_region 1 with fail
  revert HB HF HK HH
  generalize World.alloc (World.alloc w _) _ = W
  intro HB HF HK HH
  have C := contains_any x.A3 x.n3 x.c3 f.ws k W HH.out.ws HH.out.small.2.2
  unfold K.val at C
  have HC := Lib.hid C
  have y0 := HF.out.c2
  have k0 := HK.out.c0
  have k1 := HK.out.c1
  have HE := Lib.hid (show writesB f k = decide (k ∈ f.ws) from rfl)
  clear C
  go_wp2_with fail
  refine Calls.mono HC.out ?_
  rintro e w1 ⟨rfl, hb1⟩
  have HB1 := Lib.hid (HB.out.trans (hb1.mono HB.out.size))
  clear hb1 y0 k0 k1
  go_wp2_with fail
  go_ret
  exact ⟨by rw [HE.out]; rfl, HB1.out⟩
set_option maxHeartbeats 1000000 in
theorem touch_any (x : FV) (f : Ft) (k : K) (b : Nat) (w : World) (h : FtAt w x f) (hf : FBox w b x) : Calls Try.prog 78 #[k.val, .pointer (some ⟨b, 0, none⟩)] w fun e w' => e = .returned (.bool (touchB f k)) ∧ Below w.heap.size w w' := by
  have hbx := (Below.refl w.heap.size w).alloc (Nat.le_refl _) (.cells #[.int .i64 k.t, .int .i64 k.k] 24)
  have HB := Lib.hid hbx
  have HK := Lib.hid (show KBox (w.alloc (.cells #[.int .i64 k.t, .int .i64 k.k] 24)) w.heap.size k from heap_alloc_new w _)
  have HH := Lib.hid (h.below hbx)
  have HF := Lib.hid (hf.below hbx)
  unfold K.val
  clear hbx h hf
  go_enter Try.func78, Try.ntmps78
  go_upto_region 1 with fail
  revert HB HF HK HH
  generalize World.alloc w _ = W
  intro HB HK HH HF
  have C := reads_any x f k W HH.out
  unfold FV.val FV.cs K.val at C
  have y0 := HF.out.c0
  have y1 := HF.out.c1
  have y2 := HF.out.c2
  have k0 := HK.out.c0
  have k1 := HK.out.c1
  cases hr : readsB f k with
  | true =>
    rw [hr] at C
    have HC := Lib.hid C
    have HE := Lib.hid (show touchB f k = true by simp [touchB, hr])
    clear C hr
    go_wp2_with fail
    refine Calls.mono HC.out ?_
    rintro e w1 ⟨rfl, hb1⟩
    have HB1 := Lib.hid (HB.out.trans (hb1.mono HB.out.size))
    clear hb1 y0 y1 y2 k0 k1
    go_wp2_with fail
    go_ret
    exact ⟨by rw [HE.out]; rfl, HB1.out⟩
  | false =>
    rw [hr] at C
    have HC := Lib.hid C
    have HE := Lib.hid (show touchB f k = writesB f k by simp [touchB, hr])
    clear C hr
    go_wp2_with fail
    refine Calls.mono HC.out ?_
    rintro e w1 ⟨rfl, hb1⟩
    have HB1 := Lib.hid (HB.out.trans (hb1.mono HB.out.size))
    have C := writes_any x f k w1 (HH.out.below hb1)
    unfold FV.val FV.cs K.val at C
    have HC2 := Lib.hid C
    have HF1 := HF.out.below hb1
    have HK1 := HK.out.below hb1
    clear y0 y1 y2 k0 k1 C
    have y0 := HF1.c0
    have y1 := HF1.c1
    have y2 := HF1.c2
    have k0 := HK1.c0
    have k1 := HK1.c1
    clear hb1 HF1 HK1
    go_wp2_with fail
    refine Calls.mono HC2.out ?_
    rintro e w2 ⟨rfl, hb2⟩
    have HB2 := Lib.hid (HB1.out.trans (hb2.mono HB1.out.size))
    clear hb2 y0 y1 y2 k0 k1
    go_wp2_with fail
    go_ret
    exact ⟨by rw [HE.out]; rfl, HB2.out⟩
end Go.Proofs.Ytmicheheibkmjaa
