/- A row of spans under way, beside a span in a box. -/
import Derived.Test.YtmicheheibkmjaaFJoinW
import Derived.Test.YtmicheheibkmjaaFCompact
import Derived.Test.YtmicheheibkmjaaReg
namespace Go.Proofs.Ytmicheheibkmjaa
set_option maxRecDepth 100000
open Go.RowKit Go.Shelf

/-- A span in a box. -/
def SBox (w : World) (b : Nat) (x : Sp) : Prop := w.heap[b]? = some (.cells #[.int .i64 x.t, .int .i64 x.lo, .int .i64 x.hi] 54 (0, 0))
theorem SBox.c {w : World} {b : Nat} {x : Sp} (h : SBox w b x) : w.cell? ⟨b, 0, none⟩ = some (.int .i64 x.t) ∧ w.cell? ⟨b, 1, none⟩ = some (.int .i64 x.lo) ∧ w.cell? ⟨b, 2, none⟩ = some (.int .i64 x.hi) :=
  ⟨(cell_of_row w b 0 _ 54 (0, 0) h).trans rfl, (cell_of_row w b 1 _ 54 (0, 0) h).trans rfl, (cell_of_row w b 2 _ 54 (0, 0) h).trans rfl⟩
structure AI (w W : World) (x : Sp) (v : Value) (pre : List Sp) : Prop where
  below : Below w.heap.size w W
  box : SBox W w.heap.size x
  own : W.ownsRow (w.heap.size + 1) 54 3 v pre.length (rowV Sp.vals pre)
section
variable {w W W' : World} {x : Sp} {v v' : Value} {pre : List Sp}
theorem AI.low (h : AI w W x v pre) : w.heap.size + 1 ≤ W.heap.size := (Array.getElem?_eq_some_iff.1 h.box).1
theorem AI.later (h : AI w W x v pre) (hb : Below W.heap.size W W') : AI w W' x v pre :=
  ⟨h.below.trans (hb.mono h.below.size), (hb.block _ h.low).trans h.box, ownv_below h.own hb⟩
theorem AI.push (h : AI w W x v pre) (y : Sp) (ho : W'.ownsRow (w.heap.size + 1) 54 3 v' (pre.length + 1) (rowV Sp.vals pre ++ [.int .i64 y.t, .int .i64 y.lo, .int .i64 y.hi])) (hg : (W.alloc (.cells #[.int .i64 y.t, .int .i64 y.lo, .int .i64 y.hi] 54)).grownBy W' v.ownBlock) : AI w W' x v' (pre ++ [y]) := by
  have hlow := h.low
  have hb : Below (w.heap.size + 1) W (W.alloc (.cells #[.int .i64 y.t, .int .i64 y.lo, .int .i64 y.hi] 54)) := (Below.refl _ W).alloc hlow _
  have hb2 : Below (w.heap.size + 1) W W' := hb.grown hg (by rw [World.size_alloc]; omega) (fun q hq => (h.own.lt q hq).1)
  refine ⟨h.below.trans (hb2.mono (by omega)), (hb2.block _ (by omega)).trans h.box, ?_⟩
  rw [List.length_append, rowV_append]
  exact ho
theorem AI.set (h : AI w W x v pre) (j : Nat) (z : Int) (x' : Sp) (hx : (#[Value.int .i64 x.t, .int .i64 x.lo, .int .i64 x.hi] : Array Value).setIfInBounds j (.int .i64 z) = #[.int .i64 x'.t, .int .i64 x'.lo, .int .i64 x'.hi]) : AI w (W.setCell ⟨w.heap.size, j, none⟩ (.int .i64 z)) x' v pre := by
  refine ⟨below_grown2 (grown_trans (r := some w.heap.size) ⟨h.below.os, h.below.tape, h.below.output, h.below.size, fun k hk _ => h.below.block k hk⟩ (grown_setCell W _ _ _)) (Nat.le_refl _) (Nat.le_refl _), ?_, own_set_box h.own (by omega)⟩
  show (W.setCell ⟨w.heap.size, j, none⟩ (.int .i64 z)).heap[w.heap.size]? = _
  rw [box_set h.box, hx]
theorem AI.fr (h : AI w W x v pre) (j : Nat) : W.frozen? ⟨w.heap.size, j, none⟩ = false := frozen_box h.box j
end
end Go.Proofs.Ytmicheheibkmjaa
