/- The document's Take: its memory. -/
import Derived.Test.YtmicheheibkmjaaFTakeR
import Derived.Test.YtmicheheibkmjaaFTakeW
namespace Go.Proofs.Ytmicheheibkmjaa
set_option maxRecDepth 100000
open Go.RowKit Go.Shelf

/-- A foot under way in a box, and the document's reader. -/
structure RSI (W1 W : World) (B g M bx : Nat) (v1 v2 : Value) (r1 : List K) (r2 : List Sp) (bs : List Nat) (bad : Bool) : Prop where
  rfx : Rfx W B g bs bad
  os : W.os = W1.os
  tape : W.tape = W1.tape
  output : W.output = W1.output
  size : W1.heap.size ≤ W.heap.size
  keep : ∀ k, k < M → k ≠ g → W.heap[k]? = W1.heap[k]?
  box : W.heap[bx]? = some (.cells #[v1, v2, nilS] 30 (0, 0))
  o1 : W.ownsRow M 24 2 v1 r1.length (rowV K.vals r1)
  o2 : W.ownsRow W1.heap.size 54 3 v2 r2.length (rowV Sp.vals r2)
/-- Where things lie. -/
structure LayR (W1 : World) (B g M bx : Nat) : Prop where
  base : B ≤ M
  rdr : g < M
  box : M ≤ bx
  low : bx < W1.heap.size
theorem own_of_box {W : World} {bx B e size n : Nat} {v u1 u2 u3 : Value} {xs : List Value} (h : W.ownsRow B e size v n xs) (hb : W.heap[bx]? = some (.cells #[u1, u2, u3] 30 (0, 0))) (he : e ≠ 30) : v.ownBlock ≠ some bx := by
  intro hk
  rcases h.2 with ⟨rfl, _⟩ | ⟨g, cap, cur, rfl, _, hg', _⟩
  · cases hk
  · injection hk with hk
    subst hk
    rw [hb] at hg'
    injection hg' with hg'
    injection hg' with _ a2
    exact he a2.symm
section
variable {W1 W W' : World} {B g : Nat} {v1 v2 v2' : Value} {M bx : Nat} {r1 : List K} {r2 : List Sp} {bs bs' : List Nat} {bad bad' : Bool}
theorem RSI.step (h : RSI W1 W B g M bx v1 v2 r1 r2 bs bad) (L : LayR W1 B g M bx) (hr : Rfx W' B g bs' bad') (ho : OnlyG W W' g) : RSI W1 W' B g M bx v1 v2 r1 r2 bs' bad' := by
  have hV : ∀ k, Value.pointer (some ⟨g, 0, none⟩) = .pointer (some ⟨k, 0, none⟩) → k < M := fun k e => by injection e with e; injection e with e; injection e with e; have := L.rdr; omega
  have := L.box
  have := L.low
  have := L.rdr
  refine ⟨hr, ho.os.trans h.os, ho.tape.trans h.tape, ho.output.trans h.output, Nat.le_trans h.size ho.size, fun k hk hne => (ho.at (by have := h.size; omega) hne).trans (h.keep k hk hne), ?_, own_only h.o1 ho hV, own_only h.o2 ho fun k e => by have := hV k e; omega⟩
  exact (ho.at (Array.getElem?_eq_some_iff.1 h.box).1 (by omega)).trans h.box
theorem RSI.later (h : RSI W1 W B g M bx v1 v2 r1 r2 bs bad) (L : LayR W1 B g M bx) (hb : Below W.heap.size W W') : RSI W1 W' B g M bx v1 v2 r1 r2 bs bad := by
  have := L.base
  have := L.box
  have := L.low
  have := L.rdr
  have hs := h.size
  exact ⟨h.rfx.stays (hb.block g (by omega)) (fun k hk => hb.block k (by omega)), hb.os.trans h.os, hb.tape.trans h.tape, hb.output.trans h.output, Nat.le_trans hs hb.size, fun k hk hne => (hb.block k (by omega)).trans (h.keep k hk hne), (hb.block bx (by omega)).trans h.box, ownv_below h.o1 hb, ownv_below h.o2 hb⟩
/-- A box of one's own set. -/
theorem RSI.set (h : RSI W1 W B g M bx v1 v2 r1 r2 bs bad) (L : LayR W1 B g M bx) {b j : Nat} {u : Value} (hb : W1.heap.size ≤ b) (h1 : v1.ownBlock ≠ some b) (h2 : v2.ownBlock ≠ some b) : RSI W1 (W.setCell ⟨b, j, none⟩ u) B g M bx v1 v2 r1 r2 bs bad := by
  have := L.base
  have := L.box
  have := L.low
  have := L.rdr
  have keep : ∀ k, k ≠ b → (W.setCell ⟨b, j, none⟩ u).heap[k]? = W.heap[k]? := fun k hk => Deep.blk_setCell_other W ⟨b, j, none⟩ u k hk
  refine ⟨h.rfx.stays (keep g (by omega)) (fun k hk => keep k (by omega)), h.os, h.tape, h.output, by rw [World.size_setCell]; exact h.size, fun k hk hne => (keep k (by omega)).trans (h.keep k hk hne), (keep bx (by omega)).trans h.box, kept_of h.o1 (grown_setCell W b j u) fun k hk e => ?_, kept_of h.o2 (grown_setCell W b j u) fun k hk e => ?_⟩
  · injection e with e; subst e; exact h1 hk
  · injection e with e; subst e; exact h2 hk
theorem RSI.push (h : RSI W1 W B g M bx v1 v2 r1 r2 bs bad) (L : LayR W1 B g M bx) (y : Sp) {o : Obj} (ho : W'.ownsRow W1.heap.size 54 3 v2' (r2.length + 1) (rowV Sp.vals r2 ++ y.vals)) (hg : (W.alloc o).grownBy W' v2.ownBlock) :
    W'.heap[bx]? = some (.cells #[v1, v2, nilS] 30 (0, 0)) ∧ RSI W1 (W'.setCell ⟨bx, 1, none⟩ v2') B g M bx v1 v2' r1 (r2 ++ [y]) bs bad := by
  have hs := h.size
  have hs2 := hg.size
  rw [World.size_alloc] at hs2
  have l0 := L.base
  have l1 := L.box
  have l2 := L.low
  have l3 := L.rdr
  have keep : ∀ k, k < W1.heap.size → W'.heap[k]? = W.heap[k]? := fun k hk => (hg.block k (by rw [World.size_alloc]; omega) (fun e => by have := (h.o2.lt k e.symm).1; omega)).trans (heap_alloc_old W o (by omega))
  have hbx := (keep bx l2).trans h.box
  have q1 : W'.ownsRow M 24 2 v1 r1.length (rowV K.vals r1) := kept_of (World.ownsRow.alloc h.o1 o) hg (fun k hk e => own_apart (own_base h.o1) (own_base h.o2) (by decide) k hk e)
  have keep2 : ∀ k, k ≠ bx → (W'.setCell ⟨bx, 1, none⟩ v2').heap[k]? = W'.heap[k]? := fun k hk => Deep.blk_setCell_other W' ⟨bx, 1, none⟩ v2' k hk
  refine ⟨hbx, ⟨?_, hg.os.trans h.os, hg.tape.trans h.tape, hg.output.trans h.output, by rw [World.size_setCell]; omega, fun k hk hne => (keep2 k (by omega)).trans ((keep k (by omega)).trans (h.keep k hk hne)), ?_, ?_, ?_⟩⟩
  · exact h.rfx.stays ((keep2 g (by omega)).trans (keep g (by omega))) fun k hk => (keep2 k (by omega)).trans (keep k (by omega))
  · exact box_set hbx 1 v2'
  · refine kept_of q1 (grown_setCell W' bx 1 v2') fun k hk e => ?_
    injection e with e
    subst e
    exact own_of_box q1 hbx (by decide) hk
  · have q2 := own_set_box (u := v2') (j := 1) ho l2
    rw [List.length_append, rowV_append]
    have e : rowV Sp.vals [y] = y.vals := by simp [rowV]
    rw [e]
    exact q2
theorem RSI.cells (h : RSI W1 W B g M bx v1 v2 r1 r2 bs bad) : W.cell? ⟨bx, 0, none⟩ = some v1 ∧ W.cell? ⟨bx, 1, none⟩ = some v2 ∧ ∀ o, W.frozen? ⟨bx, o, none⟩ = false :=
  ⟨(cell_of_row W _ 0 _ 30 (0, 0) h.box).trans rfl, (cell_of_row W _ 1 _ 30 (0, 0) h.box).trans rfl, fun o => frozen_box h.box o⟩
end
theorem results29 (w : World) (g : Nat) (x : FV) (v : Value) (h : FBox w g x) (tmps : Array Value) (h2 : tmps.getD 2 undef = .pointer (some ⟨g, 0, none⟩)) (h3 : tmps.getD 3 undef = v) :
    (results Try.f29 tmps).run Try.prog w = .ok (.tuple #[x.val, v]) w := by
  have h2' : tmps[2]?.getD undef = .pointer (some ⟨g, 0, none⟩) := by simpa using h2
  have h3' : tmps[3]?.getD undef = v := by simpa using h3
  have c0 := h.c0
  have c1 := h.c1
  have c2 := h.c2
  have e : Try.f29.results = #[.cell 2 30, .tmp 3] := Try.results29
  have hl : (loadVar 30 ⟨g, 0, none⟩).run Try.prog w = .ok x.val w := by unfold FV.val FV.cs; simp [go_sem, c0, c1, c2]
  simp only [results, e]
  simp [asAddr, h2', hl, h3']
/-- The last keys stored. -/
theorem FN.makeR {w W1 W W' : World} {B g : Nat} {v1 v2 v3 : Value} {M bx : Nat} {r1 r3 : List K} {r2 : List Sp} {bs bs' : List Nat} {bad bad' : Bool} (h : RSI W1 W B g M bx v1 v2 r1 r2 bs bad) (L : LayR W1 B g M bx) (h3 : RKI W W' B g v3 r3 bs' bad')
    (hG : w.heap.size < g) (hw : Below w.heap.size w W1) (hret : W1.heap[w.heap.size]? = some (.cells #[.slice none 0 0, .slice none 0 0, .slice none 0 0] 30 (0, 0))) (fit : ∀ s ∈ r2, FitS s) :
    W'.cell? ⟨bx, 2, none⟩ = some (.slice none 0 0) ∧ W'.frozen? ⟨bx, 2, none⟩ = false ∧ FN w (W'.setCell ⟨bx, 2, none⟩ v3) bx v1 v2 v3 r1 r2 r3 ∧ Rfx (W'.setCell ⟨bx, 2, none⟩ v3) B g bs' bad' := by
  have h5 := h.step L h3.rfx h3.only
  have l0 := L.base
  have l1 := L.box
  have l2 := L.low
  have l3 := L.rdr
  have hsz := h.size
  have keep2 : ∀ k, k ≠ bx → (W'.setCell ⟨bx, 2, none⟩ v3).heap[k]? = W'.heap[k]? := fun k hk => Deep.blk_setCell_other W' ⟨bx, 2, none⟩ v3 k hk
  refine ⟨(cell_of_row W' bx 2 _ 30 (0, 0) h5.box).trans rfl, frozen_box h5.box 2, ⟨⟨h5.os.trans hw.os, h5.tape.trans hw.tape, h5.output.trans hw.output, by rw [World.size_setCell]; exact Nat.le_trans hw.size h5.size, fun k hk => ?_⟩, ?_, ?_, ?_, ?_, ?_, fit⟩, ?_⟩
  · exact (keep2 k (by omega)).trans ((h5.keep k (by omega) (by omega)).trans (hw.block k hk))
  · exact (keep2 _ (by omega)).trans ((h5.keep _ (by omega) (by omega)).trans hret)
  · rw [box_set h5.box 2 v3]; rfl
  · have q := h5.o1
    refine own_mono (B := M) (kept_of q (grown_setCell W' bx 2 v3) fun k hk e => ?_) (by omega)
    injection e with e
    subst e
    exact own_of_box q h5.box (by decide) hk
  · exact own_mono (own_set_box (j := 2) (u := v3) h5.o2 l2) (by omega)
  · exact own_mono (own_set_box (j := 2) (u := v3) h3.own (b := bx) (by omega)) (by omega)
  · exact h5.rfx.stays (keep2 g (by omega)) fun k hk => keep2 k (by omega)
/-- What the document answers. -/
noncomputable def okM (bs : List Nat) : Bool := (!(takeM bs).2.2 && decide ((takeM bs).2.1 = [])) && (goodB (takeM bs).1 && decide (putB (takeM bs).1 = bs))
noncomputable def footM (bs : List Nat) : Ft := if okM bs then (takeM bs).1 else noFt
theorem okM_eq {xs : List Nat} {f : Ft} {bs : List Nat} {d : Bool} (h : takeM xs = (f, bs, d)) : okM xs = ((!d && decide (bs = [])) && (goodB f && decide (putB f = xs))) := by unfold okM; rw [h]
theorem okM_yes {xs : List Nat} {f : Ft} (h : takeM xs = (f, [], false)) (hg : goodB f = true) (hp : putB f = xs) : okM xs = true ∧ footM xs = f := by
  have e : okM xs = true := by rw [okM_eq h, hg, decide_eq_true hp]; rfl
  unfold footM
  rw [e, h]
  exact ⟨rfl, rfl⟩
theorem okM_no {xs : List Nat} (h : okM xs = false) : okM xs = false ∧ footM xs = noFt := by
  unfold footM
  rw [h]
  exact ⟨rfl, rfl⟩
end Go.Proofs.Ytmicheheibkmjaa
