/- foot.Join: its memory, the walk. -/
import Derived.Test.YtmicheheibkmjaaFSpO
namespace Go.Proofs.Ytmicheheibkmjaa
set_option maxRecDepth 100000
open Go.RowKit Go.Shelf

def nilS : Value := .slice none 0 0
/-- A foot under way, in a box of its own, of rows of its own. -/
structure JI (w W : World) (v1 v2 v3 : Value) (r1 : List K) (r2 : List Sp) (r3 : List K) : Prop where
  below : Below w.heap.size w W
  ret : W.heap[w.heap.size]? = some (.cells #[nilS, nilS, nilS] 30 (0, 0))
  box : W.heap[w.heap.size + 1]? = some (.cells #[v1, v2, v3] 30 (0, 0))
  o1 : W.ownsRow (w.heap.size + 2) 24 2 v1 r1.length (rowV K.vals r1)
  o2 : W.ownsRow (w.heap.size + 2) 54 3 v2 r2.length (rowV Sp.vals r2)
  o3 : W.ownsRow (w.heap.size + 2) 24 2 v3 r3.length (rowV K.vals r3)
  a13 : ∀ k, v1.ownBlock = some k → v3.ownBlock ≠ some k
theorem own_apart {w : World} {B e e' size size' n n' : Nat} {v v' : Value} {xs ys : List Value} (h : w.ownsRow B e size v n xs) (h' : w.ownsRow B e' size' v' n' ys) (hne : e ≠ e') : ∀ q, v.ownBlock = some q → v'.ownBlock ≠ some q := by
  intro q hq e2
  rcases h.2 with ⟨rfl, _⟩ | ⟨g, cap, cur, rfl, _, hg, _⟩
  · cases hq
  · injection hq with hq
    rcases h'.2 with ⟨rfl, _⟩ | ⟨g', cap', cur', rfl, _, hg', _⟩
    · cases e2
    · injection e2 with e2
      have h1 : g = g' := hq.trans e2.symm
      subst h1
      rw [hg] at hg'
      injection hg' with hg'
      injection hg' with _ a2
      exact hne a2
theorem kept_of {w w' : World} {B e size n : Nat} {v : Value} {xs : List Value} {row : Option Nat} (h : w.ownsRow B e size v n xs) (hg : w.grownBy w' row) (hne : ∀ k, v.ownBlock = some k → row ≠ some k) : w'.ownsRow B e size v n xs := by
  refine h.kept hg ?_
  cases hv : v.ownBlock with
  | none => exact .inl rfl
  | some k => exact .inr (fun q => hne k hv q.symm)
section
variable {w W W' : World} {v1 v2 v3 v1' v2' v3' : Value} {r1 r3 r1' r3' : List K} {r2 r2' : List Sp}
theorem JI.keep (h : JI w W v1 v2 v3 r1 r2 r3) (hb : Below W.heap.size W W') : JI w W' v1 v2 v3 r1 r2 r3 :=
  ⟨h.below.trans (hb.mono h.below.size), (hb.block _ (Array.getElem?_eq_some_iff.1 h.ret).1).trans h.ret, (hb.block _ (Array.getElem?_eq_some_iff.1 h.box).1).trans h.box, ownv_below h.o1 hb, ownv_below h.o2 hb, ownv_below h.o3 hb, h.a13⟩
theorem JI.c (h : JI w W v1 v2 v3 r1 r2 r3) : W.cell? ⟨w.heap.size + 1, 0, none⟩ = some v1 ∧ W.cell? ⟨w.heap.size + 1, 1, none⟩ = some v2 ∧ W.cell? ⟨w.heap.size + 1, 2, none⟩ = some v3 :=
  ⟨(cell_of_row W _ 0 _ 30 (0, 0) h.box).trans rfl, (cell_of_row W _ 1 _ 30 (0, 0) h.box).trans rfl, (cell_of_row W _ 2 _ 30 (0, 0) h.box).trans rfl⟩
theorem frozen_box {W : World} {b : Nat} {c : Array Value} {t : TypeId} (h : W.heap[b]? = some (.cells c t (0, 0))) (j : Nat) : W.frozen? ⟨b, j, none⟩ = false := by
  unfold World.frozen?
  simp [h]
theorem box_set {W : World} {b : Nat} {c : Array Value} {t : TypeId} (h : W.heap[b]? = some (.cells c t (0, 0))) (j : Nat) (v : Value) : (W.setCell ⟨b, j, none⟩ v).heap[b]? = some (.cells (c.setIfInBounds j v) t (0, 0)) := by
  unfold World.setCell
  simp only [Array.getElem?_modify, h]
  simp
theorem JI.low (h : JI w W v1 v2 v3 r1 r2 r3) : w.heap.size + 2 ≤ W.heap.size := (Array.getElem?_eq_some_iff.1 h.box).1
/-- What a step on a row of its own leaves of the box and of the others. -/
theorem JI.grown (h : JI w W v1 v2 v3 r1 r2 r3) {row : Option Nat} (hg : W.grownBy W' row) (hr : ∀ k, row = some k → w.heap.size + 2 ≤ k) :
    Below w.heap.size w W' ∧ W'.heap[w.heap.size]? = some (.cells #[nilS, nilS, nilS] 30 (0, 0)) ∧ W'.heap[w.heap.size + 1]? = some (.cells #[v1, v2, v3] 30 (0, 0)) := by
  have hl := h.low
  refine ⟨h.below.grown hg h.below.size (fun k hk => by have := hr k hk; omega), (hg.block _ (by omega) (fun e => ?_)).trans h.ret, (hg.block _ (by omega) (fun e => ?_)).trans h.box⟩
  · have := hr _ e.symm; omega
  · have := hr _ e.symm; omega
theorem own_set_box {W : World} {b B e size n j : Nat} {v u : Value} {xs : List Value} (h : W.ownsRow B e size v n xs) (hb : b < B) : (W.setCell ⟨b, j, none⟩ u).ownsRow B e size v n xs :=
  kept_of h (grown_setCell W b j u) fun k hk e => by
    injection e with e
    have := (h.lt k hk).1
    omega
theorem JI.app1 (h : JI w W v1 v2 v3 r1 r2 r3) {m : Nat} (ho : W'.ownsRow (w.heap.size + 2) 24 2 v1' m (rowV K.vals r1')) (hm : r1'.length = m) (hg : W.grownBy W' v1.ownBlock) (hk : ∀ q, v1'.ownBlock = some q → v1.ownBlock = some q ∨ W.heap.size ≤ q) :
    JI w (W'.setCell ⟨w.heap.size + 1, 0, none⟩ v1') v1' v2 v3 r1' r2 r3 := by
  obtain ⟨g1, g2, g3⟩ := h.grown hg (fun k hk => (h.o1.lt k hk).1)
  subst hm
  refine ⟨below_grown2 (grown_trans (r := some (w.heap.size + 1)) ⟨g1.os, g1.tape, g1.output, g1.size, fun k hk _ => g1.block k hk⟩ (grown_setCell W' _ _ _)) (by omega) (Nat.le_refl _), ?_, ?_, own_set_box ho (by omega), own_set_box (kept_of h.o2 hg (fun k hk => fun e => own_apart h.o2 h.o1 (by decide) k hk e)) (by omega), own_set_box (kept_of h.o3 hg (fun k hk => fun e => h.a13 k e hk)) (by omega), ?_⟩
  · rw [Below.heap_setCell _ _ _ _ (by simp)]; exact g2
  · rw [box_set g3]; rfl
  · intro k hk2 hk3
    rcases hk k hk2 with q | q
    · exact h.a13 k q hk3
    · have := (h.o3.lt k hk3).2; omega
theorem JI.app2 (h : JI w W v1 v2 v3 r1 r2 r3) {m : Nat} (ho : W'.ownsRow (w.heap.size + 2) 54 3 v2' m (rowV Sp.vals r2')) (hm : r2'.length = m) (hg : W.grownBy W' v2.ownBlock) :
    JI w (W'.setCell ⟨w.heap.size + 1, 1, none⟩ v2') v1 v2' v3 r1 r2' r3 := by
  obtain ⟨g1, g2, g3⟩ := h.grown hg (fun k hk => (h.o2.lt k hk).1)
  subst hm
  refine ⟨below_grown2 (grown_trans (r := some (w.heap.size + 1)) ⟨g1.os, g1.tape, g1.output, g1.size, fun k hk _ => g1.block k hk⟩ (grown_setCell W' _ _ _)) (by omega) (Nat.le_refl _), ?_, ?_, own_set_box (kept_of h.o1 hg (fun k hk => fun e => own_apart h.o1 h.o2 (by decide) k hk e)) (by omega), own_set_box ho (by omega), own_set_box (kept_of h.o3 hg (fun k hk => fun e => own_apart h.o3 h.o2 (by decide) k hk e)) (by omega), h.a13⟩
  · rw [Below.heap_setCell _ _ _ _ (by simp)]; exact g2
  · rw [box_set g3]; rfl
theorem JI.app3 (h : JI w W v1 v2 v3 r1 r2 r3) {m : Nat} (ho : W'.ownsRow (w.heap.size + 2) 24 2 v3' m (rowV K.vals r3')) (hm : r3'.length = m) (hg : W.grownBy W' v3.ownBlock) (hk : ∀ q, v3'.ownBlock = some q → v3.ownBlock = some q ∨ W.heap.size ≤ q) :
    JI w (W'.setCell ⟨w.heap.size + 1, 2, none⟩ v3') v1 v2 v3' r1 r2 r3' := by
  obtain ⟨g1, g2, g3⟩ := h.grown hg (fun k hk => (h.o3.lt k hk).1)
  subst hm
  refine ⟨below_grown2 (grown_trans (r := some (w.heap.size + 1)) ⟨g1.os, g1.tape, g1.output, g1.size, fun k hk _ => g1.block k hk⟩ (grown_setCell W' _ _ _)) (by omega) (Nat.le_refl _), ?_, ?_, own_set_box (kept_of h.o1 hg (fun k hk => fun e => h.a13 k hk e)) (by omega), own_set_box (kept_of h.o2 hg (fun k hk => fun e => own_apart h.o2 h.o3 (by decide) k hk e)) (by omega), own_set_box ho (by omega), ?_⟩
  · rw [Below.heap_setCell _ _ _ _ (by simp)]; exact g2
  · rw [box_set g3]; rfl
  · intro k hk2 hk3
    rcases hk k hk3 with q | q
    · exact h.a13 k hk2 q
    · have := (h.o1.lt k hk2).2; omega
end
end Go.Proofs.Ytmicheheibkmjaa
