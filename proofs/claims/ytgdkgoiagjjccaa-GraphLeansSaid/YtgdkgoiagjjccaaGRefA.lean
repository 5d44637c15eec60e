/- The document's 'all': on which ones each leans, also through others. -/
import Derived.Test.YtgdkgoiagjjccaaGReachD
import Derived.Test.YtgdkgoiagjjccaaSPlayS
import Derived.Deep.CutRange
import Derived.Deep.CutBlock
namespace Go.Proofs.Ytgdkgoiagjjccaa
set_option maxRecDepth 100000
open Go.RowKit

def allF (ls : List (List Int)) (l : List Int) (q x : Nat) : Bool := (l.take q).any fun y => decide (y = (x : Int)) || rB ls y.toNat (x : Int)
def midF (ls : List (List Int)) (l : List Int) (q m j x : Nat) : Bool := allF ls l q x || decide (x = m) || (decide (x < j) && rB ls m (x : Int))
theorem midF_zero (ls : List (List Int)) (l : List Int) (q m : Nat) : upd (allF ls l q) m true = midF ls l q m 0 := by
  funext x
  unfold midF
  by_cases e : x = m
  · subst e; rw [upd_same]; simp
  · rw [upd_other _ _ e, decide_eq_false e]; simp
theorem midF_next (ls : List (List Int)) (l : List Int) (q m j : Nat) : upd (midF ls l q m j) j (midF ls l q m j j || rB ls m (j : Int)) = midF ls l q m (j + 1) := by
  funext x
  by_cases e : x = j
  · subst e
    rw [upd_same]
    unfold midF
    simp [Nat.lt_irrefl, Bool.or_assoc]
  · rw [upd_other _ _ e]
    unfold midF
    have : decide (x < j + 1) = decide (x < j) := by
      by_cases h : x < j
      · rw [decide_eq_true h, decide_eq_true (by omega)]
      · rw [decide_eq_false h, decide_eq_false (by omega)]
    rw [this]
theorem midF_end {ls : List (List Int)} {l : List Int} {q m n x : Nat} (hq : q < l.length) (hm : l.getD q 0 = (m : Int)) (hx : x < n) : midF ls l q m n x = allF ls l (q + 1) x := by
  unfold midF allF
  rw [List.take_succ_eq_append_getElem hq, List.any_append, ← getD_of hq, hm, decide_eq_true hx]
  have : decide ((m : Int) = (x : Int)) = decide (x = m) := by
    by_cases h : x = m
    · subst h; simp
    · rw [decide_eq_false h, decide_eq_false (by omega)]
  simp [this, Bool.or_assoc]
theorem allF_end {ls : List (List Int)} (h : GoodL ls) (i x : Nat) : allF ls (ls.getD i []) (ls.getD i []).length x = rB ls i (x : Int) := by
  unfold allF
  rw [List.take_length, rB_eq h]
/-- A row of truths that is being made. -/
structure RB (wr : World) (g n : Nat) (f : Nat → Bool) (W : World) : Prop where
  below : Below g wr W
  blk : ∃ cur, W.heap[g]? = some (.cells cur 4 (0, 0))
  cells : ∀ x, x < n → W.cell? ⟨g, x, none⟩ = some (.bool (f x))
section
variable {wr W : World} {g n : Nat} {f f' : Nat → Bool}
theorem RB.fr (h : RB wr g n f W) (o : Nat) : W.frozen? ⟨g, o, none⟩ = false := by
  obtain ⟨cur, hc⟩ := h.blk
  exact frozen_of_row _ _ _ _ _ hc
theorem RB.set (h : RB wr g n f W) (k : Nat) (b : Bool) : RB wr g n (upd f k b) (W.setCell ⟨g, k, none⟩ (.bool b)) := by
  refine ⟨h.below.setCell (Nat.le_refl g) _, ?_, fun x hx => ?_⟩
  · obtain ⟨cur, hc⟩ := h.blk
    exact ⟨_, heap_setCell_same W g k cur 4 (.bool b) hc⟩
  · by_cases e : x = k
    · subst e; rw [upd_same]; exact set_same (h.cells x hx)
    · rw [upd_other _ _ e, set_off e]; exact h.cells x hx
theorem RB.same (h : RB wr g n f W) (e : ∀ x, x < n → f x = f' x) : RB wr g n f' W := ⟨h.below, h.blk, fun x hx => by rw [← e x hx]; exact h.cells x hx⟩
theorem RB.made (w : World) (n : Nat) (l : List Int) (ls : List (List Int)) : RB w w.heap.size n (allF ls l 0) (w.alloc (.cells (madeCells zB n) 4)) := by
  refine ⟨(Below.refl _ w).alloc (Nat.le_refl _) _, ⟨_, heap_alloc_new w _⟩, fun x hx => ?_⟩
  rw [cell_of_row _ _ _ _ _ (0, 0) (heap_alloc_new w _), made_at _ _ _ hx]
  simp [zB, Nat.mod_one, allF]
end
theorem elem120 : ElemT Try.prog 120 67 1 24 :=
  ⟨Try.underlying120, by kernel_rfl, by
    obtain ⟨i, hi, hz, h1, _⟩ := info_parts (show (Try.prog.info? 67).map (fun i => (i.zero, i.size, i.bytes)) = some (some (.slice none 0 0), 1, 24) by kernel_rfl)
    exact ⟨i, _, hi, hz, rfl⟩, by decide⟩
def rowsB (ga : Nat → Nat) (n k : Nat) : List Value := (List.range k).map fun j => .slice (some ⟨ga j, 0, none⟩) n n
/-- All rows as far as made. -/
structure AL (w : World) (ls : List (List Int)) (ga : Nat → Nat) (A : Option Addr) (c k n : Nat) (W : World) : Prop where
  below : Below w.heap.size w W
  outer : W.ownsRow w.heap.size 67 1 (.slice A k c) k (rowsB ga n k)
  inner : ∀ j, j < k → (∃ cur, W.heap[ga j]? = some (.cells cur 4 (0, 0))) ∧ ∀ x, x < n → W.cell? ⟨ga j, x, none⟩ = some (.bool (rB ls j (x : Int)))
/-- What reads as such rows. -/
def BR (W : World) (A : Option Addr) (n : Nat) (ls : List (List Int)) (k : Nat) : Prop := 0 < k → ∃ b off, A = some ⟨b, off, none⟩ ∧ ∀ j, j < k → ∃ g, W.cell? ⟨b, off + j, none⟩ = some (.slice (some ⟨g, 0, none⟩) n n) ∧ ∀ x, x < n → W.cell? ⟨g, x, none⟩ = some (.bool (rB ls j (x : Int)))
theorem BR.below {W W' : World} {A : Option Addr} {n k : Nat} {ls : List (List Int)} (h : BR W A n ls k) (hb : Below W.heap.size W W') : BR W' A n ls k := fun hk => by
  obtain ⟨b, off, e, hc⟩ := h hk
  refine ⟨b, off, e, fun j hj => ?_⟩
  obtain ⟨g, h1, h2⟩ := hc j hj
  exact ⟨g, (stays_w hb _ (World.block_lt_of_cell? _ _ h1)).trans h1, fun x hx => (stays_w hb _ (World.block_lt_of_cell? _ _ (h2 x hx))).trans (h2 x hx)⟩
section
variable {w W : World} {ls : List (List Int)} {ga : Nat → Nat} {A : Option Addr} {c k n : Nat}
theorem AL.ext (h : AL w ls ga A c k n W) {W' : World} (hb : Below W.heap.size W W') : AL w ls ga A c k n W' :=
  ⟨h.below.trans (hb.mono h.below.size), ownsRow_ext h.outer hb, fun j hj => by
    obtain ⟨⟨cur, h1⟩, h2⟩ := h.inner j hj
    have k := hb.block _ (Array.getElem?_eq_some_iff.1 h1).1
    exact ⟨⟨cur, k.trans h1⟩, fun x hx => by rw [(cell_frozen k).1]; exact h2 x hx⟩⟩
theorem AL.read (h : AL w ls ga A c k n W) : BR W A n ls k := fun hk => by
  obtain ⟨A', c', e, hr, _, _⟩ := rdv_own h.outer
  injection e with e _ _
  subst e
  obtain ⟨b, off, eA, hc⟩ := hr.2 hk
  refine ⟨b, off, eA, fun j hj => ⟨ga j, ?_, (h.inner j hj).2⟩⟩
  exact hc j _ (by unfold rowsB; rw [List.getElem?_map, List.getElem?_range hj]; rfl)
theorem AL.push (h : AL w ls ga A c k n W) {g : Nat} {A3 : Option Addr} {c3 : Nat} {w1 w2 w3 : World} (hb1 : Below W.heap.size W w1) (hblk : ∃ cur, w1.heap[g]? = some (.cells cur 4 (0, 0))) (hc : ∀ x, x < n → w1.cell? ⟨g, x, none⟩ = some (.bool (rB ls k (x : Int))))
    (hb2 : Below w1.heap.size w1 w2) (ho3 : w3.ownsRow w.heap.size 67 1 (.slice A3 (k + 1) c3) (k + 1) (rowsB ga n k ++ [.slice (some ⟨g, 0, none⟩) n n])) (hb3 : Below w.heap.size w2 w3) (hk : ∀ q, q < w2.heap.size → some q ≠ (Value.slice A k c).ownBlock → w3.heap[q]? = w2.heap[q]?) :
    AL w ls (upd ga k g) A3 c3 (k + 1) n w3 := by
  have h2 := (h.ext hb1).ext hb2
  have stay : ∀ (q : Nat) (cur : Array Value), w2.heap[q]? = some (.cells cur 4 (0, 0)) → w3.heap[q]? = w2.heap[q]? := fun q cur hq => by
    refine hk q (Array.getElem?_eq_some_iff.1 hq).1 fun e => ?_
    rcases h2.outer.2 with ⟨e2, _⟩ | ⟨g2, cap, cur2, e2, _, hg2, _⟩
    · injection e2 with e2 _ _
      rw [e2] at e
      cases e
    · injection e2 with e2 _ _
      rw [e2] at e
      injection e with e
      subst e
      rw [hq] at hg2
      injection hg2 with hg2
      injection hg2 with _ hg2
      exact absurd hg2 (by decide)
  refine ⟨h2.below.trans hb3, ?_, fun j hj => ?_⟩
  · have e : rowsB (upd ga k g) n (k + 1) = rowsB ga n k ++ [.slice (some ⟨g, 0, none⟩) n n] := by
      unfold rowsB
      rw [List.range_succ, List.map_append]
      congr 1
      · refine List.map_congr_left fun j hj => ?_
        have : j ≠ k := by have := List.mem_range.1 hj; omega
        rw [upd_other _ _ this]
      · simp [upd_same]
    rw [e]
    exact ho3
  · by_cases e : j = k
    · subst e
      rw [upd_same]
      obtain ⟨cur, hg⟩ := hblk
      have k2 := hb2.block g (Array.getElem?_eq_some_iff.1 hg).1
      have k3 := stay g cur (k2.trans hg)
      exact ⟨⟨cur, k3.trans (k2.trans hg)⟩, fun x hx => by rw [(cell_frozen (k3.trans k2)).1]; exact hc x hx⟩
    · rw [upd_other _ _ e]
      obtain ⟨⟨cur, h3⟩, h4⟩ := h2.inner j (by omega)
      have k3 := stay _ cur h3
      exact ⟨⟨cur, k3.trans h3⟩, fun x hx => by rw [(cell_frozen k3).1]; exact h4 x hx⟩
end
theorem al_nil (w : World) (ls : List (List Int)) (n : Nat) : AL w ls (fun _ => 0) none 0 0 n w := ⟨Below.refl _ w, World.ownsRow_nil _ _ _ _, fun j hj => by omega⟩
end Go.Proofs.Ytgdkgoiagjjccaa
