/- A plan beside a row of states. -/
import Derived.Test.YtgdkgoiagjjccaaSReady
import Derived.Test.YtgdkgoiagjjccaaSOnceM
import Derived.Test.YtgdkgoiagjjccaaSLarge
namespace Go.Proofs.Ytgdkgoiagjjccaa
set_option maxRecDepth 100000
open Go.RowKit

structure OI (w : World) (xb : Array Value) (B bp bt bw st : Nat) (sa : Nat → Option Addr) (sc : Nat → Nat) (s : PS) (f : Nat → Int) (W : World) : Prop where
  plan : PlanAt B W bp bt bw s sa sc
  below : Below w.heap.size w W
  box : W.heap[w.heap.size]? = some (.cells xb 69 (0, 0))
  cells : ∀ i, i < s.n → W.cell? ⟨st, i, none⟩ = some (.int .i64 (f i))
  free : ∀ o, W.frozen? ⟨st, o, none⟩ = false
  lt : w.heap.size < st ∧ st < W.heap.size
  low : w.heap.size < B
  nst : st ≠ bp ∧ st ≠ bt ∧ st ≠ bw
  nrow : ∀ i, i < s.n → ∀ a, sa i = some a → a.block ≠ st
section
variable {w : World} {xb : Array Value} {B bp bt bw st : Nat} {sa : Nat → Option Addr} {sc : Nat → Nat} {s : PS} {f : Nat → Int} {W : World}
theorem OI.ext {W' : World} (h : OI w xb B bp bt bw st sa sc s f W) (hb : Below W.heap.size W W') : OI w xb B bp bt bw st sa sc s f W' := by
  obtain ⟨c1, c2⟩ := cell_frozen (hb.block st h.lt.2)
  refine ⟨h.plan.below hb, h.below.trans (hb.mono h.below.size), (hb.block _ (Array.getElem?_eq_some_iff.1 h.box).1).trans h.box, fun i hi => (c1 i).trans (h.cells i hi), fun o => (c2 o).trans (h.free o), ⟨h.lt.1, Nat.lt_of_lt_of_le h.lt.2 hb.size⟩, h.low, h.nst, h.nrow⟩
theorem OI.alloc (h : OI w xb B bp bt bw st sa sc s f W) (o : Obj) : OI w xb B bp bt bw st sa sc s f (W.alloc o) := h.ext ((Below.refl _ W).alloc (Nat.le_refl _) o)
theorem OI.drewN (h : OI w xb B bp bt bw st sa sc s f W) (n : Nat) : OI w xb B bp bt bw st sa sc s f (W.drewN n) := h.ext ⟨rfl, rfl, rfl, Nat.le_refl _, fun _ _ => rfl⟩
theorem OI.picked {W' : World} {s' : PS} (h : OI w xb B bp bt bw st sa sc s f W) (hf : Fr [bp, bt, bw] W W') (hp : PlanAt B W' bp bt bw s' sa sc) (hn : s'.n = s.n) : OI w xb B bp bt bw st sa sc s' f W' := by
  have hlo := h.plan.lo
  have hlw := h.low
  obtain ⟨c1, c2⟩ := cell_frozen (hf.block st h.lt.2 (by simp; exact h.nst))
  refine ⟨hp, Fr.below h.below hf h.below.size (by intro b hb; simp at hb; omega), (hf.block _ (Array.getElem?_eq_some_iff.1 h.box).1 (by simp; omega)).trans h.box, fun i hi => (c1 i).trans (h.cells i (hn ▸ hi)), fun o => (c2 o).trans (h.free o), ⟨h.lt.1, Nat.lt_of_lt_of_le h.lt.2 hf.size⟩, h.low, h.nst, fun i hi => h.nrow i (hn ▸ hi)⟩
theorem PlanAt.setFar (h : PlanAt B W bp bt bw s sa sc) {g : Nat} (hn : g ≠ bp ∧ g ≠ bt ∧ g ≠ bw) (hr : ∀ i, i < s.n → ∀ a, sa i = some a → a.block ≠ g) (o : Nat) (v : Value) : PlanAt B (W.setCell ⟨g, o, none⟩ v) bp bt bw s sa sc := by
  refine ⟨h.lo, h.ap, ⟨by rw [World.size_setCell]; exact h.hi.1, by rw [World.size_setCell]; exact h.hi.2.1, by rw [World.size_setCell]; exact h.hi.2.2⟩, h.big, ?_, fun q => by rw [World.frozen?_setCell]; exact h.pf q, fun i hi => ?_, fun q => by rw [World.frozen?_setCell]; exact h.tf q, fun i hi => ?_,
    fun q => by rw [World.frozen?_setCell]; exact h.wf q, fun i hi => ?_, h.away, h.apart⟩
  · rw [set_blk hn.1, set_blk hn.1, set_blk hn.1, set_blk hn.1]; exact h.pl
  · rw [set_blk hn.2.1, set_blk hn.2.1, set_blk hn.2.1, set_blk hn.2.1]; exact h.tk i hi
  · rw [set_blk hn.2.2]; exact h.wr i hi
  · exact own_kept (h.own i hi) fun a ha => Below.heap_setCell _ _ _ _ (hr i hi a ha)
theorem OI.store (h : OI w xb B bp bt bw st sa sc s f W) (k : Nat) (v : Int) : OI w xb B bp bt bw st sa sc s (upd f k v) (W.setCell ⟨st, k, none⟩ (.int .i64 v)) := by
  refine ⟨h.plan.setFar h.nst h.nrow k _, h.below.setCell (p := ⟨st, k, none⟩) (Nat.le_of_lt h.lt.1) _, (Below.heap_setCell _ _ _ _ (by have := h.lt.1; show w.heap.size ≠ st; omega)).trans h.box, fun i hi => ?_, fun o => by rw [World.frozen?_setCell]; exact h.free o, ⟨h.lt.1, by rw [World.size_setCell]; exact h.lt.2⟩, h.low, h.nst, h.nrow⟩
  by_cases e : i = k
  · subst e; rw [upd_same]; exact set_same (h.cells i hi)
  · rw [upd_other _ _ e, set_off e]; exact h.cells i hi
end
/-- What New leaves, beside a row of noughts that is made next. -/
theorem OI.start {w : World} {xb : Array Value} {B bp bt bw : Nat} {sa : Nat → Option Addr} {sc : Nat → Nat} {s : PS} {W : World} (hp : PlanAt B W bp bt bw s sa sc) (hb : Below w.heap.size w W) (hx : W.heap[w.heap.size]? = some (.cells xb 69 (0, 0))) (hl : w.heap.size < B) {n : Nat} (hn : s.n = n) :
    OI w xb B bp bt bw W.heap.size sa sc s (fun _ => 0) (W.alloc (.cells (madeCells zI n) 3)) := by
  have h0 := heap_alloc_new W (.cells (madeCells zI n) 3)
  have hi := hp.hi
  refine ⟨hp.alloc _, hb.alloc hb.size _, (Below.heap_alloc _ _ _ (Array.getElem?_eq_some_iff.1 hx).1).trans hx, fun i hin => ?_, fun o => frozen_of_row _ _ _ _ _ h0, ⟨(Array.getElem?_eq_some_iff.1 hx).1, by rw [World.size_alloc]; omega⟩, hl, ⟨by omega, by omega, by omega⟩, fun i hin a ha e => ?_⟩
  · rw [cell_of_row _ _ _ _ _ (0, 0) h0, made_at _ _ _ (hn ▸ hin)]; simp [zI, Nat.mod_one]
  · have := ((hp.own i hin).lt a.block (by rw [ha]; rfl)).2
    omega
end Go.Proofs.Ytgdkgoiagjjccaa
