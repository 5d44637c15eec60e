/- DRef, DRefW, DRefO, DRefD, DRefP, DRefF, DRefR, DRefC, DRefN: put together. -/
import Derived.Test.YtjmjehhmkjhalaaQb22
/- The document's devices in memory: what they read as. -/
namespace Go.Proofs.Ytjmjehhmkjhalaa
set_option maxRecDepth 100000
open Go.RowKit

/-- A device's sectors in a row. -/
def secs (d : Dk) : List Sx := (List.range d.size).map fun (i : Nat) => d.sure (i : Int)
/-- A device of the document, as it lies. -/
structure RDx where
  A : Option Addr
  c : Nat
  d : Dk
  A2 : Option Addr
  c2 : Nat
def RDx.vals (r : RDx) : List Value := [.slice r.A r.d.size r.c, .slice r.A2 r.d.waits.length r.c2]
theorem RDx.vlen (r : RDx) : r.vals.length = 2 := rfl
theorem RDx.one (r : RDx) : ∀ u ∈ r.vals, u.oneCell' = true := by
  intro u hu
  rcases List.mem_cons.1 hu with rfl | hu
  · rfl
  · rw [List.mem_singleton.1 hu]; rfl
structure RDok (w : World) (X : Nat → Prop) (r : RDx) : Prop where
  sec : RowAt Sx.vals 64 w r.A r.d.size (secs r.d)
  wts : RowAt Wx.vals 65 w r.A2 r.d.waits.length r.d.waits
  n1 : r.A = none → r.c = 0
  n2 : r.A2 = none → r.c2 = 0
  x1 : ∀ a, r.A = some a → X a.block
  x2 : ∀ a, r.A2 = some a → X a.block
theorem RowAt.keep {α : Type} {f : α → List Value} {k : Nat} {w w' : World} {A : Option Addr} {n : Nat} {l : List α} {X : Nat → Prop} (h : RowAt f k w A n l) (hx : ∀ a, A = some a → X a.block) (hk : ∀ q, X q → w'.heap[q]? = w.heap[q]?) : RowAt f k w' A n l :=
  ⟨h.len, h.row.1, fun hn => by
    obtain ⟨b, off, e, hc⟩ := h.row.2 hn
    exact ⟨b, off, e, fun j u hj => (World.cell?_of_block (hk b (hx _ e))).trans (hc j u hj)⟩⟩
theorem RDok.keep {w w' : World} {X : Nat → Prop} {r : RDx} (h : RDok w X r) (hk : ∀ q, X q → w'.heap[q]? = w.heap[q]?) : RDok w' X r := ⟨h.sec.keep h.x1 hk, h.wts.keep h.x2 hk, h.n1, h.n2, h.x1, h.x2⟩
theorem RDok.wide {w : World} {X Y : Nat → Prop} {r : RDx} (h : RDok w X r) (hk : ∀ q, X q → Y q) : RDok w Y r := ⟨h.sec, h.wts, h.n1, h.n2, fun a e => hk _ (h.x1 a e), fun a e => hk _ (h.x2 a e)⟩
/-- The document's devices: they read as these; they lie in the blocks X. -/
def RSet (w : World) (X : Nat → Prop) (A : Option Addr) (c : Nat) (ds : List Dk) : Prop :=
  (∀ k, X k → k < w.heap.size) ∧ ∃ L : List RDx, L.map RDx.d = ds ∧ RowAt RDx.vals 2 w A ds.length L ∧ (A = none → c = 0) ∧ (∀ a, A = some a → X a.block) ∧ ∀ r ∈ L, RDok w X r
theorem RSet.keep {w w' : World} {X : Nat → Prop} {A : Option Addr} {c : Nat} {ds : List Dk} (h : RSet w X A c ds) (hs : w.heap.size ≤ w'.heap.size) (hk : ∀ q, X q → w'.heap[q]? = w.heap[q]?) : RSet w' X A c ds := by
  obtain ⟨h0, L, h1, h2, h3, h4, h5⟩ := h
  exact ⟨fun k e => Nat.lt_of_lt_of_le (h0 k e) hs, L, h1, h2.keep h4 hk, h3, h4, fun r hr => (h5 r hr).keep hk⟩
theorem RSet.below {w w' : World} {X : Nat → Prop} {A : Option Addr} {c : Nat} {ds : List Dk} (h : RSet w X A c ds) (hb : Below w.heap.size w w') : RSet w' X A c ds := h.keep hb.size fun q e => hb.block q (h.1 q e)
theorem RSet.lt {w : World} {X : Nat → Prop} {A : Option Addr} {c : Nat} {ds : List Dk} (h : RSet w X A c ds) : ∀ k, X k → k < w.heap.size := h.1
/-- The set's value: its devices' slice, its power; left is what is left where it is armed. -/
def rsV (A : Option Addr) (c : Nat) (ds : List Dk) (p : Pw) (left : Int) : Value := .agg #[.slice A ds.length c, .int .i64 (p.steps : Int), .int .i64 left, .bool p.ia, .bool p.gone]
def LeftOk (p : Pw) (left : Int) : Prop := p.ia = true → left = (p.armed : Int)
/-- The cells of a device. -/
theorem RSet.cells {w : World} {X : Nat → Prop} {A : Option Addr} {c : Nat} {ds : List Dk} (h : RSet w X A c ds) (hn : 0 < ds.length) :
    ∃ b off, A = some ⟨b, off, none⟩ ∧ ∀ j (hj : j < ds.length), ∃ A1 c1 A2 c2, w.cell? ⟨b, off + j * 2, none⟩ = some (.slice A1 ds[j].size c1) ∧ w.cell? ⟨b, off + j * 2 + 1, none⟩ = some (.slice A2 ds[j].waits.length c2) ∧ RDok w X ⟨A1, c1, ds[j], A2, c2⟩ := by
  obtain ⟨_, L, h1, h2, h3, _, h4⟩ := h
  obtain ⟨b, off, e, hc⟩ := h2.cells RDx.vlen hn
  have hl : L.length = ds.length := h2.len
  refine ⟨b, off, e, fun j hj => ?_⟩
  have hjL : j < L.length := by omega
  have hd : L[j].d = ds[j] := by subst h1; rw [List.getElem_map]
  refine ⟨L[j].A, L[j].c, L[j].A2, L[j].c2, ?_, ?_, ?_⟩
  · have := hc j hjL 0 _ (by omega) rfl
    rw [Nat.add_zero, hd] at this
    exact this
  · have := hc j hjL 1 _ (by omega) rfl
    rw [hd] at this
    exact this
  · have := h4 _ (List.getElem_mem hjL)
    rw [← hd]
    exact this
/-- What is left behind a step. -/
def leftS (p : Pw) (left : Int) : Int := if p.gone = false ∧ p.ia = true ∧ p.armed ≠ 0 then left - 1 else left
theorem LeftOk.step {p : Pw} {left : Int} (h : LeftOk p left) : LeftOk (stepP p).2 (leftS p left) := by
  obtain ⟨st, ar, ia, gn⟩ := p
  unfold LeftOk at h ⊢
  unfold stepP leftS
  simp only at h ⊢
  cases gn <;> cases ia
  · simp
  · by_cases h0 : ar = 0
    · subst h0
      simpa using h
    · have := h rfl
      simp [h0]
      omega
  · simp
  · simpa using h
end Go.Proofs.Ytjmjehhmkjhalaa

/- The document's set with another device at a place. -/
namespace Go.Proofs.Ytjmjehhmkjhalaa
set_option maxRecDepth 100000
open Go.RowKit

theorem alloc_old {w : World} {k : Nat} {x : Obj} (h : w.heap[k]? = some x) (o : Obj) : (w.alloc o).heap[k]? = some x :=
  (((Below.refl w.heap.size w).alloc (Nat.le_refl _) o).block k (Array.getElem?_eq_some_iff.1 h).1).trans h
end Go.Proofs.Ytjmjehhmkjhalaa

/- The document's writes and sectors in rows: their operations. -/
namespace Go.Proofs.Ytjmjehhmkjhalaa
set_option maxRecDepth 100000
open Go.RowKit

end Go.Proofs.Ytjmjehhmkjhalaa

/- The document's sectors behind writes. -/
namespace Go.Proofs.Ytjmjehhmkjhalaa
set_option maxRecDepth 100000
open Go.RowKit

def secsF (f : Int → Sx) (n : Nat) : List Sx := (List.range n).map fun (i : Nat) => f (i : Int)
end Go.Proofs.Ytjmjehhmkjhalaa

/- The document's Put. -/
namespace Go.Proofs.Ytjmjehhmkjhalaa
set_option maxRecDepth 100000
open Go.RowKit

/-- An error by its number. -/
def eV (n : Nat) : Value := if n = 0 then .nilIface else .iface 43 (.int .i64 (n : Int))
def writeN (p : Pw) (ds : List Dk) (d i : Int) : Nat := if hasB ds d i = false then 1 else if (stepP p).1 = false then 3 else 0
def flushN (p : Pw) (ds : List Dk) (d : Int) : Nat := if hasB ds d 0 = false then 1 else if (stepP p).1 = false then 3 else 0
/-- Three blocks one behind the other. -/
theorem three_blocks (w : World) (o1 o2 o3 : Obj) : (((w.alloc o1).alloc o2).alloc o3).heap[w.heap.size]? = some o1 ∧ (((w.alloc o1).alloc o2).alloc o3).heap[w.heap.size + 1]? = some o2 ∧ (((w.alloc o1).alloc o2).alloc o3).heap[w.heap.size + 2]? = some o3 ∧ (((w.alloc o1).alloc o2).alloc o3).heap.size = w.heap.size + 3 ∧ Below w.heap.size w (((w.alloc o1).alloc o2).alloc o3) := by
  refine ⟨alloc_old (alloc_old (heap_alloc_new w o1) o2) o3, ?_, ?_, by simp, (((Below.refl _ _).alloc (Nat.le_refl _) o1).alloc (by simp) o2).alloc (by simp; omega) o3⟩
  · have := heap_alloc_new (w.alloc o1) o2
    rw [World.size_alloc] at this
    exact alloc_old this o3
  · have := heap_alloc_new ((w.alloc o1).alloc o2) o3
    rw [World.size_alloc, World.size_alloc] at this
    exact this
theorem RSet.wide {w : World} {X Y : Nat → Prop} {A : Option Addr} {c : Nat} {ds : List Dk} (h : RSet w X A c ds) (hk : ∀ q, X q → Y q) (hy : ∀ q, Y q → q < w.heap.size) : RSet w Y A c ds := by
  obtain ⟨_, L, h1, h2, h3, h4, h5⟩ := h
  exact ⟨hy, L, h1, h2, h3, fun a e => hk _ (h4 a e), fun r hr => (h5 r hr).wide hk⟩
theorem setAt_some {ds : List Dk} {j : Nat} (hj : j < ds.length) (f : Dk → Dk) : setAt ds j f = ds.set j (f ds[j]) := by
  unfold setAt
  rw [List.getElem?_eq_getElem hj]
end Go.Proofs.Ytjmjehhmkjhalaa

/- The document's Flush. -/
namespace Go.Proofs.Ytjmjehhmkjhalaa
set_option maxRecDepth 100000
open Go.RowKit

end Go.Proofs.Ytjmjehhmkjhalaa

/- The document's Read. -/
namespace Go.Proofs.Ytjmjehhmkjhalaa
set_option maxRecDepth 100000
open Go.RowKit

/-- What the document reads: a sector, an error's number. -/
def readV (p : Pw) (ds : List Dk) (d i : Int) : Sx × Nat := if p.gone = true then (Sx.zero, 3) else if hasB ds d i = false then (Sx.zero, 1) else match ds[d.toNat]? with
  | some k => (readM k i, 0)
  | none => (Sx.zero, 1)
end Go.Proofs.Ytjmjehhmkjhalaa

/- The document's Crash. -/
namespace Go.Proofs.Ytjmjehhmkjhalaa
set_option maxRecDepth 100000
open Go.RowKit

theorem Kps.grown {w w' : World} {A : Option Addr} {l : List Kp} (h : Kps w A l) (hb : Below w.heap.size w w') : Kps w' A l := RowAt.below h hb
/-- What the round of a device is in: the boxes. -/
structure CBox (w wr : World) (z : Nat) (s0 s1 : Array Value) (v st lf : Value) : Prop where
  bz : wr.heap[z]? = some (.cells s0 35 (0, 0))
  b1 : wr.heap[z + 1]? = some (.cells s1 35 (0, 0))
  b2 : wr.heap[z + 2]? = some (.cells #[v, st, lf, .bool false, .bool false] 35 (0, 0))
  bel : Below z w wr
theorem CBox.lt {w wr : World} {z : Nat} {s0 s1 : Array Value} {v st lf : Value} (h : CBox w wr z s0 s1 v st lf) : z + 2 < wr.heap.size := (Array.getElem?_eq_some_iff.1 h.b2).1
theorem CBox.keep {w wr wq : World} {z r : Nat} {s0 s1 : Array Value} {v st lf : Value} (h : CBox w wr z s0 s1 v st lf) (hg : wr.grownBy wq (some r)) (hr : z + 2 < r) : CBox w wq z s0 s1 v st lf := by
  have hl := h.lt
  have key : ∀ k, k < z + 3 → wq.heap[k]? = wr.heap[k]? := fun k hk => hg.block k (by omega) (by intro e; injection e; omega)
  exact ⟨(key _ (by omega)).trans h.bz, (key _ (by omega)).trans h.b1, (key _ (by omega)).trans h.b2, h.bel.trans ⟨hg.os, hg.tape, hg.output, hg.size, fun k hk => key k (by omega)⟩⟩
theorem CBox.below {w wr wq : World} {z : Nat} {s0 s1 : Array Value} {v st lf : Value} (h : CBox w wr z s0 s1 v st lf) (hb : Below wr.heap.size wr wq) : CBox w wq z s0 s1 v st lf := by
  have hl := h.lt
  exact ⟨(hb.block _ (by omega)).trans h.bz, (hb.block _ (by omega)).trans h.b1, (hb.block _ (by omega)).trans h.b2, h.bel.trans (hb.mono (by omega))⟩
/-- The devices that have crashed. -/
structure CDev (wr : World) (z q : Nat) (v : Value) (ds : List Dk) (X : Nat → Prop) (L : List RDx) : Prop where
  own : wr.ownsRow z 113 2 v q (rowV RDx.vals L)
  dks : L.map RDx.d = ds
  len : L.length = q
  ok : ∀ r ∈ L, RDok wr X r
  xb : ∀ k, X k → z ≤ k ∧ k < wr.heap.size
  ap : ∀ k, X k → v.ownBlock ≠ some k
theorem CDev.keep {wr wq : World} {z q : Nat} {v : Value} {ds : List Dk} {X : Nat → Prop} {L : List RDx} (h : CDev wr z q v ds X L) {r : Nat} (hg : wr.grownBy wq (some r)) (hr : wr.heap.size ≤ r) : CDev wq z q v ds X L := by
  have key : ∀ k, k < wr.heap.size → wq.heap[k]? = wr.heap[k]? := fun k hk => hg.block k hk (by intro e; injection e; omega)
  exact ⟨own_same h.own fun k e => key k (h.own.lt k e).2, h.dks, h.len, fun r hr => (h.ok r hr).keep fun k e => key k (h.xb k e).2, fun k e => ⟨(h.xb k e).1, Nat.lt_of_lt_of_le (h.xb k e).2 hg.size⟩, h.ap⟩
theorem CDev.same {wr wq : World} {z q : Nat} {v : Value} {ds : List Dk} {X : Nat → Prop} {L : List RDx} (h : CDev wr z q v ds X L) (hs : wr.heap.size ≤ wq.heap.size) (key : ∀ k, k < wr.heap.size → z ≤ k → wq.heap[k]? = wr.heap[k]?) : CDev wq z q v ds X L :=
  ⟨own_same h.own fun k e => key k (h.own.lt k e).2 (h.own.lt k e).1, h.dks, h.len, fun r hr => (h.ok r hr).keep fun k e => key k (h.xb k e).2 (h.xb k e).1, fun k e => ⟨(h.xb k e).1, Nat.lt_of_lt_of_le (h.xb k e).2 hs⟩, h.ap⟩
theorem CDev.below {wr wq : World} {z q : Nat} {v : Value} {ds : List Dk} {X : Nat → Prop} {L : List RDx} (h : CDev wr z q v ds X L) (hb : Below wr.heap.size wr wq) : CDev wq z q v ds X L :=
  ⟨own_same h.own fun k e => hb.block k (h.own.lt k e).2, h.dks, h.len, fun r hr => (h.ok r hr).keep fun k e => hb.block k (h.xb k e).2, fun k e => ⟨(h.xb k e).1, Nat.lt_of_lt_of_le (h.xb k e).2 hb.size⟩, h.ap⟩
end Go.Proofs.Ytjmjehhmkjhalaa

/- The document's New. -/
namespace Go.Proofs.Ytjmjehhmkjhalaa
set_option maxRecDepth 100000
open Go.RowKit

end Go.Proofs.Ytjmjehhmkjhalaa
