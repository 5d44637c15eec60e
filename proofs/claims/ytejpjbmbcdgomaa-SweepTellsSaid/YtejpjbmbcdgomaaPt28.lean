/- RS3: put together. -/
import Derived.Test.YtejpjbmbcdgomaaPt16
import Derived.Test.YtejpjbmbcdgomaaPt27
/- The document's store: put. -/
namespace Go.Proofs.Ytejpjbmbcdgomaa
set_option maxRecDepth 100000
open Go.RowKit

theorem elemEn : ElemT Try.prog 29 46 5 40 :=
  ⟨Try.underlying29, by kernel_rfl, by
    obtain ⟨i, hi, hz, h1, _⟩ := info_parts (show (Try.prog.info? 46).map (fun i => (i.zero, i.size, i.bytes)) = some (some (.agg #[.int .i64 0, .int .i64 0, .int .i64 0, .int .i64 0, .bool false]), 5, 40) by kernel_rfl)
    exact ⟨i, _, hi, hz, rfl⟩, by decide⟩
theorem en1 (x : En) : ∀ u ∈ x.vals, u.oneCell' = true := by
  intro u hu
  unfold En.vals at hu
  simp at hu
  rcases hu with rfl | rfl | rfl | rfl | rfl <;> rfl
theorem rdv_freshE (w : World) (x : En) (T : TypeId) : Rdv (w.alloc (.cells #[.int .i64 (x.t : Int), .int .i64 x.x.k, .int .i64 x.x.c.v, .int .i64 x.x.c.s, .bool x.x.c.dead] T)) (some ⟨w.heap.size, 0, none⟩) 1 5 x.vals :=
  ⟨rfl, fun _ => ⟨w.heap.size, 0, rfl, fun j u hj => by
    rw [Nat.zero_add, cell_of_row _ w.heap.size j _ T (0, 0) (heap_alloc_new w _)]
    unfold En.vals at hj
    simpa using hj⟩⟩
/-- A row that is put together in a box beside the blocks below B. -/
structure PS (W0 wr : World) (p : Nat) (v : Value) (last : Int) (O : List En) : Prop where
  own : wr.ownsRow W0.heap.size 46 5 v O.length (rowV En.vals O)
  box : wr.heap[p]? = some (.cells #[v, .int .i64 last] 31 (0, 0))
  lt : p < W0.heap.size
  ch : Ch W0 wr fun q => q = p
theorem PS.below {W0 wr w1 : World} {p : Nat} {v : Value} {last : Int} {O : List En} (h : PS W0 wr p v last O) (hb : Below wr.heap.size wr w1) : PS W0 w1 p v last O :=
  ⟨own_same h.own fun q hq => by
    obtain ⟨_, e⟩ := own_at h.own hq
    exact hb.block q (Array.getElem?_eq_some_iff.1 e).1, (hb.block p (Array.getElem?_eq_some_iff.1 h.box).1).trans h.box, h.lt, h.ch.trans (Ch.of_below hb _) fun _ e => .inl e⟩
theorem PS.push {W0 wr w1 : World} {p : Nat} {v v' : Value} {last : Int} {O : List En} {e : En} {o : Obj} (h : PS W0 wr p v last O) (ho : w1.ownsRow W0.heap.size 46 5 v' (O.length + 1) (rowV En.vals O ++ e.vals)) (hg : (wr.alloc o).grownBy w1 v.ownBlock) : PS W0 (w1.setCell ⟨p, 0, none⟩ v') p v' last (O ++ [e]) := by
  have hne : ∀ q, q < W0.heap.size → some q ≠ v.ownBlock := fun q hq e => by have := own_ge h.own e.symm; omega
  have hsz := h.ch.size
  have hbl := (Below.refl wr.heap.size wr).alloc (Nat.le_refl _) o
  have hk : ∀ q, q < W0.heap.size → w1.heap[q]? = wr.heap[q]? := fun q hq => (hg.block q (Nat.lt_of_lt_of_le hq (Nat.le_trans hsz hbl.size)) (hne q hq)).trans (hbl.block q (by omega))
  have hp := (hk p h.lt).trans h.box
  refine ⟨?_, (heap_set w1 p 0 v' hp).trans rfl, h.lt, ⟨hg.os.trans (hbl.os.trans h.ch.os), hg.tape.trans (hbl.tape.trans h.ch.tape), hg.output.trans (hbl.output.trans h.ch.output), by rw [World.size_setCell]; exact Nat.le_trans hsz (Nat.le_trans hbl.size hg.size), fun q hq hn => (heap_ne _ _ _ _ hn).trans ((hk q hq).trans (h.ch.block q hq hn))⟩⟩
  have h9 : w1.ownsRow W0.heap.size 46 5 v' (O ++ [e]).length (rowV En.vals (O ++ [e])) := by
    rw [List.length_append, rowV_append]
    simpa [rowV] using ho
  refine own_same h9 fun q hq => heap_ne _ _ _ _ fun e => ?_
  have := own_ge h9 hq
  have := h.lt
  omega
/-- What lies in memory ahead of the loop. -/
structure R5 (w w5 : World) (p0 p1 p2 p4 : Nat) (A : Option Addr) (n c : Nat) (last : Int) (l : List En) (t k v : Int) (v4 : Value) (q : Int) (dead : Bool) : Prop where
  b0 : w5.heap[p0]? = some (.cells #[.slice A n c, .int .i64 last] 31 (0, 0))
  b1 : w5.heap[p1]? = some (.cells #[.int .i64 t, .int .i64 k, .int .i64 v, .bool dead] 51 (0, 0))
  b2 : w5.heap[p2]? = some (.cells #[.slice none 0 0, .int .i64 0] 31 (0, 0))
  b4 : w5.heap[p4]? = some (.cells #[.int .i64 t, .int .i64 k, v4, .int .i64 q, .bool dead] 46 (0, 0))
  ens : Ens w A l
  bel : Below w.heap.size w w5
  lo : w.heap.size ≤ p2
  hi : w.heap.size ≤ p4
section
variable {w w4 : World} {p0 p1 p2 p4 n c : Nat} {A : Option Addr} {last t k v q : Int} {l : List En} {v4 : Value} {dead : Bool}
theorem R5.stay (h : R5 w w4 p0 p1 p2 p4 A n c last l t k v (.int .i64 v) q dead) (hd : dead = false) : R5 w w4 p0 p1 p2 p4 A n c last l t k v (.int .i64 (if dead then 0 else v)) q dead := by
  subst hd
  exact h
theorem R5.kill (h : R5 w w4 p0 p1 p2 p4 A n c last l t k v (.int .i64 v) q dead) (hd : dead = true) : R5 w (w4.setCell ⟨p4, 2, none⟩ (.int .i64 0)) p0 p1 p2 p4 A n c last l t k v (.int .i64 (if dead then 0 else v)) q dead := by
  subst hd
  have n0 : p0 ≠ p4 := fun e => by have h1 := h.b0; have h2 := h.b4; rw [e, h2] at h1; simp at h1
  have n1 : p1 ≠ p4 := fun e => by have h1 := h.b1; have h2 := h.b4; rw [e, h2] at h1; simp at h1
  have n2 : p2 ≠ p4 := fun e => by have h1 := h.b2; have h2 := h.b4; rw [e, h2] at h1; simp at h1
  have hb := h.bel.setCell (p := ⟨p4, 2, none⟩) h.hi (.int .i64 0)
  refine ⟨(heap_ne _ _ _ _ n0).trans h.b0, (heap_ne _ _ _ _ n1).trans h.b1, (heap_ne _ _ _ _ n2).trans h.b2, (heap_set w4 p4 2 (.int .i64 0) h.b4).trans rfl, h.ens, hb, h.lo, h.hi⟩
theorem R5.below {w1 : World} (h : R5 w w4 p0 p1 p2 p4 A n c last l t k v v4 q dead) (hb : Below w4.heap.size w4 w1) : R5 w w1 p0 p1 p2 p4 A n c last l t k v v4 q dead :=
  ⟨(hb.block _ (Array.getElem?_eq_some_iff.1 h.b0).1).trans h.b0, (hb.block _ (Array.getElem?_eq_some_iff.1 h.b1).1).trans h.b1, (hb.block _ (Array.getElem?_eq_some_iff.1 h.b2).1).trans h.b2, (hb.block _ (Array.getElem?_eq_some_iff.1 h.b4).1).trans h.b4, h.ens, h.bel.trans (hb.mono h.bel.size), h.lo, h.hi⟩
theorem R5.ch {w1 : World} {p5 : Nat} (h : R5 w w4 p0 p1 p2 p4 A n c last l t k v v4 q dead) (hc : Ch w4 w1 fun q => q = p5) (h5 : p0 < p5 ∧ p1 < p5 ∧ p2 < p5 ∧ p4 < p5) : R5 w w1 p0 p1 p2 p4 A n c last l t k v v4 q dead :=
  ⟨(hc.block _ (Array.getElem?_eq_some_iff.1 h.b0).1 (by omega)).trans h.b0, (hc.block _ (Array.getElem?_eq_some_iff.1 h.b1).1 (by omega)).trans h.b1, (hc.block _ (Array.getElem?_eq_some_iff.1 h.b2).1 (by omega)).trans h.b2, (hc.block _ (Array.getElem?_eq_some_iff.1 h.b4).1 (by omega)).trans h.b4, h.ens, h.bel.trans (hc.below h.bel.size (fun q e => by have := h.lo; omega)), h.lo, h.hi⟩
end
/-- At a round's world: all that it reads. -/
structure R8 (w W7 wr : World) (p0 p1 p2 p4 p5 : Nat) (A : Option Addr) (n c : Nat) (last : Int) (l : List En) (x : Wr) (q : Int) (vo : Value) (O : List En) : Prop where
  r : R5 w wr p0 p1 p2 p4 A n c last l x.t x.k x.v (.int .i64 (if x.dead then 0 else x.v)) q x.dead
  ps : PS W7 wr p5 vo last O
  lt : p0 < p5 ∧ p1 < p5 ∧ p2 < p5 ∧ p4 < p5
section
variable {w W7 wr w1 : World} {p0 p1 p2 p4 p5 n c : Nat} {A : Option Addr} {last : Int} {l O : List En} {x : Wr} {q : Int} {vo v' : Value} {e : En} {o : Obj}
theorem R8.below (h : R8 w W7 wr p0 p1 p2 p4 p5 A n c last l x q vo O) (hb : Below wr.heap.size wr w1) : R8 w W7 w1 p0 p1 p2 p4 p5 A n c last l x q vo O := ⟨h.r.below hb, h.ps.below hb, h.lt⟩
theorem R8.start {w5 : World} (h : R5 w w5 p0 p1 p2 p4 A n c last l x.t x.k x.v (.int .i64 (if x.dead then 0 else x.v)) q x.dead) : R8 w (w5.alloc (.cells #[.slice none 0 0, .int .i64 last] 31)) (w5.alloc (.cells #[.slice none 0 0, .int .i64 last] 31)) p0 p1 p2 p4 w5.heap.size A n c last l x q (.slice none 0 0) [] :=
  ⟨h.below ((Below.refl _ _).alloc (Nat.le_refl _) _), ⟨World.ownsRow_nil _ _ _ _, heap_alloc_new w5 _, by rw [World.size_alloc]; omega, Ch.refl _ _⟩, (Array.getElem?_eq_some_iff.1 h.b0).1, (Array.getElem?_eq_some_iff.1 h.b1).1, (Array.getElem?_eq_some_iff.1 h.b2).1, (Array.getElem?_eq_some_iff.1 h.b4).1⟩
theorem PS.keep (_h : PS W7 wr p5 vo last O) (hg : (wr.alloc o).grownBy w1 vo.ownBlock) {z : Nat} (hz : z < wr.heap.size) (hn : vo.ownBlock ≠ some z) : w1.heap[z]? = wr.heap[z]? := by
  have hbl := (Below.refl wr.heap.size wr).alloc (Nat.le_refl _) o
  exact (hg.block z (Nat.lt_of_lt_of_le hz hbl.size) (fun e => hn e.symm)).trans (hbl.block z hz)
theorem PS.not_own (h : PS W7 wr p5 vo last O) {z : Nat} (hz : z < W7.heap.size) : vo.ownBlock ≠ some z := fun e => by have := own_ge h.own e; omega
theorem R8.push (h : R8 w W7 wr p0 p1 p2 p4 p5 A n c last l x q vo O) (ho : w1.ownsRow W7.heap.size 46 5 v' (O.length + 1) (rowV En.vals O ++ e.vals)) (hg : (wr.alloc o).grownBy w1 vo.ownBlock) : R8 w W7 (w1.setCell ⟨p5, 0, none⟩ v') p0 p1 p2 p4 p5 A n c last l x q v' (O ++ [e]) := by
  have hps := h.ps.push ho hg
  have hlt := h.ps.lt
  have hs := h.ps.ch.size
  have hk : ∀ z, z < p5 → (w1.setCell ⟨p5, 0, none⟩ v').heap[z]? = wr.heap[z]? := fun z hz => (heap_ne _ _ _ _ (by omega)).trans (h.ps.keep hg (by omega) (h.ps.not_own (by omega)))
  obtain ⟨l0, l1, l2, l4⟩ := h.lt
  have hbl := (Below.refl wr.heap.size wr).alloc (Nat.le_refl _) o
  refine ⟨⟨(hk _ l0).trans h.r.b0, (hk _ l1).trans h.r.b1, (hk _ l2).trans h.r.b2, (hk _ l4).trans h.r.b4, h.r.ens, ⟨hg.os.trans (hbl.os.trans h.r.bel.os), hg.tape.trans (hbl.tape.trans h.r.bel.tape), hg.output.trans (hbl.output.trans h.r.bel.output), by rw [World.size_setCell]; exact Nat.le_trans h.r.bel.size (Nat.le_trans hbl.size hg.size), fun z hz => ?_⟩, h.r.lo, h.r.hi⟩, hps, h.lt⟩
  have := h.r.lo
  exact (hk z (by omega)).trans (h.r.bel.block z hz)
end
theorem R8.own {w W7 wr : World} {p0 p1 p2 p4 p5 n c : Nat} {A : Option Addr} {last : Int} {l O : List En} {x : Wr} {q : Int} {vo : Value} (h : R8 w W7 wr p0 p1 p2 p4 p5 A n c last l x q vo O) {w1 : World} {o : Obj} (hg : (wr.alloc o).grownBy w1 vo.ownBlock) : w1.cell? ⟨p5, 0, none⟩ = some vo ∧ w1.frozen? ⟨p5, 0, none⟩ = false := by
  have h1 := h.ps.lt
  have h2 := h.ps.ch.size
  have e := (h.ps.keep hg (z := p5) (by omega) (h.ps.not_own h1)).trans h.ps.box
  exact ⟨by rw [cell_of_row _ _ 0 _ _ _ e]; rfl, frozen_of e 0⟩
theorem R8.other {w W7 wr : World} {p0 p1 p2 p4 p5 n c : Nat} {A : Option Addr} {last : Int} {l O : List En} {x : Wr} {q : Int} {vo v' : Value} (h : R8 w W7 wr p0 p1 p2 p4 p5 A n c last l x q vo O) {w1 : World} {o : Obj} (hg : (wr.alloc o).grownBy w1 vo.ownBlock) {z : Nat} (hz : z < wr.heap.size) (hn : vo.ownBlock ≠ some z) (h5 : z ≠ p5) : (w1.setCell ⟨p5, 0, none⟩ v').heap[z]? = wr.heap[z]? := (heap_ne _ _ _ _ h5).trans (h.ps.keep hg hz hn)
theorem rdv_freshF (w : World) (x : Wr) (q : Int) (hx : InT x.t) (T : TypeId) : Rdv (w.alloc (.cells #[.int .i64 x.t, .int .i64 x.k, .int .i64 (if x.dead then 0 else x.v), .int .i64 q, .bool x.dead] T)) (some ⟨w.heap.size, 0, none⟩) 1 5 (En.vals ⟨x.t.toNat, ⟨x.k, x.cl q⟩⟩) := by
  have h9 : ((x.t.toNat : Nat) : Int) = x.t := Int.toNat_of_nonneg hx.1
  have := rdv_freshE w ⟨x.t.toNat, ⟨x.k, x.cl q⟩⟩ T
  simp only [h9] at this
  exact this
theorem R8.fin {w W7 wr : World} {p0 p1 p2 p4 p5 n c m c9 : Nat} {A A9 : Option Addr} {last : Int} {l O : List En} {x : Wr} {q : Int} (h : R8 w W7 wr p0 p1 p2 p4 p5 A n c last l x q (.slice A9 m c9) O) (a b : Value) :
    Ens ((wr.setCell ⟨p2, 0, none⟩ a).setCell ⟨p2, 1, none⟩ b) A9 O ∧ Below w.heap.size w ((wr.setCell ⟨p2, 0, none⟩ a).setCell ⟨p2, 1, none⟩ b) ∧ ((wr.setCell ⟨p2, 0, none⟩ a).setCell ⟨p2, 1, none⟩ b).cell? ⟨p2, 0, none⟩ = some a ∧ ((wr.setCell ⟨p2, 0, none⟩ a).setCell ⟨p2, 1, none⟩ b).cell? ⟨p2, 1, none⟩ = some b := by
  have hb := (h.r.bel.setCell (p := ⟨p2, 0, none⟩) h.r.lo a).setCell (p := ⟨p2, 1, none⟩) h.r.lo b
  have h2 := heap_set _ p2 1 b (heap_set wr p2 0 a h.r.b2)
  have ho : ((wr.setCell ⟨p2, 0, none⟩ a).setCell ⟨p2, 1, none⟩ b).ownsRow W7.heap.size 46 5 (.slice A9 m c9) O.length (rowV En.vals O) := own_same h.ps.own fun z hz => by
    have h3 := own_ge h.ps.own hz
    have h4 := h.lt.2.2.1
    have h5 := h.ps.lt
    have hn : z ≠ p2 := by omega
    rw [heap_ne _ _ _ _ hn, heap_ne _ _ _ _ hn]
  obtain ⟨A', c', e, hr, _⟩ := rdv_own ho
  injection e with e _ _
  subst e
  exact ⟨⟨rfl, hr⟩, hb, cell_of_row _ _ 0 _ _ _ h2, cell_of_row _ _ 1 _ _ _ h2⟩
/-- A row is the one that it was, of the same entries, or new. -/
def Near (w : World) (A A' : Option Addr) (l l' : List En) : Prop := (A' = A ∧ l' = l) ∨ ∀ b o, A' = some ⟨b, o, none⟩ → w.heap.size ≤ b
theorem Near.refl (w : World) (A : Option Addr) (l : List En) : Near w A A l l := .inl ⟨rfl, rfl⟩
theorem Near.trans {w w2 : World} {A B C : Option Addr} {l l' l'' : List En} (h : Near w A B l l') (k : Near w2 B C l' l'') (hs : w.heap.size ≤ w2.heap.size) : Near w A C l l'' := by
  rcases k with ⟨rfl, rfl⟩ | k
  · exact h
  · exact .inr fun b o e => Nat.le_trans hs (k b o e)
theorem R8.near {w W7 wr : World} {p0 p1 p2 p4 p5 n c m c9 : Nat} {A A9 : Option Addr} {last : Int} {l O l1 l2 : List En} {x : Wr} {q : Int} (h : R8 w W7 wr p0 p1 p2 p4 p5 A n c last l x q (.slice A9 m c9) O) : Near w A A9 l1 l2 := by
  refine .inr ?_
  rintro b o rfl
  have h3 := own_ge h.ps.own (q := b) rfl
  have h4 := h.lt.2.2.1
  have h5 := h.ps.lt
  have h6 := h.r.lo
  omega
def PutOut (w : World) (A : Option Addr) (l RES : List En) (last : Int) (e : Ending) (w' : World) : Prop := ∃ A' c', e = .returned (.agg #[.slice A' RES.length c', .int .i64 last]) ∧ Ens w' A' RES ∧ Below w.heap.size w w' ∧ Near w A A' l RES
theorem PutOut.of {w w' : World} {l RES : List En} {last : Int} {m c' : Nat} {A A' : Option Addr} (hm : m = RES.length) (h1 : Ens w' A' RES) (h2 : Below w.heap.size w w') (h3 : Near w A A' l RES) : PutOut w A l RES last (.returned (.agg #[.slice A' m c', .int .i64 last])) w' := by
  subst hm
  exact ⟨A', c', rfl, h1, h2, h3⟩
def enO (e : En) : Obj := .cells #[.int .i64 (e.t : Int), .int .i64 e.x.k, .int .i64 e.x.c.v, .int .i64 e.x.c.s, .bool e.x.c.dead] 46 (0, 0)
set_option maxHeartbeats 8000000 in
theorem r9put_any {w : World} {A : Option Addr} {c : Nat} {l : List En} {last : Int} (h : Ens w A l) (hl : l.length ≤ 100000) (q : Int) (x : Wr) (hx : InT x.t) : Calls Try.prog 78 #[.agg #[.slice A l.length c, .int .i64 last], .int .i64 q, .agg #[.int .i64 x.t, .int .i64 x.k, .int .i64 x.v, .bool x.dead]] w fun e w' => PutOut w A l (putE q l x) last e w' := by
  obtain ⟨W1, hW1⟩ : ∃ W1, W1 = (((w.alloc (.cells #[.slice A l.length c, .int .i64 last] 31)).alloc (.cells #[.int .i64 x.t, .int .i64 x.k, .int .i64 x.v, .bool x.dead] 51)).alloc (.cells #[.slice none 0 0, .int .i64 0] 31)) := ⟨_, rfl⟩
  have h3 := blocks3 w (.cells #[.slice A l.length c, .int .i64 last] 31) (.cells #[.int .i64 x.t, .int .i64 x.k, .int .i64 x.v, .bool x.dead] 51) (.cells #[.slice none 0 0, .int .i64 0] 31)
  rw [← hW1] at h3
  obtain ⟨b0, b1, b2, bz, bb⟩ := h3
  have HW := Lib.hid hW1
  have HC := Lib.hid (refCell_any (c := c) (last := last) (RowAt.below h bb) hl x.t x.k)
  obtain ⟨G, hG⟩ : ∃ G, G = cellE x.t x.k l := ⟨_, rfl⟩
  rw [← hG] at HC
  have HPE : Hid (putE q l x = if stay q G then l else goE ⟨x.t.toNat, ⟨x.k, x.cl q⟩⟩ false l) := Lib.hid (by rw [hG]; rfl)
  obtain ⟨RES, hres⟩ : ∃ RES, RES = putE q l x := ⟨_, rfl⟩
  rw [← hres] at HPE ⊢
  have r0 : W1.cell? ⟨w.heap.size, 0, none⟩ = some (.slice A l.length c) := by rw [cell_of_row _ _ 0 _ _ _ b0]; rfl
  have r1 : W1.cell? ⟨w.heap.size, 1, none⟩ = some (.int .i64 last) := by rw [cell_of_row _ _ 1 _ _ _ b0]; rfl
  have k0 : W1.cell? ⟨w.heap.size + 1, 0, none⟩ = some (.int .i64 x.t) := by rw [cell_of_row _ _ 0 _ _ _ b1]; rfl
  have k1 : W1.cell? ⟨w.heap.size + 1, 1, none⟩ = some (.int .i64 x.k) := by rw [cell_of_row _ _ 1 _ _ _ b1]; rfl
  obtain ⟨n, hn⟩ : ∃ n, n = l.length := ⟨_, rfl⟩
  have HN := Lib.hid hn
  have HL := Lib.hid hl
  have HH := Lib.hid (RowAt.below h bb)
  have HH0 := Lib.hid h
  rw [← hn] at HC HW r0 ⊢
  obtain ⟨p0, hp0⟩ : ∃ p0, p0 = w.heap.size := ⟨_, rfl⟩
  obtain ⟨p1, hp1⟩ : ∃ p1, p1 = p0 + 1 := ⟨_, rfl⟩
  obtain ⟨p2, hp2⟩ : ∃ p2, p2 = p1 + 1 := ⟨_, rfl⟩
  rw [← hp0] at r0 r1 k0 k1 b0 b1 b2 bz
  rw [← hp1] at k0 k1 b1 b2
  rw [← hp2] at b2
  have HP := Lib.hid (And.intro hp0 (And.intro hp1 hp2))
  have HB := Lib.hid (And.intro b0 (And.intro b1 (And.intro b2 (And.intro (show p2 < W1.heap.size by omega) bb))))
  clear hW1 b0 b1 b2 bz bb h hl hn hG hres hp0 hp1 hp2
  go_enter Try.func78, Try.ntmps78
  go_upto_region 1 with fail
  rw [← HW.out, ← HP.out.1, ← HP.out.2.1, ← HP.out.2.2]
  go_wp2_with fail
  refine Calls.mono HC.out ?_
  rintro e w2 ⟨rfl, hb2⟩
  clear r0 r1 k0 k1
  have HB2 := Lib.hid (And.intro ((hb2.block p0 (by have := HB.out.2.2.2.1; have := HP.out; omega)).trans HB.out.1) (And.intro ((hb2.block p1 (by have := HB.out.2.2.2.1; have := HP.out; omega)).trans HB.out.2.1) (And.intro ((hb2.block p2 HB.out.2.2.2.1).trans HB.out.2.2.1) (And.intro (Nat.lt_of_lt_of_le HB.out.2.2.2.1 hb2.size) (HB.out.2.2.2.2.trans (hb2.mono HB.out.2.2.2.2.size))))))
  have HH2 := Lib.hid (RowAt.below HH.out hb2)
  clear hb2
  obtain ⟨w3, hw3⟩ : ∃ w3, w3 = w2.alloc (.cells #[.int .i64 (cv G).v, .int .i64 (cv G).s, .bool (cv G).dead] 44) := ⟨_, rfl⟩
  have HB3 : Hid (w3.heap[p0]? = some (.cells #[.slice A n c, .int .i64 last] 31 (0, 0)) ∧ w3.heap[p1]? = some (.cells #[.int .i64 x.t, .int .i64 x.k, .int .i64 x.v, .bool x.dead] 51 (0, 0)) ∧ w3.heap[p2]? = some (.cells #[.slice none 0 0, .int .i64 0] 31 (0, 0)) ∧ p2 < w3.heap.size ∧ Below w.heap.size w w3 ∧ Ens w3 A l ∧ w3.heap.size = w2.heap.size + 1) := Lib.hid (by
    have hbb := (Below.refl w2.heap.size w2).alloc (Nat.le_refl _) (.cells #[.int .i64 (cv G).v, .int .i64 (cv G).s, .bool (cv G).dead] 44)
    rw [hw3]
    obtain ⟨g0, g1, g2, g3, g4⟩ := HB2.out
    rw [← HN.out] at g0
    exact ⟨old_alloc g0 _, old_alloc g1 _, old_alloc g2 _, by rw [World.size_alloc]; omega, g4.trans (hbb.mono g4.size), RowAt.below HH2.out hbb, World.size_alloc _ _⟩)
  have HW3 := Lib.hid hw3
  have f0 : w3.cell? ⟨p0, 0, none⟩ = some (.slice A n c) := by rw [cell_of_row _ _ 0 _ _ _ HB3.out.1]; rfl
  have f1 : w3.cell? ⟨p0, 1, none⟩ = some (.int .i64 last) := by rw [cell_of_row _ _ 1 _ _ _ HB3.out.1]; rfl
  clear hw3
  go_upto_region 2 with fail
  rw [← HW3.out]
  obtain ⟨st, hst⟩ : ∃ st, st = stay q G := ⟨_, rfl⟩
  have HST := Lib.hid hst
  have t1 : w3.cell? ⟨w2.heap.size, 1, none⟩ = some (.int .i64 (cv G).s) := by
    rw [HW3.out, cell_of_row _ _ 1 _ _ _ (heap_alloc_new w2 _)]; rfl
  clear hst
  go_cut [27] from 21 to 26 (fun g wx => g = .bool st ∧ wx = w3)
  case first =>
    cases G with
    | none =>
      obtain rfl : st = false := HST.out
      go_wp2_with fail
      go_meet
      exact ⟨rfl, rfl⟩
    | some y =>
      obtain rfl : st = decide (q ≤ (cv (some y)).s) := HST.out
      go_wp2_with fail
      go_meet
      exact ⟨rfl, rfl⟩
  case rest =>
  rename World => wx
  obtain ⟨rfl, hwx⟩ := hcut
  rw [hwx]
  clear hwx t1
  cases st with
  | true =>
    have hs : stay q G = true := HST.out.symm
    have HR : Hid (RES = l) := Lib.hid (by rw [HPE.out, if_pos hs])
    have f2 : w3.cell? ⟨p2, 0, none⟩ = some (.slice none 0 0) := by rw [cell_of_row _ _ 0 _ _ _ HB3.out.2.2.1]; rfl
    have f3 : w3.cell? ⟨p2, 1, none⟩ = some (.int .i64 0) := by rw [cell_of_row _ _ 1 _ _ _ HB3.out.2.2.1]; rfl
    have f4 := frozen_of HB3.out.2.2.1
    have HS2 : Hid (Below w.heap.size w ((w3.setCell ⟨p2, 0, none⟩ (.slice A n c)).setCell ⟨p2, 1, none⟩ (.int .i64 last)) ∧ Ens ((w3.setCell ⟨p2, 0, none⟩ (.slice A n c)).setCell ⟨p2, 1, none⟩ (.int .i64 last)) A l ∧ ((w3.setCell ⟨p2, 0, none⟩ (.slice A n c)).setCell ⟨p2, 1, none⟩ (.int .i64 last)).cell? ⟨p2, 0, none⟩ = some (.slice A n c) ∧ ((w3.setCell ⟨p2, 0, none⟩ (.slice A n c)).setCell ⟨p2, 1, none⟩ (.int .i64 last)).cell? ⟨p2, 1, none⟩ = some (.int .i64 last)) := Lib.hid (by
      have hle : w.heap.size ≤ p2 := by have := HP.out; omega
      have hb := (HB3.out.2.2.2.2.1.setCell (p := ⟨p2, 0, none⟩) hle (.slice A n c)).setCell (p := ⟨p2, 1, none⟩) hle (.int .i64 last)
      have h2 := heap_set _ p2 1 (.int .i64 last) (heap_set w3 p2 0 (.slice A n c) HB3.out.2.2.1)
      exact ⟨hb, RowAt.below HH0.out hb, cell_of_row _ _ 0 _ _ _ h2, cell_of_row _ _ 1 _ _ _ h2⟩)
    clear hs
    go_wp2_with fail
    refine bodyPost_ret (v := .agg #[.slice A n c, .int .i64 last]) (by simp [results, Try.results78, go_sem, HS2.out.2.2.1, HS2.out.2.2.2]) rfl (PutOut.of (by rw [HR.out, ← HN.out]) (by rw [HR.out]; exact HS2.out.2.1) HS2.out.1 (by rw [HR.out]; exact Near.refl _ _ _))
  | false =>
    have HR : Hid (RES = goE ⟨x.t.toNat, ⟨x.k, x.cl q⟩⟩ false l) := Lib.hid (by rw [HPE.out, if_neg (by rw [← HST.out]; decide)])
    have k0 : w3.cell? ⟨p1, 0, none⟩ = some (.int .i64 x.t) := by rw [cell_of_row _ _ 0 _ _ _ HB3.out.2.1]; rfl
    have k1 : w3.cell? ⟨p1, 1, none⟩ = some (.int .i64 x.k) := by rw [cell_of_row _ _ 1 _ _ _ HB3.out.2.1]; rfl
    have k2 : w3.cell? ⟨p1, 2, none⟩ = some (.int .i64 x.v) := by rw [cell_of_row _ _ 2 _ _ _ HB3.out.2.1]; rfl
    have k3 : w3.cell? ⟨p1, 3, none⟩ = some (.bool x.dead) := by rw [cell_of_row _ _ 3 _ _ _ HB3.out.2.1]; rfl
    obtain ⟨p4, hp4⟩ : ∃ p4, p4 = w3.heap.size := ⟨_, rfl⟩
    obtain ⟨w4, hw4⟩ : ∃ w4, w4 = w3.alloc (.cells #[.int .i64 x.t, .int .i64 x.k, .int .i64 x.v, .int .i64 q, .bool x.dead] 46) := ⟨_, rfl⟩
    have HR4 : Hid (R5 w w4 p0 p1 p2 p4 A n c last l x.t x.k x.v (.int .i64 x.v) q x.dead) := Lib.hid (by
      have hbb := (Below.refl w3.heap.size w3).alloc (Nat.le_refl _) (.cells #[.int .i64 x.t, .int .i64 x.k, .int .i64 x.v, .int .i64 q, .bool x.dead] 46)
      rw [hw4]
      obtain ⟨a0, a1, a2, _, a4, a5, _⟩ := HB3.out
      exact ⟨old_alloc a0 _, old_alloc a1 _, old_alloc a2 _, by rw [hp4]; exact heap_alloc_new w3 _, HH0.out, a4.trans (hbb.mono a4.size), by have := HP.out; omega, by rw [hp4]; exact a4.size⟩)
    have HW4 := Lib.hid hw4
    have HP4 := Lib.hid hp4
    obtain ⟨vd, hvd⟩ : ∃ vd, vd = x.dead := ⟨_, rfl⟩
    have HVD := Lib.hid hvd
    have g3 : w4.cell? ⟨p1, 3, none⟩ = some (.bool vd) := by rw [cell_of_row _ _ 3 _ _ _ HR4.out.b1, hvd]; rfl
    clear hvd
    have g2 : w4.cell? ⟨p4, 2, none⟩ = some (.int .i64 x.v) := by rw [cell_of_row _ _ 2 _ _ _ HR4.out.b4]; rfl
    have g4 := frozen_of HR4.out.b4
    clear hw4 hp4
    go_upto_region 5 with fail
    rw [← HW4.out, ← HP4.out]
    clear f0 f1 k0 k1 k2 k3
    go_upto_if 39 with fail
    go_cut [] from 40 to 41 (fun wx => R5 w wx p0 p1 p2 p4 A n c last l x.t x.k x.v (.int .i64 (if x.dead then 0 else x.v)) q x.dead)
    case first =>
      cases vd with
      | true =>
        have HR5 := Lib.hid (HR4.out.kill HVD.out.symm)
        go_wp2_with fail
        go_meet
        exact HR5.out
      | false =>
        have HR5 := Lib.hid (HR4.out.stay HVD.out.symm)
        go_wp2_with fail
        go_meet
        exact HR5.out
    case rest =>
    clear g2 g3 g4
    rename World => w5
    have HR5 := Lib.hid hcut
    clear hcut
    obtain ⟨p5, hp5⟩ : ∃ p5, p5 = w5.heap.size := ⟨_, rfl⟩
    have HP5 := Lib.hid hp5
    have g1 : w5.cell? ⟨p0, 1, none⟩ = some (.int .i64 last) := by rw [cell_of_row _ _ 1 _ _ _ HR5.out.b0]; rfl
    have HR8 := Lib.hid (R8.start HR5.out)
    obtain ⟨W7, hW7⟩ : ∃ W7, W7 = w5.alloc (.cells #[.slice none 0 0, .int .i64 last] 31) := ⟨_, rfl⟩
    rw [← hW7, ← hp5] at HR8
    have HW7 := Lib.hid hW7
    clear hW7 hp5
    go_upto_region 8 with fail
    rw [← HW7.out, ← HP5.out]
    clear g1
    go_wp2_with fail
    have HG : Hid (([] : List En) ++ goE ⟨x.t.toNat, ⟨x.k, x.cl q⟩⟩ false (l.drop 0) = RES) := Lib.hid HR.out.symm
    go_loopw [11, 12, 13, 45, 46, 47, 48, 49, 50, 51, 52, 53, 54, 55, 56, 57, 58, 59, 60, 61, 62, 63, 64, 65, 66, 67, 68, 69, 70, 71, 72, 73, 74, 75, 76, 77, 78, 79, 80, 81, 82, 83] (fun dx ix _ _ _ _ _ _ _ _ _ _ _ _ _ _ _ _ _ _ _ _ _ _ _ _ _ _ _ _ _ _ _ _ _ _ _ _ _ _ _ _ wr => ∃ (z : Nat) (done : Bool) (v : Value) (O : List En), ix = .int .i64 (z : Int) ∧ dx = .bool done ∧ z ≤ n ∧ O ++ goE ⟨x.t.toNat, ⟨x.k, x.cl q⟩⟩ done (l.drop z) = RES ∧ O.length ≤ z + (bif done then 1 else 0) ∧ R8 w W7 wr p0 p1 p2 p4 p5 A n c last l x q v O) (fun dx ix _ _ _ _ _ _ _ _ _ _ _ _ _ _ _ _ _ _ _ _ _ _ _ _ _ _ _ _ _ _ _ _ _ _ _ _ _ _ _ _ wr => n - (intOf ix).toNat)
    case atStart => exact ⟨0, false, _, [], rfl, rfl, Nat.zero_le _, HG.out, Nat.zero_le _, HR8.out⟩
    case round =>
      obtain ⟨z, done, v, O, rfl, rfl, hz, he, hO, h8⟩ := hrel
      obtain ⟨A9, c9, rfl⟩ := own_form h8.ps.own
      have H8 := Lib.hid h8
      have HE := Lib.hid (And.intro he hO)
      have s0 : wr.cell? ⟨p0, 0, none⟩ = some (.slice A n c) := by rw [cell_of_row _ _ 0 _ _ _ h8.r.b0]; rfl
      clear he hO h8
      by_cases hlt : z < n
      · have hzl : z < l.length := by rw [← HN.out]; exact hlt
        obtain ⟨b, off, rfl, hcl⟩ := Ens.cell (RowAt.below H8.out.r.ens H8.out.r.bel) (by omega)
        obtain ⟨x0, x1, x2, x3, x4⟩ := hcl z hzl
        obtain ⟨e, hx0⟩ : ∃ e, e = l[z] := ⟨_, rfl⟩
        have hda : l.drop z = e :: l.drop (z + 1) := drop_at (by rw [hx0]; exact List.getElem?_eq_getElem hzl)
        rw [← hx0] at x0 x1 x2 x3 x4
        have HDA := Lib.hid hda
        have hnb : n ≤ 100000 := by rw [HN.out]; exact HL.out
        have HNB : Hid (z + 1 ≤ 100000) := Lib.hid (by omega)
        have HX := Lib.hid hx
        obtain ⟨n9, hn9⟩ : ∃ n9, n9 = O.length := ⟨_, rfl⟩
        have HN9 := Lib.hid hn9
        clear hcl hx0 hzl hda hn9
        obtain ⟨p6, hp6⟩ : ∃ p6, p6 = wr.heap.size := ⟨_, rfl⟩
        obtain ⟨we, hwe⟩ : ∃ we, we = wr.alloc (.cells #[.int .i64 (e.t : Int), .int .i64 e.x.k, .int .i64 e.x.c.v, .int .i64 e.x.c.s, .bool e.x.c.dead] 46) := ⟨_, rfl⟩
        have HEE : Hid (R8 w W7 we p0 p1 p2 p4 p5 (some ⟨b, off, none⟩) n c last l x q (.slice A9 O.length c9) O ∧ we.heap[p6]? = some (enO e) ∧ (Value.slice A9 O.length c9).ownBlock ≠ some p6 ∧ p5 < p6 ∧ p6 < we.heap.size) := Lib.hid (by
          rw [hwe, hp6]
          refine ⟨H8.out.below ((Below.refl _ _).alloc (Nat.le_refl _) _), heap_alloc_new wr _, fun e9 => ?_, ?_, by rw [World.size_alloc]; omega⟩
          · obtain ⟨_, e8⟩ := own_at H8.out.ps.own e9
            have := (Array.getElem?_eq_some_iff.1 e8).1
            omega
          · have := H8.out.ps.lt; have := H8.out.ps.ch.size; omega)
        have H9 := Lib.hid HEE.out.1
        have HWE := Lib.hid hwe
        have HP6 := Lib.hid hp6
        clear hwe hp6
        go_upto_region 13 with fail
        rw [← HWE.out, ← HP6.out]
        clear s0 x0 x1 x2 x3 x4
        cases done with
        | true =>
          have HE := Lib.hid (And.intro HE.out.1 (show O.length ≤ z + 1 from HE.out.2))
          have m0 : we.cell? ⟨p6, 0, none⟩ = some (.int .i64 (e.t : Int)) := by rw [cell_of_row _ _ 0 _ _ _ HEE.out.2.1]; rfl
          have m1 : we.cell? ⟨p6, 1, none⟩ = some (.int .i64 e.x.k) := by rw [cell_of_row _ _ 1 _ _ _ HEE.out.2.1]; rfl
          have m2 : we.cell? ⟨p6, 2, none⟩ = some (.int .i64 e.x.c.v) := by rw [cell_of_row _ _ 2 _ _ _ HEE.out.2.1]; rfl
          have m3 : we.cell? ⟨p6, 3, none⟩ = some (.int .i64 e.x.c.s) := by rw [cell_of_row _ _ 3 _ _ _ HEE.out.2.1]; rfl
          have m4 : we.cell? ⟨p6, 4, none⟩ = some (.bool e.x.c.dead) := by rw [cell_of_row _ _ 4 _ _ _ HEE.out.2.1]; rfl
          have u0 : we.cell? ⟨p1, 0, none⟩ = some (.int .i64 x.t) := by rw [cell_of_row _ _ 0 _ _ _ H9.out.r.b1]; rfl
          have u1 : we.cell? ⟨p1, 1, none⟩ = some (.int .i64 x.k) := by rw [cell_of_row _ _ 1 _ _ _ H9.out.r.b1]; rfl
          by_cases hk1 : (e.t : Int) = x.t
          · by_cases hk2 : e.x.k = x.k
            · have d1 : ((e.t : Int) == x.t) = true := by rw [hk1]; simp
              have d2 : (e.x.k == x.k) = true := by rw [hk2]; simp
              have HSM : Hid (sameE e ⟨x.t.toNat, ⟨x.k, x.cl q⟩⟩ = true) := Lib.hid (by unfold sameE; apply decide_eq_true; exact ⟨by show e.t = x.t.toNat; have := HX.out; unfold InT at this; omega, hk2⟩)
              clear hk1 hk2
              go_wp2_with fail
              go_roundw
              case rel => exact ⟨z + 1, true, _, O, by go_num, rfl, by omega, by rw [← HE.out.1, HDA.out]; simp [goE, HSM.out], by have := HE.out.2; (try simp only [cond_true]); omega, H9.out⟩
              case measure => simp [intOf]; omega
            · have d1 : ((e.t : Int) == x.t) = true := by rw [hk1]; simp
              have d2 : (e.x.k == x.k) = false := by simpa using hk2
              have HSM : Hid (sameE e ⟨x.t.toNat, ⟨x.k, x.cl q⟩⟩ = false) := Lib.hid (by unfold sameE; apply decide_eq_false; rintro ⟨_, e2⟩; exact hk2 e2)
              clear hk1 hk2
              have HOW : Hid (∀ o, (we.alloc o).ownsRow W7.heap.size 46 5 (.slice A9 n9 c9) n9 (rowV En.vals (O))) := Lib.hid fun o => by have h9 := (H9.out.below ((Below.refl _ _).alloc (Nat.le_refl _) o)).ps.own; rw [← HN9.out] at h9; exact h9
              have HBB : Hid (∀ o, W7.heap.size ≤ (we.alloc o).heap.size) := Lib.hid fun o => (H9.out.below ((Below.refl _ _).alloc (Nat.le_refl _) o)).ps.ch.size
              have y0 : we.cell? ⟨p5, 0, none⟩ = some (.slice A9 n9 c9) := by rw [cell_of_row _ _ 0 _ _ _ H9.out.ps.box, HN9.out]; rfl
              have HBX : Hid (n9 ≤ 200000) := Lib.hid (by rw [HN9.out]; have := HE.out.2; have := HNB.out; (try simp only [List.length_append, List.length_cons, List.length_nil, cond_true, cond_false]); omega)
              go_wp2_with (at_builtin; refine wpList_append_rowg elemEn rfl (.tmp 79) (.tmp 81) rfl W7.heap.size (.slice A9 n9 c9) n9 (rowV En.vals (O)) rfl (HOW.out _) (some ⟨we.heap.size, 0, none⟩) 1 1 (En.vals e) rfl (rdv_freshE we e 46) (en1 _) (fun h => by cases h) (by have := HBX.out; unfold maxLen; omega) (by have := HBX.out; omega) (HBB.out _) ?_; intro v' w' ho hg hq; obtain ⟨A8, c8, rfl⟩ := own_form ho; rw [HN9.out] at ho hg; have HO8 := Lib.hid (And.intro ho hg); obtain ⟨y1, y2⟩ := H9.out.own hg; rw [← HN9.out] at y1; clear ho hg hq)
              go_roundw
              case rel => exact ⟨z + 1, true, _, (O) ++ [e], by go_num, rfl, by omega, by rw [← HE.out.1, HDA.out]; simp [goE, HSM.out], by have := HE.out.2; (try simp only [List.length_append, List.length_cons, List.length_nil, cond_true]); omega, by have h9 := H9.out.push HO8.out.1 HO8.out.2; rw [HN9.out]; (try simp only [List.length_append, List.length_cons, List.length_nil, cond_true, cond_false]); exact h9⟩
              case measure => simp [intOf]; omega
          · have d1 : ((e.t : Int) == x.t) = false := by simpa using hk1
            have HSM : Hid (sameE e ⟨x.t.toNat, ⟨x.k, x.cl q⟩⟩ = false) := Lib.hid (by unfold sameE; apply decide_eq_false; rintro ⟨e1, _⟩; apply hk1; have e1 : e.t = x.t.toNat := e1; have := HX.out; unfold InT at this; omega)
            clear hk1
            have HOW : Hid (∀ o, (we.alloc o).ownsRow W7.heap.size 46 5 (.slice A9 n9 c9) n9 (rowV En.vals (O))) := Lib.hid fun o => by have h9 := (H9.out.below ((Below.refl _ _).alloc (Nat.le_refl _) o)).ps.own; rw [← HN9.out] at h9; exact h9
            have HBB : Hid (∀ o, W7.heap.size ≤ (we.alloc o).heap.size) := Lib.hid fun o => (H9.out.below ((Below.refl _ _).alloc (Nat.le_refl _) o)).ps.ch.size
            have y0 : we.cell? ⟨p5, 0, none⟩ = some (.slice A9 n9 c9) := by rw [cell_of_row _ _ 0 _ _ _ H9.out.ps.box, HN9.out]; rfl
            have HBX : Hid (n9 ≤ 200000) := Lib.hid (by rw [HN9.out]; have := HE.out.2; have := HNB.out; (try simp only [List.length_append, List.length_cons, List.length_nil, cond_true, cond_false]); omega)
            go_wp2_with (at_builtin; refine wpList_append_rowg elemEn rfl (.tmp 79) (.tmp 81) rfl W7.heap.size (.slice A9 n9 c9) n9 (rowV En.vals (O)) rfl (HOW.out _) (some ⟨we.heap.size, 0, none⟩) 1 1 (En.vals e) rfl (rdv_freshE we e 46) (en1 _) (fun h => by cases h) (by have := HBX.out; unfold maxLen; omega) (by have := HBX.out; omega) (HBB.out _) ?_; intro v' w' ho hg hq; obtain ⟨A8, c8, rfl⟩ := own_form ho; rw [HN9.out] at ho hg; have HO8 := Lib.hid (And.intro ho hg); obtain ⟨y1, y2⟩ := H9.out.own hg; rw [← HN9.out] at y1; clear ho hg hq)
            go_roundw
            case rel => exact ⟨z + 1, true, _, (O) ++ [e], by go_num, rfl, by omega, by rw [← HE.out.1, HDA.out]; simp [goE, HSM.out], by have := HE.out.2; (try simp only [List.length_append, List.length_cons, List.length_nil, cond_true]); omega, by have h9 := H9.out.push HO8.out.1 HO8.out.2; rw [HN9.out]; (try simp only [List.length_append, List.length_cons, List.length_nil, cond_true, cond_false]); exact h9⟩
            case measure => simp [intOf]; omega
        | false =>
          have HE := Lib.hid (And.intro HE.out.1 (show O.length ≤ z from HE.out.2))
          have HLK : Hid (lessK (e.t : Int) e.x.k x.t x.k = lessE e ⟨x.t.toNat, ⟨x.k, x.cl q⟩⟩) := Lib.hid (by
            have h9 : ((x.t.toNat : Nat) : Int) = x.t := Int.toNat_of_nonneg HX.out.1
            show lessK _ _ x.t _ = lessK _ _ ((x.t.toNat : Nat) : Int) _
            rw [h9])
          have m0 : we.cell? ⟨p6, 0, none⟩ = some (.int .i64 (e.t : Int)) := by rw [cell_of_row _ _ 0 _ _ _ HEE.out.2.1]; rfl
          have m1 : we.cell? ⟨p6, 1, none⟩ = some (.int .i64 e.x.k) := by rw [cell_of_row _ _ 1 _ _ _ HEE.out.2.1]; rfl
          have m2 : we.cell? ⟨p6, 2, none⟩ = some (.int .i64 e.x.c.v) := by rw [cell_of_row _ _ 2 _ _ _ HEE.out.2.1]; rfl
          have m3 : we.cell? ⟨p6, 3, none⟩ = some (.int .i64 e.x.c.s) := by rw [cell_of_row _ _ 3 _ _ _ HEE.out.2.1]; rfl
          have m4 : we.cell? ⟨p6, 4, none⟩ = some (.bool e.x.c.dead) := by rw [cell_of_row _ _ 4 _ _ _ HEE.out.2.1]; rfl
          have u0 : we.cell? ⟨p1, 0, none⟩ = some (.int .i64 x.t) := by rw [cell_of_row _ _ 0 _ _ _ H9.out.r.b1]; rfl
          have u1 : we.cell? ⟨p1, 1, none⟩ = some (.int .i64 x.k) := by rw [cell_of_row _ _ 1 _ _ _ H9.out.r.b1]; rfl
          go_wp2_with fail
          refine Calls.mono (refLess_any we (e.t : Int) e.x.k x.t x.k) ?_
          rintro e0 w6 ⟨rfl, hb6⟩
          rw [HLK.out]
          have H6 := Lib.hid (H9.out.below hb6)
          have HE6 := Lib.hid ((hb6.block p6 HEE.out.2.2.2.2).trans HEE.out.2.1)
          have HZ6 := Lib.hid (Nat.lt_of_lt_of_le HEE.out.2.2.2.2 hb6.size)
          clear hb6 m0 m1 m2 m3 m4 u0 u1
          obtain ⟨ls, hls⟩ : ∃ ls, ls = lessE e ⟨x.t.toNat, ⟨x.k, x.cl q⟩⟩ := ⟨_, rfl⟩
          rw [← hls]
          have HLS0 := Lib.hid hls
          clear hls
          cases ls with
          | true =>
            have HLS : Hid (lessE e ⟨x.t.toNat, ⟨x.k, x.cl q⟩⟩ = true) := Lib.hid HLS0.out.symm
            have m0 : w6.cell? ⟨p6, 0, none⟩ = some (.int .i64 (e.t : Int)) := by rw [cell_of_row _ _ 0 _ _ _ HE6.out]; rfl
            have m1 : w6.cell? ⟨p6, 1, none⟩ = some (.int .i64 e.x.k) := by rw [cell_of_row _ _ 1 _ _ _ HE6.out]; rfl
            have m2 : w6.cell? ⟨p6, 2, none⟩ = some (.int .i64 e.x.c.v) := by rw [cell_of_row _ _ 2 _ _ _ HE6.out]; rfl
            have m3 : w6.cell? ⟨p6, 3, none⟩ = some (.int .i64 e.x.c.s) := by rw [cell_of_row _ _ 3 _ _ _ HE6.out]; rfl
            have m4 : w6.cell? ⟨p6, 4, none⟩ = some (.bool e.x.c.dead) := by rw [cell_of_row _ _ 4 _ _ _ HE6.out]; rfl
            have u0 : w6.cell? ⟨p1, 0, none⟩ = some (.int .i64 x.t) := by rw [cell_of_row _ _ 0 _ _ _ H6.out.r.b1]; rfl
            have u1 : w6.cell? ⟨p1, 1, none⟩ = some (.int .i64 x.k) := by rw [cell_of_row _ _ 1 _ _ _ H6.out.r.b1]; rfl
            by_cases hk1 : (e.t : Int) = x.t
            · have hk2 : ¬ e.x.k = x.k := fun e9 => by
                have h9 := less_same HLS.out
                unfold sameE at h9
                exact of_decide_eq_false h9 ⟨by show e.t = x.t.toNat; have := HX.out; unfold InT at this; omega, e9⟩
              have d1 : ((e.t : Int) == x.t) = true := by rw [hk1]; simp
              have d2 : (e.x.k == x.k) = false := by simpa using hk2
              have HSM : Hid (sameE e ⟨x.t.toNat, ⟨x.k, x.cl q⟩⟩ = false) := Lib.hid (by unfold sameE; apply decide_eq_false; rintro ⟨_, e2⟩; exact hk2 e2)
              clear hk1 hk2
              have HOW : Hid (∀ o, (w6.alloc o).ownsRow W7.heap.size 46 5 (.slice A9 n9 c9) n9 (rowV En.vals (O))) := Lib.hid fun o => by have h9 := (H6.out.below ((Below.refl _ _).alloc (Nat.le_refl _) o)).ps.own; rw [← HN9.out] at h9; exact h9
              have HBB : Hid (∀ o, W7.heap.size ≤ (w6.alloc o).heap.size) := Lib.hid fun o => (H6.out.below ((Below.refl _ _).alloc (Nat.le_refl _) o)).ps.ch.size
              have y0 : w6.cell? ⟨p5, 0, none⟩ = some (.slice A9 n9 c9) := by rw [cell_of_row _ _ 0 _ _ _ H6.out.ps.box, HN9.out]; rfl
              have HBX : Hid (n9 ≤ 200000) := Lib.hid (by rw [HN9.out]; have := HE.out.2; have := HNB.out; (try simp only [List.length_append, List.length_cons, List.length_nil, cond_true, cond_false]); omega)
              go_wp2_with (at_builtin; refine wpList_append_rowg elemEn rfl (.tmp 79) (.tmp 81) rfl W7.heap.size (.slice A9 n9 c9) n9 (rowV En.vals (O)) rfl (HOW.out _) (some ⟨w6.heap.size, 0, none⟩) 1 1 (En.vals e) rfl (rdv_freshE w6 e 46) (en1 _) (fun h => by cases h) (by have := HBX.out; unfold maxLen; omega) (by have := HBX.out; omega) (HBB.out _) ?_; intro v' w' ho hg hq; obtain ⟨A8, c8, rfl⟩ := own_form ho; rw [HN9.out] at ho hg; have HO8 := Lib.hid (And.intro ho hg); obtain ⟨y1, y2⟩ := H6.out.own hg; rw [← HN9.out] at y1; clear ho hg hq)
              go_roundw
              case rel => exact ⟨z + 1, false, _, (O) ++ [e], by go_num, rfl, by omega, by rw [← HE.out.1, HDA.out]; simp [goE, HLS.out, HSM.out], by have := HE.out.2; (try simp only [List.length_append, List.length_cons, List.length_nil, cond_false]); omega, by have h9 := H6.out.push HO8.out.1 HO8.out.2; rw [← HN9.out] at h9; exact h9⟩
              case measure => simp [intOf]; omega
            · have d1 : ((e.t : Int) == x.t) = false := by simpa using hk1
              have HSM : Hid (sameE e ⟨x.t.toNat, ⟨x.k, x.cl q⟩⟩ = false) := Lib.hid (by unfold sameE; apply decide_eq_false; rintro ⟨e1, _⟩; apply hk1; have e1 : e.t = x.t.toNat := e1; have := HX.out; unfold InT at this; omega)
              clear hk1
              have HOW : Hid (∀ o, (w6.alloc o).ownsRow W7.heap.size 46 5 (.slice A9 n9 c9) n9 (rowV En.vals (O))) := Lib.hid fun o => by have h9 := (H6.out.below ((Below.refl _ _).alloc (Nat.le_refl _) o)).ps.own; rw [← HN9.out] at h9; exact h9
              have HBB : Hid (∀ o, W7.heap.size ≤ (w6.alloc o).heap.size) := Lib.hid fun o => (H6.out.below ((Below.refl _ _).alloc (Nat.le_refl _) o)).ps.ch.size
              have y0 : w6.cell? ⟨p5, 0, none⟩ = some (.slice A9 n9 c9) := by rw [cell_of_row _ _ 0 _ _ _ H6.out.ps.box, HN9.out]; rfl
              have HBX : Hid (n9 ≤ 200000) := Lib.hid (by rw [HN9.out]; have := HE.out.2; have := HNB.out; (try simp only [List.length_append, List.length_cons, List.length_nil, cond_true, cond_false]); omega)
              go_wp2_with (at_builtin; refine wpList_append_rowg elemEn rfl (.tmp 79) (.tmp 81) rfl W7.heap.size (.slice A9 n9 c9) n9 (rowV En.vals (O)) rfl (HOW.out _) (some ⟨w6.heap.size, 0, none⟩) 1 1 (En.vals e) rfl (rdv_freshE w6 e 46) (en1 _) (fun h => by cases h) (by have := HBX.out; unfold maxLen; omega) (by have := HBX.out; omega) (HBB.out _) ?_; intro v' w' ho hg hq; obtain ⟨A8, c8, rfl⟩ := own_form ho; rw [HN9.out] at ho hg; have HO8 := Lib.hid (And.intro ho hg); obtain ⟨y1, y2⟩ := H6.out.own hg; rw [← HN9.out] at y1; clear ho hg hq)
              go_roundw
              case rel => exact ⟨z + 1, false, _, (O) ++ [e], by go_num, rfl, by omega, by rw [← HE.out.1, HDA.out]; simp [goE, HLS.out, HSM.out], by have := HE.out.2; (try simp only [List.length_append, List.length_cons, List.length_nil, cond_false]); omega, by have h9 := H6.out.push HO8.out.1 HO8.out.2; rw [← HN9.out] at h9; exact h9⟩
              case measure => simp [intOf]; omega
          | false =>
            have HLS : Hid (lessE e ⟨x.t.toNat, ⟨x.k, x.cl q⟩⟩ = false) := Lib.hid HLS0.out.symm
            obtain ⟨vz, hvz⟩ : ∃ vz : Int, vz = if x.dead then 0 else x.v := ⟨_, rfl⟩
            have HRZ : Hid (∀ (W : World) (T : TypeId), Rdv (W.alloc (.cells #[.int .i64 x.t, .int .i64 x.k, .int .i64 vz, .int .i64 q, .bool x.dead] T)) (some ⟨W.heap.size, 0, none⟩) 1 5 (En.vals ⟨x.t.toNat, ⟨x.k, x.cl q⟩⟩)) := Lib.hid (by rw [hvz]; exact fun W T => rdv_freshF W x q HX.out T)
            have z0 : w6.cell? ⟨p4, 0, none⟩ = some (.int .i64 x.t) := by rw [cell_of_row _ _ 0 _ _ _ H6.out.r.b4]; rfl
            have z1 : w6.cell? ⟨p4, 1, none⟩ = some (.int .i64 x.k) := by rw [cell_of_row _ _ 1 _ _ _ H6.out.r.b4]; rfl
            have z2 : w6.cell? ⟨p4, 2, none⟩ = some (.int .i64 vz) := by rw [cell_of_row _ _ 2 _ _ _ H6.out.r.b4, hvz]; rfl
            have z3 : w6.cell? ⟨p4, 3, none⟩ = some (.int .i64 q) := by rw [cell_of_row _ _ 3 _ _ _ H6.out.r.b4]; rfl
            have z4 : w6.cell? ⟨p4, 4, none⟩ = some (.bool x.dead) := by rw [cell_of_row _ _ 4 _ _ _ H6.out.r.b4]; rfl
            clear hvz
            have HOW : Hid (∀ o, (w6.alloc o).ownsRow W7.heap.size 46 5 (.slice A9 n9 c9) n9 (rowV En.vals (O))) := Lib.hid fun o => by have h9 := (H6.out.below ((Below.refl _ _).alloc (Nat.le_refl _) o)).ps.own; rw [← HN9.out] at h9; exact h9
            have HBB : Hid (∀ o, W7.heap.size ≤ (w6.alloc o).heap.size) := Lib.hid fun o => (H6.out.below ((Below.refl _ _).alloc (Nat.le_refl _) o)).ps.ch.size
            have y0 : w6.cell? ⟨p5, 0, none⟩ = some (.slice A9 n9 c9) := by rw [cell_of_row _ _ 0 _ _ _ H6.out.ps.box, HN9.out]; rfl
            have HBX : Hid (n9 ≤ 200000) := Lib.hid (by rw [HN9.out]; have := HE.out.2; have := HNB.out; (try simp only [List.length_append, List.length_cons, List.length_nil, cond_true, cond_false]); omega)
            go_upto_region 16 with (at_builtin; refine wpList_append_rowg elemEn rfl (.tmp 68) (.tmp 70) rfl W7.heap.size (.slice A9 n9 c9) n9 (rowV En.vals (O)) rfl (HOW.out _) (some ⟨w6.heap.size, 0, none⟩) 1 1 (En.vals (⟨x.t.toNat, ⟨x.k, x.cl q⟩⟩ : En)) rfl (HRZ.out _ _) (en1 _) (fun h => by cases h) (by have := HBX.out; unfold maxLen; omega) (by have := HBX.out; omega) (HBB.out _) ?_; intro v' w' ho hg hq; rw [HN9.out] at ho hg; obtain ⟨A8, c8, rfl⟩ := own_form ho; have HO8 := Lib.hid (And.intro ho hg); have H88 := Lib.hid (H6.out.push ho hg); have HE8 := Lib.hid (H6.out.other (v' := .slice A8 (O.length + 1) c8) hg HZ6.out HEE.out.2.2.1 (by have := HEE.out.2.2.2.1; omega)); obtain ⟨y1, y2⟩ := H6.out.own hg; rw [← HN9.out] at y1; clear ho hg hq)
            obtain ⟨m9, hm9⟩ : ∃ m9, m9 = O.length + 1 := ⟨_, rfl⟩
            have HM9 : Hid (m9 = (O ++ [(⟨x.t.toNat, ⟨x.k, x.cl q⟩⟩ : En)]).length) := Lib.hid (by rw [hm9]; simp)
            obtain ⟨w8, hw8⟩ : ∃ w8, w8 = w'.setCell ⟨p5, 0, none⟩ (.slice A8 (O.length + 1) c8) := ⟨_, rfl⟩
            rw [← hw8] at H88 HE8
            rw [← hw8]
            rw [← hm9] at H88
            clear hw8 hm9 y0 y1 y2 z0 z1 z2 z3 z4
            have HH8 : Hid (R8 w W7 w8 p0 p1 p2 p4 p5 (some ⟨b, off, none⟩) n c last l x q (.slice A8 (O ++ [(⟨x.t.toNat, ⟨x.k, x.cl q⟩⟩ : En)]).length c8) (O ++ [(⟨x.t.toNat, ⟨x.k, x.cl q⟩⟩ : En)])) := Lib.hid (by rw [← HM9.out]; exact H88.out)
            clear HOW HBB HBX
            have m0 : w8.cell? ⟨p6, 0, none⟩ = some (.int .i64 (e.t : Int)) := by rw [cell_of_row _ _ 0 _ _ _ (HE8.out.trans HE6.out)]; rfl
            have m1 : w8.cell? ⟨p6, 1, none⟩ = some (.int .i64 e.x.k) := by rw [cell_of_row _ _ 1 _ _ _ (HE8.out.trans HE6.out)]; rfl
            have m2 : w8.cell? ⟨p6, 2, none⟩ = some (.int .i64 e.x.c.v) := by rw [cell_of_row _ _ 2 _ _ _ (HE8.out.trans HE6.out)]; rfl
            have m3 : w8.cell? ⟨p6, 3, none⟩ = some (.int .i64 e.x.c.s) := by rw [cell_of_row _ _ 3 _ _ _ (HE8.out.trans HE6.out)]; rfl
            have m4 : w8.cell? ⟨p6, 4, none⟩ = some (.bool e.x.c.dead) := by rw [cell_of_row _ _ 4 _ _ _ (HE8.out.trans HE6.out)]; rfl
            have u0 : w8.cell? ⟨p1, 0, none⟩ = some (.int .i64 x.t) := by rw [cell_of_row _ _ 0 _ _ _ HH8.out.r.b1]; rfl
            have u1 : w8.cell? ⟨p1, 1, none⟩ = some (.int .i64 x.k) := by rw [cell_of_row _ _ 1 _ _ _ HH8.out.r.b1]; rfl
            by_cases hk1 : (e.t : Int) = x.t
            · by_cases hk2 : e.x.k = x.k
              · have d1 : ((e.t : Int) == x.t) = true := by rw [hk1]; simp
                have d2 : (e.x.k == x.k) = true := by rw [hk2]; simp
                have HSM : Hid (sameE e ⟨x.t.toNat, ⟨x.k, x.cl q⟩⟩ = true) := Lib.hid (by unfold sameE; apply decide_eq_true; exact ⟨by show e.t = x.t.toNat; have := HX.out; unfold InT at this; omega, hk2⟩)
                clear hk1 hk2
                go_wp2_with fail
                go_roundw
                case rel => exact ⟨z + 1, true, _, O ++ [(⟨x.t.toNat, ⟨x.k, x.cl q⟩⟩ : En)], by go_num, rfl, by omega, by rw [← HE.out.1, HDA.out]; simp [goE, HLS.out, HSM.out], by have := HE.out.2; (try simp only [List.length_append, List.length_cons, List.length_nil, cond_true]); omega, by have h9 := HH8.out; rw [← HM9.out] at h9; exact h9⟩
                case measure => simp [intOf]; omega
              · have d1 : ((e.t : Int) == x.t) = true := by rw [hk1]; simp
                have d2 : (e.x.k == x.k) = false := by simpa using hk2
                have HSM : Hid (sameE e ⟨x.t.toNat, ⟨x.k, x.cl q⟩⟩ = false) := Lib.hid (by unfold sameE; apply decide_eq_false; rintro ⟨_, e2⟩; exact hk2 e2)
                clear hk1 hk2
                have HOW : Hid (∀ o, (w8.alloc o).ownsRow W7.heap.size 46 5 (.slice A8 m9 c8) m9 (rowV En.vals (O ++ [(⟨x.t.toNat, ⟨x.k, x.cl q⟩⟩ : En)]))) := Lib.hid fun o => by have h9 := (HH8.out.below ((Below.refl _ _).alloc (Nat.le_refl _) o)).ps.own; rw [← HM9.out] at h9; exact h9
                have HBB : Hid (∀ o, W7.heap.size ≤ (w8.alloc o).heap.size) := Lib.hid fun o => (HH8.out.below ((Below.refl _ _).alloc (Nat.le_refl _) o)).ps.ch.size
                have y0 : w8.cell? ⟨p5, 0, none⟩ = some (.slice A8 m9 c8) := by rw [cell_of_row _ _ 0 _ _ _ HH8.out.ps.box, HM9.out]; rfl
                have HBX : Hid (m9 ≤ 200000) := Lib.hid (by rw [HM9.out]; have := HE.out.2; have := HNB.out; (try simp only [List.length_append, List.length_cons, List.length_nil]); omega)
                go_wp2_with (at_builtin; refine wpList_append_rowg elemEn rfl (.tmp 79) (.tmp 81) rfl W7.heap.size (.slice A8 m9 c8) m9 (rowV En.vals (O ++ [(⟨x.t.toNat, ⟨x.k, x.cl q⟩⟩ : En)])) rfl (HOW.out _) (some ⟨w8.heap.size, 0, none⟩) 1 1 (En.vals e) rfl (rdv_freshE w8 e 46) (en1 _) (fun h => by cases h) (by have := HBX.out; unfold maxLen; omega) (by have := HBX.out; omega) (HBB.out _) ?_; intro v' w' ho hg hq; obtain ⟨A8, c8, rfl⟩ := own_form ho; rw [HM9.out] at ho hg; have HO8 := Lib.hid (And.intro ho hg); obtain ⟨y1, y2⟩ := HH8.out.own hg; rw [← HM9.out] at y1; clear ho hg hq)
                go_roundw
                case rel => exact ⟨z + 1, true, _, (O ++ [(⟨x.t.toNat, ⟨x.k, x.cl q⟩⟩ : En)]) ++ [e], by go_num, rfl, by omega, by rw [← HE.out.1, HDA.out]; simp [goE, HLS.out, HSM.out], by have := HE.out.2; (try simp only [List.length_append, List.length_cons, List.length_nil, cond_true]); omega, by have h9 := HH8.out.push HO8.out.1 HO8.out.2; rw [← HM9.out] at h9; exact h9⟩
                case measure => simp [intOf]; omega
            · have d1 : ((e.t : Int) == x.t) = false := by simpa using hk1
              have HSM : Hid (sameE e ⟨x.t.toNat, ⟨x.k, x.cl q⟩⟩ = false) := Lib.hid (by unfold sameE; apply decide_eq_false; rintro ⟨e1, _⟩; apply hk1; have e1 : e.t = x.t.toNat := e1; have := HX.out; unfold InT at this; omega)
              clear hk1
              have HOW : Hid (∀ o, (w8.alloc o).ownsRow W7.heap.size 46 5 (.slice A8 m9 c8) m9 (rowV En.vals (O ++ [(⟨x.t.toNat, ⟨x.k, x.cl q⟩⟩ : En)]))) := Lib.hid fun o => by have h9 := (HH8.out.below ((Below.refl _ _).alloc (Nat.le_refl _) o)).ps.own; rw [← HM9.out] at h9; exact h9
              have HBB : Hid (∀ o, W7.heap.size ≤ (w8.alloc o).heap.size) := Lib.hid fun o => (HH8.out.below ((Below.refl _ _).alloc (Nat.le_refl _) o)).ps.ch.size
              have y0 : w8.cell? ⟨p5, 0, none⟩ = some (.slice A8 m9 c8) := by rw [cell_of_row _ _ 0 _ _ _ HH8.out.ps.box, HM9.out]; rfl
              have HBX : Hid (m9 ≤ 200000) := Lib.hid (by rw [HM9.out]; have := HE.out.2; have := HNB.out; (try simp only [List.length_append, List.length_cons, List.length_nil]); omega)
              go_wp2_with (at_builtin; refine wpList_append_rowg elemEn rfl (.tmp 79) (.tmp 81) rfl W7.heap.size (.slice A8 m9 c8) m9 (rowV En.vals (O ++ [(⟨x.t.toNat, ⟨x.k, x.cl q⟩⟩ : En)])) rfl (HOW.out _) (some ⟨w8.heap.size, 0, none⟩) 1 1 (En.vals e) rfl (rdv_freshE w8 e 46) (en1 _) (fun h => by cases h) (by have := HBX.out; unfold maxLen; omega) (by have := HBX.out; omega) (HBB.out _) ?_; intro v' w' ho hg hq; obtain ⟨A8, c8, rfl⟩ := own_form ho; rw [HM9.out] at ho hg; have HO8 := Lib.hid (And.intro ho hg); obtain ⟨y1, y2⟩ := HH8.out.own hg; rw [← HM9.out] at y1; clear ho hg hq)
              go_roundw
              case rel => exact ⟨z + 1, true, _, (O ++ [(⟨x.t.toNat, ⟨x.k, x.cl q⟩⟩ : En)]) ++ [e], by go_num, rfl, by omega, by rw [← HE.out.1, HDA.out]; simp [goE, HLS.out, HSM.out], by have := HE.out.2; (try simp only [List.length_append, List.length_cons, List.length_nil, cond_true]); omega, by have h9 := HH8.out.push HO8.out.1 HO8.out.2; rw [← HM9.out] at h9; exact h9⟩
              case measure => simp [intOf]; omega
      · obtain rfl : z = n := by omega
        have hE9 : O ++ goE ⟨x.t.toNat, ⟨x.k, x.cl q⟩⟩ done [] = RES := by
          have h9 := HE.out.1
          rw [List.drop_of_length_le (by rw [← HN.out]; exact Nat.le_refl _)] at h9
          exact h9
        have HE9 := Lib.hid hE9
        have HX := Lib.hid hx
        obtain ⟨n9, hn9⟩ : ∃ n9, n9 = O.length := ⟨_, rfl⟩
        have HN9 := Lib.hid hn9
        have HNB : Hid (z + 1 ≤ 100001) := Lib.hid (by have := HL.out; have := HN.out; omega)
        clear hE9 hn9
        cases done with
        | true =>
          have HRR : Hid (O = RES) := Lib.hid (by rw [← HE9.out]; simp [goE])
          have y0 : wr.cell? ⟨p5, 0, none⟩ = some (.slice A9 n9 c9) := by rw [cell_of_row _ _ 0 _ _ _ H8.out.ps.box, HN9.out]; rfl
          have y1 : wr.cell? ⟨p5, 1, none⟩ = some (.int .i64 last) := by rw [cell_of_row _ _ 1 _ _ _ H8.out.ps.box]; rfl
          have f2 : wr.cell? ⟨p2, 0, none⟩ = some (.slice none 0 0) := by rw [cell_of_row _ _ 0 _ _ _ H8.out.r.b2]; rfl
          have f3 : wr.cell? ⟨p2, 1, none⟩ = some (.int .i64 0) := by rw [cell_of_row _ _ 1 _ _ _ H8.out.r.b2]; rfl
          have f4 := frozen_of H8.out.r.b2
          have HFI := Lib.hid (H8.out.fin (.slice A9 n9 c9) (.int .i64 last))
          go_wp2_with fail
          refine bodyPost_ret (v := .agg #[.slice A9 n9 c9, .int .i64 last]) (by simp [results, Try.results78, go_sem, HFI.out.2.2.1, HFI.out.2.2.2]) rfl (PutOut.of (by rw [HN9.out, HRR.out]) (by rw [← HRR.out]; exact HFI.out.1) HFI.out.2.1 H8.out.near)
        | false =>
          have HE := Lib.hid (And.intro HE.out.1 (show O.length ≤ z from HE.out.2))
          have HRR : Hid (O ++ [(⟨x.t.toNat, ⟨x.k, x.cl q⟩⟩ : En)] = RES) := Lib.hid (by rw [← HE9.out]; simp [goE])
          obtain ⟨vz, hvz⟩ : ∃ vz : Int, vz = if x.dead then 0 else x.v := ⟨_, rfl⟩
          have HRZ : Hid (∀ (W : World) (T : TypeId), Rdv (W.alloc (.cells #[.int .i64 x.t, .int .i64 x.k, .int .i64 vz, .int .i64 q, .bool x.dead] T)) (some ⟨W.heap.size, 0, none⟩) 1 5 (En.vals ⟨x.t.toNat, ⟨x.k, x.cl q⟩⟩)) := Lib.hid (by rw [hvz]; exact fun W T => rdv_freshF W x q HX.out T)
          have z0 : wr.cell? ⟨p4, 0, none⟩ = some (.int .i64 x.t) := by rw [cell_of_row _ _ 0 _ _ _ H8.out.r.b4]; rfl
          have z1 : wr.cell? ⟨p4, 1, none⟩ = some (.int .i64 x.k) := by rw [cell_of_row _ _ 1 _ _ _ H8.out.r.b4]; rfl
          have z2 : wr.cell? ⟨p4, 2, none⟩ = some (.int .i64 vz) := by rw [cell_of_row _ _ 2 _ _ _ H8.out.r.b4, hvz]; rfl
          have z3 : wr.cell? ⟨p4, 3, none⟩ = some (.int .i64 q) := by rw [cell_of_row _ _ 3 _ _ _ H8.out.r.b4]; rfl
          have z4 : wr.cell? ⟨p4, 4, none⟩ = some (.bool x.dead) := by rw [cell_of_row _ _ 4 _ _ _ H8.out.r.b4]; rfl
          clear hvz
          have HOW : Hid (∀ o, (wr.alloc o).ownsRow W7.heap.size 46 5 (.slice A9 n9 c9) n9 (rowV En.vals (O))) := Lib.hid fun o => by have h9 := (H8.out.below ((Below.refl _ _).alloc (Nat.le_refl _) o)).ps.own; rw [← HN9.out] at h9; exact h9
          have HBB : Hid (∀ o, W7.heap.size ≤ (wr.alloc o).heap.size) := Lib.hid fun o => (H8.out.below ((Below.refl _ _).alloc (Nat.le_refl _) o)).ps.ch.size
          have y0 : wr.cell? ⟨p5, 0, none⟩ = some (.slice A9 n9 c9) := by rw [cell_of_row _ _ 0 _ _ _ H8.out.ps.box, HN9.out]; rfl
          have HBX : Hid (n9 ≤ 200000) := Lib.hid (by rw [HN9.out]; have := HE.out.2; have := HNB.out; (try simp only [List.length_append, List.length_cons, List.length_nil, cond_true, cond_false]); omega)
          go_upto_region 20 with (at_builtin; refine wpList_append_rowg elemEn rfl (.tmp 87) (.tmp 89) rfl W7.heap.size (.slice A9 n9 c9) n9 (rowV En.vals (O)) rfl (HOW.out _) (some ⟨wr.heap.size, 0, none⟩) 1 1 (En.vals (⟨x.t.toNat, ⟨x.k, x.cl q⟩⟩ : En)) rfl (HRZ.out _ _) (en1 _) (fun h => by cases h) (by have := HBX.out; unfold maxLen; omega) (by have := HBX.out; omega) (HBB.out _) ?_; intro v' w' ho hg hq; rw [HN9.out] at ho hg; obtain ⟨A8, c8, rfl⟩ := own_form ho; have H88 := Lib.hid (H8.out.push ho hg); obtain ⟨y1, y2⟩ := H8.out.own hg; rw [← HN9.out] at y1; clear ho hg hq)
          obtain ⟨m9, hm9⟩ : ∃ m9, m9 = O.length + 1 := ⟨_, rfl⟩
          have HM9 : Hid (m9 = (O ++ [(⟨x.t.toNat, ⟨x.k, x.cl q⟩⟩ : En)]).length) := Lib.hid (by rw [hm9]; simp)
          obtain ⟨w8, hw8⟩ : ∃ w8, w8 = w'.setCell ⟨p5, 0, none⟩ (.slice A8 (O.length + 1) c8) := ⟨_, rfl⟩
          rw [← hw8] at H88
          rw [← hw8]
          rw [← hm9] at H88
          clear hw8 hm9 y0 y1 y2 z0 z1 z2 z3 z4
          have HH8 : Hid (R8 w W7 w8 p0 p1 p2 p4 p5 A z c last l x q (.slice A8 (O ++ [(⟨x.t.toNat, ⟨x.k, x.cl q⟩⟩ : En)]).length c8) (O ++ [(⟨x.t.toNat, ⟨x.k, x.cl q⟩⟩ : En)])) := Lib.hid (by rw [← HM9.out]; exact H88.out)
          clear HOW HBB HBX
          have y0 : w8.cell? ⟨p5, 0, none⟩ = some (.slice A8 m9 c8) := by rw [cell_of_row _ _ 0 _ _ _ HH8.out.ps.box, HM9.out]; rfl
          have y1 : w8.cell? ⟨p5, 1, none⟩ = some (.int .i64 last) := by rw [cell_of_row _ _ 1 _ _ _ HH8.out.ps.box]; rfl
          have f2 : w8.cell? ⟨p2, 0, none⟩ = some (.slice none 0 0) := by rw [cell_of_row _ _ 0 _ _ _ HH8.out.r.b2]; rfl
          have f3 : w8.cell? ⟨p2, 1, none⟩ = some (.int .i64 0) := by rw [cell_of_row _ _ 1 _ _ _ HH8.out.r.b2]; rfl
          have f4 := frozen_of HH8.out.r.b2
          have HFI := Lib.hid (HH8.out.fin (.slice A8 m9 c8) (.int .i64 last))
          go_wp2_with fail
          refine bodyPost_ret (v := .agg #[.slice A8 m9 c8, .int .i64 last]) (by simp [results, Try.results78, go_sem, HFI.out.2.2.1, HFI.out.2.2.2]) rfl (PutOut.of (by rw [HM9.out, HRR.out]) (by rw [← HRR.out]; exact HFI.out.1) HFI.out.2.1 HH8.out.near)
end Go.Proofs.Ytejpjbmbcdgomaa
