/- SlDI, SlStep: put together. -/
import Derived.Test.YtjmjehhmkjhalaaQb34
import Derived.Test.YtjmjehhmkjhalaaQb36
/- What stands while the document opens a manifest. -/
namespace Go.Proofs.Ytjmjehhmkjhalaa
set_option maxRecDepth 100000
open Go.RowKit

/-- The document's Open's blocks: rp the result, mb the manifest, g the reader. -/
structure DI (w W : World) (rp mb g Bd : Nat) (bs : List Nat) (bad : Bool) (cs : Array Value) : Prop where
  below : Below w.heap.size w W
  res : W.heap[rp]? = some (.cells zeroC 91 (0, 0))
  mf : W.heap[mb]? = some (.cells cs 91 (0, 0))
  rd : Rfx W Bd g bs bad
  nr : rp ≠ g
  nm : mb ≠ g
  ne : rp ≠ mb
  rlo : w.heap.size ≤ rp
  mlo : w.heap.size ≤ mb
  glo : w.heap.size ≤ g
section
variable {w W W' : World} {rp mb g Bd : Nat} {bs : List Nat} {bad : Bool} {cs : Array Value}
theorem DI.rl (h : DI w W rp mb g Bd bs bad cs) : rp < W.heap.size := (Array.getElem?_eq_some_iff.1 h.res).1
theorem DI.ml (h : DI w W rp mb g Bd bs bad cs) : mb < W.heap.size := (Array.getElem?_eq_some_iff.1 h.mf).1
theorem DI.gl (h : DI w W rp mb g Bd bs bad cs) : g < W.heap.size := by obtain ⟨A, n, c, hr⟩ := h.rd; exact hr.lt
theorem DI.bd (h : DI w W rp mb g Bd bs bad cs) : Bd ≤ g := by obtain ⟨A, n, c, hr⟩ := h.rd; exact hr.low
theorem DI.at (h : DI w W rp mb g Bd bs bad cs) (hb : Below w.heap.size w W') (h1 : W'.heap[rp]? = W.heap[rp]?) (h2 : W'.heap[mb]? = W.heap[mb]?) (h3 : W'.heap[g]? = W.heap[g]?) (h4 : ∀ k, k < Bd → W'.heap[k]? = W.heap[k]?) : DI w W' rp mb g Bd bs bad cs :=
  ⟨hb, h1.trans h.res, h2.trans h.mf, h.rd.stays h3 h4, h.nr, h.nm, h.ne, h.rlo, h.mlo, h.glo⟩
theorem DI.later (h : DI w W rp mb g Bd bs bad cs) (hb : Below W.heap.size W W') : DI w W' rp mb g Bd bs bad cs :=
  h.at (h.below.trans (hb.mono h.below.size)) (hb.block _ h.rl) (hb.block _ h.ml) (hb.block _ h.gl) fun k hk => hb.block k (by have := h.bd; have := h.gl; omega)
theorem DI.drew (h : DI w W rp mb g Bd bs bad cs) : DI w W.drew rp mb g Bd bs bad cs := h.later ((Below.refl _ W).drew)
theorem DI.set (h : DI w W rp mb g Bd bs bad cs) (hbm : Bd ≤ mb) (o : Nat) (v : Value) : DI w (W.setCell ⟨mb, o, none⟩ v) rp mb g Bd bs bad (cs.setIfInBounds o v) :=
  ⟨h.below.setCell h.mlo _, (Deep.blk_setCell_other _ _ _ _ h.ne).trans h.res, by
    have := h.mf
    simp [World.setCell, Array.getElem?_modify, this], h.rd.stays (Deep.blk_setCell_other _ _ _ _ (fun e => h.nm (show g = mb from e).symm)) fun k hk => Deep.blk_setCell_other _ _ _ _ (fun e => by have e2 : k = mb := e; omega), h.nr, h.nm, h.ne, h.rlo, h.mlo, h.glo⟩
theorem DI.grown (h : DI w W rp mb g Bd bs bad cs) {r : Option Nat} {bh : Nat} (hg : W.grownBy W' r) (hr : ∀ k, r = some k → bh ≤ k) (h1 : mb < bh) (h2 : rp < bh) (h3 : g < bh) : DI w W' rp mb g Bd bs bad cs := by
  have key : ∀ k, k < bh → k < W.heap.size → W'.heap[k]? = W.heap[k]? := fun k hk hs => hg.block k hs fun e => by have := hr k e.symm; omega
  have hgl := h.gl
  have hbd := h.bd
  have hglo := h.glo
  exact h.at ⟨hg.os.trans h.below.os, hg.tape.trans h.below.tape, hg.output.trans h.below.output, Nat.le_trans h.below.size hg.size, fun k hk => (key k (by omega) (by omega)).trans (h.below.block k hk)⟩ (key _ h2 h.rl) (key _ h1 h.ml) (key _ h3 hgl) fun k hk => key k (by omega) (by omega)
theorem DI.only (h : DI w W rp mb g Bd bs bad cs) {bs' : List Nat} {bad' : Bool} (hr : Rfx W' Bd g bs' bad') (ho : OnlyG W W' g) : DI w W' rp mb g Bd bs' bad' cs ∧ (∀ k, k < W.heap.size → k ≠ g → W'.heap[k]? = W.heap[k]?) ∧ W.heap.size ≤ W'.heap.size := by
  have key : ∀ k, k < W.heap.size → k ≠ g → W'.heap[k]? = W.heap[k]? := fun k hk hn => ho.at hk hn
  have hgl := h.glo
  exact ⟨⟨⟨ho.os.trans h.below.os, ho.tape.trans h.below.tape, ho.output.trans h.below.output, Nat.le_trans h.below.size ho.size, fun k hk => (key k (by have := h.below.size; omega) (by omega)).trans (h.below.block k hk)⟩, (key _ h.rl h.nr).trans h.res, (key _ h.ml h.nm).trans h.mf, hr, h.nr, h.nm, h.ne, h.rlo, h.mlo, h.glo⟩, key, ho.size⟩
theorem DI.count (h : DI w W rp mb g Bd bs bad cs) : Calls Try.prog 124 #[.pointer (some ⟨g, 0, none⟩)] W fun e w' => e = .returned (.int .i64 (c50 (rcount bs).1)) ∧ DI w w' rp mb g Bd (rcount bs).2.1 (rcount bs).2.2 cs ∧ (∀ k, k < W.heap.size → k ≠ g → w'.heap[k]? = W.heap[k]?) ∧ W.heap.size ≤ w'.heap.size := by
  refine Calls.mono (count15_any Bd g bs bad W h.rd) ?_
  rintro e w' ⟨rfl, hr, ho⟩
  exact ⟨rfl, h.only hr ho⟩
theorem DI.byte (h : DI w W rp mb g Bd bs bad cs) : Calls Try.prog 125 #[.pointer (some ⟨g, 0, none⟩)] W fun e w' => e = .returned (.int .u8 ((byteT bs : Nat) : Int)) ∧ DI w w' rp mb g Bd (bs.drop 1) (bad || decide (bs.length = 0)) cs ∧ (∀ k, k < W.heap.size → k ≠ g → w'.heap[k]? = W.heap[k]?) ∧ W.heap.size ≤ w'.heap.size := by
  refine Calls.mono (mbyte_any Bd g bs bad W h.rd) ?_
  rintro e w' ⟨rfl, hr, ho⟩
  exact ⟨rfl, h.only hr ho⟩
theorem DI.badc (h : DI w W rp mb g Bd bs bad cs) : W.cell? ⟨g, 1, none⟩ = some (.bool bad) := by obtain ⟨A, n, c, hr⟩ := h.rd; exact hr.c1
end
theorem resRO {w : World} {g : Nat} {a0 a1 a2 a3 a4 a5 : Value} (h : w.heap[g]? = some (.cells #[a0, a1, a2, a3, a4, a5] 91 (0, 0))) (tmps : Array Value) (h2 : tmps.getD 2 undef = .pointer (some ⟨g, 0, none⟩)) :
    (results Try.f56 tmps).run Try.prog w = .ok (.tuple #[.agg #[a0, a1, a2, a3, a4, a5], tmps.getD 3 undef]) w := by
  have h2' : tmps[2]?.getD undef = .pointer (some ⟨g, 0, none⟩) := by simpa using h2
  have k0 : w.cell? ⟨g, 0, none⟩ = some a0 := (cell_of_row _ _ 0 _ _ (0, 0) h).trans rfl
  have k1 : w.cell? ⟨g, 1, none⟩ = some a1 := (cell_of_row _ _ 1 _ _ (0, 0) h).trans rfl
  have k2 : w.cell? ⟨g, 2, none⟩ = some a2 := (cell_of_row _ _ 2 _ _ (0, 0) h).trans rfl
  have k3 : w.cell? ⟨g, 3, none⟩ = some a3 := (cell_of_row _ _ 3 _ _ (0, 0) h).trans rfl
  have k4 : w.cell? ⟨g, 4, none⟩ = some a4 := (cell_of_row _ _ 4 _ _ (0, 0) h).trans rfl
  have k5 : w.cell? ⟨g, 5, none⟩ = some a5 := (cell_of_row _ _ 5 _ _ (0, 0) h).trans rfl
  simp [results, Try.results56, h2', asAddr, Sem.run_bind, go_sem, k0, k1, k2, k3, k4, k5]
/-- What the document's Open answers. -/
def DOpE (l : List Nat) (w : World) (e : Ending) (w' : World) : Prop :=
  (openM c50 l = none ∧ e = .returned (.tuple #[.agg zeroC, .bool false])) ∨
  ∃ m A c, openM c50 l = some m ∧ e = .returned (.tuple #[.agg (mfC m A c), .bool true]) ∧ w'.ownsRow w.heap.size 3 1 (.slice A m.heads.length c) m.heads.length (rowV zV m.heads)
theorem finD_bad {w W : World} {l : List Nat} {rp : Nat} (h : W.heap[rp]? = some (.cells zeroC 91 (0, 0))) (hb : Below w.heap.size w W) (hr : w.heap.size ≤ rp) (hn : openM c50 l = none) :
    ((((((W.setCell ⟨rp, 0, none⟩ (.int .i64 0)).setCell ⟨rp, 1, none⟩ (.int .i64 0)).setCell ⟨rp, 2, none⟩ (.int .i64 0)).setCell ⟨rp, 3, none⟩ (.int .i64 0)).setCell ⟨rp, 4, none⟩ (.int .i64 0)).setCell ⟨rp, 5, none⟩ (.slice none 0 0)).heap[rp]? = some (.cells zeroC 91 (0, 0)) ∧
    DOpE l w (.returned (.tuple #[.agg zeroC, .bool false])) ((((((W.setCell ⟨rp, 0, none⟩ (.int .i64 0)).setCell ⟨rp, 1, none⟩ (.int .i64 0)).setCell ⟨rp, 2, none⟩ (.int .i64 0)).setCell ⟨rp, 3, none⟩ (.int .i64 0)).setCell ⟨rp, 4, none⟩ (.int .i64 0)).setCell ⟨rp, 5, none⟩ (.slice none 0 0)) ∧
    Below w.heap.size w ((((((W.setCell ⟨rp, 0, none⟩ (.int .i64 0)).setCell ⟨rp, 1, none⟩ (.int .i64 0)).setCell ⟨rp, 2, none⟩ (.int .i64 0)).setCell ⟨rp, 3, none⟩ (.int .i64 0)).setCell ⟨rp, 4, none⟩ (.int .i64 0)).setCell ⟨rp, 5, none⟩ (.slice none 0 0)) := by
  unfold zeroC at h
  exact ⟨set6 _ _ _ _ _ _ _ _ _ _ _ _ _ _ _ h, .inl ⟨hn, rfl⟩, set6_below hb hr _ _ _ _ _ _⟩
end Go.Proofs.Ytjmjehhmkjhalaa

/- Steps of regions that draw, in worlds that get a name: allocations, rows of one number or byte. -/
namespace Go.Proofs.Ytjmjehhmkjhalaa
set_option maxRecDepth 100000
open Go.RowKit

section
variable {w : World} {ops : Array Oper} {o : Oper} {a : Act} {K : Act → World → Prop} {Q : Exit → Act → World → Prop} {F : Prop}
end
/-- The document's Open ahead of its manifest: rp the result, xb the slab, g the reader. -/
structure TI (w W : World) (rp xb g : Nat) (bs : List Nat) (bad : Bool) (cs : Array Value) : Prop where
  below : Below w.heap.size w W
  res : W.heap[rp]? = some (.cells zeroC 91 (0, 0))
  sl : W.heap[xb]? = some (.cells cs 172 (0, 0))
  rd : Rfx W g g bs bad
  nr : rp < g
  ns : xb ≠ g
  rlo : w.heap.size ≤ rp
section
variable {w W W' : World} {rp xb g : Nat} {bs : List Nat} {bad : Bool} {cs : Array Value}
theorem TI.rl (h : TI w W rp xb g bs bad cs) : rp < W.heap.size := (Array.getElem?_eq_some_iff.1 h.res).1
theorem TI.sll (h : TI w W rp xb g bs bad cs) : xb < W.heap.size := (Array.getElem?_eq_some_iff.1 h.sl).1
theorem TI.gl (h : TI w W rp xb g bs bad cs) : g < W.heap.size := by obtain ⟨A, n, c, hr⟩ := h.rd; exact hr.lt
theorem TI.later (h : TI w W rp xb g bs bad cs) (hb : Below W.heap.size W W') : TI w W' rp xb g bs bad cs :=
  ⟨h.below.trans (hb.mono h.below.size), (hb.block _ h.rl).trans h.res, (hb.block _ h.sll).trans h.sl, h.rd.stays (hb.block _ h.gl) fun k hk => hb.block k (by have := h.gl; omega), h.nr, h.ns, h.rlo⟩
theorem TI.drew (h : TI w W rp xb g bs bad cs) : TI w W.drew rp xb g bs bad cs := h.later ((Below.refl _ W).drew)
theorem TI.of_drew (h : TI w W.drew rp xb g bs bad cs) : TI w W rp xb g bs bad cs :=
  ⟨⟨h.below.os, h.below.tape, h.below.output, h.below.size, h.below.block⟩, h.res, h.sl, h.rd.stays rfl fun _ _ => rfl, h.nr, h.ns, h.rlo⟩
theorem TI.count (h : TI w W rp xb g bs bad cs) : Calls Try.prog 124 #[.pointer (some ⟨g, 0, none⟩)] W fun e w' => e = .returned (.int .i64 (c50 (rcount bs).1)) ∧ TI w w' rp xb g (rcount bs).2.1 (rcount bs).2.2 cs ∧ (∀ k, k < W.heap.size → k ≠ g → w'.heap[k]? = W.heap[k]?) ∧ W.heap.size ≤ w'.heap.size := by
  refine Calls.mono (count15_any g g bs bad W h.rd) ?_
  rintro e w' ⟨rfl, hr, ho⟩
  have key : ∀ k, k < W.heap.size → k ≠ g → w'.heap[k]? = W.heap[k]? := fun k hk hn => ho.at hk hn
  have h1 := h.nr
  have h2 := h.rlo
  exact ⟨rfl, ⟨⟨ho.os.trans h.below.os, ho.tape.trans h.below.tape, ho.output.trans h.below.output, Nat.le_trans h.below.size ho.size, fun k hk => (key k (by have := h.below.size; omega) (by omega)).trans (h.below.block k hk)⟩, (key _ h.rl (by omega)).trans h.res, (key _ h.sll h.ns).trans h.sl, hr, h.nr, h.ns, h.rlo⟩, key, ho.size⟩
/-- The manifest in a fresh block. -/
theorem TI.fresh (h : TI w W rp xb g bs bad cs) (cs' : Array Value) : DI w (W.alloc (.cells cs' 91)) rp W.heap.size g g bs bad cs' := by
  have hl := h.later ((Below.refl _ W).alloc (Nat.le_refl _) (.cells cs' 91))
  have h1 := h.rl
  have h2 := h.gl
  have h3 := h.nr
  have h4 := h.below.size
  exact ⟨hl.below, hl.res, heap_alloc_new W _, hl.rd, by omega, by omega, by omega, h.rlo, by omega, by have := h.rlo; omega⟩
/-- The manifest is written into its block. -/
theorem TI.open (h : TI w W rp xb g bs bad cs) {mb : Nat} {a0 a1 a2 a3 a4 a5 : Value} (hm : W.heap[mb]? = some (.cells #[a0, a1, a2, a3, a4, a5] 91 (0, 0))) (hgm : g < mb) (v0 v1 v2 v3 v4 v5 : Value) :
    DI w ((((((W.setCell ⟨mb, 0, none⟩ v0).setCell ⟨mb, 1, none⟩ v1).setCell ⟨mb, 2, none⟩ v2).setCell ⟨mb, 3, none⟩ v3).setCell ⟨mb, 4, none⟩ v4).setCell ⟨mb, 5, none⟩ v5) rp mb g g bs bad #[v0, v1, v2, v3, v4, v5] := by
  have h1 := h.nr
  have h2 := h.rlo
  exact ⟨set6_below h.below (by omega) _ _ _ _ _ _, (set6_other _ _ _ _ _ _ _ _ _ (by omega)).trans h.res, set6 _ _ _ _ _ _ _ _ _ _ _ _ _ _ _ hm, h.rd.stays (set6_other _ _ _ _ _ _ _ _ _ (by omega)) fun k hk => set6_other _ _ _ _ _ _ _ _ _ (by omega), by omega, by omega, by omega, h.rlo, by omega, by omega⟩
end
end Go.Proofs.Ytjmjehhmkjhalaa
