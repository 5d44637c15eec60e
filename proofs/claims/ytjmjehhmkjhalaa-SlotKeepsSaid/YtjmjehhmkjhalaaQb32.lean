/- SlOI: put together. -/
import Derived.Test.YtjmjehhmkjhalaaQb31
import Derived.Test.YtjmjehhmkjhalaaQb15
/- What stands while a manifest is opened: the result, the manifest under construction, the reader. -/
namespace Go.Proofs.Ytjmjehhmkjhalaa
set_option maxRecDepth 100000
open Go.RowKit

theorem elemI : ElemT Try.prog 22 3 1 8 :=
  ⟨Try.underlying22, by kernel_rfl, by
    obtain ⟨i, hi, hz, h1, _⟩ := info_parts (show (Try.prog.info? 3).map (fun i => (i.zero, i.size, i.bytes)) = some (some (.int .i64 0), 1, 8) by kernel_rfl)
    exact ⟨i, _, hi, hz, rfl⟩, by decide⟩
theorem rowZ (l : List Int) : rowV zV l = l.map fun n => Value.int .i64 n := by
  unfold rowV zV
  induction l with
  | nil => rfl
  | cons a t ih => rw [List.flatMap_cons, List.map_cons, ih]; rfl
theorem rowZ_one (l : List Int) : ∀ u ∈ rowV zV l, u.oneCell' = true := by
  rw [rowZ]
  intro u hu
  obtain ⟨x, _, rfl⟩ := List.mem_map.1 hu
  rfl
theorem own_keep {w w' : World} {B n k : Nat} {e : TypeId} {v : Value} {xs : List Value} (h : w.ownsRow B e k v n xs) (hk : ∀ q, v.ownBlock = some q → w'.heap[q]? = w.heap[q]?) : w'.ownsRow B e k v n xs := by
  refine ⟨h.1, ?_⟩
  rcases h.2 with h0 | ⟨g, cap, cur, rfl, hb, hg, hrest⟩
  · exact .inl h0
  · exact .inr ⟨g, cap, cur, rfl, hb, (hk g rfl).trans hg, hrest⟩
theorem rdv_fresh1 (w : World) (n : Int) (T : TypeId) : Rdv (w.alloc (.cells #[.int .i64 n] T)) (some ⟨w.heap.size, 0, none⟩) 1 1 [.int .i64 n] :=
  ⟨rfl, fun _ => ⟨w.heap.size, 0, rfl, fun j u hj => by
    rw [Nat.zero_add, cell_of_row _ _ j _ _ (0, 0) (heap_alloc_new w _)]
    simpa using hj⟩⟩
theorem own_lower {w : World} {B B' n k : Nat} {e : TypeId} {v : Value} {xs : List Value} (h : w.ownsRow B e k v n xs) (hb : B' ≤ B) : w.ownsRow B' e k v n xs := by
  refine ⟨h.1, ?_⟩
  rcases h.2 with h0 | ⟨g, cap, cur, rfl, hb2, hg, hrest⟩
  · exact .inl h0
  · exact .inr ⟨g, cap, cur, rfl, Nat.le_trans hb hb2, hg, hrest⟩
theorem zs_own {w : World} {B n : Nat} {A : Option Addr} {c : Nat} {l : List Int} (h : w.ownsRow B 3 1 (.slice A n c) n (rowV zV l)) (hl : l.length = n) : Zs w A l := by
  obtain ⟨A', c', e, hr, _, _⟩ := rdv_own h
  injection e with e1 e2 e3
  subst e1
  exact ⟨rfl, by rw [hl]; exact hr⟩
/-- A block of six cells is written over. -/
theorem set6 (w : World) (z : Nat) (t : TypeId) (a0 a1 a2 a3 a4 a5 v0 v1 v2 v3 v4 v5 : Value) (h : w.heap[z]? = some (.cells #[a0, a1, a2, a3, a4, a5] t (0, 0))) :
    ((((((w.setCell ⟨z, 0, none⟩ v0).setCell ⟨z, 1, none⟩ v1).setCell ⟨z, 2, none⟩ v2).setCell ⟨z, 3, none⟩ v3).setCell ⟨z, 4, none⟩ v4).setCell ⟨z, 5, none⟩ v5).heap[z]? = some (.cells #[v0, v1, v2, v3, v4, v5] t (0, 0)) := by
  simp [World.setCell, Array.getElem?_modify, h]
theorem set6_other (w : World) (z q : Nat) (v0 v1 v2 v3 v4 v5 : Value) (h : q ≠ z) :
    ((((((w.setCell ⟨z, 0, none⟩ v0).setCell ⟨z, 1, none⟩ v1).setCell ⟨z, 2, none⟩ v2).setCell ⟨z, 3, none⟩ v3).setCell ⟨z, 4, none⟩ v4).setCell ⟨z, 5, none⟩ v5).heap[q]? = w.heap[q]? := by
  rw [Deep.blk_setCell_other _ _ _ _ h, Deep.blk_setCell_other _ _ _ _ h, Deep.blk_setCell_other _ _ _ _ h, Deep.blk_setCell_other _ _ _ _ h, Deep.blk_setCell_other _ _ _ _ h, Deep.blk_setCell_other _ _ _ _ h]
theorem set6_below {w W : World} {B z : Nat} (hb : Below B w W) (hz : B ≤ z) (v0 v1 v2 v3 v4 v5 : Value) :
    Below B w ((((((W.setCell ⟨z, 0, none⟩ v0).setCell ⟨z, 1, none⟩ v1).setCell ⟨z, 2, none⟩ v2).setCell ⟨z, 3, none⟩ v3).setCell ⟨z, 4, none⟩ v4).setCell ⟨z, 5, none⟩ v5) :=
  (((((hb.setCell hz _).setCell hz _).setCell hz _).setCell hz _).setCell hz _).setCell hz _
def zeroC : Array Value := #[.int .i64 0, .int .i64 0, .int .i64 0, .int .i64 0, .int .i64 0, .slice none 0 0]
/-- Open's blocks: rp the result, mb the manifest, B the reader's. -/
structure OI (w W : World) (rp mb : Nat) (B : Nat → Prop) (V : Value) (bs : List Nat) (bad : Bool) (cs : Array Value) : Prop where
  below : Below w.heap.size w W
  res : W.heap[rp]? = some (.cells zeroC 93 (0, 0))
  mf : W.heap[mb]? = some (.cells cs 93 (0, 0))
  rd : Rdr W B V bs bad
  lo : ∀ k, B k → w.heap.size ≤ k
  nr : ¬ B rp
  nm : ¬ B mb
  ne : rp ≠ mb
  rlo : w.heap.size ≤ rp
  mlo : w.heap.size ≤ mb
section
variable {w W W' : World} {rp mb : Nat} {B : Nat → Prop} {V : Value} {bs : List Nat} {bad : Bool} {cs : Array Value}
theorem OI.rl (h : OI w W rp mb B V bs bad cs) : rp < W.heap.size := (Array.getElem?_eq_some_iff.1 h.res).1
theorem OI.ml (h : OI w W rp mb B V bs bad cs) : mb < W.heap.size := (Array.getElem?_eq_some_iff.1 h.mf).1
theorem OI.later (h : OI w W rp mb B V bs bad cs) (hb : Below W.heap.size W W') : OI w W' rp mb B V bs bad cs :=
  ⟨h.below.trans (hb.mono h.below.size), (hb.block _ h.rl).trans h.res, (hb.block _ h.ml).trans h.mf, h.rd.stays hb.size fun k hk _ => hb.block k hk, h.lo, h.nr, h.nm, h.ne, h.rlo, h.mlo⟩
theorem OI.drew (h : OI w W rp mb B V bs bad cs) : OI w W.drew rp mb B V bs bad cs := h.later ((Below.refl _ W).drew)
/-- What leaves all but other blocks. -/
theorem OI.at (h : OI w W rp mb B V bs bad cs) (hb : Below w.heap.size w W') (hs : W.heap.size ≤ W'.heap.size) (h1 : W'.heap[rp]? = W.heap[rp]?) (h2 : W'.heap[mb]? = W.heap[mb]?) (h3 : ∀ k, k < W.heap.size → B k → W'.heap[k]? = W.heap[k]?) : OI w W' rp mb B V bs bad cs :=
  ⟨hb, h1.trans h.res, h2.trans h.mf, h.rd.stays hs h3, h.lo, h.nr, h.nm, h.ne, h.rlo, h.mlo⟩
theorem OI.set (h : OI w W rp mb B V bs bad cs) (o : Nat) (v : Value) : OI w (W.setCell ⟨mb, o, none⟩ v) rp mb B V bs bad (cs.setIfInBounds o v) :=
  ⟨h.below.setCell h.mlo _, (Deep.blk_setCell_other _ _ _ _ h.ne).trans h.res, by
    have := h.mf
    simp [World.setCell, Array.getElem?_modify, this], h.rd.stays (by rw [World.size_setCell]; exact Nat.le_refl _) fun k _ hk => Deep.blk_setCell_other _ _ _ _ (fun e => h.nm (by have e2 : k = mb := e; rw [← e2]; exact hk)), h.lo, h.nr, h.nm, h.ne, h.rlo, h.mlo⟩
theorem OI.grown (h : OI w W rp mb B V bs bad cs) {r : Option Nat} {bh : Nat} (hg : W.grownBy W' r) (hr : ∀ k, r = some k → bh ≤ k) (h1 : mb < bh) (h2 : rp < bh) (h3 : w.heap.size ≤ bh) (h4 : ∀ k, B k → k < bh) : OI w W' rp mb B V bs bad cs := by
  have key : ∀ k, k < bh → k < W.heap.size → W'.heap[k]? = W.heap[k]? := fun k hk hs => hg.block k hs fun e => by have := hr k e.symm; omega
  exact h.at ⟨hg.os.trans h.below.os, hg.tape.trans h.below.tape, hg.output.trans h.below.output, Nat.le_trans h.below.size hg.size, fun k hk => (key k (by omega) (by have := h.below.size; omega)).trans (h.below.block k hk)⟩ hg.size (key _ h2 h.rl) (key _ h1 h.ml) fun k hk hb => key k (h4 k hb) hk
theorem OI.only (h : OI w W rp mb B V bs bad cs) {bs' : List Nat} {bad' : Bool} (hr : Rdr W' B V bs' bad') (ho : Only W W' V) : OI w W' rp mb B V bs' bad' cs ∧ (∀ k, k < W.heap.size → ¬ B k → W'.heap[k]? = W.heap[k]?) ∧ W.heap.size ≤ W'.heap.size := by
  have key : ∀ k, k < W.heap.size → ¬ B k → W'.heap[k]? = W.heap[k]? := fun k hk hn => ho.block k hk fun e => hn (h.rd.low' k e)
  exact ⟨⟨h.below.trans (h.rd.only ho h.lo h.below.size), (key _ h.rl h.nr).trans h.res, (key _ h.ml h.nm).trans h.mf, hr, h.lo, h.nr, h.nm, h.ne, h.rlo, h.mlo⟩, key, ho.size⟩
theorem OI.count (h : OI w W rp mb B V bs bad cs) : Calls Try.prog 120 #[V] W fun e w' => e = .returned (.int .u64 (((rcount bs).1 : Nat) : Int)) ∧ OI w w' rp mb B V (rcount bs).2.1 (rcount bs).2.2 cs ∧ (∀ k, k < W.heap.size → ¬ B k → w'.heap[k]? = W.heap[k]?) ∧ W.heap.size ≤ w'.heap.size := by
  refine Calls.mono (rcount_any B V bs bad W h.rd) ?_
  rintro e w' ⟨rfl, hr, ho⟩
  exact ⟨rfl, h.only hr ho⟩
theorem OI.byte (h : OI w W rp mb B V bs bad cs) : Calls Try.prog 121 #[V] W fun e w' => e = .returned (.int .u8 ((byteT bs : Nat) : Int)) ∧ OI w w' rp mb B V (bs.drop 1) (bad || decide (bs.length = 0)) cs ∧ (∀ k, k < W.heap.size → ¬ B k → w'.heap[k]? = W.heap[k]?) ∧ W.heap.size ≤ w'.heap.size := by
  refine Calls.mono (rbyte_any B V bs bad W h.rd) ?_
  rintro e w' ⟨rfl, hr, ho⟩
  exact ⟨rfl, h.only hr ho⟩
end
end Go.Proofs.Ytjmjehhmkjhalaa
