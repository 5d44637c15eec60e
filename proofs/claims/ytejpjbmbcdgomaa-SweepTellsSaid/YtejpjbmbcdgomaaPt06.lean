/- TNd, TSh, TMrg, TFl, TFr: put together. -/
import Derived.Test.YtejpjbmbcdgomaaPt05
/- A node in memory by itself. -/
namespace Go.Proofs.Ytejpjbmbcdgomaa
set_option maxRecDepth 100000
open Go.RowKit

/-- A node: its block, its two slices, its items, where those below it lie. -/
structure Nd where
  p : Nat
  v : Value
  u : Value
  is : List Ix
  ps : List Nat
/-- Its blocks. -/
def Nd.B (n : Nd) (k : Nat) : Prop := k = n.p ∨ n.v.ownBlock = some k ∨ n.u.ownBlock = some k
structure NdM (w : World) (n : Nd) : Prop where
  block : w.heap[n.p]? = some (.cells #[n.v, n.u] 155 (0, 0))
  own : w.ownsRow 0 166 4 n.v n.is.length (rowV Ix.vals n.is)
  kids : w.ownsRow 0 151 1 n.u n.ps.length (rowV PV n.ps)
theorem own_same {w w' : World} {B e size n : Nat} {v : Value} {xs : List Value} (h : w.ownsRow B e size v n xs) (hk : ∀ q, v.ownBlock = some q → w'.heap[q]? = w.heap[q]?) : w'.ownsRow B e size v n xs := by
  refine ⟨h.1, ?_⟩
  rcases h.2 with h0 | ⟨g, cap, cur, rfl, h1, h2, h3⟩
  · exact .inl h0
  · exact .inr ⟨g, cap, cur, rfl, h1, (hk g rfl).trans h2, h3⟩
theorem own_at {w : World} {B e size n : Nat} {v : Value} {xs : List Value} (h : w.ownsRow B e size v n xs) {q : Nat} (hq : v.ownBlock = some q) : ∃ cur, w.heap[q]? = some (.cells cur e (0, 0)) := by
  rcases h.2 with ⟨rfl, _⟩ | ⟨g, cap, cur, rfl, h1, h2, h3⟩
  · cases hq
  · have e : g = q := by simpa [Value.ownBlock] using hq
    subst e
    exact ⟨cur, h2⟩
section
variable {w w' : World} {n : Nd}
theorem NdM.keep (h : NdM w n) (hk : ∀ k, n.B k → w'.heap[k]? = w.heap[k]?) : NdM w' n :=
  ⟨(hk _ (.inl rfl)).trans h.block, own_same h.own fun q e => hk q (.inr (.inl e)), own_same h.kids fun q e => hk q (.inr (.inr e))⟩
theorem NdM.lt (h : NdM w n) {k : Nat} (hk : n.B k) : k < w.heap.size := by
  rcases hk with rfl | hk | hk
  · exact (Array.getElem?_eq_some_iff.1 h.block).1
  · obtain ⟨_, e⟩ := own_at h.own hk
    exact (Array.getElem?_eq_some_iff.1 e).1
  · obtain ⟨_, e⟩ := own_at h.kids hk
    exact (Array.getElem?_eq_some_iff.1 e).1
theorem NdM.below (h : NdM w n) (hb : Below w.heap.size w w') : NdM w' n := h.keep fun _ hk => hb.block _ (h.lt hk)
theorem NdM.vp (h : NdM w n) : n.v.ownBlock ≠ some n.p := fun e => by
  obtain ⟨cur, e2⟩ := own_at h.own e
  rw [h.block] at e2
  injection e2 with e2
  injection e2 with _ e3
  exact absurd e3 (by decide)
theorem NdM.up (h : NdM w n) : n.u.ownBlock ≠ some n.p := fun e => by
  obtain ⟨cur, e2⟩ := own_at h.kids e
  rw [h.block] at e2
  injection e2 with e2
  injection e2 with _ e3
  exact absurd e3 (by decide)
theorem NdM.vu (h : NdM w n) {k : Nat} (hv : n.v.ownBlock = some k) : n.u.ownBlock ≠ some k := fun e => by
  obtain ⟨_, e1⟩ := own_at h.own hv
  obtain ⟨_, e2⟩ := own_at h.kids e
  rw [e1] at e2
  injection e2 with e2
  injection e2 with _ e3
  exact absurd e3 (by decide)
theorem NdM.c0 (h : NdM w n) : w.cell? ⟨n.p, 0, none⟩ = some n.v := (cell_of_row w _ 0 _ _ (0, 0) h.block).trans rfl
theorem NdM.c1 (h : NdM w n) : w.cell? ⟨n.p, 1, none⟩ = some n.u := (cell_of_row w _ 1 _ _ (0, 0) h.block).trans rfl
theorem NdM.fr (h : NdM w n) (j : Nat) : w.frozen? ⟨n.p, j, none⟩ = false := frozen_of h.block j
/-- Its items' slice. -/
theorem NdM.items (h : NdM w n) : ∃ A c, n.v = .slice A n.is.length c ∧ Ixs w A n.is ∧ (A = none → c = 0) ∧ n.is.length ≤ c := by
  obtain ⟨A, c, e, hr, hn, hl⟩ := rdv_own h.own
  exact ⟨A, c, e, ⟨rfl, hr⟩, hn, hl⟩
theorem NdM.item (h : NdM w n) {j : Nat} (hj : j < n.is.length) : ∃ g c, n.v = .slice (some ⟨g, 0, none⟩) n.is.length c ∧ n.is.length ≤ c ∧ (∀ o, w.frozen? ⟨g, o, none⟩ = false) ∧
    w.cell? ⟨g, j * 4, none⟩ = some (.int .i64 n.is[j].c.v) ∧ w.cell? ⟨g, j * 4 + 1, none⟩ = some (.int .i64 n.is[j].c.s) ∧ w.cell? ⟨g, j * 4 + 2, none⟩ = some (.bool n.is[j].c.dead) ∧ w.cell? ⟨g, j * 4 + 3, none⟩ = some (.int .i64 n.is[j].k) := by
  rcases h.own.2 with ⟨_, h0⟩ | ⟨g, c, cur, e, _, hb, hle, _⟩
  · omega
  · have ho := h.own
    rw [e] at ho
    have key : ∀ (i : Nat) (u : Value), i < 4 → (n.is[j].vals)[i]? = some u → w.cell? ⟨g, j * 4 + i, none⟩ = some u := fun i u hi hu => own_cell ho _ u ((rowV_get Ix.vals 4 Ix.vlen n.is j hj i hi).trans hu)
    exact ⟨g, c, e, hle, frozen_of hb, key 0 _ (by omega) rfl, key 1 _ (by omega) rfl, key 2 _ (by omega) rfl, key 3 _ (by omega) rfl⟩
/-- Where one below it lies. -/
theorem NdM.kid (h : NdM w n) {j : Nat} (hj : j < n.ps.length) : ∃ g c, n.u = .slice (some ⟨g, 0, none⟩) n.ps.length c ∧ n.ps.length ≤ c ∧ w.cell? ⟨g, j, none⟩ = some (.pointer (some ⟨n.ps[j], 0, none⟩)) := by
  rcases h.kids.2 with ⟨_, h0⟩ | ⟨g, c, cur, e, _, hb, hle, _⟩
  · omega
  · have ho := h.kids
    rw [e] at ho
    refine ⟨g, c, e, hle, ?_⟩
    have := own_cell ho _ _ ((rowV_get PV 1 PV.len n.ps j hj 0 (by omega)).trans rfl)
    simpa using this
end
set_option maxHeartbeats 1000000 in
theorem leaf_any {w : World} {n : Nd} (h : NdM w n) : Calls Try.prog 109 #[.pointer (some ⟨n.p, 0, none⟩)] w fun e w' => e = .returned (.bool ((n.ps.length : Int) == 0)) ∧ w = w' := by
  have c1 := h.c1
  obtain ⟨A, c, e, _, _, _⟩ := rdv_own h.kids
  rw [e] at c1
  obtain ⟨p, hp⟩ : ∃ p, p = n.p := ⟨_, rfl⟩
  obtain ⟨m, hm⟩ : ∃ m, m = n.ps.length := ⟨_, rfl⟩
  rw [← hp, ← hm] at c1
  rw [← hp, ← hm]
  clear h e hp hm
  go_enter Try.func109, Try.ntmps109
  go_wp2_with fail
  go_ret
  exact ⟨rfl, rfl⟩
set_option maxHeartbeats 1000000 in
theorem find_any {w : World} {n : Nd} (h : NdM w n) (hu : Up n.is) (hl : n.is.length ≤ 1000) (k : Int) : Calls Try.prog 108 #[.pointer (some ⟨n.p, 0, none⟩), .int .i64 k] w fun e w' => e = .returned (.tuple #[.int .i64 (place n.is k : Int), .bool (foundB n.is k)]) ∧ Below w.heap.size w w' := by
  have c0 := h.c0
  obtain ⟨A, c, e, hr, _, _⟩ := h.items
  rw [e] at c0
  have HS := Lib.hid (search_any A c n.is k w hr (by omega) hu)
  obtain ⟨p, hp⟩ : ∃ p, p = n.p := ⟨_, rfl⟩
  obtain ⟨q, hq⟩ : ∃ q, q = place n.is k := ⟨_, rfl⟩
  obtain ⟨b, hb⟩ : ∃ b, b = foundB n.is k := ⟨_, rfl⟩
  obtain ⟨m, hm⟩ : ∃ m, m = n.is.length := ⟨_, rfl⟩
  rw [← hp, ← hm] at c0
  rw [← hq, ← hb, ← hm] at HS
  rw [← hp, ← hq, ← hb]
  clear h e hp hq hb hm hr hu hl
  go_enter Try.func108, Try.ntmps108
  go_wp2_with fail
  refine Calls.mono HS.out ?_
  rintro e w1 ⟨rfl, b1⟩
  go_wp2_with fail
  go_ret2
  exact ⟨rfl, b1⟩
end Go.Proofs.Ytejpjbmbcdgomaa

/- Nodes changed one at a time. -/
namespace Go.Proofs.Ytejpjbmbcdgomaa
set_option maxRecDepth 100000
open Go.RowKit

/-- What is changed lies in G (or is new). -/
structure Ch (w w' : World) (G : Nat → Prop) : Prop where
  os : w'.os = w.os
  tape : w'.tape = w.tape
  output : w'.output = w.output
  size : w.heap.size ≤ w'.heap.size
  block : ∀ k, k < w.heap.size → ¬ G k → w'.heap[k]? = w.heap[k]?
/-- A node of new blocks beside its old ones. -/
structure Fr (w : World) (n n' : Nd) : Prop where
  p : n'.p = n.p
  new : ∀ k, n'.B k → n.B k ∨ w.heap.size ≤ k
def Ap (m n : Nd) : Prop := ∀ k, m.B k → ¬ n.B k
section
variable {w w1 w2 : World} {G G1 : Nat → Prop} {m n n' n2 : Nd}
theorem Ch.refl (w : World) (G : Nat → Prop) : Ch w w G := ⟨rfl, rfl, rfl, Nat.le_refl _, fun _ _ _ => rfl⟩
theorem Ch.trans (h : Ch w w1 G) (k : Ch w1 w2 G1) (hG : ∀ q, G1 q → G q ∨ w.heap.size ≤ q) : Ch w w2 G :=
  ⟨k.os.trans h.os, k.tape.trans h.tape, k.output.trans h.output, Nat.le_trans h.size k.size, fun q hq hn => (k.block q (Nat.lt_of_lt_of_le hq h.size) (fun e => by
    rcases hG q e with e | e
    · exact hn e
    · omega)).trans (h.block q hq hn)⟩
theorem Ch.mono (h : Ch w w1 G) (hG : ∀ q, G q → G1 q) : Ch w w1 G1 := ⟨h.os, h.tape, h.output, h.size, fun k hk hn => h.block k hk fun e => hn (hG k e)⟩
theorem Ch.of_below (h : Below w.heap.size w w1) (G : Nat → Prop) : Ch w w1 G := ⟨h.os, h.tape, h.output, h.size, fun k hk _ => h.block k hk⟩
theorem Ch.below (h : Ch w w1 G) {B : Nat} (hB : B ≤ w.heap.size) (hF : ∀ k, G k → B ≤ k) : Below B w w1 := ⟨h.os, h.tape, h.output, h.size, fun k hk => h.block k (by omega) fun e => by have := hF k e; omega⟩
theorem Fr.refl (w : World) (n : Nd) : Fr w n n := ⟨rfl, fun _ h => .inl h⟩
theorem Fr.trans (h : Fr w n n') (k : Fr w1 n' n2) (hs : w.heap.size ≤ w1.heap.size) : Fr w n n2 :=
  ⟨k.p.trans h.p, fun q e => by
    rcases k.new q e with e | e
    · exact h.new q e
    · exact .inr (Nat.le_trans hs e)⟩
theorem Ap.symm (h : Ap m n) : Ap n m := fun k a b => h k b a
theorem NdM.other (h : NdM w m) (ha : Ap m n) (hc : Ch w w1 n.B) : NdM w1 m := h.keep fun k hk => hc.block k (h.lt hk) (ha k hk)
theorem Ap.to (ha : Ap m n) (h : NdM w m) (hf : Fr w n n') : Ap m n' := fun k a b => by
  rcases hf.new k b with e | e
  · exact ha k a e
  · have := h.lt a; omega
/-- New items. -/
def Nd.put0 (n : Nd) (v : Value) (is : List Ix) : Nd := ⟨n.p, v, n.u, is, n.ps⟩
/-- New ones below. -/
def Nd.put1 (n : Nd) (u : Value) (ps : List Nat) : Nd := ⟨n.p, n.v, u, n.is, ps⟩
theorem heap_set (w : World) (p j : Nat) (v : Value) {c : Array Value} {t : TypeId} (h : w.heap[p]? = some (.cells c t (0, 0))) : (w.setCell ⟨p, j, none⟩ v).heap[p]? = some (.cells (c.setIfInBounds j v) t (0, 0)) := by
  unfold World.setCell
  simp only [Array.getElem?_modify, h]
  simp
theorem heap_ne (w : World) (p j : Nat) (v : Value) {k : Nat} (hk : k ≠ p) : (w.setCell ⟨p, j, none⟩ v).heap[k]? = w.heap[k]? := Below.heap_setCell _ ⟨p, j, none⟩ _ _ hk
theorem NdM.p_same (h : NdM w n) (hg : w.grownBy w1 n.v.ownBlock) : w1.heap[n.p]? = some (.cells #[n.v, n.u] 155 (0, 0)) :=
  (hg.block _ (h.lt (.inl rfl)) (fun e => h.vp e.symm)).trans h.block
theorem NdM.p_same1 (h : NdM w n) (hg : w.grownBy w1 n.u.ownBlock) : w1.heap[n.p]? = some (.cells #[n.v, n.u] 155 (0, 0)) :=
  (hg.block _ (h.lt (.inl rfl)) (fun e => h.up e.symm)).trans h.block
theorem NdM.put0 (h : NdM w n) {p : Nat} (hp0 : n.p = p) {v : Value} {is : List Ix} {m : Nat} (hm : is.length = m) (ho : w1.ownsRow 0 166 4 v m (rowV Ix.vals is)) (hg : w.grownBy w1 n.v.ownBlock) (hq : ∀ q, v.ownBlock = some q → n.v.ownBlock = some q ∨ w.heap.size ≤ q) :
    NdM (w1.setCell ⟨p, 0, none⟩ v) (n.put0 v is) ∧ Ch w (w1.setCell ⟨p, 0, none⟩ v) n.B ∧ Fr w n (n.put0 v is) := by
  subst hm hp0
  have hp := h.p_same hg
  have hpl := h.lt (.inl rfl)
  have hvp : ∀ q, v.ownBlock = some q → q ≠ n.p := fun q e1 e2 => by
    subst e2
    rcases hq _ e1 with e | e
    · exact h.vp e
    · omega
  refine ⟨⟨?_, ?_, ?_⟩, ⟨hg.os, hg.tape, hg.output, by rw [World.size_setCell]; exact hg.size, fun k hk hn => ?_⟩, ⟨rfl, fun k e => ?_⟩⟩
  · exact (heap_set w1 n.p 0 v hp).trans rfl
  · exact own_same ho fun q e => heap_ne _ _ _ _ (hvp q e)
  · refine own_same h.kids fun q e => ?_
    have hql := h.lt (.inr (.inr e))
    have e1 : q ≠ n.p := fun e2 => h.up (by rw [← e2]; exact e)
    rw [heap_ne _ _ _ _ e1]
    exact hg.block q hql fun e2 => h.vu e2.symm e
  · rw [heap_ne _ _ _ _ (fun e => hn (.inl e))]
    exact hg.block k hk fun e => hn (.inr (.inl e.symm))
  · rcases e with e | e | e
    · exact .inl (.inl e)
    · rcases hq k e with e | e
      · exact .inl (.inr (.inl e))
      · exact .inr e
    · exact .inl (.inr (.inr e))
theorem NdM.put1 (h : NdM w n) {p : Nat} (hp0 : n.p = p) {u : Value} {ps : List Nat} {m : Nat} (hm : ps.length = m) (ho : w1.ownsRow 0 151 1 u m (rowV PV ps)) (hg : w.grownBy w1 n.u.ownBlock) (hq : ∀ q, u.ownBlock = some q → n.u.ownBlock = some q ∨ w.heap.size ≤ q) :
    NdM (w1.setCell ⟨p, 1, none⟩ u) (n.put1 u ps) ∧ Ch w (w1.setCell ⟨p, 1, none⟩ u) n.B ∧ Fr w n (n.put1 u ps) := by
  subst hm hp0
  have hp := h.p_same1 hg
  have hpl := h.lt (.inl rfl)
  have hvp : ∀ q, u.ownBlock = some q → q ≠ n.p := fun q e1 e2 => by
    subst e2
    rcases hq _ e1 with e | e
    · exact h.up e
    · omega
  refine ⟨⟨?_, ?_, ?_⟩, ⟨hg.os, hg.tape, hg.output, by rw [World.size_setCell]; exact hg.size, fun k hk hn => ?_⟩, ⟨rfl, fun k e => ?_⟩⟩
  · exact (heap_set w1 n.p 1 u hp).trans rfl
  · refine own_same h.own fun q e => ?_
    have hql := h.lt (.inr (.inl e))
    have e1 : q ≠ n.p := fun e2 => h.vp (by rw [← e2]; exact e)
    rw [heap_ne _ _ _ _ e1]
    exact hg.block q hql fun e2 => h.vu e e2.symm
  · exact own_same ho fun q e => heap_ne _ _ _ _ (hvp q e)
  · rw [heap_ne _ _ _ _ (fun e => hn (.inl e))]
    exact hg.block k hk fun e => hn (.inr (.inr e.symm))
  · rcases e with e | e | e
    · exact .inl (.inl e)
    · exact .inl (.inr (.inl e))
    · rcases hq k e with e | e
      · exact .inl (.inr (.inr e))
      · exact .inr e
end
/-- An item in its place. -/
theorem NdM.set {w : World} {n : Nd} (h : NdM w n) {j g c : Nat} (hj : j < n.is.length) (hv : n.v = .slice (some ⟨g, 0, none⟩) n.is.length c) (y : Ix) {w1 : World} (h1 : w1 = (((w.setCell ⟨g, j * 4, none⟩ (.int .i64 y.c.v)).setCell ⟨g, j * 4 + 1, none⟩ (.int .i64 y.c.s)).setCell ⟨g, j * 4 + 2, none⟩ (.bool y.c.dead)).setCell ⟨g, j * 4 + 3, none⟩ (.int .i64 y.k)) :
    NdM w1 (n.put0 n.v (n.is.set j y)) ∧ Ch w w1 n.B ∧ Fr w n (n.put0 n.v (n.is.set j y)) := by
  subst h1
  have ho := h.own
  rw [hv] at ho
  have h4 := own_setCells y.vals (j * 4) ho
  have hrow : setL (rowV Ix.vals n.is) (j * 4) y.vals = rowV Ix.vals (n.is.set j y) := by
    obtain ⟨b, c, e, hb, hc⟩ : ∃ b c, rowV Ix.vals n.is = rowV Ix.vals (n.is.take j) ++ (b ++ c) ∧ b.length = 4 ∧ c = rowV Ix.vals (n.is.drop (j + 1)) :=
      ⟨n.is[j].vals, _, by
        have e : n.is = n.is.take j ++ n.is[j] :: n.is.drop (j + 1) := by rw [List.getElem_cons_drop, List.take_append_drop]
        have e2 := congrArg (rowV Ix.vals) e
        rw [rowV_append, show rowV Ix.vals (n.is[j] :: n.is.drop (j + 1)) = n.is[j].vals ++ rowV Ix.vals (n.is.drop (j + 1)) from List.flatMap_cons ..] at e2
        exact e2, rfl, rfl⟩
    obtain ⟨e1, _⟩ := rows_len (f := Ix.vals) Ix.vlen (l := n.is) rfl (Nat.le_of_lt hj)
    rw [e, setL_mid _ _ _ _ _ e1 (by rw [hb]; rfl), hc, List.set_eq_take_append_cons_drop, if_pos hj, rowV_append]
    simp [rowV]
  rw [hrow] at h4
  have hgv : n.v.ownBlock = some g := by rw [hv]; rfl
  have hpg : n.p ≠ g := fun e => h.vp (by rw [e]; exact hgv)
  have hown : (w.setCells g (j * 4) y.vals).ownsRow 0 166 4 n.v (n.is.set j y).length (rowV Ix.vals (n.is.set j y)) := by
    rw [List.length_set, hv]
    exact h4.1
  have hgr := h4.2
  refine ⟨⟨(hgr.block _ (h.lt (.inl rfl)) (fun e => hpg (by injection e))).trans h.block, hown, own_same h.kids fun q e => hgr.block q (h.lt (.inr (.inr e))) fun e2 => h.vu hgv (by rw [← e2]; exact e)⟩,
    ⟨hgr.os, hgr.tape, hgr.output, hgr.size, fun k hk hn => hgr.block k hk fun e => hn (.inr (.inl (by rw [hgv, e])))⟩, ⟨rfl, fun k e => .inl e⟩⟩
/-- One more in a row, of a new block of its own. -/
theorem insert_newI {w : World} {v : Value} {n : Nat} {l : List Ix} (h : w.ownsRow 0 166 4 v n (rowV Ix.vals l)) (hl : l.length = n) (i : Nat) (hi : i ≤ n) (hn : n ≤ 100000) (x : Ix) (T : TypeId) :
    Calls Try.prog 123 #[v, .int .i64 (i : Int), .slice (some ⟨w.heap.size, 0, none⟩) 1 1] (w.alloc (.cells #[.int .i64 x.c.v, .int .i64 x.c.s, .bool x.c.dead, .int .i64 x.k] T)) fun e w' => ∃ v', e = .returned v' ∧ w'.ownsRow 0 166 4 v' (n + 1) (rowV Ix.vals (l.take i ++ x :: l.drop i)) ∧ w.grownBy w' v.ownBlock ∧ ∀ q, v'.ownBlock = some q → v.ownBlock = some q ∨ w.heap.size ≤ q := by
  have hb : Below w.heap.size w (w.alloc (.cells #[.int .i64 x.c.v, .int .i64 x.c.s, .bool x.c.dead, .int .i64 x.k] T)) := (Below.refl _ w).alloc (Nat.le_refl _) _
  have h2 : ∀ q, v.ownBlock = some q → q < w.heap.size := fun q e => by
    obtain ⟨_, e⟩ := own_at h e
    exact (Array.getElem?_eq_some_iff.1 e).1
  refine Calls.mono (insert_anyI (own_same h fun q e => hb.block q (h2 q e)) hl i hi hn x w.heap.size (T := T) (heap_alloc_new w _) (fun e => by have := h2 _ e; omega)) ?_
  rintro e w' ⟨v', rfl, ho, hg, hq⟩
  exact ⟨v', rfl, ho, grown_trans (grown_below hb _) hg, fun q e => (hq q e).imp id fun e => Nat.le_trans hb.size e⟩
theorem insert_newN {w : World} {v : Value} {n : Nat} {l : List Nat} (h : w.ownsRow 0 151 1 v n (rowV PV l)) (hl : l.length = n) (i : Nat) (hi : i ≤ n) (hn : n ≤ 100000) (x : Nat) (T : TypeId) :
    Calls Try.prog 125 #[v, .int .i64 (i : Int), .slice (some ⟨w.heap.size, 0, none⟩) 1 1] (w.alloc (.cells #[.pointer (some ⟨x, 0, none⟩)] T)) fun e w' => ∃ v', e = .returned v' ∧ w'.ownsRow 0 151 1 v' (n + 1) (rowV PV (l.take i ++ x :: l.drop i)) ∧ w.grownBy w' v.ownBlock ∧ ∀ q, v'.ownBlock = some q → v.ownBlock = some q ∨ w.heap.size ≤ q := by
  have hb : Below w.heap.size w (w.alloc (.cells #[.pointer (some ⟨x, 0, none⟩)] T)) := (Below.refl _ w).alloc (Nat.le_refl _) _
  have h2 : ∀ q, v.ownBlock = some q → q < w.heap.size := fun q e => by
    obtain ⟨_, e⟩ := own_at h e
    exact (Array.getElem?_eq_some_iff.1 e).1
  refine Calls.mono (insert_anyN (own_same h fun q e => hb.block q (h2 q e)) hl i hi hn x w.heap.size (T := T) (heap_alloc_new w _) (fun e => by have := h2 _ e; omega)) ?_
  rintro e w' ⟨v', rfl, ho, hg, hq⟩
  exact ⟨v', rfl, ho, grown_trans (grown_below hb _) hg, fun q e => (hq q e).imp id fun e => Nat.le_trans hb.size e⟩
/-- A fresh block reads as what it holds. -/
theorem rdv_freshI (w : World) (x : Ix) (T : TypeId) : Rdv (w.alloc (.cells #[.int .i64 x.c.v, .int .i64 x.c.s, .bool x.c.dead, .int .i64 x.k] T)) (some ⟨w.heap.size, 0, none⟩) 1 4 x.vals :=
  ⟨rfl, fun _ => ⟨w.heap.size, 0, rfl, fun j u hj => by
    rw [Nat.zero_add, cell_of_row _ w.heap.size j _ T (0, 0) (heap_alloc_new w _)]
    unfold Ix.vals at hj
    simpa using hj⟩⟩
theorem ix1 (x : Ix) : ∀ u ∈ x.vals, u.oneCell' = true := fun u hu => ix_one [x] u (by simpa [rowV] using hu)
theorem NdM.after0 {w w1 : World} {n : Nd} (h : NdM w n) (hg : w.grownBy w1 n.v.ownBlock) : w1.cell? ⟨n.p, 0, none⟩ = some n.v ∧ w1.frozen? ⟨n.p, 0, none⟩ = false :=
  ⟨(cell_of_row w1 _ 0 _ _ (0, 0) (h.p_same hg)).trans rfl, frozen_of (h.p_same hg) 0⟩
theorem NdM.after1 {w w1 : World} {n : Nd} (h : NdM w n) (hg : w.grownBy w1 n.u.ownBlock) : w1.cell? ⟨n.p, 1, none⟩ = some n.u ∧ w1.frozen? ⟨n.p, 1, none⟩ = false :=
  ⟨(cell_of_row w1 _ 1 _ _ (0, 0) (h.p_same1 hg)).trans rfl, frozen_of (h.p_same1 hg) 1⟩
/-- A slice's own form. -/
theorem own_form {w : World} {B e size n : Nat} {v : Value} {xs : List Value} (h : w.ownsRow B e size v n xs) : ∃ A c, v = .slice A n c := by
  obtain ⟨A, c, e, _⟩ := rdv_own h
  exact ⟨A, c, e⟩
theorem grown_drew {w w1 : World} {r : Option Nat} (h : w.drew.grownBy w1 r) : w.grownBy w1 r := ⟨h.os, h.tape, h.output, h.size, h.block⟩
theorem NdM.it {w : World} {n : Nd} (h : NdM w n) {j : Nat} {x : Ix} (hj : n.is[j]? = some x) : ∃ g c, n.v = .slice (some ⟨g, 0, none⟩) n.is.length c ∧ (j : Int) < (n.is.length : Int) ∧ n.is.length ≤ c ∧
    w.cell? ⟨n.p, 0, none⟩ = some (.slice (some ⟨g, 0, none⟩) n.is.length c) ∧ w.cell? ⟨g, j * 4, none⟩ = some (.int .i64 x.c.v) ∧ w.cell? ⟨g, j * 4 + 1, none⟩ = some (.int .i64 x.c.s) ∧ w.cell? ⟨g, j * 4 + 2, none⟩ = some (.bool x.c.dead) ∧ w.cell? ⟨g, j * 4 + 3, none⟩ = some (.int .i64 x.k) ∧ ∀ o, w.frozen? ⟨g, o, none⟩ = false := by
  obtain ⟨hj1, rfl⟩ := List.getElem?_eq_some_iff.1 hj
  obtain ⟨g, c, e, h1, h2, c0, c1, c2, c3⟩ := h.item hj1
  have h0 := h.c0
  rw [e] at h0
  exact ⟨g, c, e, by omega, h1, h0, c0, c1, c2, c3, h2⟩
theorem NdM.kd {w : World} {n : Nd} (h : NdM w n) {j : Nat} {p : Nat} (hj : n.ps[j]? = some p) : ∃ g c, n.u = .slice (some ⟨g, 0, none⟩) n.ps.length c ∧ (j : Int) < (n.ps.length : Int) ∧ n.ps.length ≤ c ∧
    w.cell? ⟨n.p, 1, none⟩ = some (.slice (some ⟨g, 0, none⟩) n.ps.length c) ∧ w.cell? ⟨g, j, none⟩ = some (.pointer (some ⟨p, 0, none⟩)) := by
  obtain ⟨hj1, rfl⟩ := List.getElem?_eq_some_iff.1 hj
  obtain ⟨g, c, e, h1, h2⟩ := h.kid hj1
  have h0 := h.c1
  rw [e] at h0
  exact ⟨g, c, e, by omega, h1, h0, h2⟩
/-- Three nodes apart, changed one at a time. -/
structure Tri (w0 w : World) (n0 L0 R0 n L R : Nd) : Prop where
  hn : NdM w n
  hL : NdM w L
  hR : NdM w R
  a1 : Ap n L
  a2 : Ap n R
  a3 : Ap L R
  ch : Ch w0 w (fun k => n0.B k ∨ L0.B k ∨ R0.B k)
  fn : Fr w0 n0 n
  fL : Fr w0 L0 L
  fR : Fr w0 R0 R
section
variable {w0 w w1 : World} {n0 L0 R0 n L R n1 L1 R1 : Nd}
theorem Tri.refl (hn : NdM w n) (hL : NdM w L) (hR : NdM w R) (a1 : Ap n L) (a2 : Ap n R) (a3 : Ap L R) : Tri w w n L R n L R := ⟨hn, hL, hR, a1, a2, a3, Ch.refl _ _, Fr.refl _ _, Fr.refl _ _, Fr.refl _ _⟩
theorem Tri.moveN (T : Tri w0 w n0 L0 R0 n L R) (h : NdM w1 n1 ∧ Ch w w1 n.B ∧ Fr w n n1) : Tri w0 w1 n0 L0 R0 n1 L R :=
  ⟨h.1, T.hL.other T.a1.symm h.2.1, T.hR.other T.a2.symm h.2.1, (T.a1.symm.to T.hL h.2.2).symm, (T.a2.symm.to T.hR h.2.2).symm, T.a3, T.ch.trans h.2.1 (fun q e => (T.fn.new q e).imp .inl id), T.fn.trans h.2.2 T.ch.size, T.fL, T.fR⟩
theorem Tri.moveL (T : Tri w0 w n0 L0 R0 n L R) (h : NdM w1 L1 ∧ Ch w w1 L.B ∧ Fr w L L1) : Tri w0 w1 n0 L0 R0 n L1 R :=
  ⟨T.hn.other T.a1 h.2.1, h.1, T.hR.other T.a3.symm h.2.1, T.a1.to T.hn h.2.2, T.a2, (T.a3.symm.to T.hR h.2.2).symm, T.ch.trans h.2.1 (fun q e => (T.fL.new q e).imp (fun e => .inr (.inl e)) id), T.fn, T.fL.trans h.2.2 T.ch.size, T.fR⟩
theorem Tri.moveR (T : Tri w0 w n0 L0 R0 n L R) (h : NdM w1 R1 ∧ Ch w w1 R.B ∧ Fr w R R1) : Tri w0 w1 n0 L0 R0 n L R1 :=
  ⟨T.hn.other T.a2 h.2.1, T.hL.other T.a3 h.2.1, h.1, T.a1, T.a2.to T.hn h.2.2, T.a3.to T.hL h.2.2, T.ch.trans h.2.1 (fun q e => (T.fR.new q e).imp (fun e => .inr (.inr e)) id), T.fn, T.fL, T.fR.trans h.2.2 T.ch.size⟩
theorem Tri.below (T : Tri w0 w n0 L0 R0 n L R) (h : Below w.heap.size w w1) : Tri w0 w1 n0 L0 R0 n L R :=
  ⟨T.hn.below h, T.hL.below h, T.hR.below h, T.a1, T.a2, T.a3, T.ch.trans (Ch.of_below h fun _ => False) (fun _ e => e.elim), T.fn, T.fL, T.fR⟩
theorem Tri.drew (T : Tri w0 w n0 L0 R0 n L R) : Tri w0 w.drew n0 L0 R0 n L R := T.below (below_drewI (Below.refl _ _))
end
end Go.Proofs.Ytejpjbmbcdgomaa

/- Two nodes made one. -/
namespace Go.Proofs.Ytejpjbmbcdgomaa
set_option maxRecDepth 100000
open Go.RowKit

end Go.Proofs.Ytejpjbmbcdgomaa

/- The last of the left one handed on to the right one. -/
namespace Go.Proofs.Ytejpjbmbcdgomaa
set_option maxRecDepth 100000
open Go.RowKit

end Go.Proofs.Ytejpjbmbcdgomaa

/- The first of the right one handed on to the left one. -/
namespace Go.Proofs.Ytejpjbmbcdgomaa
set_option maxRecDepth 100000
open Go.RowKit

end Go.Proofs.Ytejpjbmbcdgomaa
