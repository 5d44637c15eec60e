/- TSh, TMrg: put together. -/
import Derived.Test.YtejpjbmbcdgomaaPe04
/- Nodes changed one at a time. -/
namespace Go.Proofs.Ytejpjbmbcdgomaa
set_option maxRecDepth 100000
open Go.RowKit

/-- What is changed lies in G (or is new). -/
structure Ch (w w' : World) (G : Nat → Prop) : Prop where
  os : w'.os = w.os
  tape : w'.tape = w.tape
  output : w'.output = w.output
  size : w.heap.size ≤ w'.heap.size
  block : ∀ k, k < w.heap.size → ¬ G k → w'.heap[k]? = w.heap[k]?
/-- A node of new blocks beside its old ones. -/
structure Fr (w : World) (n n' : Nd) : Prop where
  p : n'.p = n.p
  new : ∀ k, n'.B k → n.B k ∨ w.heap.size ≤ k
def Ap (m n : Nd) : Prop := ∀ k, m.B k → ¬ n.B k
section
variable {w w1 w2 : World} {G G1 : Nat → Prop} {m n n' n2 : Nd}
theorem Ch.refl (w : World) (G : Nat → Prop) : Ch w w G := ⟨rfl, rfl, rfl, Nat.le_refl _, fun _ _ _ => rfl⟩
theorem Ch.trans (h : Ch w w1 G) (k : Ch w1 w2 G1) (hG : ∀ q, G1 q → G q ∨ w.heap.size ≤ q) : Ch w w2 G :=
  ⟨k.os.trans h.os, k.tape.trans h.tape, k.output.trans h.output, Nat.le_trans h.size k.size, fun q hq hn => (k.block q (Nat.lt_of_lt_of_le hq h.size) (fun e => by
    rcases hG q e with e | e
    · exact hn e
    · omega)).trans (h.block q hq hn)⟩
theorem Ch.mono (h : Ch w w1 G) (hG : ∀ q, G q → G1 q) : Ch w w1 G1 := ⟨h.os, h.tape, h.output, h.size, fun k hk hn => h.block k hk fun e => hn (hG k e)⟩
theorem Ch.of_below (h : Below w.heap.size w w1) (G : Nat → Prop) : Ch w w1 G := ⟨h.os, h.tape, h.output, h.size, fun k hk _ => h.block k hk⟩
theorem Ch.below (h : Ch w w1 G) {B : Nat} (hB : B ≤ w.heap.size) (hF : ∀ k, G k → B ≤ k) : Below B w w1 := ⟨h.os, h.tape, h.output, h.size, fun k hk => h.block k (by omega) fun e => by have := hF k e; omega⟩
theorem Fr.refl (w : World) (n : Nd) : Fr w n n := ⟨rfl, fun _ h => .inl h⟩
theorem Fr.trans (h : Fr w n n') (k : Fr w1 n' n2) (hs : w.heap.size ≤ w1.heap.size) : Fr w n n2 :=
  ⟨k.p.trans h.p, fun q e => by
    rcases k.new q e with e | e
    · exact h.new q e
    · exact .inr (Nat.le_trans hs e)⟩
theorem Ap.symm (h : Ap m n) : Ap n m := fun k a b => h k b a
theorem NdM.other (h : NdM w m) (ha : Ap m n) (hc : Ch w w1 n.B) : NdM w1 m := h.keep fun k hk => hc.block k (h.lt hk) (ha k hk)
theorem Ap.to (ha : Ap m n) (h : NdM w m) (hf : Fr w n n') : Ap m n' := fun k a b => by
  rcases hf.new k b with e | e
  · exact ha k a e
  · have := h.lt a; omega
/-- New items. -/
def Nd.put0 (n : Nd) (v : Value) (is : List Ix) : Nd := ⟨n.p, v, n.u, is, n.ps⟩
/-- New ones below. -/
def Nd.put1 (n : Nd) (u : Value) (ps : List Nat) : Nd := ⟨n.p, n.v, u, n.is, ps⟩
theorem heap_set (w : World) (p j : Nat) (v : Value) {c : Array Value} {t : TypeId} (h : w.heap[p]? = some (.cells c t (0, 0))) : (w.setCell ⟨p, j, none⟩ v).heap[p]? = some (.cells (c.setIfInBounds j v) t (0, 0)) := by
  unfold World.setCell
  simp only [Array.getElem?_modify, h]
  simp
theorem heap_ne (w : World) (p j : Nat) (v : Value) {k : Nat} (hk : k ≠ p) : (w.setCell ⟨p, j, none⟩ v).heap[k]? = w.heap[k]? := Below.heap_setCell _ ⟨p, j, none⟩ _ _ hk
theorem NdM.p_same (h : NdM w n) (hg : w.grownBy w1 n.v.ownBlock) : w1.heap[n.p]? = some (.cells #[n.v, n.u] 155 (0, 0)) :=
  (hg.block _ (h.lt (.inl rfl)) (fun e => h.vp e.symm)).trans h.block
theorem NdM.p_same1 (h : NdM w n) (hg : w.grownBy w1 n.u.ownBlock) : w1.heap[n.p]? = some (.cells #[n.v, n.u] 155 (0, 0)) :=
  (hg.block _ (h.lt (.inl rfl)) (fun e => h.up e.symm)).trans h.block
theorem NdM.put0 (h : NdM w n) {p : Nat} (hp0 : n.p = p) {v : Value} {is : List Ix} {m : Nat} (hm : is.length = m) (ho : w1.ownsRow 0 166 4 v m (rowV Ix.vals is)) (hg : w.grownBy w1 n.v.ownBlock) (hq : ∀ q, v.ownBlock = some q → n.v.ownBlock = some q ∨ w.heap.size ≤ q) :
    NdM (w1.setCell ⟨p, 0, none⟩ v) (n.put0 v is) ∧ Ch w (w1.setCell ⟨p, 0, none⟩ v) n.B ∧ Fr w n (n.put0 v is) := by
  subst hm hp0
  have hp := h.p_same hg
  have hpl := h.lt (.inl rfl)
  have hvp : ∀ q, v.ownBlock = some q → q ≠ n.p := fun q e1 e2 => by
    subst e2
    rcases hq _ e1 with e | e
    · exact h.vp e
    · omega
  refine ⟨⟨?_, ?_, ?_⟩, ⟨hg.os, hg.tape, hg.output, by rw [World.size_setCell]; exact hg.size, fun k hk hn => ?_⟩, ⟨rfl, fun k e => ?_⟩⟩
  · exact (heap_set w1 n.p 0 v hp).trans rfl
  · exact own_same ho fun q e => heap_ne _ _ _ _ (hvp q e)
  · refine own_same h.kids fun q e => ?_
    have hql := h.lt (.inr (.inr e))
    have e1 : q ≠ n.p := fun e2 => h.up (by rw [← e2]; exact e)
    rw [heap_ne _ _ _ _ e1]
    exact hg.block q hql fun e2 => h.vu e2.symm e
  · rw [heap_ne _ _ _ _ (fun e => hn (.inl e))]
    exact hg.block k hk fun e => hn (.inr (.inl e.symm))
  · rcases e with e | e | e
    · exact .inl (.inl e)
    · rcases hq k e with e | e
      · exact .inl (.inr (.inl e))
      · exact .inr e
    · exact .inl (.inr (.inr e))
theorem NdM.put1 (h : NdM w n) {p : Nat} (hp0 : n.p = p) {u : Value} {ps : List Nat} {m : Nat} (hm : ps.length = m) (ho : w1.ownsRow 0 151 1 u m (rowV PV ps)) (hg : w.grownBy w1 n.u.ownBlock) (hq : ∀ q, u.ownBlock = some q → n.u.ownBlock = some q ∨ w.heap.size ≤ q) :
    NdM (w1.setCell ⟨p, 1, none⟩ u) (n.put1 u ps) ∧ Ch w (w1.setCell ⟨p, 1, none⟩ u) n.B ∧ Fr w n (n.put1 u ps) := by
  subst hm hp0
  have hp := h.p_same1 hg
  have hpl := h.lt (.inl rfl)
  have hvp : ∀ q, u.ownBlock = some q → q ≠ n.p := fun q e1 e2 => by
    subst e2
    rcases hq _ e1 with e | e
    · exact h.up e
    · omega
  refine ⟨⟨?_, ?_, ?_⟩, ⟨hg.os, hg.tape, hg.output, by rw [World.size_setCell]; exact hg.size, fun k hk hn => ?_⟩, ⟨rfl, fun k e => ?_⟩⟩
  · exact (heap_set w1 n.p 1 u hp).trans rfl
  · refine own_same h.own fun q e => ?_
    have hql := h.lt (.inr (.inl e))
    have e1 : q ≠ n.p := fun e2 => h.vp (by rw [← e2]; exact e)
    rw [heap_ne _ _ _ _ e1]
    exact hg.block q hql fun e2 => h.vu e e2.symm
  · exact own_same ho fun q e => heap_ne _ _ _ _ (hvp q e)
  · rw [heap_ne _ _ _ _ (fun e => hn (.inl e))]
    exact hg.block k hk fun e => hn (.inr (.inr e.symm))
  · rcases e with e | e | e
    · exact .inl (.inl e)
    · exact .inl (.inr (.inl e))
    · rcases hq k e with e | e
      · exact .inl (.inr (.inr e))
      · exact .inr e
end
/-- An item in its place. -/
theorem NdM.set {w : World} {n : Nd} (h : NdM w n) {j g c : Nat} (hj : j < n.is.length) (hv : n.v = .slice (some ⟨g, 0, none⟩) n.is.length c) (y : Ix) {w1 : World} (h1 : w1 = (((w.setCell ⟨g, j * 4, none⟩ (.int .i64 y.c.v)).setCell ⟨g, j * 4 + 1, none⟩ (.int .i64 y.c.s)).setCell ⟨g, j * 4 + 2, none⟩ (.bool y.c.dead)).setCell ⟨g, j * 4 + 3, none⟩ (.int .i64 y.k)) :
    NdM w1 (n.put0 n.v (n.is.set j y)) ∧ Ch w w1 n.B ∧ Fr w n (n.put0 n.v (n.is.set j y)) := by
  subst h1
  have ho := h.own
  rw [hv] at ho
  have h4 := own_setCells y.vals (j * 4) ho
  have hrow : setL (rowV Ix.vals n.is) (j * 4) y.vals = rowV Ix.vals (n.is.set j y) := by
    obtain ⟨b, c, e, hb, hc⟩ : ∃ b c, rowV Ix.vals n.is = rowV Ix.vals (n.is.take j) ++ (b ++ c) ∧ b.length = 4 ∧ c = rowV Ix.vals (n.is.drop (j + 1)) :=
      ⟨n.is[j].vals, _, by
        have e : n.is = n.is.take j ++ n.is[j] :: n.is.drop (j + 1) := by rw [List.getElem_cons_drop, List.take_append_drop]
        have e2 := congrArg (rowV Ix.vals) e
        rw [rowV_append, show rowV Ix.vals (n.is[j] :: n.is.drop (j + 1)) = n.is[j].vals ++ rowV Ix.vals (n.is.drop (j + 1)) from List.flatMap_cons ..] at e2
        exact e2, rfl, rfl⟩
    obtain ⟨e1, _⟩ := rows_len (f := Ix.vals) Ix.vlen (l := n.is) rfl (Nat.le_of_lt hj)
    rw [e, setL_mid _ _ _ _ _ e1 (by rw [hb]; rfl), hc, List.set_eq_take_append_cons_drop, if_pos hj, rowV_append]
    simp [rowV]
  rw [hrow] at h4
  have hgv : n.v.ownBlock = some g := by rw [hv]; rfl
  have hpg : n.p ≠ g := fun e => h.vp (by rw [e]; exact hgv)
  have hown : (w.setCells g (j * 4) y.vals).ownsRow 0 166 4 n.v (n.is.set j y).length (rowV Ix.vals (n.is.set j y)) := by
    rw [List.length_set, hv]
    exact h4.1
  have hgr := h4.2
  refine ⟨⟨(hgr.block _ (h.lt (.inl rfl)) (fun e => hpg (by injection e))).trans h.block, hown, own_same h.kids fun q e => hgr.block q (h.lt (.inr (.inr e))) fun e2 => h.vu hgv (by rw [← e2]; exact e)⟩,
    ⟨hgr.os, hgr.tape, hgr.output, hgr.size, fun k hk hn => hgr.block k hk fun e => hn (.inr (.inl (by rw [hgv, e])))⟩, ⟨rfl, fun k e => .inl e⟩⟩
/-- One more in a row, of a new block of its own. -/
theorem insert_newI {w : World} {v : Value} {n : Nat} {l : List Ix} (h : w.ownsRow 0 166 4 v n (rowV Ix.vals l)) (hl : l.length = n) (i : Nat) (hi : i ≤ n) (hn : n ≤ 100000) (x : Ix) (T : TypeId) :
    Calls Try.prog 123 #[v, .int .i64 (i : Int), .slice (some ⟨w.heap.size, 0, none⟩) 1 1] (w.alloc (.cells #[.int .i64 x.c.v, .int .i64 x.c.s, .bool x.c.dead, .int .i64 x.k] T)) fun e w' => ∃ v', e = .returned v' ∧ w'.ownsRow 0 166 4 v' (n + 1) (rowV Ix.vals (l.take i ++ x :: l.drop i)) ∧ w.grownBy w' v.ownBlock ∧ ∀ q, v'.ownBlock = some q → v.ownBlock = some q ∨ w.heap.size ≤ q := by
  have hb : Below w.heap.size w (w.alloc (.cells #[.int .i64 x.c.v, .int .i64 x.c.s, .bool x.c.dead, .int .i64 x.k] T)) := (Below.refl _ w).alloc (Nat.le_refl _) _
  have h2 : ∀ q, v.ownBlock = some q → q < w.heap.size := fun q e => by
    obtain ⟨_, e⟩ := own_at h e
    exact (Array.getElem?_eq_some_iff.1 e).1
  refine Calls.mono (insert_anyI (own_same h fun q e => hb.block q (h2 q e)) hl i hi hn x w.heap.size (T := T) (heap_alloc_new w _) (fun e => by have := h2 _ e; omega)) ?_
  rintro e w' ⟨v', rfl, ho, hg, hq⟩
  exact ⟨v', rfl, ho, grown_trans (grown_below hb _) hg, fun q e => (hq q e).imp id fun e => Nat.le_trans hb.size e⟩
theorem insert_newN {w : World} {v : Value} {n : Nat} {l : List Nat} (h : w.ownsRow 0 151 1 v n (rowV PV l)) (hl : l.length = n) (i : Nat) (hi : i ≤ n) (hn : n ≤ 100000) (x : Nat) (T : TypeId) :
    Calls Try.prog 125 #[v, .int .i64 (i : Int), .slice (some ⟨w.heap.size, 0, none⟩) 1 1] (w.alloc (.cells #[.pointer (some ⟨x, 0, none⟩)] T)) fun e w' => ∃ v', e = .returned v' ∧ w'.ownsRow 0 151 1 v' (n + 1) (rowV PV (l.take i ++ x :: l.drop i)) ∧ w.grownBy w' v.ownBlock ∧ ∀ q, v'.ownBlock = some q → v.ownBlock = some q ∨ w.heap.size ≤ q := by
  have hb : Below w.heap.size w (w.alloc (.cells #[.pointer (some ⟨x, 0, none⟩)] T)) := (Below.refl _ w).alloc (Nat.le_refl _) _
  have h2 : ∀ q, v.ownBlock = some q → q < w.heap.size := fun q e => by
    obtain ⟨_, e⟩ := own_at h e
    exact (Array.getElem?_eq_some_iff.1 e).1
  refine Calls.mono (insert_anyN (own_same h fun q e => hb.block q (h2 q e)) hl i hi hn x w.heap.size (T := T) (heap_alloc_new w _) (fun e => by have := h2 _ e; omega)) ?_
  rintro e w' ⟨v', rfl, ho, hg, hq⟩
  exact ⟨v', rfl, ho, grown_trans (grown_below hb _) hg, fun q e => (hq q e).imp id fun e => Nat.le_trans hb.size e⟩
theorem step_append_rowg {P : Program} {t e : TypeId} {size bytes : Nat} (E : ElemT P t e size bytes) {w : World} {ops : Array Oper} {o : Oper} {a : Act} {K : Act → World → Prop} {Q : Exit → Act → World → Prop} {F : Prop}
    (hw : Region.wanted o (yielded ops a.tmps) = true) (s x : Operand)
    (ho : o.op = .call { callee := .builtin .append, args := #[s, x], argTypes := #[t, t] })
    (B : Nat) (v : Value) (n : Nat) (xs : List Value) (hs : a.eval s = v) (hown : w.ownsRow B e size v n xs)
    (A : Option Addr) (m c : Nat) (ys : List Value) (hx : a.eval x = .slice A m c) (hr : Rdv w A m size ys) (h1 : ∀ u ∈ ys, u.oneCell' = true) (hnil : A = none → c = 0)
    (hmx : n + m ≤ maxLen) (hby : (n + m) * bytes ≤ 140737488355328) (hbase : B ≤ w.heap.size)
    (h : ∀ v' w', w'.ownsRow B e size v' (n + m) (xs ++ ys) → w.grownBy w' v.ownBlock → (∀ q, v'.ownBlock = some q → v.ownBlock = some q ∨ w.heap.size ≤ q) → K (a.put o.dst v') w') : if Region.wanted o (yielded ops a.tmps) = true then Oper.wp P o a w K Q else F := by
  rw [if_pos hw]
  obtain ⟨v', w', hrun, h2, h3, h5⟩ := append_block E w B o.type v n xs hown A m c ys hr h1 hnil hmx hby hbase
  have h4 := h v' w' h2 h3 h5
  unfold Oper.wp
  simp [execOp, ho, resolve, invoke, builtin, hs, hx, hrun, Result.andThen]
  exact h4
/-- A fresh block reads as what it holds. -/
theorem rdv_freshI (w : World) (x : Ix) (T : TypeId) : Rdv (w.alloc (.cells #[.int .i64 x.c.v, .int .i64 x.c.s, .bool x.c.dead, .int .i64 x.k] T)) (some ⟨w.heap.size, 0, none⟩) 1 4 x.vals :=
  ⟨rfl, fun _ => ⟨w.heap.size, 0, rfl, fun j u hj => by
    rw [Nat.zero_add, cell_of_row _ w.heap.size j _ T (0, 0) (heap_alloc_new w _)]
    unfold Ix.vals at hj
    simpa using hj⟩⟩
theorem rdv_freshN (w : World) (x : Nat) (T : TypeId) : Rdv (w.alloc (.cells #[.pointer (some ⟨x, 0, none⟩)] T)) (some ⟨w.heap.size, 0, none⟩) 1 1 (PV x) :=
  ⟨rfl, fun _ => ⟨w.heap.size, 0, rfl, fun j u hj => by
    rw [Nat.zero_add, cell_of_row _ w.heap.size j _ T (0, 0) (heap_alloc_new w _)]
    unfold PV at hj
    simpa using hj⟩⟩
theorem ix1 (x : Ix) : ∀ u ∈ x.vals, u.oneCell' = true := fun u hu => ix_one [x] u (by simpa [rowV] using hu)
theorem pt1 (x : Nat) : ∀ u ∈ PV x, u.oneCell' = true := fun u hu => pt_one [x] u (by simpa [rowV] using hu)
theorem NdM.after0 {w w1 : World} {n : Nd} (h : NdM w n) (hg : w.grownBy w1 n.v.ownBlock) : w1.cell? ⟨n.p, 0, none⟩ = some n.v ∧ w1.frozen? ⟨n.p, 0, none⟩ = false :=
  ⟨(cell_of_row w1 _ 0 _ _ (0, 0) (h.p_same hg)).trans rfl, frozen_of (h.p_same hg) 0⟩
theorem NdM.after1 {w w1 : World} {n : Nd} (h : NdM w n) (hg : w.grownBy w1 n.u.ownBlock) : w1.cell? ⟨n.p, 1, none⟩ = some n.u ∧ w1.frozen? ⟨n.p, 1, none⟩ = false :=
  ⟨(cell_of_row w1 _ 1 _ _ (0, 0) (h.p_same1 hg)).trans rfl, frozen_of (h.p_same1 hg) 1⟩
/-- A slice's own form. -/
theorem own_form {w : World} {B e size n : Nat} {v : Value} {xs : List Value} (h : w.ownsRow B e size v n xs) : ∃ A c, v = .slice A n c := by
  obtain ⟨A, c, e, _⟩ := rdv_own h
  exact ⟨A, c, e⟩
theorem grown_alloc {w w1 : World} {r : Option Nat} {o : Obj} (h : (w.alloc o).grownBy w1 r) : w.grownBy w1 r := grown_trans (grown_below ((Below.refl _ w).alloc (Nat.le_refl _) o) r) h
theorem grown_drew {w w1 : World} {r : Option Nat} (h : w.drew.grownBy w1 r) : w.grownBy w1 r := ⟨h.os, h.tape, h.output, h.size, h.block⟩
theorem NdM.it {w : World} {n : Nd} (h : NdM w n) {j : Nat} {x : Ix} (hj : n.is[j]? = some x) : ∃ g c, n.v = .slice (some ⟨g, 0, none⟩) n.is.length c ∧ (j : Int) < (n.is.length : Int) ∧ n.is.length ≤ c ∧
    w.cell? ⟨n.p, 0, none⟩ = some (.slice (some ⟨g, 0, none⟩) n.is.length c) ∧ w.cell? ⟨g, j * 4, none⟩ = some (.int .i64 x.c.v) ∧ w.cell? ⟨g, j * 4 + 1, none⟩ = some (.int .i64 x.c.s) ∧ w.cell? ⟨g, j * 4 + 2, none⟩ = some (.bool x.c.dead) ∧ w.cell? ⟨g, j * 4 + 3, none⟩ = some (.int .i64 x.k) ∧ ∀ o, w.frozen? ⟨g, o, none⟩ = false := by
  obtain ⟨hj1, rfl⟩ := List.getElem?_eq_some_iff.1 hj
  obtain ⟨g, c, e, h1, h2, c0, c1, c2, c3⟩ := h.item hj1
  have h0 := h.c0
  rw [e] at h0
  exact ⟨g, c, e, by omega, h1, h0, c0, c1, c2, c3, h2⟩
theorem NdM.kd {w : World} {n : Nd} (h : NdM w n) {j : Nat} {p : Nat} (hj : n.ps[j]? = some p) : ∃ g c, n.u = .slice (some ⟨g, 0, none⟩) n.ps.length c ∧ (j : Int) < (n.ps.length : Int) ∧ n.ps.length ≤ c ∧
    w.cell? ⟨n.p, 1, none⟩ = some (.slice (some ⟨g, 0, none⟩) n.ps.length c) ∧ w.cell? ⟨g, j, none⟩ = some (.pointer (some ⟨p, 0, none⟩)) := by
  obtain ⟨hj1, rfl⟩ := List.getElem?_eq_some_iff.1 hj
  obtain ⟨g, c, e, h1, h2⟩ := h.kid hj1
  have h0 := h.c1
  rw [e] at h0
  exact ⟨g, c, e, by omega, h1, h0, h2⟩
theorem same_u {g g2 n n2 c c2 : Nat} {u : Value} (h : u = .slice (some ⟨g, 0, none⟩) n c) (h2 : u = .slice (some ⟨g2, 0, none⟩) n2 c2) : g2 = g := by
  rw [h] at h2
  injection h2 with q1 _ _
  injection q1 with q1
  injection q1 with q1
  exact q1.symm
/-- Three nodes apart, changed one at a time. -/
structure Tri (w0 w : World) (n0 L0 R0 n L R : Nd) : Prop where
  hn : NdM w n
  hL : NdM w L
  hR : NdM w R
  a1 : Ap n L
  a2 : Ap n R
  a3 : Ap L R
  ch : Ch w0 w (fun k => n0.B k ∨ L0.B k ∨ R0.B k)
  fn : Fr w0 n0 n
  fL : Fr w0 L0 L
  fR : Fr w0 R0 R
section
variable {w0 w w1 : World} {n0 L0 R0 n L R n1 L1 R1 : Nd}
theorem Tri.refl (hn : NdM w n) (hL : NdM w L) (hR : NdM w R) (a1 : Ap n L) (a2 : Ap n R) (a3 : Ap L R) : Tri w w n L R n L R := ⟨hn, hL, hR, a1, a2, a3, Ch.refl _ _, Fr.refl _ _, Fr.refl _ _, Fr.refl _ _⟩
theorem Tri.moveN (T : Tri w0 w n0 L0 R0 n L R) (h : NdM w1 n1 ∧ Ch w w1 n.B ∧ Fr w n n1) : Tri w0 w1 n0 L0 R0 n1 L R :=
  ⟨h.1, T.hL.other T.a1.symm h.2.1, T.hR.other T.a2.symm h.2.1, (T.a1.symm.to T.hL h.2.2).symm, (T.a2.symm.to T.hR h.2.2).symm, T.a3, T.ch.trans h.2.1 (fun q e => (T.fn.new q e).imp .inl id), T.fn.trans h.2.2 T.ch.size, T.fL, T.fR⟩
theorem Tri.moveL (T : Tri w0 w n0 L0 R0 n L R) (h : NdM w1 L1 ∧ Ch w w1 L.B ∧ Fr w L L1) : Tri w0 w1 n0 L0 R0 n L1 R :=
  ⟨T.hn.other T.a1 h.2.1, h.1, T.hR.other T.a3.symm h.2.1, T.a1.to T.hn h.2.2, T.a2, (T.a3.symm.to T.hR h.2.2).symm, T.ch.trans h.2.1 (fun q e => (T.fL.new q e).imp (fun e => .inr (.inl e)) id), T.fn, T.fL.trans h.2.2 T.ch.size, T.fR⟩
theorem Tri.moveR (T : Tri w0 w n0 L0 R0 n L R) (h : NdM w1 R1 ∧ Ch w w1 R.B ∧ Fr w R R1) : Tri w0 w1 n0 L0 R0 n L R1 :=
  ⟨T.hn.other T.a2 h.2.1, T.hL.other T.a3 h.2.1, h.1, T.a1, T.a2.to T.hn h.2.2, T.a3.to T.hL h.2.2, T.ch.trans h.2.1 (fun q e => (T.fR.new q e).imp (fun e => .inr (.inr e)) id), T.fn, T.fL, T.fR.trans h.2.2 T.ch.size⟩
theorem Tri.below (T : Tri w0 w n0 L0 R0 n L R) (h : Below w.heap.size w w1) : Tri w0 w1 n0 L0 R0 n L R :=
  ⟨T.hn.below h, T.hL.below h, T.hR.below h, T.a1, T.a2, T.a3, T.ch.trans (Ch.of_below h fun _ => False) (fun _ e => e.elim), T.fn, T.fL, T.fR⟩
theorem Tri.pn (T : Tri w0 w n0 L0 R0 n L R) : n.p = n0.p := T.fn.p
theorem Tri.drew (T : Tri w0 w n0 L0 R0 n L R) : Tri w0 w.drew n0 L0 R0 n L R := T.below (below_drewI (Below.refl _ _))
end
theorem own_has {w : World} {B e size n : Nat} {v : Value} {xs : List Value} (h : w.ownsRow B e size v n xs) (hn : 0 < n) : ∃ g c, v = .slice (some ⟨g, 0, none⟩) n c := by
  rcases h.2 with ⟨_, h0⟩ | ⟨g, c, _, e, _⟩
  · omega
  · exact ⟨g, c, e⟩
theorem del_atI {w : World} {B g n c : Nat} {l : List Ix} (h : w.ownsRow B 166 4 (.slice (some ⟨g, 0, none⟩) n c) n (rowV Ix.vals l)) (hl : l.length = n) (i : Nat) (hi : i < n) {j : Nat} (hj : j = i + 1) (hn : n ≤ 1000000) :
    Calls Try.prog 118 #[.slice (some ⟨g, 0, none⟩) n c, .int .i64 (i : Int), .int .i64 (j : Int)] w fun e w' => e = .returned (.slice (some ⟨g, 0, none⟩) (n - 1) c) ∧ w'.ownsRow B 166 4 (.slice (some ⟨g, 0, none⟩) (n - 1) c) (n - 1) (rowV Ix.vals (l.eraseIdx i)) ∧ w.grownBy w' (some g) := by
  subst hj
  exact delete_anyI h hl i hi hn
theorem del_atN {w : World} {B g n c : Nat} {l : List Nat} (h : w.ownsRow B 151 1 (.slice (some ⟨g, 0, none⟩) n c) n (rowV PV l)) (hl : l.length = n) (i : Nat) (hi : i < n) {j : Nat} (hj : j = i + 1) (hn : n ≤ 1000000) :
    Calls Try.prog 136 #[.slice (some ⟨g, 0, none⟩) n c, .int .i64 (i : Int), .int .i64 (j : Int)] w fun e w' => e = .returned (.slice (some ⟨g, 0, none⟩) (n - 1) c) ∧ w'.ownsRow B 151 1 (.slice (some ⟨g, 0, none⟩) (n - 1) c) (n - 1) (rowV PV (l.eraseIdx i)) ∧ w.grownBy w' (some g) := by
  subst hj
  exact delete_anyN h hl i hi hn
end Go.Proofs.Ytejpjbmbcdgomaa

/- Two nodes made one. -/
namespace Go.Proofs.Ytejpjbmbcdgomaa
set_option maxRecDepth 100000
open Go.RowKit

set_option maxHeartbeats 4000000 in
theorem merge_any {w : World} {n0 L0 R0 : Nd} (T0 : Tri w w n0 L0 R0 n0 L0 R0) (i : Nat) {x : Ix} (hx : n0.is[i]? = some x) (hl : n0.ps[i]? = some L0.p) (hr : n0.ps[i + 1]? = some R0.p)
    (b1 : n0.is.length ≤ 100) (b2 : n0.ps.length ≤ 100) (b3 : L0.is.length ≤ 100) (b4 : L0.ps.length ≤ 100) (b5 : R0.is.length ≤ 100) (b6 : R0.ps.length ≤ 100) :
    Calls Try.prog 130 #[.pointer (some ⟨n0.p, 0, none⟩), .int .i64 (i : Int)] w fun e w' => ∃ n L, e = .returned (.tuple #[]) ∧ n.is = n0.is.eraseIdx i ∧ n.ps = n0.ps.eraseIdx (i + 1) ∧ L.is = L0.is ++ x :: R0.is ∧ L.ps = L0.ps ++ R0.ps ∧ Tri w w' n0 L0 R0 n L R0 := by
  have hi : i < n0.is.length := (List.getElem?_eq_some_iff.1 hx).1
  have hi2 : i + 1 < n0.ps.length := (List.getElem?_eq_some_iff.1 hr).1
  obtain ⟨j, hj⟩ : ∃ j, j = i + 1 := ⟨_, rfl⟩
  obtain ⟨j2, hj2⟩ : ∃ j2, j2 = j + 1 := ⟨_, rfl⟩
  rw [← hj] at hr hi2 ⊢
  have HJ := Lib.hid (And.intro hj hj2)
  have HI := Lib.hid (And.intro hi hi2)
  have HX := Lib.hid hx
  have f6 : IntKind.i64.wrap ((i : Int) + 1) = (j : Int) := by rw [IntKind.wrap_i64]; omega
  have f7 : IntKind.i64.wrap ((i : Int) + 2) = (j2 : Int) := by rw [IntKind.wrap_i64]; omega
  have HB := Lib.hid (And.intro b1 (And.intro b2 (And.intro b3 (And.intro b4 (And.intro b5 b6)))))
  have T := Lib.hid T0
  obtain ⟨gu, cu, enu, f2, hul, hn1, k0⟩ := T.out.hn.kd hl
  obtain ⟨gu2, cu2, enu2, f1, _, _, k1⟩ := T.out.hn.kd hr
  obtain rfl := same_u enu enu2
  clear enu enu2 hx hl hr hi hi2 b1 b2 b3 b4 b5 b6 hj hj2 T0
  go_enter Try.func130, Try.ntmps130
  go_upto_region 0 with fail
  go_cut [4, 5] from 6 to 20 (fun a b wx => a = .pointer (some ⟨L0.p, 0, none⟩) ∧ b = .pointer (some ⟨R0.p, 0, none⟩) ∧ Tri w wx n0 L0 R0 n0 L0 R0)
  case first => go_region_law (fail); all_goals (go_wp2_with fail; go_meet; exact ⟨rfl, rfl, T.out.drew⟩)
  case rest =>
    clear T k0 k1 hn1 f1 f2 hul
    obtain ⟨rfl, rfl, hT⟩ := hcut
    have T := Lib.hid hT
    clear hT
    have hL0 := T.out.hL.c0
    have hL1 := T.out.hL.c1
    have hLf := T.out.hL.fr
    have lL := T.out.hL.lt (.inl rfl)
    rw [T.out.fL.p] at hL0 hL1 hLf lL
    obtain ⟨gn, cn, env, f3, hnl, hn0, x0, x1, x2, x3, hnz⟩ := T.out.hn.it HX.out
    rw [T.out.fn.p] at hn0
    have g0 : ∀ o, (wc.drew.alloc o).cell? ⟨L0.p, 0, none⟩ = some L0.v := fun o => ((Below.refl _ wc).alloc (Nat.le_refl _) o).cell (p := ⟨L0.p, 0, none⟩) lL ▸ hL0
    go_upto_region 1 with fail
    go_cut [] from 21 to 36 (fun wx => ∃ X : Nd, X.is = L0.is ++ [x] ∧ (X.ps = L0.ps ∧ X.p = L0.p) ∧ Tri w wx n0 L0 R0 n0 X R0)
    case first =>
      go_region_law (first | (refine step_append_rowg elemIx (by simp [Region.wanted]) (.tmp 25) (.tmp 33) rfl 0 L0.v L0.is.length (rowV Ix.vals L0.is) (by simp [Act.eval]) (T.out.hL.below ((Below.refl _ wc).alloc (Nat.le_refl _) _)).own (some ⟨wc.heap.size, 0, none⟩) 1 1 (x.vals) (by simp [Act.eval]) (rdv_freshI wc.drew x 166) (ix1 x) (fun h => by cases h) (by have := HB.out.2.2.1; unfold maxLen; omega) (by have := HB.out.2.2.1; omega) (Nat.zero_le _) ?_; intro v' w' ho hg hq; obtain ⟨A9, c9, rfl⟩ := own_form ho; obtain ⟨k8, k9⟩ := T.out.hL.after0 (grown_drew (grown_alloc hg)); rw [T.out.fL.p] at k8 k9; have HO := Lib.hid ho; have HG := Lib.hid (grown_drew (grown_alloc hg)); have HQ := Lib.hid hq; clear ho hg hq))
      all_goals (go_wp2_with fail; go_meet; exact ⟨L0.put0 _ (L0.is ++ [x]), rfl, ⟨rfl, rfl⟩, T.out.moveL (T.out.hL.put0 T.out.fL.p (m := L0.is.length + 1) (is := L0.is ++ [x]) (by simp) (by rw [rowV_append]; simpa [rowV] using HO.out) HG.out (fun q e => (HQ.out q e).imp id fun e => by simp at e; omega))⟩)
    case rest =>
      clear T hL0 hL1 hLf lL hn0 x0 x1 x2 x3 hnz hnl f3 g0 env
      obtain ⟨L1, qL11, ⟨qL12, qL13⟩, hT⟩ := hcut
      have T := Lib.hid hT
      clear hT
      have B3 := Lib.hid (show L1.is.length ≤ 101 by rw [qL11]; have := HB.out.2.2.1; simp; omega)
      have Q1 := Lib.hid (And.intro qL11 (And.intro qL12 qL13))
      clear qL11 qL12 qL13
      have hL0 := T.out.hL.c0
      have hL1 := T.out.hL.c1
      have hLf := T.out.hL.fr
      have lL := T.out.hL.lt (.inl rfl)
      rw [T.out.fL.p] at hL0 hL1 hLf lL
      have hR0 := T.out.hR.c0
      have hR1 := T.out.hR.c1
      have hRf := T.out.hR.fr
      have lR := T.out.hR.lt (.inl rfl)
      rw [T.out.fR.p] at hR0 hR1 hRf lR
      obtain ⟨A8, c8, e8, hr8, hn8, _⟩ := rdv_own T.out.hR.own
      rw [e8] at hR0
      have HR8 := Lib.hid (And.intro hr8 hn8)
      clear hr8 hn8 e8
      go_upto_region 2 with fail
      go_cut [] from 37 to 48 (fun wx => ∃ X : Nd, X.is = L1.is ++ R0.is ∧ (X.ps = L1.ps ∧ X.p = L1.p) ∧ Tri w wx n0 L0 R0 n0 X R0)
      case first =>
        go_region_law (first | (refine step_append_rowg elemIx (by simp [Region.wanted]) (.tmp 41) (.tmp 45) rfl 0 L1.v L1.is.length (rowV Ix.vals L1.is) (by simp [Act.eval]) T.out.hL.own A8 R0.is.length c8 (rowV Ix.vals R0.is) (by simp [Act.eval]) HR8.out.1 (ix_one _) HR8.out.2 (by have := And.intro B3.out HB.out.2.2.2.2.1; unfold maxLen; omega) (by have := And.intro B3.out HB.out.2.2.2.2.1; omega) (Nat.zero_le _) ?_; intro v' w' ho hg hq; obtain ⟨A9, c9, rfl⟩ := own_form ho; obtain ⟨k8, k9⟩ := T.out.hL.after0 (grown_drew hg); rw [T.out.fL.p] at k8 k9; have HO := Lib.hid ho; have HG := Lib.hid (grown_drew hg); have HQ := Lib.hid hq; clear ho hg hq))
        all_goals (go_wp2_with fail; go_meet; exact ⟨L1.put0 _ (L1.is ++ R0.is), rfl, ⟨rfl, rfl⟩, T.out.moveL (T.out.hL.put0 T.out.fL.p (m := L1.is.length + R0.is.length) (is := L1.is ++ R0.is) (by simp) (by rw [rowV_append]; exact HO.out) HG.out (fun q e => HQ.out q e))⟩)
      case rest =>
        clear T hL0 hL1 hLf lL hR0 hR1 hRf lR
        obtain ⟨L2, qL21, ⟨qL22, qL23⟩, hT⟩ := hcut
        have T := Lib.hid hT
        clear hT
        have Q2 := Lib.hid (And.intro qL21 (And.intro qL22 qL23))
        clear qL21 qL22 qL23
        have B4 := Lib.hid (show L2.ps.length ≤ 100 by rw [Q2.out.2.1, Q1.out.2.1]; exact HB.out.2.2.2.1)
        have hL0 := T.out.hL.c0
        have hL1 := T.out.hL.c1
        have hLf := T.out.hL.fr
        have lL := T.out.hL.lt (.inl rfl)
        rw [T.out.fL.p] at hL0 hL1 hLf lL
        have hR0 := T.out.hR.c0
        have hR1 := T.out.hR.c1
        have hRf := T.out.hR.fr
        have lR := T.out.hR.lt (.inl rfl)
        rw [T.out.fR.p] at hR0 hR1 hRf lR
        obtain ⟨A8, c8, e8, hr8, hn8, _⟩ := rdv_own T.out.hR.kids
        rw [e8] at hR1
        have HR8 := Lib.hid (And.intro hr8 hn8)
        clear hr8 hn8 e8
        go_upto_region 3 with fail
        go_cut [] from 49 to 60 (fun wx => ∃ X : Nd, X.ps = L2.ps ++ R0.ps ∧ (X.is = L2.is ∧ X.p = L2.p) ∧ Tri w wx n0 L0 R0 n0 X R0)
        case first =>
          go_region_law (first | (refine step_append_rowg elemPt (by simp [Region.wanted]) (.tmp 53) (.tmp 57) rfl 0 L2.u L2.ps.length (rowV PV L2.ps) (by simp [Act.eval]) T.out.hL.kids A8 R0.ps.length c8 (rowV PV R0.ps) (by simp [Act.eval]) HR8.out.1 (pt_one _) HR8.out.2 (by have := And.intro B4.out HB.out.2.2.2.2.2; unfold maxLen; omega) (by have := And.intro B4.out HB.out.2.2.2.2.2; omega) (Nat.zero_le _) ?_; intro v' w' ho hg hq; obtain ⟨A9, c9, rfl⟩ := own_form ho; obtain ⟨k8, k9⟩ := T.out.hL.after1 (grown_drew hg); rw [T.out.fL.p] at k8 k9; have HO := Lib.hid ho; have HG := Lib.hid (grown_drew hg); have HQ := Lib.hid hq; clear ho hg hq))
          all_goals (go_wp2_with fail; go_meet; exact ⟨L2.put1 _ (L2.ps ++ R0.ps), rfl, ⟨rfl, rfl⟩, T.out.moveL (T.out.hL.put1 T.out.fL.p (m := L2.ps.length + R0.ps.length) (ps := L2.ps ++ R0.ps) (by simp) (by rw [rowV_append]; exact HO.out) HG.out (fun q e => HQ.out q e))⟩)
        case rest =>
          clear T hL0 hL1 hLf lL hR0 hR1 hRf lR
          obtain ⟨L3, qL31, ⟨qL32, qL33⟩, hT⟩ := hcut
          have T := Lib.hid hT
          clear hT
          have Q3 := Lib.hid (And.intro qL31 (And.intro qL32 qL33))
          clear qL31 qL32 qL33
          have hn0 := T.out.hn.c0
          have hn1 := T.out.hn.c1
          have hnf := T.out.hn.fr
          have ln := T.out.hn.lt (.inl rfl)
          rw [T.out.fn.p] at hn0 hn1 hnf ln
          obtain ⟨g7, c7, e7⟩ := own_has T.out.hn.own (by have := HI.out.1; omega)
          rw [e7] at hn0
          have ho7 := T.out.hn.own
          rw [e7] at ho7
          have HD := Lib.hid (del_atI ho7 rfl (i) HI.out.1 HJ.out.1 (by have := HB.out.1; omega))
          have HE7 := Lib.hid e7
          clear ho7 e7
          go_upto_region 4 with fail
          go_cut [] from 61 to 71 (fun wx => ∃ X : Nd, X.is = n0.is.eraseIdx (i) ∧ (X.ps = n0.ps ∧ X.p = n0.p) ∧ Tri w wx n0 L0 R0 X L3 R0)
          case first =>
            go_wp2_with fail
            refine Calls.mono HD.out ?_
            rintro e w' ⟨rfl, ho, hg⟩
            have hg : wc.grownBy w' n0.v.ownBlock := by rw [HE7.out]; exact hg
            obtain ⟨k8, k9⟩ := T.out.hn.after0 hg
            rw [T.out.fn.p] at k8 k9
            have HO := Lib.hid ho
            have HG := Lib.hid hg
            clear ho hg
            go_wp2_with fail
            go_meet
            exact ⟨n0.put0 _ (n0.is.eraseIdx i), rfl, ⟨rfl, rfl⟩, T.out.moveN (T.out.hn.put0 T.out.fn.p (List.length_eraseIdx_of_lt HI.out.1) HO.out HG.out (fun q e => .inl (by rw [HE7.out]; exact e)))⟩
          case rest =>
            clear T hn0 hn1 hnf ln
            obtain ⟨n1, qn11, ⟨qn12, qn13⟩, hT⟩ := hcut
            have T := Lib.hid hT
            clear hT
            have Q4 := Lib.hid (And.intro qn11 (And.intro qn12 qn13))
            clear qn11 qn12 qn13
            have HI2 := Lib.hid (show j < n1.ps.length by rw [Q4.out.2.1]; exact HI.out.2)
            have B2 := Lib.hid (show n1.ps.length ≤ 100 by rw [Q4.out.2.1]; exact HB.out.2.1)
            have hn0 := T.out.hn.c0
            have hn1 := T.out.hn.c1
            have hnf := T.out.hn.fr
            have ln := T.out.hn.lt (.inl rfl)
            rw [T.out.fn.p] at hn0 hn1 hnf ln
            obtain ⟨g7, c7, e7⟩ := own_has T.out.hn.kids (by have := HI2.out; omega)
            rw [e7] at hn1
            have ho7 := T.out.hn.kids
            rw [e7] at ho7
            have HD := Lib.hid (del_atN ho7 rfl (j) HI2.out HJ.out.2 (by have := B2.out; omega))
            have HE7 := Lib.hid e7
            clear ho7 e7
            go_upto_region 5 with fail
            go_wp2_with fail
            refine Calls.mono HD.out ?_
            rintro e w' ⟨rfl, ho, hg⟩
            have hg : wc.grownBy w' n1.u.ownBlock := by rw [HE7.out]; exact hg
            obtain ⟨k8, k9⟩ := T.out.hn.after1 hg
            rw [T.out.fn.p] at k8 k9
            have HO := Lib.hid ho
            have HG := Lib.hid hg
            clear ho hg
            go_wp2_with fail
            refine bodyPost_end (v := .tuple #[]) (by simp [results, Try.results130, go_sem]) rfl ⟨n1.put1 _ (n1.ps.eraseIdx j), L3, rfl, ?_, ?_, ?_, ?_, T.out.moveN (T.out.hn.put1 T.out.fn.p (List.length_eraseIdx_of_lt HI2.out) HO.out HG.out (fun q e => .inl (by rw [HE7.out]; exact e)))⟩
            · show n1.is = _
              rw [Q4.out.1]
            · show n1.ps.eraseIdx j = _
              rw [Q4.out.2.1]
            · rw [Q3.out.2.1, Q2.out.1, Q1.out.1]; simp
            · rw [Q3.out.1, Q2.out.2.1, Q1.out.2.1]
end Go.Proofs.Ytejpjbmbcdgomaa
