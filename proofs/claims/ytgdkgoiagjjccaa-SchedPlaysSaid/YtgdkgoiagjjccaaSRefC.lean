/- The document's plan copied. -/
import Derived.Test.YtgdkgoiagjjccaaSRefM
import Derived.Test.YtgdkgoiagjjccaaReg
import Derived.Test.YtgdkgoiagjjccaaRowW
import Derived.Deep.CutRange
namespace Go.Proofs.Ytgdkgoiagjjccaa
set_option maxRecDepth 100000
open Go.RowKit

/-- A row that was made anew. -/
def Row (w w' : World) (v : Value) (n : Nat) (ys : List Value) : Prop :=
  ∃ A c, v = .slice A n c ∧ Rdv w' A n 1 ys ∧ (0 < n → ∃ g, A = some ⟨g, 0, none⟩ ∧ w.heap.size ≤ g ∧ g < w'.heap.size ∧ ∀ o, w'.frozen? ⟨g, o, none⟩ = false)
theorem run_append_fresh {P : Program} {t e : TypeId} {bytes : Nat} (E : ElemT P t e 1 bytes) (w : World) (ty : TypeId) (p : Addr)
    (A : Option Addr) (m c : Nat) (ys : List Value) (hr : Rdv w A m 1 ys) (hnil : A = none → c = 0) (hmx : m ≤ maxLen) (hby : m * bytes ≤ 140737488355328) :
    ∃ v w', (Builtin.append_ #[t, t] ty #[.slice (some p) 0 0, .slice A m c]).run P w = .ok v w' ∧ Row w w' v m ys ∧ Below w.heap.size w w' ∧ ∃ ad c', v = .slice (some ad) m c' := by
  obtain ⟨ht, hinfo, ⟨i, z, hi, hz, hzs⟩, hpos⟩ := E
  rw [hi] at hinfo
  simp at hinfo
  obtain ⟨hl, hc⟩ := hr
  by_cases hm : m = 0
  · subst hm
    have hy : ys = [] := List.eq_nil_of_length_eq_zero (by simp [hl])
    subst hy
    refine ⟨.slice (some p) 0 0, w, ?_, ⟨some p, 0, rfl, ⟨by simp, fun h => absurd h (by omega)⟩, fun h => absurd h (by omega)⟩, Below.refl _ _, _, _, rfl⟩
    rcases A with _ | ad
    · simp [Builtin.append_, run_underlying ht, sizeOf, typeInfo, hi, Builtin.lenOf, Builtin.firstCells, loadCells, loadCellsFrom, storeCells, hnil rfl]
    · simp [Builtin.append_, run_underlying ht, sizeOf, typeInfo, hi, Builtin.lenOf, Builtin.firstCells, loadCells, loadCellsFrom, storeCells]
  · obtain ⟨b, off, rfl, h5⟩ := hc (by omega)
    have hnews : ∀ j u, ys[j]? = some u → w.cell? ((⟨b, off, none⟩ : Addr).add j) = some u := fun j u hj => by rw [addr_plus]; exact h5 j u hj
    have hrun := run_append_grow (P := P) w t ty e i z ht hi hz p 0 0 [] (by simp) (fun j u hj => by simp at hj) ⟨b, off, none⟩ m c ys (by rw [hl, hinfo.1]) hnews (by omega) (by unfold maxLen at hmx; omega) (growslice_fits (by unfold maxLen at hmx; omega) (by rw [hinfo.2, Nat.zero_add]; exact hby))
    rw [Nat.zero_add] at hrun
    have hg : (w.drew.alloc (.cells (#[] ++ ys.toArray ++ Builtin.zeroCells z.cells (grownCap w m 0 e - m)) e)).heap[w.heap.size]? = some (.cells (#[] ++ ys.toArray ++ Builtin.zeroCells z.cells (grownCap w m 0 e - m)) e (0, 0)) := heap_alloc_new w.drew _
    refine ⟨_, _, hrun, ⟨_, _, rfl, ⟨hl, fun _ => ⟨_, _, rfl, fun j u hj => ?_⟩⟩, fun _ => ⟨_, rfl, Nat.le_refl _, (Array.getElem?_eq_some_iff.1 hg).1, fun o => frozen_of_row _ _ _ _ _ hg⟩⟩, ((Below.refl _ w).drew).alloc (Nat.le_refl _) _, _, _, rfl⟩
    rw [Nat.zero_add, cell_of_row _ _ j _ e (0, 0) hg]
    have hlt : j < ys.length := by
      rcases Nat.lt_or_ge j ys.length with h' | h'
      · exact h'
      · rw [List.getElem?_eq_none h'] at hj; cases hj
    have e1 : #[] ++ ys.toArray = ys.toArray := by simp
    rw [e1, Array.getElem?_append_left (by simpa using hlt)]
    simpa using hj
theorem does_append_fresh {P : Program} {t e : TypeId} {bytes : Nat} (E : ElemT P t e 1 bytes) {ops : Array Oper} {Q : Exit → Act → World → Prop} {o : Oper} {a : Act} {w : World} (hgd : o.guard = none) (s x : Operand)
    (ho : o.op = .call { callee := .builtin .append, args := #[s, x], argTypes := #[t, t] }) (p : Addr) (hs : a.eval s = .slice (some p) 0 0)
    (A : Option Addr) (m c : Nat) (ys : List Value) (hx : a.eval x = .slice A m c) (hr : Rdv w A m 1 ys) (hnil : A = none → c = 0) (hmx : m ≤ maxLen) (hby : m * bytes ≤ 140737488355328) {F : Fact} {d : List Past}
    (hF : ∀ v w', Row w w' v m ys → F d v w w') : Does P ops Q o F w d a := by
  intro K hK
  rw [if_pos (by simp [Region.wanted, hgd])]
  obtain ⟨v, w', hrun, h2, h3, _⟩ := run_append_fresh E w o.type p A m c ys hr hnil hmx hby
  have h6 := hK v w' (hF _ _ h2) h3
  unfold Oper.wp
  simp [execOp, ho, resolve, invoke, builtin, hs, hx, hrun, Result.andThen]
  exact h6
theorem elem67 : ElemT Try.prog 67 4 1 1 :=
  ⟨Try.underlying67, by kernel_rfl, by
    obtain ⟨i, hi, hz, h1, _⟩ := info_parts (show (Try.prog.info? 4).map (fun i => (i.zero, i.size, i.bytes)) = some (some (.bool false), 1, 1) by kernel_rfl)
    exact ⟨i, _, hi, hz, rfl⟩, by decide⟩
def valsB (xs : List Bool) : List Value := xs.map Value.bool
theorem rdv_bls {w : World} {A : Option Addr} {n : Nat} {bs : List Bool} (h : Bls w A n bs) : Rdv w A n 1 (valsB bs) := by
  refine ⟨by simp [valsB, h.1], fun hn => ?_⟩
  obtain ⟨b, off, e, hc⟩ := h.2.2 hn
  refine ⟨b, off, e, fun j u hj => ?_⟩
  have hl : j < bs.length := by
    rcases Nat.lt_or_ge j bs.length with h' | h'
    · exact h'
    · rw [List.getElem?_eq_none (by simp [valsB]; exact h')] at hj; cases hj
  rw [hc j (by rw [← h.1]; exact hl)]
  simp [valsB, hl] at hj
  rw [← hj]
  simp [List.getD_eq_getElem?_getD, hl]
theorem bls_rdv {w : World} {A : Option Addr} {n : Nat} {bs : List Bool} (h : Rdv w A n 1 (valsB bs)) (hn : n ≤ 9223372036854775807) : Bls w A n bs := by
  have hl : bs.length = n := by have := h.1; simpa [valsB] using this
  refine ⟨hl, hn, fun hn => ?_⟩
  obtain ⟨b, off, e, hc⟩ := h.2 hn
  refine ⟨b, off, e, fun j hj => hc j _ ?_⟩
  simp [valsB, List.getD_eq_getElem?_getD, show j < bs.length by omega]


/-- A plan that was copied; beside it the results' blocks. -/
structure Cpy (w : World) (B : Nat) (W : World) (g b2 b3 b4 : Nat) (A : Option Addr) (n c c2 m c3 c4 : Nat) (p : Int) (en : List Bool) (ha : List Int) (ra : List Bool) : Prop where
  below : Below w.heap.size w W
  low : w.heap.size + 3 ≤ B ∧ B ≤ g ∧ B ≤ b2 ∧ B ≤ b3 ∧ B ≤ b4
  hi : g < W.heap.size ∧ b2 < W.heap.size ∧ b3 < W.heap.size ∧ b4 < W.heap.size
  ne : g ≠ b2 ∧ g ≠ b3 ∧ g ≠ b4 ∧ b2 ≠ b3 ∧ b2 ≠ b4 ∧ b3 ≠ b4
  box : W.heap[g]? = some (.cells #[.slice A n c, .slice (some ⟨b2, 0, none⟩) n c2, .slice (some ⟨b3, 0, none⟩) m c3, .slice (some ⟨b4, 0, none⟩) m c4, .int .i64 p] 74 (0, 0))
  len : en.length = n ∧ ha.length = m ∧ ra.length = m
  en : ∀ j, j < n → W.cell? ⟨b2, j, none⟩ = some (.bool (en.getD j false))
  ha : ∀ j, j < m → W.cell? ⟨b3, j, none⟩ = some (.int .i64 (ha.getD j 0))
  ra : ∀ j, j < m → W.cell? ⟨b4, j, none⟩ = some (.bool (ra.getD j false))
  fr : (∀ o, W.frozen? ⟨b2, o, none⟩ = false) ∧ (∀ o, W.frozen? ⟨b3, o, none⟩ = false) ∧ ∀ o, W.frozen? ⟨b4, o, none⟩ = false
  r4 : W.heap[w.heap.size + 1]? = some (.cells #[.slice none 0 0, .slice none 0 0, .slice none 0 0, .slice none 0 0, .int .i64 0] 74 (0, 0))
  r5 : W.heap[w.heap.size + 1 + 1]? = some (.cells #[.int .i64 0, .int .i64 0, .int .i64 0] 81 (0, 0))
section
variable {w W : World} {B g b2 b3 b4 n c c2 m c3 c4 : Nat} {A : Option Addr} {p : Int} {en : List Bool} {ha : List Int} {ra : List Bool}
theorem Cpy.ext {W' : World} (h : Cpy w B W g b2 b3 b4 A n c c2 m c3 c4 p en ha ra) (hb : Below W.heap.size W W') : Cpy w B W' g b2 b3 b4 A n c c2 m c3 c4 p en ha ra := by
  obtain ⟨h1, h2, h3, h4⟩ := h.hi
  obtain ⟨p1, p2⟩ := cell_frozen (hb.block b2 h2)
  obtain ⟨t1, t2⟩ := cell_frozen (hb.block b3 h3)
  obtain ⟨u1, u2⟩ := cell_frozen (hb.block b4 h4)
  have hz := hb.size
  refine ⟨h.below.trans (hb.mono h.below.size), h.low, ⟨by omega, by omega, by omega, by omega⟩, h.ne, (hb.block g h1).trans h.box, h.len, fun j hj => (p1 j).trans (h.en j hj), fun j hj => (t1 j).trans (h.ha j hj), fun j hj => (u1 j).trans (h.ra j hj), ⟨fun o => (p2 o).trans (h.fr.1 o), fun o => (t2 o).trans (h.fr.2.1 o), fun o => (u2 o).trans (h.fr.2.2 o)⟩, (hb.block _ (Array.getElem?_eq_some_iff.1 h.r4).1).trans h.r4, (hb.block _ (Array.getElem?_eq_some_iff.1 h.r5).1).trans h.r5⟩
theorem getD_set {α : Type} (l : List α) (i j : Nat) (v d : α) (hi : i < l.length) : (l.set i v).getD j d = if j = i then v else l.getD j d := by
  simp only [List.getD_eq_getElem?_getD, List.getElem?_set]
  by_cases e : i = j
  · subst e; simp [hi]
  · have e2 : ¬ j = i := fun h => e h.symm
    simp [e, e2]
theorem Cpy.setEn (h : Cpy w B W g b2 b3 b4 A n c c2 m c3 c4 p en ha ra) (i : Nat) (hi : i < n) (v : Bool) : Cpy w B (W.setCell ⟨b2, i, none⟩ (.bool v)) g b2 b3 b4 A n c c2 m c3 c4 p (en.set i v) ha ra := by
  obtain ⟨l0, l1, l2, l3, l4⟩ := h.low
  obtain ⟨n1, n2, n3, n4, n5, n6⟩ := h.ne
  refine ⟨h.below.setCell (p := ⟨b2, i, none⟩) (by show w.heap.size ≤ b2; omega) _, h.low, by simp only [World.size_setCell]; exact h.hi, h.ne, (Below.heap_setCell _ _ _ _ (by show g ≠ b2; omega)).trans h.box, by rw [List.length_set]; exact h.len, fun j hj => ?_, fun j hj => by rw [set_blk n4]; exact h.ha j hj, fun j hj => by rw [set_blk n5]; exact h.ra j hj,
    ⟨fun o => by rw [World.frozen?_setCell]; exact h.fr.1 o, fun o => by rw [World.frozen?_setCell]; exact h.fr.2.1 o, fun o => by rw [World.frozen?_setCell]; exact h.fr.2.2 o⟩, (Below.heap_setCell _ _ _ _ (by show w.heap.size + 1 ≠ b2; omega)).trans h.r4, (Below.heap_setCell _ _ _ _ (by show w.heap.size + 1 + 1 ≠ b2; omega)).trans h.r5⟩
  rw [getD_set _ _ _ _ _ (by rw [h.len.1]; exact hi)]
  by_cases e : j = i
  · subst e; rw [if_pos rfl]; exact set_same (h.en j hj)
  · rw [if_neg e, set_off e]; exact h.en j hj
theorem Cpy.setHa (h : Cpy w B W g b2 b3 b4 A n c c2 m c3 c4 p en ha ra) (i : Nat) (hi : i < m) (v : Int) : Cpy w B (W.setCell ⟨b3, i, none⟩ (.int .i64 v)) g b2 b3 b4 A n c c2 m c3 c4 p en (ha.set i v) ra := by
  obtain ⟨l0, l1, l2, l3, l4⟩ := h.low
  obtain ⟨n1, n2, n3, n4, n5, n6⟩ := h.ne
  refine ⟨h.below.setCell (p := ⟨b3, i, none⟩) (by show w.heap.size ≤ b3; omega) _, h.low, by simp only [World.size_setCell]; exact h.hi, h.ne, (Below.heap_setCell _ _ _ _ (by show g ≠ b3; omega)).trans h.box, by rw [List.length_set]; exact h.len, fun j hj => by rw [set_blk n4.symm]; exact h.en j hj, fun j hj => ?_, fun j hj => by rw [set_blk n6]; exact h.ra j hj,
    ⟨fun o => by rw [World.frozen?_setCell]; exact h.fr.1 o, fun o => by rw [World.frozen?_setCell]; exact h.fr.2.1 o, fun o => by rw [World.frozen?_setCell]; exact h.fr.2.2 o⟩, (Below.heap_setCell _ _ _ _ (by show w.heap.size + 1 ≠ b3; omega)).trans h.r4, (Below.heap_setCell _ _ _ _ (by show w.heap.size + 1 + 1 ≠ b3; omega)).trans h.r5⟩
  rw [getD_set _ _ _ _ _ (by rw [h.len.2.1]; exact hi)]
  by_cases e : j = i
  · subst e; rw [if_pos rfl]; exact set_same (h.ha j hj)
  · rw [if_neg e, set_off e]; exact h.ha j hj
theorem Cpy.setRa (h : Cpy w B W g b2 b3 b4 A n c c2 m c3 c4 p en ha ra) (i : Nat) (hi : i < m) (v : Bool) : Cpy w B (W.setCell ⟨b4, i, none⟩ (.bool v)) g b2 b3 b4 A n c c2 m c3 c4 p en ha (ra.set i v) := by
  obtain ⟨l0, l1, l2, l3, l4⟩ := h.low
  obtain ⟨n1, n2, n3, n4, n5, n6⟩ := h.ne
  refine ⟨h.below.setCell (p := ⟨b4, i, none⟩) (by show w.heap.size ≤ b4; omega) _, h.low, by simp only [World.size_setCell]; exact h.hi, h.ne, (Below.heap_setCell _ _ _ _ (by show g ≠ b4; omega)).trans h.box, by rw [List.length_set]; exact h.len, fun j hj => by rw [set_blk n5.symm]; exact h.en j hj, fun j hj => by rw [set_blk n6.symm]; exact h.ha j hj, fun j hj => ?_,
    ⟨fun o => by rw [World.frozen?_setCell]; exact h.fr.1 o, fun o => by rw [World.frozen?_setCell]; exact h.fr.2.1 o, fun o => by rw [World.frozen?_setCell]; exact h.fr.2.2 o⟩, (Below.heap_setCell _ _ _ _ (by show w.heap.size + 1 ≠ b4; omega)).trans h.r4, (Below.heap_setCell _ _ _ _ (by show w.heap.size + 1 + 1 ≠ b4; omega)).trans h.r5⟩
  rw [getD_set _ _ _ _ _ (by rw [h.len.2.2]; exact hi)]
  by_cases e : j = i
  · subst e; rw [if_pos rfl]; exact set_same (h.ra j hj)
  · rw [if_neg e, set_off e]; exact h.ra j hj
theorem Cpy.refR (h : Cpy w B W g b2 b3 b4 A n c c2 m c3 c4 p en ha ra) {ls : List (List Int)} {s : PS} (hl : Rws W A n ls) (hn : s.n = n) (hm : s.m = m) (he : enL s = en) (hh : haL s = ha) (hr : raL s = ra) (hf : ∀ x ∈ ha, Fits x) (h1 : n ≤ 9223372036854775807) (h2 : m ≤ 9223372036854775807) :
    RefR W A (some ⟨b2, 0, none⟩) (some ⟨b3, 0, none⟩) (some ⟨b4, 0, none⟩) ls s := by
  subst hn hm he hh hr
  refine ⟨hl, ⟨h.len.1, h1, fun _ => ⟨_, _, rfl, fun j hj => by rw [Nat.zero_add]; exact h.en j hj⟩⟩, ⟨h.len.2.1, hf, fun _ => ⟨_, _, rfl, fun j hj => by rw [Nat.zero_add]; exact h.ha j hj⟩⟩, ⟨h.len.2.2, h2, fun _ => ⟨_, _, rfl, fun j hj => by rw [Nat.zero_add]; exact h.ra j hj⟩⟩⟩
theorem q_set {W : World} {g : Nat} {x0 x1 x2 x3 x4 a b c d e : Value} (h : W.heap[g]? = some (.cells #[x0, x1, x2, x3, x4] 74 (0, 0))) :
    (((((W.setCell ⟨g, 0, none⟩ a).setCell ⟨g, 1, none⟩ b).setCell ⟨g, 2, none⟩ c).setCell ⟨g, 3, none⟩ d).setCell ⟨g, 4, none⟩ e).heap[g]? = some (.cells #[a, b, c, d, e] 74 (0, 0)) :=
  Go.heap_setCell_same _ g 4 _ 74 e (Go.heap_setCell_same _ g 3 _ 74 d (Go.heap_setCell_same _ g 2 _ 74 c (Go.heap_setCell_same _ g 1 _ 74 b (Go.heap_setCell_same _ g 0 _ 74 a h))))
theorem e_set {W : World} {g : Nat} {x y z a b c : Value} (h : W.heap[g]? = some (.cells #[x, y, z] 81 (0, 0))) :
    (((W.setCell ⟨g, 0, none⟩ a).setCell ⟨g, 1, none⟩ b).setCell ⟨g, 2, none⟩ c).heap[g]? = some (.cells #[a, b, c] 81 (0, 0)) :=
  Go.heap_setCell_same _ g 2 _ 81 c (Go.heap_setCell_same _ g 1 _ 81 b (Go.heap_setCell_same _ g 0 _ 81 a h))
end
end Go.Proofs.Ytgdkgoiagjjccaa
