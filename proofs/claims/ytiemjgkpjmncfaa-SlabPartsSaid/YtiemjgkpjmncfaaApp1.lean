/- A byte is appended to a slice of one's own: where it comes to lie. -/
import Derived.Test.YtiemjgkpjmncfaaBase
import Derived.OwnWalk
namespace Go.Proofs.Ytiemjgkpjmncfaa
set_option maxRecDepth 100000
open Go.RowKit

/-- A slice of one's own, from a block's beginning on. -/
def Ow (w : World) (B g n c : Nat) (xs : List Nat) : Prop := w.ownsRow B 5 1 (.slice (some ⟨g, 0, none⟩) n c) n (valsB xs)
theorem Ow.len {w : World} {B g n c : Nat} {xs : List Nat} (h : Ow w B g n c xs) : xs.length = n := by
  have := h.1
  rw [valsB_length] at this
  omega
theorem Ow.parts {w : World} {B g n c : Nat} {xs : List Nat} (h : Ow w B g n c xs) : B ≤ g ∧ n ≤ c ∧ ∃ cur, w.heap[g]? = some (.cells cur 5 (0, 0)) := by
  rcases h.2 with ⟨h, _⟩ | ⟨g', cap, cur, h, h1, h2, h3, _⟩
  · cases h
  · injection h with h4 _ h6
    injection h4 with h4
    injection h4 with h4
    subst h4 h6
    exact ⟨h1, h3, cur, h2⟩
theorem Ow.rdv {w : World} {B g n c : Nat} {xs : List Nat} (h : Ow w B g n c xs) : Rdv w (some ⟨g, 0, none⟩) n 1 (valsB xs) := by
  refine ⟨h.1, fun _ => ⟨g, 0, rfl, fun j u hj => ?_⟩⟩
  have hc := h.cells (g := g) rfl j u hj
  rw [addr_plus] at hc
  exact hc
theorem Ow.cell {w : World} {B g n c : Nat} {xs : List Nat} (h : Ow w B g n c xs) (j : Nat) (hj : j < n) : w.cell? ⟨g, j, none⟩ = some (.int .u8 ((xs.getD j 0 : Nat) : Int)) := by
  have hl := h.len
  have hc := h.cells (g := g) rfl j (.int .u8 ((xs.getD j 0 : Nat) : Int)) (by
    rw [valsB_get, List.getD_eq_getElem?_getD, List.getElem?_eq_getElem (by omega)]; rfl)
  rw [addr_plus, Nat.zero_add] at hc
  exact hc
theorem Ow.frozen {w : World} {B g n c : Nat} {xs : List Nat} (h : Ow w B g n c xs) (j : Nat) : w.frozen? ⟨g, j, none⟩ = false := by
  obtain ⟨_, _, cur, hb⟩ := h.parts
  simp [World.frozen?, hb]
theorem Ow.stays {w w' : World} {B g n c : Nat} {xs : List Nat} (h : Ow w B g n c xs) (hb : w'.heap[g]? = w.heap[g]?) : Ow w' B g n c xs := by
  refine ⟨h.1, ?_⟩
  rcases h.2 with h0 | ⟨g', cap, cur, e, h1, h2, h3⟩
  · exact .inl h0
  · have hg : g' = g := by
      injection e with e
      injection e with e
      injection e with e
      exact e.symm
    subst hg
    exact .inr ⟨g', cap, cur, e, h1, hb.trans h2, h3⟩
theorem Ow.lt {w : World} {B g n c : Nat} {xs : List Nat} (h : Ow w B g n c xs) : g < w.heap.size := by
  obtain ⟨_, _, cur, hb⟩ := h.parts
  exact (Array.getElem?_eq_some_iff.1 hb).1
theorem Ow.set {w : World} {B g n c : Nat} {xs : List Nat} (h : Ow w B g n c xs) (j y : Nat) : Ow (w.setCell ⟨g, j, none⟩ (.int .u8 (y : Int))) B g n c (xs.set j y) := by
  have h1 := (World.ownsRow.stored h j (.int .u8 (y : Int))).1
  have e3 : valsB (xs.set j y) = (valsB xs).set j (.int .u8 (y : Int)) := by simp [valsB, List.map_set]
  unfold Ow
  rw [e3]
  exact h1
/-- What an append of a byte comes to. -/
def App (w w' : World) (B g n c : Nat) (xs : List Nat) (y : Nat) (g' c' : Nat) : Prop := Ow w' B g' (n + 1) c' (xs ++ [y]) ∧ ((g' = g ∧ c' = c ∧ w.grownBy w' (some g)) ∨ (g' = w.heap.size ∧ Below w.heap.size w w'))
theorem run_append_one {w : World} {B g n c : Nat} {xs : List Nat} (h : Ow w B g n c xs) (ty : TypeId) (q y c2 : Nat) (hq : Rdv w (some ⟨q, 0, none⟩) 1 1 (valsB [y])) (hn : n ≤ 1000000) (hB : B ≤ w.heap.size) :
    ∃ g' c' w', (Builtin.append_ #[45, 45] ty #[.slice (some ⟨g, 0, none⟩) n c, .slice (some ⟨q, 0, none⟩) 1 c2]).run Try.prog w = .ok (.slice (some ⟨g', 0, none⟩) (n + 1) c') w' ∧ App w w' B g n c xs y g' c' := by
  obtain ⟨ht, hinfo, ⟨i, z, hi, hz, hzs⟩, hpos⟩ := elemB
  rw [hi] at hinfo
  simp at hinfo
  have hl := h.len
  obtain ⟨b, off, e, hc⟩ := hq.2 (by omega)
  injection e with e
  injection e with e1 e2
  subst e1 e2
  have hnews : ∀ j u, (valsB [y])[j]? = some u → w.cell? ((⟨q, 0, none⟩ : Addr).add j) = some u := fun j u hj => by rw [addr_plus]; exact hc j u hj
  by_cases hroom : n + 1 ≤ c
  · obtain ⟨w', hrun, h1, h2⟩ := run_append_fits (P := Try.prog) w B 45 ty 5 i 1 ht hi hinfo.1 g n c (valsB xs) h ⟨q, 0, none⟩ 1 c2 (valsB [y]) rfl hnews (valsB_one _) hroom
    refine ⟨g, c, w', hrun, ?_, .inl ⟨rfl, rfl, h2⟩⟩
    unfold Ow
    rw [valsB_append]
    exact h1
  · have hnc := h.parts.2.1
    have hol : ∀ j v, (valsB xs)[j]? = some v → w.cell? ((⟨g, 0, none⟩ : Addr).add j) = some v := fun j v hj => h.cells (g := g) rfl j v hj
    have hrun := run_append_grow (P := Try.prog) w 45 ty 5 i z ht hi hz ⟨g, 0, none⟩ n c (valsB xs) (by rw [valsB_length, hl, hinfo.1, Nat.mul_one]) hol ⟨q, 0, none⟩ 1 c2 (valsB [y]) (by rw [hinfo.1]; rfl) hnews (by omega) (by omega) (growslice_fits (by omega) (by rw [hinfo.2]; omega))
    obtain ⟨v', w', hrun', hown, _, _⟩ := run_append_row ⟨ht, by rw [hi]; simpa using hinfo, ⟨i, z, hi, hz, hzs⟩, hpos⟩ w B ty (.slice (some ⟨g, 0, none⟩) n c) n (valsB xs) h (some ⟨q, 0, none⟩) 1 c2 (valsB [y]) hq (valsB_one _) (fun h => by cases h) (by unfold maxLen; omega) (by omega) hB
    rw [hrun] at hrun'
    injection hrun' with e1 e2
    subst e1 e2
    refine ⟨w.heap.size, _, _, hrun, ?_, .inr ⟨rfl, ((Below.refl _ w).drew).alloc (Nat.le_refl _) _⟩⟩
    unfold Ow
    rw [valsB_append]
    exact hown
theorem wpList_app1 {w : World} {ops : Array Oper} {rest : List Oper} {o : Oper} {a : Act} {Q : Exit → Act → World → Prop} (hgd : o.guard = none) (s x : Operand)
    (ho : o.op = .call { callee := .builtin .append, args := #[s, x], argTypes := #[45, 45] })
    (B g n c : Nat) (xs : List Nat) (hs : a.eval s = .slice (some ⟨g, 0, none⟩) n c) (h : Ow w B g n c xs) (q y c2 : Nat) (hx : a.eval x = .slice (some ⟨q, 0, none⟩) 1 c2) (hq : Rdv w (some ⟨q, 0, none⟩) 1 1 (valsB [y])) (hn : n ≤ 1000000) (hB : B ≤ w.heap.size)
    (k : ∀ g' c' w', App w w' B g n c xs y g' c' → wpList Try.prog ops Q rest (a.put o.dst (.slice (some ⟨g', 0, none⟩) (n + 1) c')) w') : wpList Try.prog ops Q (o :: rest) a w := by
  obtain ⟨g', c', w', hrun, happ⟩ := run_append_one h o.type q y c2 hq hn hB
  refine wpList_plain hgd fun K hK => ?_
  have h4 := k g' c' w' happ
  unfold Oper.wp
  simp [execOp, ho, resolve, invoke, builtin, hs, hx, hrun, Result.andThen]
  exact hK _ _ h4
end Go.Proofs.Ytiemjgkpjmncfaa
