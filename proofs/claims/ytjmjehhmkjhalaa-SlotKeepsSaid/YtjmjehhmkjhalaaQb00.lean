/- DRow, DOwn: put together. -/
import Derived.Test.YtjmjehhmkjhalaaChecked
import Derived.WalkKit
import Derived.WalkLawsBesides
import Derived.WalkSpells
import Derived.Lib.Hide
import Derived.Outline
import Derived.Laws.Externs
import Derived.Maps.AppendAt
import Derived.Laws.AppendOwnNone
import Derived.Laws.OwnMore
import Derived.Laws.AppendOwn
import Derived.OwnWalk
import Derived.Deep.RegionLaw
import Derived.Lib.SmallJoins
import Derived.Deep.Heap
import Derived.Below
import Derived.Lib.SliceRun
/- Rows of values: read, appended, in regions that draw and in such that do not. -/
namespace Go.Proofs.Ytjmjehhmkjhalaa
set_option maxRecDepth 100000
open Go.RowKit

/-- A slice that reads as values. -/
def Rdv (w : World) (A : Option Addr) (n size : Nat) (ys : List Value) : Prop :=
  ys.length = n * size ∧ (0 < n → ∃ b off, A = some ⟨b, off, none⟩ ∧ ∀ j u, ys[j]? = some u → w.cell? ⟨b, off + j, none⟩ = some u)
theorem Rdv.ext {w w' : World} {A : Option Addr} {n size : Nat} {ys : List Value} (h : Rdv w A n size ys) (hs : ∀ p : Addr, p.block < w.heap.size → w'.cell? p = w.cell? p) : Rdv w' A n size ys :=
  ⟨h.1, fun hn => by
    obtain ⟨b, off, e, hc⟩ := h.2 hn
    exact ⟨b, off, e, fun j u hj => (hs _ (World.block_lt_of_cell? _ _ (hc j u hj))).trans (hc j u hj)⟩⟩
theorem addr_plus (b off j : Nat) : (⟨b, off, none⟩ : Addr).add j = ⟨b, off + j, none⟩ := by
  unfold Addr.add
  by_cases h : j = 0
  · subst h; simp
  · simp [h]
theorem rdv_own {w : World} {B e size n : Nat} {v : Value} {xs : List Value} (h : w.ownsRow B e size v n xs) : ∃ A c, v = .slice A n c ∧ Rdv w A n size xs ∧ (A = none → c = 0) ∧ n ≤ c := by
  rcases h.2 with ⟨rfl, h0⟩ | ⟨g, cap, cur, rfl, _, _, hle, _⟩
  · subst h0
    exact ⟨none, 0, rfl, ⟨h.1, fun hn => absurd hn (by omega)⟩, fun _ => rfl, Nat.le_refl _⟩
  · refine ⟨_, _, rfl, ⟨h.1, fun _ => ⟨g, 0, rfl, fun j u hj => ?_⟩⟩, (fun he => by cases he), hle⟩
    have hc := h.cells (g := g) rfl j u hj
    rw [addr_plus] at hc
    exact hc
/-- What is known of the element's type. -/
structure ElemT (P : Program) (t e : TypeId) (size bytes : Nat) : Prop where
  slice : P.underlying t = some (.slice e)
  info : (P.info? e).map (fun i => (i.size, i.bytes)) = some (size, bytes)
  zero : ∃ i z, P.info? e = some i ∧ i.zero = some z ∧ z.cells.size = size
  pos : 0 < size
theorem run_append_row {P : Program} {t e : TypeId} {size bytes : Nat} (E : ElemT P t e size bytes) (w : World) (B : Nat) (ty : TypeId) (v : Value) (n : Nat) (xs : List Value) (hown : w.ownsRow B e size v n xs)
    (A : Option Addr) (m c : Nat) (ys : List Value) (hr : Rdv w A m size ys) (h1 : ∀ u ∈ ys, u.oneCell' = true) (hnil : A = none → c = 0) (hmx : n + m ≤ maxLen) (hby : (n + m) * bytes ≤ 140737488355328) (hbase : B ≤ w.heap.size) :
    ∃ v' w', (Builtin.append_ #[t, t] ty #[v, .slice A m c]).run P w = .ok v' w' ∧ w'.ownsRow B e size v' (n + m) (xs ++ ys) ∧ w.grownBy w' v.ownBlock ∧ (v'.ownBlock = v.ownBlock ∨ v'.ownBlock = some w.heap.size) := by
  obtain ⟨ht, hinfo, ⟨i, z, hi, hz, hzs⟩, hpos⟩ := E
  rw [hi] at hinfo
  simp at hinfo
  obtain ⟨hl, hc⟩ := hr
  rcases A with _ | ad
  · have hm : m = 0 := by
      rcases Nat.eq_zero_or_pos m with h0 | h0
      · exact h0
      · obtain ⟨b, off, h2, _⟩ := hc h0; cases h2
    have hc0 := hnil rfl
    subst hm hc0
    have hy : ys = [] := List.eq_nil_of_length_eq_zero (by rw [hl]; simp)
    subst hy
    exact ⟨v, w, run_append_owned_none (P := P) (w := w) B t ty e i size ht hi v n xs hown, by rw [List.append_nil]; exact hown, ⟨rfl, rfl, rfl, Nat.le_refl _, fun _ _ _ => rfl⟩, .inl rfl⟩
  · obtain ⟨v', w', hrun, h2, h3, _, h4⟩ := run_append_own_at (P := P) w B t ty e i z size bytes ht hi hz hinfo.1 hinfo.2 hzs hpos v n xs hown ad m c ys (by rw [hl]) (fun j u hj => by
      have hm : 0 < m := by
        rcases Nat.eq_zero_or_pos m with h0 | h0
        · subst h0
          have : ys = [] := List.eq_nil_of_length_eq_zero (by rw [hl]; simp)
          subst this
          simp at hj
        · exact h0
      obtain ⟨b, off, h4, h5⟩ := hc hm
      injection h4 with h4
      subst h4
      rw [addr_plus]
      exact h5 j u hj) h1 hmx hby hbase
    exact ⟨v', w', hrun, h2, h3, h4⟩
theorem wpList_append_rowv {P : Program} {t e : TypeId} {size bytes : Nat} (E : ElemT P t e size bytes) {w : World} {ops : Array Oper} {rest : List Oper} {o : Oper} {a : Act} {Q : Exit → Act → World → Prop} (hgd : o.guard = none) (s x : Operand)
    (ho : o.op = .call { callee := .builtin .append, args := #[s, x], argTypes := #[t, t] })
    (B : Nat) (v : Value) (n : Nat) (xs : List Value) (hs : a.eval s = v) (hown : w.ownsRow B e size v n xs)
    (A : Option Addr) (m c : Nat) (ys : List Value) (hx : a.eval x = .slice A m c) (hr : Rdv w A m size ys) (h1 : ∀ u ∈ ys, u.oneCell' = true) (hnil : A = none → c = 0)
    (hmx : n + m ≤ maxLen) (hby : (n + m) * bytes ≤ 140737488355328) (hbase : B ≤ w.heap.size)
    (h : ∀ v' w', w'.ownsRow B e size v' (n + m) (xs ++ ys) → w.grownBy w' v.ownBlock → (v'.ownBlock = v.ownBlock ∨ v'.ownBlock = some w.heap.size) → wpList P ops Q rest (a.put o.dst v') w') : wpList P ops Q (o :: rest) a w := by
  obtain ⟨v', w', hrun, h2, h3, h3'⟩ := run_append_row E w B o.type v n xs hown A m c ys hr h1 hnil hmx hby hbase
  refine wpList_plain hgd fun K hK => ?_
  have h4 := h v' w' h2 h3 h3'
  unfold Oper.wp
  simp [execOp, ho, resolve, invoke, builtin, hs, hx, hrun, Result.andThen]
  exact hK _ _ h4
theorem step_append_rowv {P : Program} {t e : TypeId} {size bytes : Nat} (E : ElemT P t e size bytes) {w : World} {ops : Array Oper} {o : Oper} {a : Act} {K : Act → World → Prop} {Q : Exit → Act → World → Prop} {F : Prop}
    (hw : Region.wanted o (yielded ops a.tmps) = true) (s x : Operand)
    (ho : o.op = .call { callee := .builtin .append, args := #[s, x], argTypes := #[t, t] })
    (B : Nat) (v : Value) (n : Nat) (xs : List Value) (hs : a.eval s = v) (hown : w.ownsRow B e size v n xs)
    (A : Option Addr) (m c : Nat) (ys : List Value) (hx : a.eval x = .slice A m c) (hr : Rdv w A m size ys) (h1 : ∀ u ∈ ys, u.oneCell' = true) (hnil : A = none → c = 0)
    (hmx : n + m ≤ maxLen) (hby : (n + m) * bytes ≤ 140737488355328) (hbase : B ≤ w.heap.size)
    (h : ∀ v' w', w'.ownsRow B e size v' (n + m) (xs ++ ys) → w.grownBy w' v.ownBlock → (v'.ownBlock = v.ownBlock ∨ v'.ownBlock = some w.heap.size) → K (a.put o.dst v') w') : if Region.wanted o (yielded ops a.tmps) = true then Oper.wp P o a w K Q else F := by
  rw [if_pos hw]
  obtain ⟨v', w', hrun, h2, h3, h3'⟩ := run_append_row E w B o.type v n xs hown A m c ys hr h1 hnil hmx hby hbase
  have h4 := h v' w' h2 h3 h3'
  unfold Oper.wp
  simp [execOp, ho, resolve, invoke, builtin, hs, hx, hrun, Result.andThen]
  exact h4
end Go.Proofs.Ytjmjehhmkjhalaa

/- An own row that is turned in place: set, cut, cleared; what an append turns. -/
namespace Go.Proofs.Ytjmjehhmkjhalaa
set_option maxRecDepth 100000
open Go.RowKit

section
variable {α : Type} (f : α → List Value) (k : Nat)
/-- A row of things of k cells each. -/
def rowV (l : List α) : List Value := l.flatMap f
theorem rowV_length (hf : ∀ x, (f x).length = k) (l : List α) : (rowV f l).length = l.length * k := by
  induction l with
  | nil => simp [rowV]
  | cons x l ih => rw [rowV, List.flatMap_cons, List.length_append, ← rowV, ih, hf, List.length_cons, Nat.succ_mul, Nat.add_comm]
theorem rowV_get (hf : ∀ x, (f x).length = k) (l : List α) : ∀ (i : Nat) (hi : i < l.length) (j : Nat), j < k → (rowV f l)[i * k + j]? = (f l[i])[j]? := by
  induction l with
  | nil => intro i hi; cases hi
  | cons x l ih =>
    intro i hi j hj
    rw [rowV, List.flatMap_cons]
    rcases i with _ | i
    · rw [List.getElem?_append_left (by rw [hf]; omega), Nat.zero_mul, Nat.zero_add]
      rfl
    · rw [List.getElem?_append_right (by rw [hf, Nat.succ_mul]; omega)]
      have e : (i + 1) * k + j - (f x).length = i * k + j := by rw [hf, Nat.succ_mul]; omega
      rw [e]
      exact ih i (by simpa using hi) j hj
theorem rowV_append (l m : List α) : rowV f (l ++ m) = rowV f l ++ rowV f m := by simp [rowV]
/-- A slice that reads as such a row. -/
structure RowAt (w : World) (A : Option Addr) (n : Nat) (l : List α) : Prop where
  len : l.length = n
  row : Rdv w A n k (rowV f l)
end
theorem RowAt.ext {α : Type} {f : α → List Value} {k : Nat} {w w' : World} {A : Option Addr} {n : Nat} {l : List α} (h : RowAt f k w A n l) (hs : ∀ p : Addr, p.block < w.heap.size → w'.cell? p = w.cell? p) : RowAt f k w' A n l := ⟨h.len, h.row.ext hs⟩
theorem RowAt.below {α : Type} {f : α → List Value} {k : Nat} {w w' : World} {A : Option Addr} {n : Nat} {l : List α} (h : RowAt f k w A n l) (hb : Below w.heap.size w w') : RowAt f k w' A n l := h.ext fun _ hp => hb.cell hp
theorem RowAt.cells {α : Type} {f : α → List Value} {k : Nat} {w : World} {A : Option Addr} {n : Nat} {l : List α} (h : RowAt f k w A n l) (hf : ∀ x, (f x).length = k) (hn : 0 < n) :
    ∃ b off, A = some ⟨b, off, none⟩ ∧ ∀ (i : Nat) (hi : i < l.length) (j : Nat) (u : Value), j < k → (f l[i])[j]? = some u → w.cell? ⟨b, off + i * k + j, none⟩ = some u := by
  obtain ⟨b, off, e, hc⟩ := h.row.2 hn
  refine ⟨b, off, e, fun i hi j u hj hu => ?_⟩
  rw [Nat.add_assoc]
  exact hc _ _ ((rowV_get f k hf l i hi j hj).trans hu)

section
variable {w : World} {B : Nat} {e : TypeId} {k g n c : Nat} {xs : List Value}
theorem own_set1 (h : w.ownsRow B e k (.slice (some ⟨g, 0, none⟩) n c) n xs) (o : Nat) (v : Value) : (w.setCell ⟨g, o, none⟩ v).ownsRow B e k (.slice (some ⟨g, 0, none⟩) n c) n (xs.set o v) := by
  obtain ⟨h1, h2⟩ := h
  refine ⟨by rw [List.length_set]; exact h1, ?_⟩
  rcases h2 with ⟨hv, _⟩ | ⟨g', cap, cur, hv, hB, hg, hn, hc, hs, ht⟩
  · cases hv
  · injection hv with e1 e2 e3
    injection e1 with e1
    injection e1 with e1
    subst e1 e3
    refine .inr ⟨g, c, cur.setIfInBounds o v, rfl, hB, ?_, hn, hc, by rw [Array.size_setIfInBounds]; exact hs, ?_⟩
    · have hlt := (Array.getElem?_eq_some_iff.1 hg).1
      unfold World.setCell
      simp only [Array.getElem?_modify, hg]
      simp
    · rw [Array.toList_setIfInBounds, List.take_set, ht]
/-- Some cells of a list set. -/
def setL : List Value → Nat → List Value → List Value
  | xs, _, [] => xs
  | xs, o, v :: r => setL (xs.set o v) (o + 1) r
theorem setL_get : ∀ (vs : List Value) (xs : List Value) (o i : Nat), o + vs.length ≤ xs.length → (setL xs o vs)[i]? = if o ≤ i ∧ i < o + vs.length then vs[i - o]? else xs[i]?
  | [], xs, o, i, _ => by
    unfold setL
    rw [if_neg (by simp only [List.length_nil]; omega)]
  | v :: r, xs, o, i, h => by
    rw [List.length_cons] at h ⊢
    unfold setL
    rw [setL_get r (xs.set o v) (o + 1) i (by rw [List.length_set]; omega)]
    by_cases h1 : o + 1 ≤ i ∧ i < o + 1 + r.length
    · rw [if_pos h1, if_pos (by omega)]
      obtain ⟨q, hq⟩ : ∃ q, i - o = q + 1 := ⟨i - o - 1, by omega⟩
      rw [hq, List.getElem?_cons_succ]
      congr 1
      omega
    · rw [if_neg h1]
      by_cases h2 : i = o
      · subst h2
        rw [if_pos (by omega), List.getElem?_set_self (by omega)]
        simp
      · rw [if_neg (by omega), List.getElem?_set_ne (by omega)]
end
section
variable {α : Type} {f : α → List Value} {k : Nat}
theorem rowV_set (hf : ∀ x, (f x).length = k) (hk : 0 < k) (l : List α) (i : Nat) (hi : i < l.length) (y : α) : setL (rowV f l) (i * k) (f y) = rowV f (l.set i y) := by
  apply List.ext_getElem?
  intro j
  have hb : i * k + k ≤ l.length * k := by rw [← Nat.succ_mul]; exact Nat.mul_le_mul_right k hi
  rw [setL_get _ _ _ _ (by rw [rowV_length f k hf, hf]; exact hb), hf]
  by_cases hj : j < l.length * k
  · have h1 : j / k < l.length := Nat.div_lt_of_lt_mul (by rw [Nat.mul_comm]; exact hj)
    have h2 : j % k < k := Nat.mod_lt _ hk
    have e : j / k * k + j % k = j := Nat.div_add_mod' j k
    have h3 := rowV_get f k hf l (j / k) h1 (j % k) h2
    have h4 := rowV_get f k hf (l.set i y) (j / k) (by rw [List.length_set]; exact h1) (j % k) h2
    rw [e] at h3 h4
    rw [h3, h4]
    by_cases hq : j / k = i
    · have a1 : i * k ≤ j := by rw [← hq]; omega
      have a2 : j < i * k + k := by rw [← hq]; omega
      rw [if_pos ⟨a1, a2⟩]
      have a3 : j - i * k = j % k := by rw [← hq]; omega
      rw [a3]
      subst hq
      rw [List.getElem_set_self]
    · rw [if_neg]
      · rw [List.getElem_set_ne (Ne.symm hq)]
      · rintro ⟨a1, a2⟩
        apply hq
        apply Nat.le_antisymm
        · apply Nat.le_of_lt_succ
          apply Nat.div_lt_of_lt_mul
          rw [Nat.mul_comm, Nat.succ_mul]; exact a2
        · exact (Nat.le_div_iff_mul_le hk).2 a1
  · rw [if_neg (by omega), List.getElem?_eq_none (by rw [rowV_length f k hf]; omega), List.getElem?_eq_none (by rw [rowV_length f k hf, List.length_set]; omega)]
end
end Go.Proofs.Ytjmjehhmkjhalaa
