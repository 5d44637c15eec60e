/- DRow, DOwn, TFind: put together. -/
import Derived.Test.YtejpjbmbcdgomaaChecked
import Derived.WalkKit
import Derived.WalkLawsBesides
import Derived.WalkSpells
import Derived.Lib.Hide
import Derived.Outline
import Derived.Laws.Externs
import Derived.Maps.AppendAt
import Derived.Laws.AppendOwnNone
import Derived.Laws.OwnMore
import Derived.Laws.AppendOwn
import Derived.OwnWalk
import Derived.Deep.RegionLaw
import Derived.Lib.SmallJoins
import Derived.Deep.Heap
import Derived.Below
import Derived.Lib.SliceRun
import Derived.Test.YtejpjbmbcdgomaaPe00
import Derived.WalkArith
import Derived.Deep.CutRange
import Derived.Deep.CutBlock
/- Rows of values: read, appended, in regions that draw and in such that do not. -/
namespace Go.Proofs.Ytejpjbmbcdgomaa
set_option maxRecDepth 100000
open Go.RowKit

/-- A slice that reads as values. -/
def Rdv (w : World) (A : Option Addr) (n size : Nat) (ys : List Value) : Prop :=
  ys.length = n * size ∧ (0 < n → ∃ b off, A = some ⟨b, off, none⟩ ∧ ∀ j u, ys[j]? = some u → w.cell? ⟨b, off + j, none⟩ = some u)
theorem Rdv.ext {w w' : World} {A : Option Addr} {n size : Nat} {ys : List Value} (h : Rdv w A n size ys) (hs : ∀ p : Addr, p.block < w.heap.size → w'.cell? p = w.cell? p) : Rdv w' A n size ys :=
  ⟨h.1, fun hn => by
    obtain ⟨b, off, e, hc⟩ := h.2 hn
    exact ⟨b, off, e, fun j u hj => (hs _ (World.block_lt_of_cell? _ _ (hc j u hj))).trans (hc j u hj)⟩⟩
theorem addr_plus (b off j : Nat) : (⟨b, off, none⟩ : Addr).add j = ⟨b, off + j, none⟩ := by
  unfold Addr.add
  by_cases h : j = 0
  · subst h; simp
  · simp [h]
theorem rdv_own {w : World} {B e size n : Nat} {v : Value} {xs : List Value} (h : w.ownsRow B e size v n xs) : ∃ A c, v = .slice A n c ∧ Rdv w A n size xs ∧ (A = none → c = 0) ∧ n ≤ c := by
  rcases h.2 with ⟨rfl, h0⟩ | ⟨g, cap, cur, rfl, _, _, hle, _⟩
  · subst h0
    exact ⟨none, 0, rfl, ⟨h.1, fun hn => absurd hn (by omega)⟩, fun _ => rfl, Nat.le_refl _⟩
  · refine ⟨_, _, rfl, ⟨h.1, fun _ => ⟨g, 0, rfl, fun j u hj => ?_⟩⟩, (fun he => by cases he), hle⟩
    have hc := h.cells (g := g) rfl j u hj
    rw [addr_plus] at hc
    exact hc
/-- What is known of the element's type. -/
structure ElemT (P : Program) (t e : TypeId) (size bytes : Nat) : Prop where
  slice : P.underlying t = some (.slice e)
  info : (P.info? e).map (fun i => (i.size, i.bytes)) = some (size, bytes)
  zero : ∃ i z, P.info? e = some i ∧ i.zero = some z ∧ z.cells.size = size
  pos : 0 < size
theorem run_append_row {P : Program} {t e : TypeId} {size bytes : Nat} (E : ElemT P t e size bytes) (w : World) (B : Nat) (ty : TypeId) (v : Value) (n : Nat) (xs : List Value) (hown : w.ownsRow B e size v n xs)
    (A : Option Addr) (m c : Nat) (ys : List Value) (hr : Rdv w A m size ys) (h1 : ∀ u ∈ ys, u.oneCell' = true) (hnil : A = none → c = 0) (hmx : n + m ≤ maxLen) (hby : (n + m) * bytes ≤ 140737488355328) (hbase : B ≤ w.heap.size) :
    ∃ v' w', (Builtin.append_ #[t, t] ty #[v, .slice A m c]).run P w = .ok v' w' ∧ w'.ownsRow B e size v' (n + m) (xs ++ ys) ∧ w.grownBy w' v.ownBlock ∧ (v'.ownBlock = v.ownBlock ∨ v'.ownBlock = some w.heap.size) := by
  obtain ⟨ht, hinfo, ⟨i, z, hi, hz, hzs⟩, hpos⟩ := E
  rw [hi] at hinfo
  simp at hinfo
  obtain ⟨hl, hc⟩ := hr
  rcases A with _ | ad
  · have hm : m = 0 := by
      rcases Nat.eq_zero_or_pos m with h0 | h0
      · exact h0
      · obtain ⟨b, off, h2, _⟩ := hc h0; cases h2
    have hc0 := hnil rfl
    subst hm hc0
    have hy : ys = [] := List.eq_nil_of_length_eq_zero (by rw [hl]; simp)
    subst hy
    exact ⟨v, w, run_append_owned_none (P := P) (w := w) B t ty e i size ht hi v n xs hown, by rw [List.append_nil]; exact hown, ⟨rfl, rfl, rfl, Nat.le_refl _, fun _ _ _ => rfl⟩, .inl rfl⟩
  · obtain ⟨v', w', hrun, h2, h3, _, h4⟩ := run_append_own_at (P := P) w B t ty e i z size bytes ht hi hz hinfo.1 hinfo.2 hzs hpos v n xs hown ad m c ys (by rw [hl]) (fun j u hj => by
      have hm : 0 < m := by
        rcases Nat.eq_zero_or_pos m with h0 | h0
        · subst h0
          have : ys = [] := List.eq_nil_of_length_eq_zero (by rw [hl]; simp)
          subst this
          simp at hj
        · exact h0
      obtain ⟨b, off, h4, h5⟩ := hc hm
      injection h4 with h4
      subst h4
      rw [addr_plus]
      exact h5 j u hj) h1 hmx hby hbase
    exact ⟨v', w', hrun, h2, h3, h4⟩
theorem wpList_append_rowv {P : Program} {t e : TypeId} {size bytes : Nat} (E : ElemT P t e size bytes) {w : World} {ops : Array Oper} {rest : List Oper} {o : Oper} {a : Act} {Q : Exit → Act → World → Prop} (hgd : o.guard = none) (s x : Operand)
    (ho : o.op = .call { callee := .builtin .append, args := #[s, x], argTypes := #[t, t] })
    (B : Nat) (v : Value) (n : Nat) (xs : List Value) (hs : a.eval s = v) (hown : w.ownsRow B e size v n xs)
    (A : Option Addr) (m c : Nat) (ys : List Value) (hx : a.eval x = .slice A m c) (hr : Rdv w A m size ys) (h1 : ∀ u ∈ ys, u.oneCell' = true) (hnil : A = none → c = 0)
    (hmx : n + m ≤ maxLen) (hby : (n + m) * bytes ≤ 140737488355328) (hbase : B ≤ w.heap.size)
    (h : ∀ v' w', w'.ownsRow B e size v' (n + m) (xs ++ ys) → w.grownBy w' v.ownBlock → (v'.ownBlock = v.ownBlock ∨ v'.ownBlock = some w.heap.size) → wpList P ops Q rest (a.put o.dst v') w') : wpList P ops Q (o :: rest) a w := by
  obtain ⟨v', w', hrun, h2, h3, h3'⟩ := run_append_row E w B o.type v n xs hown A m c ys hr h1 hnil hmx hby hbase
  refine wpList_plain hgd fun K hK => ?_
  have h4 := h v' w' h2 h3 h3'
  unfold Oper.wp
  simp [execOp, ho, resolve, invoke, builtin, hs, hx, hrun, Result.andThen]
  exact hK _ _ h4
theorem step_append_rowv {P : Program} {t e : TypeId} {size bytes : Nat} (E : ElemT P t e size bytes) {w : World} {ops : Array Oper} {o : Oper} {a : Act} {K : Act → World → Prop} {Q : Exit → Act → World → Prop} {F : Prop}
    (hw : Region.wanted o (yielded ops a.tmps) = true) (s x : Operand)
    (ho : o.op = .call { callee := .builtin .append, args := #[s, x], argTypes := #[t, t] })
    (B : Nat) (v : Value) (n : Nat) (xs : List Value) (hs : a.eval s = v) (hown : w.ownsRow B e size v n xs)
    (A : Option Addr) (m c : Nat) (ys : List Value) (hx : a.eval x = .slice A m c) (hr : Rdv w A m size ys) (h1 : ∀ u ∈ ys, u.oneCell' = true) (hnil : A = none → c = 0)
    (hmx : n + m ≤ maxLen) (hby : (n + m) * bytes ≤ 140737488355328) (hbase : B ≤ w.heap.size)
    (h : ∀ v' w', w'.ownsRow B e size v' (n + m) (xs ++ ys) → w.grownBy w' v.ownBlock → (v'.ownBlock = v.ownBlock ∨ v'.ownBlock = some w.heap.size) → K (a.put o.dst v') w') : if Region.wanted o (yielded ops a.tmps) = true then Oper.wp P o a w K Q else F := by
  rw [if_pos hw]
  obtain ⟨v', w', hrun, h2, h3, h3'⟩ := run_append_row E w B o.type v n xs hown A m c ys hr h1 hnil hmx hby hbase
  have h4 := h v' w' h2 h3 h3'
  unfold Oper.wp
  simp [execOp, ho, resolve, invoke, builtin, hs, hx, hrun, Result.andThen]
  exact h4
theorem own_empty (w : World) (B e size : Nat) (t : TypeId) (ht : t = e) (hB : B ≤ w.heap.size) : (w.alloc (.cells #[] t)).ownsRow B e size (.slice (some ⟨w.heap.size, 0, none⟩) 0 0) 0 [] := by
  subst ht
  exact ⟨by simp, .inr ⟨w.heap.size, 0, #[], rfl, hB, heap_alloc_new w _, Nat.le_refl _, by decide, by simp, by simp⟩⟩
end Go.Proofs.Ytejpjbmbcdgomaa

/- An own row that is turned in place: set, cut, cleared; what an append turns. -/
namespace Go.Proofs.Ytejpjbmbcdgomaa
set_option maxRecDepth 100000
open Go.RowKit

section
variable {α : Type} (f : α → List Value) (k : Nat)
/-- A row of things of k cells each. -/
def rowV (l : List α) : List Value := l.flatMap f
theorem rowV_length (hf : ∀ x, (f x).length = k) (l : List α) : (rowV f l).length = l.length * k := by
  induction l with
  | nil => simp [rowV]
  | cons x l ih => rw [rowV, List.flatMap_cons, List.length_append, ← rowV, ih, hf, List.length_cons, Nat.succ_mul, Nat.add_comm]
theorem rowV_get (hf : ∀ x, (f x).length = k) (l : List α) : ∀ (i : Nat) (hi : i < l.length) (j : Nat), j < k → (rowV f l)[i * k + j]? = (f l[i])[j]? := by
  induction l with
  | nil => intro i hi; cases hi
  | cons x l ih =>
    intro i hi j hj
    rw [rowV, List.flatMap_cons]
    rcases i with _ | i
    · rw [List.getElem?_append_left (by rw [hf]; omega), Nat.zero_mul, Nat.zero_add]
      rfl
    · rw [List.getElem?_append_right (by rw [hf, Nat.succ_mul]; omega)]
      have e : (i + 1) * k + j - (f x).length = i * k + j := by rw [hf, Nat.succ_mul]; omega
      rw [e]
      exact ih i (by simpa using hi) j hj
theorem rowV_append (l m : List α) : rowV f (l ++ m) = rowV f l ++ rowV f m := by simp [rowV]
/-- A slice that reads as such a row. -/
structure RowAt (w : World) (A : Option Addr) (n : Nat) (l : List α) : Prop where
  len : l.length = n
  row : Rdv w A n k (rowV f l)
end
theorem RowAt.ext {α : Type} {f : α → List Value} {k : Nat} {w w' : World} {A : Option Addr} {n : Nat} {l : List α} (h : RowAt f k w A n l) (hs : ∀ p : Addr, p.block < w.heap.size → w'.cell? p = w.cell? p) : RowAt f k w' A n l := ⟨h.len, h.row.ext hs⟩
theorem RowAt.below {α : Type} {f : α → List Value} {k : Nat} {w w' : World} {A : Option Addr} {n : Nat} {l : List α} (h : RowAt f k w A n l) (hb : Below w.heap.size w w') : RowAt f k w' A n l := h.ext fun _ hp => hb.cell hp
theorem RowAt.cells {α : Type} {f : α → List Value} {k : Nat} {w : World} {A : Option Addr} {n : Nat} {l : List α} (h : RowAt f k w A n l) (hf : ∀ x, (f x).length = k) (hn : 0 < n) :
    ∃ b off, A = some ⟨b, off, none⟩ ∧ ∀ (i : Nat) (hi : i < l.length) (j : Nat) (u : Value), j < k → (f l[i])[j]? = some u → w.cell? ⟨b, off + i * k + j, none⟩ = some u := by
  obtain ⟨b, off, e, hc⟩ := h.row.2 hn
  refine ⟨b, off, e, fun i hi j u hj hu => ?_⟩
  rw [Nat.add_assoc]
  exact hc _ _ ((rowV_get f k hf l i hi j hj).trans hu)

theorem grown_trans {a b c : World} {r : Option Nat} (h : a.grownBy b r) (g : b.grownBy c r) : a.grownBy c r :=
  ⟨g.os.trans h.os, g.tape.trans h.tape, g.output.trans h.output, Nat.le_trans h.size g.size, fun k hk hn => (g.block k (Nat.lt_of_lt_of_le hk h.size) hn).trans (h.block k hk hn)⟩
theorem grown_refl (w : World) (r : Option Nat) : w.grownBy w r := ⟨rfl, rfl, rfl, Nat.le_refl _, fun _ _ _ => rfl⟩
theorem grown_drewN (w : World) (r : Option Nat) (n : Nat) : w.grownBy (w.drewN n) r := ⟨rfl, rfl, rfl, Nat.le_refl _, fun _ _ _ => rfl⟩
theorem grown_below {w w' : World} (h : Below w.heap.size w w') (r : Option Nat) : w.grownBy w' r := ⟨h.os, h.tape, h.output, h.size, fun k hk _ => h.block k hk⟩
theorem below_grown2 {w w' : World} {B g : Nat} (h : w.grownBy w' (some g)) (hB : B ≤ g) (hs : B ≤ w.heap.size) : Below B w w' :=
  ⟨h.os, h.tape, h.output, h.size, fun k hk => h.block k (by omega) (by intro e; injection e; omega)⟩
theorem grown_none {w w' : World} (h : w.grownBy w' none) : Below w.heap.size w w' := ⟨h.os, h.tape, h.output, h.size, fun k hk => h.block k hk (by simp)⟩
theorem grown_setCell (w : World) (g o : Nat) (v : Value) : w.grownBy (w.setCell ⟨g, o, none⟩ v) (some g) :=
  ⟨rfl, rfl, rfl, by rw [World.size_setCell]; exact Nat.le_refl _, fun k _ hn => Below.heap_setCell _ _ _ _ (fun e => hn (by rw [e]))⟩
section
variable {w : World} {B : Nat} {e : TypeId} {k g n c : Nat} {xs : List Value}
theorem own_set1 (h : w.ownsRow B e k (.slice (some ⟨g, 0, none⟩) n c) n xs) (o : Nat) (v : Value) : (w.setCell ⟨g, o, none⟩ v).ownsRow B e k (.slice (some ⟨g, 0, none⟩) n c) n (xs.set o v) := by
  obtain ⟨h1, h2⟩ := h
  refine ⟨by rw [List.length_set]; exact h1, ?_⟩
  rcases h2 with ⟨hv, _⟩ | ⟨g', cap, cur, hv, hB, hg, hn, hc, hs, ht⟩
  · cases hv
  · injection hv with e1 e2 e3
    injection e1 with e1
    injection e1 with e1
    subst e1 e3
    refine .inr ⟨g, c, cur.setIfInBounds o v, rfl, hB, ?_, hn, hc, by rw [Array.size_setIfInBounds]; exact hs, ?_⟩
    · have hlt := (Array.getElem?_eq_some_iff.1 hg).1
      unfold World.setCell
      simp only [Array.getElem?_modify, hg]
      simp
    · rw [Array.toList_setIfInBounds, List.take_set, ht]
/-- Some cells of a list set. -/
def setL : List Value → Nat → List Value → List Value
  | xs, _, [] => xs
  | xs, o, v :: r => setL (xs.set o v) (o + 1) r
theorem setL_length : ∀ (vs : List Value) (xs : List Value) (o : Nat), (setL xs o vs).length = xs.length
  | [], _, _ => rfl
  | v :: r, xs, o => by unfold setL; rw [setL_length r, List.length_set]
theorem setL_get : ∀ (vs : List Value) (xs : List Value) (o i : Nat), o + vs.length ≤ xs.length → (setL xs o vs)[i]? = if o ≤ i ∧ i < o + vs.length then vs[i - o]? else xs[i]?
  | [], xs, o, i, _ => by
    unfold setL
    rw [if_neg (by simp only [List.length_nil]; omega)]
  | v :: r, xs, o, i, h => by
    rw [List.length_cons] at h ⊢
    unfold setL
    rw [setL_get r (xs.set o v) (o + 1) i (by rw [List.length_set]; omega)]
    by_cases h1 : o + 1 ≤ i ∧ i < o + 1 + r.length
    · rw [if_pos h1, if_pos (by omega)]
      obtain ⟨q, hq⟩ : ∃ q, i - o = q + 1 := ⟨i - o - 1, by omega⟩
      rw [hq, List.getElem?_cons_succ]
      congr 1
      omega
    · rw [if_neg h1]
      by_cases h2 : i = o
      · subst h2
        rw [if_pos (by omega), List.getElem?_set_self (by omega)]
        simp
      · rw [if_neg (by omega), List.getElem?_set_ne (by omega)]
theorem own_setCells : ∀ (vs : List Value) {w : World} {xs : List Value} (o : Nat), w.ownsRow B e k (.slice (some ⟨g, 0, none⟩) n c) n xs → (w.setCells g o vs).ownsRow B e k (.slice (some ⟨g, 0, none⟩) n c) n (setL xs o vs) ∧ w.grownBy (w.setCells g o vs) (some g)
  | [], w, xs, o, h => ⟨h, grown_refl _ _⟩
  | v :: r, w, xs, o, h => by
    have h2 := own_setCells r (o + 1) (own_set1 h o v)
    exact ⟨h2.1, grown_trans (grown_setCell w g o v) h2.2⟩
theorem own_drewN (h : w.ownsRow B e k (.slice (some ⟨g, 0, none⟩) n c) n xs) (q : Nat) : (w.drewN q).ownsRow B e k (.slice (some ⟨g, 0, none⟩) n c) n xs := h
theorem own_cut (h : w.ownsRow B e k (.slice (some ⟨g, 0, none⟩) n c) n xs) (m : Nat) (hm : m ≤ n) : w.ownsRow B e k (.slice (some ⟨g, 0, none⟩) m c) m (xs.take (m * k)) := by
  obtain ⟨h1, h2⟩ := h
  have hmk : m * k ≤ n * k := Nat.mul_le_mul_right k hm
  refine ⟨by rw [List.length_take, h1, Nat.min_eq_left hmk], ?_⟩
  rcases h2 with ⟨hv, _⟩ | ⟨g', cap, cur, hv, hB, hg, hn, hc, hs, ht⟩
  · cases hv
  · injection hv with e1 e2 e3
    injection e1 with e1
    injection e1 with e1
    subst e1 e3
    refine .inr ⟨g, c, cur, rfl, hB, hg, by omega, hc, hs, ?_⟩
    rw [← ht, List.take_take, Nat.min_eq_left hmk]
theorem own_lt (h : w.ownsRow B e k (.slice (some ⟨g, 0, none⟩) n c) n xs) : B ≤ g ∧ g < w.heap.size ∧ n ≤ c ∧ c ≤ maxLen := by
  obtain ⟨h1, h2⟩ := h
  rcases h2 with ⟨hv, _⟩ | ⟨g', cap, cur, hv, hB, hg, hn, hc, hs, ht⟩
  · cases hv
  · injection hv with e1 e2 e3
    injection e1 with e1
    injection e1 with e1
    subst e1 e3
    exact ⟨hB, (Array.getElem?_eq_some_iff.1 hg).1, hn, hc⟩
theorem own_cell (h : w.ownsRow B e k (.slice (some ⟨g, 0, none⟩) n c) n xs) (j : Nat) (u : Value) (hj : xs[j]? = some u) : w.cell? ⟨g, j, none⟩ = some u := by
  have := h.cells (g := g) rfl j u hj
  rwa [addr_plus, Nat.zero_add] at this
theorem own_frozen (h : w.ownsRow B e k (.slice (some ⟨g, 0, none⟩) n c) n xs) (j : Nat) : w.frozen? ⟨g, j, none⟩ = false := by
  obtain ⟨h1, h2⟩ := h
  rcases h2 with ⟨hv, _⟩ | ⟨g', cap, cur, hv, hB, hg, hn, hc, hs, ht⟩
  · cases hv
  · injection hv with e1 e2 e3
    injection e1 with e1
    injection e1 with e1
    subst e1 e3
    unfold World.frozen?
    simp [hg]
end
section
variable {α : Type} {f : α → List Value} {k : Nat}
theorem rowV_set (hf : ∀ x, (f x).length = k) (hk : 0 < k) (l : List α) (i : Nat) (hi : i < l.length) (y : α) : setL (rowV f l) (i * k) (f y) = rowV f (l.set i y) := by
  apply List.ext_getElem?
  intro j
  have hb : i * k + k ≤ l.length * k := by rw [← Nat.succ_mul]; exact Nat.mul_le_mul_right k hi
  rw [setL_get _ _ _ _ (by rw [rowV_length f k hf, hf]; exact hb), hf]
  by_cases hj : j < l.length * k
  · have h1 : j / k < l.length := Nat.div_lt_of_lt_mul (by rw [Nat.mul_comm]; exact hj)
    have h2 : j % k < k := Nat.mod_lt _ hk
    have e : j / k * k + j % k = j := Nat.div_add_mod' j k
    have h3 := rowV_get f k hf l (j / k) h1 (j % k) h2
    have h4 := rowV_get f k hf (l.set i y) (j / k) (by rw [List.length_set]; exact h1) (j % k) h2
    rw [e] at h3 h4
    rw [h3, h4]
    by_cases hq : j / k = i
    · have a1 : i * k ≤ j := by rw [← hq]; omega
      have a2 : j < i * k + k := by rw [← hq]; omega
      rw [if_pos ⟨a1, a2⟩]
      have a3 : j - i * k = j % k := by rw [← hq]; omega
      rw [a3]
      subst hq
      rw [List.getElem_set_self]
    · rw [if_neg]
      · rw [List.getElem_set_ne (Ne.symm hq)]
      · rintro ⟨a1, a2⟩
        apply hq
        apply Nat.le_antisymm
        · apply Nat.le_of_lt_succ
          apply Nat.div_lt_of_lt_mul
          rw [Nat.mul_comm, Nat.succ_mul]; exact a2
        · exact (Nat.le_div_iff_mul_le hk).2 a1
  · rw [if_neg (by omega), List.getElem?_eq_none (by rw [rowV_length f k hf]; omega), List.getElem?_eq_none (by rw [rowV_length f k hf, List.length_set]; omega)]
theorem rowV_take (hf : ∀ x, (f x).length = k) : ∀ (l : List α) (m : Nat), (rowV f l).take (m * k) = rowV f (l.take m)
  | [], m => by simp [rowV]
  | x :: l, 0 => by simp [rowV]
  | x :: l, m + 1 => by
    have e1 : rowV f (x :: l) = f x ++ rowV f l := by simp [rowV]
    have e2 : rowV f ((x :: l).take (m + 1)) = f x ++ rowV f (l.take m) := by simp [rowV]
    rw [e1, e2, List.take_append, hf, List.take_of_length_le (by rw [hf, Nat.succ_mul]; omega), Nat.succ_mul, Nat.add_sub_cancel, rowV_take hf l m]
end
/-- What is behind the first ones is made zero. -/
theorem clear_own {P : Program} {t e : TypeId} {k : Nat} {z : Value} (ht : P.underlying t = some (.slice e)) (hv : ∀ w, (zeroValue e).run P w = .ok z w) (hz : z.cells.size = k) (h1 : ∀ v ∈ z.cells.toList, v.oneCell' = true) (hk : 0 < k)
    {w : World} {B g n c m c' : Nat} {xs : List Value} (ty : TypeId) (h : w.ownsRow B e k (.slice (some ⟨g, 0, none⟩) n c) n xs) (hm : m ≤ n) :
    ∃ w', (Builtin.clear_ #[t] ty #[.slice (some ⟨g, m * k, none⟩) (n - m) c']).run P w = .ok (.tuple #[]) w' ∧ w'.ownsRow B e k (.slice (some ⟨g, 0, none⟩) m c) m (xs.take (m * k)) ∧ w.grownBy w' (some g) := by
  by_cases hmn : n - m = 0
  · rw [hmn]
    refine ⟨w, ?_, own_cut h m hm, grown_refl _ _⟩
    simp [Builtin.clear_, run_underlying ht]
  · have hlen : (Builtin.zeroCells z.cells (n - m)).toList.length = (n - m) * k := by rw [Array.length_toList, size_zeroCells, hz]
    have hnk : m * k + (n - m) * k = n * k := by rw [← Nat.add_mul]; congr 1; omega
    have hxl := h.1
    have hst := run_storeCells_cells (P := P) g (m * k) (Builtin.zeroCells z.cells (n - m)).toList 0 w
      (fun j hj => by
        rw [hlen] at hj
        have hb : m * k + 0 + j < xs.length := by omega
        rw [own_cell h _ _ (List.getElem?_eq_getElem hb)]
        rfl)
      (fun j _ => own_frozen h _)
      (fun v hv' => by
        have hv2 : v ∈ Builtin.zeroCells z.cells (n - m) := by simpa using hv'
        unfold Builtin.zeroCells at hv2
        simp only [Array.mem_map, Array.mem_range] at hv2
        obtain ⟨i, hi, rfl⟩ := hv2
        have hlt : i % z.cells.size < z.cells.size := Nat.mod_lt _ (by omega)
        rw [getElem!_pos z.cells _ hlt]
        exact h1 _ (by simp))
    rw [Nat.add_zero] at hst
    obtain ⟨h2, h3⟩ := own_setCells (Builtin.zeroCells z.cells (n - m)).toList (m * k) h
    refine ⟨_, ?_, ?_, h3⟩
    · obtain ⟨q, hq⟩ : ∃ q, n - m = q + 1 := ⟨n - m - 1, by omega⟩
      rw [hq] at hst ⊢
      simp [Builtin.clear_, run_underlying ht, hv, hst]
    · have h4 := own_cut h2 m hm
      have e2 : (setL xs (m * k) (Builtin.zeroCells z.cells (n - m)).toList).take (m * k) = xs.take (m * k) := by
        apply List.ext_getElem?
        intro j
        by_cases hj : j < m * k
        · rw [List.getElem?_take_of_lt hj, List.getElem?_take_of_lt hj, setL_get _ _ _ _ (by rw [hlen, hxl]; omega), if_neg (by omega)]
        · rw [List.getElem?_eq_none (by rw [List.length_take]; omega), List.getElem?_eq_none (by rw [List.length_take]; omega)]
      rw [e2] at h4
      exact h4
/-- What an append turns: its row's block, if there is room; else a new one. -/
theorem append_block {P : Program} {t e : TypeId} {size bytes : Nat} (E : ElemT P t e size bytes) (w : World) (B : Nat) (ty : TypeId) (v : Value) (n : Nat) (xs : List Value) (hown : w.ownsRow B e size v n xs)
    (A : Option Addr) (m c : Nat) (ys : List Value) (hr : Rdv w A m size ys) (h1 : ∀ u ∈ ys, u.oneCell' = true) (hnil : A = none → c = 0) (hmx : n + m ≤ maxLen) (hby : (n + m) * bytes ≤ 140737488355328) (hbase : B ≤ w.heap.size) :
    ∃ v' w', (Builtin.append_ #[t, t] ty #[v, .slice A m c]).run P w = .ok v' w' ∧ w'.ownsRow B e size v' (n + m) (xs ++ ys) ∧ w.grownBy w' v.ownBlock ∧ ∀ q, v'.ownBlock = some q → v.ownBlock = some q ∨ w.heap.size ≤ q := by
  obtain ⟨ht, hinfo, ⟨i, z, hi, hz, hzs⟩, hpos⟩ := E
  rw [hi] at hinfo
  simp at hinfo
  obtain ⟨hl, hc⟩ := hr
  rcases A with _ | ad
  · have hm : m = 0 := by
      rcases Nat.eq_zero_or_pos m with h0 | h0
      · exact h0
      · obtain ⟨b, off, h2, _⟩ := hc h0; cases h2
    have hc0 := hnil rfl
    subst hm hc0
    have hy : ys = [] := List.eq_nil_of_length_eq_zero (by rw [hl]; simp)
    subst hy
    exact ⟨v, w, run_append_owned_none (P := P) (w := w) B t ty e i size ht hi v n xs hown, by rw [List.append_nil]; exact hown, grown_refl _ _, fun q hq => .inl hq⟩
  · have hcell : ∀ j u, ys[j]? = some u → w.cell? (ad.add j) = some u := fun j u hj => by
      have hm : 0 < m := by
        rcases Nat.eq_zero_or_pos m with h0 | h0
        · subst h0
          have : ys = [] := List.eq_nil_of_length_eq_zero (by rw [hl]; simp)
          subst this
          simp at hj
        · exact h0
      obtain ⟨b, off, h4, h5⟩ := hc hm
      injection h4 with h4
      subst h4
      rw [addr_plus]
      exact h5 j u hj
    obtain ⟨v', w', hrun, h2, h3, _⟩ := run_append_own (P := P) w B t ty e i z size bytes ht hi hz hinfo.1 hinfo.2 hzs hpos v n xs hown ad m c ys (by rw [hl]) hcell h1 hmx hby hbase
    refine ⟨v', w', hrun, h2, h3, fun q hq => ?_⟩
    rcases hown.2 with ⟨rfl, rfl⟩ | ⟨g, cap, cur, rfl, hbg, hg, hnc, hcm, hcs, htake⟩
    · have hx : xs = [] := List.eq_nil_of_length_eq_zero (by simpa using hown.1)
      subst hx
      obtain ⟨v2, w2, hrun2, h22, _, _⟩ := run_append_own (P := P) w w.heap.size t ty e i z size bytes ht hi hz hinfo.1 hinfo.2 hzs hpos (.slice none 0 0) 0 [] (World.ownsRow_nil _ _ _ _) ad m c ys (by rw [hl]) hcell h1 hmx hby (Nat.le_refl _)
      rw [hrun] at hrun2
      injection hrun2 with e1 e2
      subst e1 e2
      exact .inr (h22.lt q hq).1
    · by_cases hroom : n + m ≤ cap
      · have hr2 := run_append_room (P := P) w t ty e i ht hi g n cap cur hg ad m c ys (by rw [hl, hinfo.1]) hcell h1 hroom (by rw [hl, hinfo.1, hcs, ← Nat.add_mul]; exact Nat.mul_le_mul_right _ hroom)
        rw [hrun] at hr2
        injection hr2 with e1 e2
        subst e1
        exact .inl hq
      · have holds : ∀ j u, xs[j]? = some u → w.cell? ((⟨g, 0, none⟩ : Addr).add j) = some u := hown.cells (g := g) rfl
        have hr2 := run_append_grow (P := P) w t ty e i z ht hi hz ⟨g, 0, none⟩ n cap xs (by rw [hown.1, hinfo.1]) holds ad m c ys (by rw [hl, hinfo.1]) hcell (by omega) (by have := hmx; unfold maxLen at this; omega) (growslice_fits (by omega) (by rw [hinfo.2]; exact hby))
        rw [hrun] at hr2
        injection hr2 with e1 e2
        subst e1
        simp [Value.ownBlock] at hq
        exact .inr (by omega)
theorem wpList_append_rowg {P : Program} {t e : TypeId} {size bytes : Nat} (E : ElemT P t e size bytes) {w : World} {ops : Array Oper} {rest : List Oper} {o : Oper} {a : Act} {Q : Exit → Act → World → Prop} (hgd : o.guard = none) (s x : Operand)
    (ho : o.op = .call { callee := .builtin .append, args := #[s, x], argTypes := #[t, t] })
    (B : Nat) (v : Value) (n : Nat) (xs : List Value) (hs : a.eval s = v) (hown : w.ownsRow B e size v n xs)
    (A : Option Addr) (m c : Nat) (ys : List Value) (hx : a.eval x = .slice A m c) (hr : Rdv w A m size ys) (h1 : ∀ u ∈ ys, u.oneCell' = true) (hnil : A = none → c = 0)
    (hmx : n + m ≤ maxLen) (hby : (n + m) * bytes ≤ 140737488355328) (hbase : B ≤ w.heap.size)
    (h : ∀ v' w', w'.ownsRow B e size v' (n + m) (xs ++ ys) → w.grownBy w' v.ownBlock → (∀ q, v'.ownBlock = some q → v.ownBlock = some q ∨ w.heap.size ≤ q) → wpList P ops Q rest (a.put o.dst v') w') : wpList P ops Q (o :: rest) a w := by
  obtain ⟨v', w', hrun, h2, h3, h5⟩ := append_block E w B o.type v n xs hown A m c ys hr h1 hnil hmx hby hbase
  refine wpList_plain hgd fun K hK => ?_
  have h4 := h v' w' h2 h3 h5
  unfold Oper.wp
  simp [execOp, ho, resolve, invoke, builtin, hs, hx, hrun, Result.andThen]
  exact hK _ _ h4
end Go.Proofs.Ytejpjbmbcdgomaa

/- Items in memory; the binary search. -/
namespace Go.Proofs.Ytejpjbmbcdgomaa
set_option maxRecDepth 100000
open Go.RowKit

/-- A cell. -/
structure Cl where
  v : Int
  s : Int
  dead : Bool
abbrev Ix := It Cl
def Ix.vals (x : Ix) : List Value := [.int .i64 x.c.v, .int .i64 x.c.s, .bool x.c.dead, .int .i64 x.k]
theorem Ix.vlen (x : Ix) : x.vals.length = 4 := rfl
def cmpM (a b : Int) : Int := if a < b then -1 else if b < a then 1 else 0
set_option maxHeartbeats 1000000 in
theorem nan_any (a : Int) (w : World) : Calls Try.prog 126 #[.int .i64 a] w fun e w' => e = .returned (.bool false) ∧ w = w' := by
  have e0 : (a != a) = false := by simp
  go_enter Try.func126, Try.ntmps126
  go_wp2_with fail
  go_ret
  exact ⟨rfl, rfl⟩
set_option maxHeartbeats 1000000 in
theorem cmp_any (a b : Int) (w : World) : Calls Try.prog 115 #[.int .i64 a, .int .i64 b] w fun e w' => e = .returned (.int .i64 (cmpM a b)) ∧ w = w' := by
  have HN := Lib.hid fun (c : Int) => nan_any c w
  go_enter Try.func115, Try.ntmps115
  go_wp2_with fail
  refine Calls.mono (HN.out a) ?_
  rintro e w1 ⟨rfl, rfl⟩
  go_wp2_with fail
  refine Calls.mono (HN.out b) ?_
  rintro e w1 ⟨rfl, rfl⟩
  by_cases h1 : a < b
  · have HV := Lib.hid (show cmpM a b = -1 from by unfold cmpM; rw [if_pos h1])
    have d1 : decide (a < b) = true := decide_eq_true h1
    go_wp2_with fail
    go_ret
    exact ⟨by rw [HV.out]; rfl, rfl⟩
  · have d1 : decide (a < b) = false := decide_eq_false h1
    by_cases h2 : b < a
    · have HV := Lib.hid (show cmpM a b = 1 from by unfold cmpM; rw [if_neg h1, if_pos h2])
      have d2 : decide (b < a) = true := decide_eq_true h2
      go_wp2_with fail
      go_ret
      exact ⟨by rw [HV.out]; rfl, rfl⟩
    · have HV := Lib.hid (show cmpM a b = 0 from by unfold cmpM; rw [if_neg h1, if_neg h2])
      have d2 : decide (b < a) = false := decide_eq_false h2
      go_wp2_with fail
      go_ret
      exact ⟨by rw [HV.out]; rfl, rfl⟩
set_option maxHeartbeats 1000000 in
theorem find1_any (x : Ix) (k : Int) (w : World) : Calls Try.prog 122 #[.agg #[.int .i64 x.c.v, .int .i64 x.c.s, .bool x.c.dead, .int .i64 x.k], .int .i64 k] w fun e w' => e = .returned (.int .i64 (cmpM x.k k)) ∧ Below w.heap.size w w' := by
  have HB := Lib.hid (show Below w.heap.size w (w.alloc (.cells #[.int .i64 x.c.v, .int .i64 x.c.s, .bool x.c.dead, .int .i64 x.k] 166)) from (Below.refl _ _).alloc (Nat.le_refl _) _)
  go_enter Try.func122, Try.ntmps122
  go_wp2_with fail
  refine Calls.mono (cmp_any _ _ _) ?_
  rintro e w1 ⟨rfl, rfl⟩
  go_wp2_with fail
  go_ret
  exact ⟨rfl, HB.out⟩
theorem place_iff {α : Type} {l : List (It α)} (h : Up l) (k : Int) (j : Nat) (hj : j < l.length) : l[j].k < k ↔ j < place l k := by
  obtain ⟨h1, h2⟩ := place_take l k h
  constructor
  · intro e
    rcases Nat.lt_or_ge j (place l k) with h3 | h3
    · exact h3
    · have hm : l[j] ∈ l.drop (place l k) := by
        rw [List.mem_iff_getElem]
        refine ⟨j - place l k, by rw [List.length_drop]; omega, ?_⟩
        rw [List.getElem_drop]
        congr 1
        omega
      have := h2 _ hm
      omega
  · intro e
    refine h1 _ ?_
    rw [List.mem_iff_getElem]
    exact ⟨j, by rw [List.length_take]; omega, by rw [List.getElem_take]⟩
def foundB {α : Type} (l : List (It α)) (k : Int) : Bool := (foundAt l k).isSome
theorem cmpM_neg (a b : Int) : decide (cmpM a b < 0) = decide (a < b) := by
  unfold cmpM
  split
  · rename_i h; rw [decide_eq_true h]; rfl
  · rename_i h
    rw [decide_eq_false h]
    split <;> rfl
theorem cmpM_eq (a b : Int) : (cmpM a b == 0) = decide (a = b) := by
  unfold cmpM
  split
  · rw [decide_eq_false (by omega)]; rfl
  · split
    · rw [decide_eq_false (by omega)]; rfl
    · rw [decide_eq_true (by omega)]; rfl
abbrev Ixs (w : World) (A : Option Addr) (l : List Ix) : Prop := RowAt Ix.vals 4 w A l.length l
theorem Ixs.cell {w : World} {A : Option Addr} {l : List Ix} (h : Ixs w A l) (hn : 0 < l.length) : ∃ b off, A = some ⟨b, off, none⟩ ∧ ∀ q (hq : q < l.length), w.cell? ⟨b, off + q * 4, none⟩ = some (.int .i64 l[q].c.v) ∧ w.cell? ⟨b, off + q * 4 + 1, none⟩ = some (.int .i64 l[q].c.s) ∧ w.cell? ⟨b, off + q * 4 + 2, none⟩ = some (.bool l[q].c.dead) ∧ w.cell? ⟨b, off + q * 4 + 3, none⟩ = some (.int .i64 l[q].k) := by
  obtain ⟨b, off, e, hc⟩ := RowAt.cells h Ix.vlen hn
  exact ⟨b, off, e, fun q hq => ⟨hc q hq 0 _ (by omega) rfl, hc q hq 1 _ (by omega) rfl, hc q hq 2 _ (by omega) rfl, hc q hq 3 _ (by omega) rfl⟩⟩
set_option maxHeartbeats 4000000 in
theorem search_any (A : Option Addr) (c : Nat) (l : List Ix) (k : Int) (w : World) (h : Ixs w A l) (hl : l.length ≤ 1000000) (hu : Up l) :
    Calls Try.prog 121 #[.slice A l.length c, .int .i64 k, .func (.func 122) #[] #[]] w fun e w' => e = .returned (.tuple #[.int .i64 (place l k : Int), .bool (foundB l k)]) ∧ Below w.heap.size w w' := by
  have HH := Lib.hid h
  have HU := Lib.hid hu
  obtain ⟨n, hn⟩ : ∃ n, n = l.length := ⟨_, rfl⟩
  have HN := Lib.hid hn
  obtain ⟨p, hp⟩ : ∃ p, p = place l k := ⟨_, rfl⟩
  have HP := Lib.hid hp
  have hpn : p ≤ n := by rw [hp, hn]; exact place_le l k
  rw [← hn] at hl ⊢
  rw [← hp]
  clear h hu hn hp
  go_enter Try.func121, Try.ntmps121
  go_wp2_with fail
  go_loopw [9, 10] (fun i j wr => ∃ a b : Nat, i = .int .i64 (a : Int) ∧ j = .int .i64 (b : Int) ∧ a ≤ p ∧ p ≤ b ∧ b ≤ n ∧ Below w.heap.size w wr) (fun i j _ => (intOf j).toNat - (intOf i).toNat)
  case atStart => exact ⟨0, n, rfl, rfl, by omega, hpn, by omega, Below.refl _ _⟩
  case round =>
    obtain ⟨a, b, rfl, rfl, ha, hb, hbn, hbel⟩ := hrel
    have HB := Lib.hid hbel
    clear hbel
    by_cases hlt : a < b
    · obtain ⟨m, hm⟩ : ∃ m, m = (a + b) / 2 := ⟨_, rfl⟩
      have hmm : ((a : Int) + (b : Int)) / 2 = (m : Int) := by omega
      have hmn : m < n := by omega
      have hml : m < l.length := by rw [← HN.out]; exact hmn
      obtain ⟨bk, off, rfl, hc⟩ := Ixs.cell (RowAt.below HH.out HB.out) (by omega)
      obtain ⟨c0, c1, c2, c3⟩ := hc m hml
      have hpi := place_iff HU.out k m hml
      rw [← HP.out] at hpi
      obtain ⟨y, hy⟩ : ∃ y, y = l[m] := ⟨_, rfl⟩
      rw [← hy] at c0 c1 c2 c3 hpi
      have HPI := Lib.hid hpi
      have HMM := Lib.hid hmm
      have HM := Lib.hid hm
      clear hc hpi hy hmm hm
      go_upto_region 5 with fail
      rw [HMM.out]
      go_wp2_with fail
      refine Calls.mono (find1_any y k wr) ?_
      rintro e w1 ⟨rfl, b1⟩
      have HB1 := Lib.hid (HB.out.trans (b1.mono HB.out.size))
      have hcn := cmpM_neg y.k k
      obtain ⟨z, hz⟩ : ∃ z, z = cmpM y.k k := ⟨_, rfl⟩
      rw [← hz] at hcn ⊢
      clear hz b1 HB c0 c1 c2 c3
      by_cases hmp : m < p
      · have g : decide (z < 0) = true := by rw [hcn]; exact decide_eq_true (HPI.out.2 hmp)
        clear hcn
        go_wp2_with fail
        go_roundw
        case rel => exact ⟨m + 1, b, by go_num, rfl, by omega, hb, hbn, HB1.out⟩
        case measure => have := HM.out; simp [intOf]; omega
      · have g : decide (z < 0) = false := by rw [hcn]; exact decide_eq_false (fun e => hmp (HPI.out.1 e))
        clear hcn
        go_wp2_with fail
        go_roundw
        case rel => exact ⟨a, m, rfl, rfl, ha, by omega, by omega, HB1.out⟩
        case measure => have := HM.out; simp [intOf]; omega
    · obtain rfl : a = p := by omega
      by_cases hpl : a < n
      · have hal : a < l.length := by rw [← HN.out]; exact hpl
        obtain ⟨bk, off, rfl, hc⟩ := Ixs.cell (RowAt.below HH.out HB.out) (by omega)
        obtain ⟨c0, c1, c2, c3⟩ := hc a hal
        obtain ⟨y, hy⟩ : ∃ y, y = l[a] := ⟨_, rfl⟩
        have HF := Lib.hid (show foundB l k = decide (y.k = k) from by
          unfold foundB foundAt
          rw [← HP.out, List.getElem?_eq_getElem hal, ← hy]
          by_cases e : y.k = k
          · simp [e]
          · simp [e])
        rw [← hy] at c0 c1 c2 c3
        clear hc hy
        go_wp2_with fail
        refine Calls.mono (find1_any y k wr) ?_
        rintro e w1 ⟨rfl, b1⟩
        have HB1 := Lib.hid (HB.out.trans (b1.mono HB.out.size))
        have hce := cmpM_eq y.k k
        obtain ⟨z, hz⟩ : ∃ z, z = cmpM y.k k := ⟨_, rfl⟩
        rw [← hz] at hce ⊢
        rw [← HF.out] at hce
        clear hz b1 HB c0 c1 c2 c3
        go_wp2_with fail
        go_ret2
        exact ⟨rfl, HB1.out⟩
      · have HF := Lib.hid (show foundB l k = false from by
          unfold foundB foundAt
          rw [← HP.out, List.getElem?_eq_none (by rw [← HN.out]; omega)]
          rfl)
        go_wp2_with fail
        go_ret2
        exact ⟨by rw [HF.out]; rfl, HB.out⟩
end Go.Proofs.Ytejpjbmbcdgomaa
