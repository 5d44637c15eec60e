/- Rows of values and of bytes; the contracts of slices.Clone and num.Same. -/
import Derived.Test.YtiemjgkpjmncfaaRows
import Derived.WalkKit
import Derived.WalkLawsBesides
import Derived.WalkSpells
import Derived.Lib.Hide
import Derived.Outline
import Derived.Laws.Externs
import Derived.Maps.AppendAt
import Derived.Laws.AppendOwnNone
import Derived.Laws.OwnMore
import Derived.Laws.AppendOwn
import Derived.OwnWalk
import Derived.Deep.RegionLaw
import Derived.Lib.SmallJoins
import Derived.Lib.SliceRun
import Derived.Laws.BytesArg
import Derived.Lib.ConvBytes
import Derived.Deep.Heap
namespace Go.Proofs.Ytiemjgkpjmncfaa
set_option maxRecDepth 100000
open Go.RowKit

/-- A slice that reads as values. -/
def Rdv (w : World) (A : Option Addr) (n size : Nat) (ys : List Value) : Prop :=
  ys.length = n * size ∧ (0 < n → ∃ b off, A = some ⟨b, off, none⟩ ∧ ∀ j u, ys[j]? = some u → w.cell? ⟨b, off + j, none⟩ = some u)
theorem Rdv.ext {w w' : World} {A : Option Addr} {n size : Nat} {ys : List Value} (h : Rdv w A n size ys) (hs : ∀ p : Addr, p.block < w.heap.size → w'.cell? p = w.cell? p) : Rdv w' A n size ys :=
  ⟨h.1, fun hn => by
    obtain ⟨b, off, e, hc⟩ := h.2 hn
    exact ⟨b, off, e, fun j u hj => (hs _ (World.block_lt_of_cell? _ _ (hc j u hj))).trans (hc j u hj)⟩⟩
theorem addr_plus (b off j : Nat) : (⟨b, off, none⟩ : Addr).add j = ⟨b, off + j, none⟩ := by
  unfold Addr.add
  by_cases h : j = 0
  · subst h; simp
  · simp [h]
theorem rdv_own {w : World} {B e size n : Nat} {v : Value} {xs : List Value} (h : w.ownsRow B e size v n xs) : ∃ A c, v = .slice A n c ∧ Rdv w A n size xs ∧ (A = none → c = 0) ∧ n ≤ c := by
  rcases h.2 with ⟨rfl, h0⟩ | ⟨g, cap, cur, rfl, _, _, hle, _⟩
  · subst h0
    exact ⟨none, 0, rfl, ⟨h.1, fun hn => absurd hn (by omega)⟩, fun _ => rfl, Nat.le_refl _⟩
  · refine ⟨_, _, rfl, ⟨h.1, fun _ => ⟨g, 0, rfl, fun j u hj => ?_⟩⟩, (fun he => by cases he), hle⟩
    have hc := h.cells (g := g) rfl j u hj
    rw [addr_plus] at hc
    exact hc
/-- What is known of the element's type. -/
structure ElemT (P : Program) (t e : TypeId) (size bytes : Nat) : Prop where
  slice : P.underlying t = some (.slice e)
  info : (P.info? e).map (fun i => (i.size, i.bytes)) = some (size, bytes)
  zero : ∃ i z, P.info? e = some i ∧ i.zero = some z ∧ z.cells.size = size
  pos : 0 < size
theorem run_append_row {P : Program} {t e : TypeId} {size bytes : Nat} (E : ElemT P t e size bytes) (w : World) (B : Nat) (ty : TypeId) (v : Value) (n : Nat) (xs : List Value) (hown : w.ownsRow B e size v n xs)
    (A : Option Addr) (m c : Nat) (ys : List Value) (hr : Rdv w A m size ys) (h1 : ∀ u ∈ ys, u.oneCell' = true) (hnil : A = none → c = 0) (hmx : n + m ≤ maxLen) (hby : (n + m) * bytes ≤ 140737488355328) (hbase : B ≤ w.heap.size) :
    ∃ v' w', (Builtin.append_ #[t, t] ty #[v, .slice A m c]).run P w = .ok v' w' ∧ w'.ownsRow B e size v' (n + m) (xs ++ ys) ∧ w.grownBy w' v.ownBlock ∧ (v'.ownBlock = v.ownBlock ∨ v'.ownBlock = some w.heap.size) := by
  obtain ⟨ht, hinfo, ⟨i, z, hi, hz, hzs⟩, hpos⟩ := E
  rw [hi] at hinfo
  simp at hinfo
  obtain ⟨hl, hc⟩ := hr
  rcases A with _ | ad
  · have hm : m = 0 := by
      rcases Nat.eq_zero_or_pos m with h0 | h0
      · exact h0
      · obtain ⟨b, off, h2, _⟩ := hc h0; cases h2
    have hc0 := hnil rfl
    subst hm hc0
    have hy : ys = [] := List.eq_nil_of_length_eq_zero (by rw [hl]; simp)
    subst hy
    exact ⟨v, w, run_append_owned_none (P := P) (w := w) B t ty e i size ht hi v n xs hown, by rw [List.append_nil]; exact hown, ⟨rfl, rfl, rfl, Nat.le_refl _, fun _ _ _ => rfl⟩, .inl rfl⟩
  · obtain ⟨v', w', hrun, h2, h3, _, h4⟩ := run_append_own_at (P := P) w B t ty e i z size bytes ht hi hz hinfo.1 hinfo.2 hzs hpos v n xs hown ad m c ys (by rw [hl]) (fun j u hj => by
      have hm : 0 < m := by
        rcases Nat.eq_zero_or_pos m with h0 | h0
        · subst h0
          have : ys = [] := List.eq_nil_of_length_eq_zero (by rw [hl]; simp)
          subst this
          simp at hj
        · exact h0
      obtain ⟨b, off, h4, h5⟩ := hc hm
      injection h4 with h4
      subst h4
      rw [addr_plus]
      exact h5 j u hj) h1 hmx hby hbase
    exact ⟨v', w', hrun, h2, h3, h4⟩
theorem wpList_append_rowv {P : Program} {t e : TypeId} {size bytes : Nat} (E : ElemT P t e size bytes) {w : World} {ops : Array Oper} {rest : List Oper} {o : Oper} {a : Act} {Q : Exit → Act → World → Prop} (hgd : o.guard = none) (s x : Operand)
    (ho : o.op = .call { callee := .builtin .append, args := #[s, x], argTypes := #[t, t] })
    (B : Nat) (v : Value) (n : Nat) (xs : List Value) (hs : a.eval s = v) (hown : w.ownsRow B e size v n xs)
    (A : Option Addr) (m c : Nat) (ys : List Value) (hx : a.eval x = .slice A m c) (hr : Rdv w A m size ys) (h1 : ∀ u ∈ ys, u.oneCell' = true) (hnil : A = none → c = 0)
    (hmx : n + m ≤ maxLen) (hby : (n + m) * bytes ≤ 140737488355328) (hbase : B ≤ w.heap.size)
    (h : ∀ v' w', w'.ownsRow B e size v' (n + m) (xs ++ ys) → w.grownBy w' v.ownBlock → (v'.ownBlock = v.ownBlock ∨ v'.ownBlock = some w.heap.size) → wpList P ops Q rest (a.put o.dst v') w') : wpList P ops Q (o :: rest) a w := by
  obtain ⟨v', w', hrun, h2, h3, h3'⟩ := run_append_row E w B o.type v n xs hown A m c ys hr h1 hnil hmx hby hbase
  refine wpList_plain hgd fun K hK => ?_
  have h4 := h v' w' h2 h3 h3'
  unfold Oper.wp
  simp [execOp, ho, resolve, invoke, builtin, hs, hx, hrun, Result.andThen]
  exact hK _ _ h4
theorem step_append_rowv {P : Program} {t e : TypeId} {size bytes : Nat} (E : ElemT P t e size bytes) {w : World} {ops : Array Oper} {o : Oper} {a : Act} {K : Act → World → Prop} {Q : Exit → Act → World → Prop} {F : Prop}
    (hw : Region.wanted o (yielded ops a.tmps) = true) (s x : Operand)
    (ho : o.op = .call { callee := .builtin .append, args := #[s, x], argTypes := #[t, t] })
    (B : Nat) (v : Value) (n : Nat) (xs : List Value) (hs : a.eval s = v) (hown : w.ownsRow B e size v n xs)
    (A : Option Addr) (m c : Nat) (ys : List Value) (hx : a.eval x = .slice A m c) (hr : Rdv w A m size ys) (h1 : ∀ u ∈ ys, u.oneCell' = true) (hnil : A = none → c = 0)
    (hmx : n + m ≤ maxLen) (hby : (n + m) * bytes ≤ 140737488355328) (hbase : B ≤ w.heap.size)
    (h : ∀ v' w', w'.ownsRow B e size v' (n + m) (xs ++ ys) → w.grownBy w' v.ownBlock → (v'.ownBlock = v.ownBlock ∨ v'.ownBlock = some w.heap.size) → K (a.put o.dst v') w') : if Region.wanted o (yielded ops a.tmps) = true then Oper.wp P o a w K Q else F := by
  rw [if_pos hw]
  obtain ⟨v', w', hrun, h2, h3, h3'⟩ := run_append_row E w B o.type v n xs hown A m c ys hr h1 hnil hmx hby hbase
  have h4 := h v' w' h2 h3 h3'
  unfold Oper.wp
  simp [execOp, ho, resolve, invoke, builtin, hs, hx, hrun, Result.andThen]
  exact h4
theorem own_empty (w : World) (B e size : Nat) (t : TypeId) (ht : t = e) (hB : B ≤ w.heap.size) : (w.alloc (.cells #[] t)).ownsRow B e size (.slice (some ⟨w.heap.size, 0, none⟩) 0 0) 0 [] := by
  subst ht
  exact ⟨by simp, .inr ⟨w.heap.size, 0, #[], rfl, hB, heap_alloc_new w _, Nat.le_refl _, by decide, by simp, by simp⟩⟩
theorem elemB : ElemT Try.prog 45 5 1 1 :=
  ⟨Try.underlying45, by kernel_rfl, by
    obtain ⟨i, hi, hz, h1, _⟩ := info_parts (show (Try.prog.info? 5).map (fun i => (i.zero, i.size, i.bytes)) = some (some (.int .u8 0), 1, 1) by kernel_rfl)
    exact ⟨i, _, hi, hz, rfl⟩, by decide⟩
def valsB (xs : List Nat) : List Value := xs.map fun (x : Nat) => Value.int .u8 (x : Int)
theorem valsB_one (xs : List Nat) : ∀ u ∈ valsB xs, u.oneCell' = true := by
  intro u hu
  simp only [valsB, List.mem_map] at hu
  obtain ⟨x, _, rfl⟩ := hu
  rfl
theorem valsB_length (xs : List Nat) : (valsB xs).length = xs.length := by simp [valsB]
theorem valsB_append (xs ys : List Nat) : valsB (xs ++ ys) = valsB xs ++ valsB ys := by simp [valsB]
theorem valsB_get (xs : List Nat) (j : Nat) : (valsB xs)[j]? = (xs[j]?).map fun (x : Nat) => Value.int .u8 (x : Int) := by simp [valsB]
theorem ret_bool {a b : Bool} (h : a = b) : Ending.returned (.bool a) = .returned (.bool b) := by rw [h]
/-- Nothing but a block and a row is changed, and what is new. -/
structure Touch (w w' : World) (g : Nat) (r : Option Nat) : Prop where
  os : w'.os = w.os
  tape : w'.tape = w.tape
  output : w'.output = w.output
  size : w.heap.size ≤ w'.heap.size
  block : ∀ k, k < w.heap.size → k ≠ g → r ≠ some k → w'.heap[k]? = w.heap[k]?
/-- A row of bytes of one's own. -/
def OwnB (w : World) (B : Nat) (v : Value) (xs : List Nat) : Prop := w.ownsRow B 5 1 v xs.length (valsB xs)
theorem ownB_of {w : World} {B n : Nat} {v : Value} {xs : List Nat} (h : w.ownsRow B 5 1 v n (valsB xs)) (hn : n = xs.length) : OwnB w B v xs := by subst hn; exact h
theorem OwnB.rdv {w : World} {B : Nat} {v : Value} {xs : List Nat} (h : OwnB w B v xs) : ∃ A c, v = .slice A xs.length c ∧ Rdv w A xs.length 1 (valsB xs) ∧ (A = none → c = 0) ∧ xs.length ≤ c := rdv_own h
theorem wpList_appB {w : World} {ops : Array Oper} {rest : List Oper} {o : Oper} {a : Act} {Q : Exit → Act → World → Prop} (hgd : o.guard = none) (s x : Operand)
    (ho : o.op = .call { callee := .builtin .append, args := #[s, x], argTypes := #[45, 45] })
    (B : Nat) (v : Value) (xs : List Nat) (hs : a.eval s = v) (hown : OwnB w B v xs)
    (A : Option Addr) (m c : Nat) (ys : List Nat) (hx : a.eval x = .slice A m c) (hr : Rdv w A m 1 (valsB ys)) (hnil : A = none → c = 0)
    (hmx : xs.length + m ≤ 17592186044416) (hbase : B ≤ w.heap.size)
    (h : ∀ v' w', OwnB w' B v' (xs ++ ys) → Below B w w' → Touch w w' w'.heap.size v.ownBlock → (v'.ownBlock = v.ownBlock ∨ v'.ownBlock = some w.heap.size) → wpList Try.prog ops Q rest (a.put o.dst v') w') : wpList Try.prog ops Q (o :: rest) a w := by
  refine wpList_append_rowv elemB hgd s x ho B v xs.length (valsB xs) hs hown A m c (valsB ys) hx hr (valsB_one _) hnil (by unfold maxLen; omega) (by omega) hbase fun v' w' h1 h2 h3 => h v' w' ?_ ?_ ?_ h3
  · have hl : ys.length = m := by have := hr.1; rw [valsB_length] at this; omega
    rw [← valsB_append] at h1
    exact ownB_of h1 (by rw [List.length_append, hl])
  · exact (Below.refl B w).grown h2 hbase (fun k hk => (hown.lt k hk).1)
  · exact ⟨h2.os, h2.tape, h2.output, h2.size, fun k hk _ hr => h2.block k hk (fun e => hr e.symm)⟩
def Fits (z : Int) : Prop := -9223372036854775808 ≤ z ∧ z ≤ 9223372036854775807
theorem stays_b {w w' : World} (h : Below w.heap.size w w') : ∀ p : Addr, p.block < w.heap.size → w'.cell? p = w.cell? p := fun _ hp => h.cell hp
theorem run_append_empty {P : Program} {t e : TypeId} {size bytes : Nat} (E : ElemT P t e size bytes) (w : World) (ty : TypeId) (p : Addr)
    (A : Option Addr) (m c : Nat) (ys : List Value) (hr : Rdv w A m size ys) (hnil : A = none → c = 0) (hmx : m ≤ maxLen) (hby : m * bytes ≤ 140737488355328) :
    ∃ A' c' w', (Builtin.append_ #[t, t] ty #[.slice (some p) 0 0, .slice A m c]).run P w = .ok (.slice A' m c') w' ∧ Rdv w' A' m size ys ∧ ((A' = some p ∧ m = 0) ∨ (A' = some ⟨w.heap.size, 0, none⟩ ∧ w.heap.size < w'.heap.size ∧ ∃ cs, w'.heap[w.heap.size]? = some (.cells cs e (0, 0)))) ∧ m ≤ c' ∧ Below w.heap.size w w' := by
  obtain ⟨ht, hinfo, ⟨i, z, hi, hz, hzs⟩, hpos⟩ := E
  rw [hi] at hinfo
  simp at hinfo
  obtain ⟨hl, hc⟩ := hr
  by_cases hm : m = 0
  · subst hm
    have hy : ys = [] := List.eq_nil_of_length_eq_zero (by rw [hl]; simp)
    subst hy
    refine ⟨some p, 0, w, ?_, ⟨by simp, fun h => absurd h (by omega)⟩, .inl ⟨rfl, rfl⟩, Nat.le_refl _, Below.refl _ _⟩
    rcases A with _ | ad
    · simp [Builtin.append_, run_underlying ht, sizeOf, typeInfo, hi, Builtin.lenOf, Builtin.firstCells, loadCells, loadCellsFrom, storeCells, hnil rfl]
    · simp [Builtin.append_, run_underlying ht, sizeOf, typeInfo, hi, Builtin.lenOf, Builtin.firstCells, loadCells, loadCellsFrom, storeCells]
  · obtain ⟨b, off, rfl, h5⟩ := hc (by omega)
    have hnews : ∀ j u, ys[j]? = some u → w.cell? ((⟨b, off, none⟩ : Addr).add j) = some u := fun j u hj => by rw [addr_plus]; exact h5 j u hj
    have hrun := run_append_grow (P := P) w t ty e i z ht hi hz p 0 0 [] (by simp) (fun j u hj => by simp at hj) ⟨b, off, none⟩ m c ys (by rw [hl, hinfo.1]) hnews (by omega) (by unfold maxLen at hmx; omega) (growslice_fits (by unfold maxLen at hmx; omega) (by rw [hinfo.2, Nat.zero_add]; exact hby))
    rw [Nat.zero_add] at hrun
    refine ⟨_, _, _, hrun, ⟨hl, fun _ => ⟨_, _, rfl, fun j u hj => ?_⟩⟩, .inr ⟨rfl, ?_, _, heap_alloc_new w.drew _⟩, ?_, ?_⟩
    · have hg : (w.drew.alloc (.cells (#[] ++ ys.toArray ++ Builtin.zeroCells z.cells (grownCap w m 0 e - m)) e)).heap[w.heap.size]? = some (.cells (#[] ++ ys.toArray ++ Builtin.zeroCells z.cells (grownCap w m 0 e - m)) e (0, 0)) := heap_alloc_new w.drew _
      rw [Nat.zero_add, cell_of_row _ _ j _ e (0, 0) hg]
      have hlt : j < ys.length := by
        rcases Nat.lt_or_ge j ys.length with h' | h'
        · exact h'
        · rw [List.getElem?_eq_none h'] at hj; cases hj
      have e1 : #[] ++ ys.toArray = ys.toArray := by simp
      rw [e1, Array.getElem?_append_left (by simpa using hlt)]
      simpa using hj
    · rw [World.size_alloc]; exact Nat.lt_succ_self _
    · have := grownCap_ge w m 0 e; omega
    · exact ((Below.refl _ w).drew).alloc (Nat.le_refl _) _
theorem step_append_empty {P : Program} {t e : TypeId} {size bytes : Nat} (E : ElemT P t e size bytes) {w : World} {ops : Array Oper} {o : Oper} {a : Act} {K : Act → World → Prop} {Q : Exit → Act → World → Prop} {F : Prop}
    (hw : Region.wanted o (yielded ops a.tmps) = true) (s x : Operand)
    (ho : o.op = .call { callee := .builtin .append, args := #[s, x], argTypes := #[t, t] })
    (p : Addr) (hs : a.eval s = .slice (some p) 0 0)
    (A : Option Addr) (m c : Nat) (ys : List Value) (hx : a.eval x = .slice A m c) (hr : Rdv w A m size ys) (hnil : A = none → c = 0) (hmx : m ≤ maxLen) (hby : m * bytes ≤ 140737488355328)
    (h : ∀ A' c' w', Rdv w' A' m size ys → ((A' = some p ∧ m = 0) ∨ (A' = some ⟨w.heap.size, 0, none⟩ ∧ w.heap.size < w'.heap.size ∧ ∃ cs, w'.heap[w.heap.size]? = some (.cells cs e (0, 0)))) → m ≤ c' → Below w.heap.size w w' → K (a.put o.dst (.slice A' m c')) w') : if Region.wanted o (yielded ops a.tmps) = true then Oper.wp P o a w K Q else F := by
  rw [if_pos hw]
  obtain ⟨A', c', w', hrun, h2, h3, h4, h5⟩ := run_append_empty E w o.type p A m c ys hr hnil hmx hby
  have h6 := h A' c' w' h2 h3 h4 h5
  unfold Oper.wp
  simp [execOp, ho, resolve, invoke, builtin, hs, hx, hrun, Result.andThen]
  exact h6
theorem wpList_append_empty {P : Program} {t e : TypeId} {size bytes : Nat} (E : ElemT P t e size bytes) {w : World} {ops : Array Oper} {rest : List Oper} {o : Oper} {a : Act} {Q : Exit → Act → World → Prop} (hgd : o.guard = none) (s x : Operand)
    (ho : o.op = .call { callee := .builtin .append, args := #[s, x], argTypes := #[t, t] })
    (p : Addr) (hs : a.eval s = .slice (some p) 0 0)
    (A : Option Addr) (m c : Nat) (ys : List Value) (hx : a.eval x = .slice A m c) (hr : Rdv w A m size ys) (hnil : A = none → c = 0) (hmx : m ≤ maxLen) (hby : m * bytes ≤ 140737488355328)
    (h : ∀ A' c' w', Rdv w' A' m size ys → ((A' = some p ∧ m = 0) ∨ (A' = some ⟨w.heap.size, 0, none⟩ ∧ w.heap.size < w'.heap.size ∧ ∃ cs, w'.heap[w.heap.size]? = some (.cells cs e (0, 0)))) → m ≤ c' → Below w.heap.size w w' → wpList P ops Q rest (a.put o.dst (.slice A' m c')) w') : wpList P ops Q (o :: rest) a w := by
  obtain ⟨A', c', w', hrun, h2, h3, h4, h5⟩ := run_append_empty E w o.type p A m c ys hr hnil hmx hby
  refine wpList_plain hgd fun K hK => ?_
  have h6 := h A' c' w' h2 h3 h4 h5
  unfold Oper.wp
  simp [execOp, ho, resolve, invoke, builtin, hs, hx, hrun, Result.andThen]
  exact hK _ _ h6
theorem eql_nil (w : World) (a : Option Addr) (n c : Nat) (b : Bool) (hb : a.isNone = b) : Sem.run Try.prog (binOp .eql 45 (.slice a n c) (.slice none 0 0)) w = .ok (.bool b) w := by
  rw [← hb]
  exact Go.Lib.run_eql_slice_nil w 45 5 a n c 0 0 Try.underlying45
/-- Where a new slice lies. -/
def NewAt (w w' : World) (A : Option Addr) (n c : Nat) : Prop := (A = none ∧ n = 0 ∧ c = 0) ∨ ∃ b, A = some ⟨b, 0, none⟩ ∧ w.heap.size ≤ b ∧ b < w'.heap.size ∧ n ≤ c ∧ (0 < n → ∃ cs, w'.heap[b]? = some (.cells cs 5 (0, 0)))
set_option maxHeartbeats 400000 in
theorem clone_any (A : Option Addr) (n c : Nat) (ys : List Nat) (w : World) (hr : Rdv w A n 1 (valsB ys)) (hnil : A = none → c = 0 ∧ n = 0) (hn : n ≤ 140737488355328) :
    Calls Try.prog 64 #[.slice A n c] w fun e w' => ∃ v, e = .returned v ∧ ∃ A' c', v = .slice A' n c' ∧ Rdv w' A' n 1 (valsB ys) ∧ NewAt w w' A' n c' ∧ Below w.heap.size w w' := by
  rcases A with _ | p
  · obtain ⟨rfl, rfl⟩ := hnil rfl
    have HR := Lib.hid hr
    have e1 := eql_nil w none 0 0 true rfl
    clear hr
    go_enter Try.func64, Try.ntmps64
    go_wp2_with fail
    go_ret
    exact ⟨_, rfl, none, 0, rfl, HR.out, .inl ⟨rfl, rfl, rfl⟩, Below.refl _ _⟩
  · have hb : Below w.heap.size w (w.alloc (.cells #[] 5)) := (Below.refl _ w).alloc (Nat.le_refl _) _
    have HR := Lib.hid (hr.ext (stays_b hb))
    have HB := Lib.hid hb
    have e1 := eql_nil w (some p) n c false rfl
    clear hr hb
    go_enter Try.func64, Try.ntmps64
    go_wp2_with (at_builtin; refine wpList_append_empty elemB rfl (.tmp 5) (.tmp 6) rfl ⟨w.heap.size, 0, none⟩ rfl (some p) n c (valsB ys) rfl HR.out (fun h => by cases h) (by unfold maxLen; omega) (by omega) ?_; intro A' c' w' h1 h2 h3 h4)
    have HE := Lib.hid (HB.out.trans (h4.mono HB.out.size))
    have hsz := h4.size
    rw [World.size_alloc] at h2 hsz
    have hN : NewAt w w' A' n c' := .inr (by
      rcases h2 with ⟨h2, h0⟩ | ⟨h2, h5, h6⟩
      · exact ⟨w.heap.size, h2, Nat.le_refl _, hsz, h3, fun h => absurd h (by omega)⟩
      · exact ⟨w.heap.size + 1, h2, Nat.le_succ _, h5, h3, fun _ => h6⟩)
    have HN := Lib.hid hN
    clear hN
    have H1 := Lib.hid h1
    clear h1 h4 h2 hsz
    go_wp2_with fail
    go_ret
    exact ⟨_, rfl, A', c', rfl, H1.out, HN.out, HE.out⟩
/-- What string(b) is. -/
def strN (xs : List Nat) : ByteArray := strOfNums (xs.map fun (x : Nat) => (x : Int))
theorem strN_size (xs : List Nat) : (strN xs).size = xs.length := by simp [strN, strOfNums_size]
theorem strN_data (xs : List Nat) : (strN xs).data.toList = xs.map UInt8.ofNat := by
  unfold strN
  rw [strOfNums_data, List.map_map]
  exact List.map_congr_left fun x _ => by simp
theorem strN_toList (xs : List Nat) : (strN xs).toList = xs.map UInt8.ofNat := by rw [ByteArray.toList_eq, strN_data]
theorem map_byte_inj : ∀ (xs ys : List Nat), (∀ x ∈ xs, x < 256) → (∀ x ∈ ys, x < 256) → xs.map UInt8.ofNat = ys.map UInt8.ofNat → xs = ys
  | [], [], _, _, _ => rfl
  | [], _ :: _, _, _, h => by simp at h
  | _ :: _, [], _, _, h => by simp at h
  | x :: xs, y :: ys, hx, hy, h => by
    simp only [List.map_cons, List.cons.injEq] at h
    have e1 := congrArg UInt8.toNat h.1
    rw [UInt8.toNat_ofNat', UInt8.toNat_ofNat'] at e1
    have h1 := hx x (List.mem_cons_self ..)
    have h2 := hy y (List.mem_cons_self ..)
    rw [map_byte_inj xs ys (fun a ha => hx a (List.mem_cons_of_mem _ ha)) (fun a ha => hy a (List.mem_cons_of_mem _ ha)) h.2]
    congr 1
    omega
theorem strN_beq (xs ys : List Nat) (hx : ∀ x ∈ xs, x < 256) (hy : ∀ x ∈ ys, x < 256) : ((strN xs).toList == (strN ys).toList) = decide (xs = ys) := by
  rw [strN_toList, strN_toList]
  by_cases h : xs = ys
  · subst h; simp
  · rw [decide_eq_false h]
    exact beq_eq_false_iff_ne.2 fun he => h (map_byte_inj xs ys hx hy he)
theorem run_str (w : World) (A : Option Addr) (n c : Nat) (xs : List Nat) (h : Rdv w A n 1 (valsB xs)) : (convert 45 9 (.slice A n c)).run Try.prog w = .ok (.string (strN xs)) w := by
  obtain ⟨hl, hc⟩ := h
  rw [valsB_length, Nat.mul_one] at hl
  rcases Nat.eq_zero_or_pos n with h0 | h0
  · subst h0
    obtain rfl : xs = [] := List.eq_nil_of_length_eq_zero hl
    rw [run_convert_bytes_string w 45 9 5 _ 0 c Try.underlying45 Try.underlying5 Try.underlying9]
    rcases A with _ | ad
    · rfl
    · rw [run_bytesToString w ad 0 c [] (by simpa using run_loadCells_list (P := Try.prog) w ad [] (fun j v hj => by simp at hj))]
      rfl
  · obtain ⟨b, off, rfl, hc'⟩ := hc h0
    exact run_convert_bytes_arg w 45 5 Try.underlying45 Try.underlying5 b off n c (xs.map fun (x : Nat) => (x : Int)) (by simp [hl]) (fun i hi => by
      rw [hc' i _ (show (valsB xs)[i]? = some (.int .u8 ((xs.getD i 0 : Nat) : Int)) by rw [valsB_get]; simp [List.getD_eq_getElem?_getD, show i < xs.length by omega])]
      simp [List.getD_eq_getElem?_getD, show i < xs.length by omega]) 9 Try.underlying9
set_option maxHeartbeats 400000 in
theorem same_any (A A' : Option Addr) (n c n' c' : Nat) (xs ys : List Nat) (w : World) (h1 : Rdv w A n 1 (valsB xs)) (h2 : Rdv w A' n' 1 (valsB ys)) (hx : ∀ x ∈ xs, x < 256) (hy : ∀ x ∈ ys, x < 256) :
    Calls Try.prog 42 #[.slice A n c, .slice A' n' c'] w fun e w' => e = .returned (.bool (decide (xs = ys))) ∧ w = w' := by
  have e1 := run_str w A n c xs h1
  have e2 := run_str w A' n' c' ys h2
  have e3 := strN_beq xs ys hx hy
  obtain ⟨s, hs⟩ : ∃ s, s = strN xs := ⟨_, rfl⟩
  obtain ⟨t, ht⟩ : ∃ t, t = strN ys := ⟨_, rfl⟩
  rw [← hs] at e1 e3
  rw [← ht] at e2 e3
  have H3 := Lib.hid e3
  clear h1 h2 hs ht e3
  go_enter Try.func42, Try.ntmps42
  go_wp2_with fail
  go_ret
  exact ⟨ret_bool H3.out, rfl⟩
end Go.Proofs.Ytiemjgkpjmncfaa
