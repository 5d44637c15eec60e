/- Rows of bytes that are marked and appended to: what num.Apart does to them. -/
import Derived.Test.YtiemjgkpjmncfaaApp1
namespace Go.Proofs.Ytiemjgkpjmncfaa
set_option maxRecDepth 100000
open Go.RowKit

/-- The mark of a row's place. -/
def mrk (k j : Nat) : Nat := (31 * k + 3 * j + 1) % 256
def marks (k m : Nat) : List Nat := (List.range m).map (mrk k)
theorem marks_length (k m : Nat) : (marks k m).length = m := by simp [marks]
theorem marks_succ (k m : Nat) : marks k (m + 1) = marks k m ++ [mrk k m] := by simp [marks, List.range_succ]
theorem marks_get (k m j : Nat) (h : j < m) : (marks k m)[j]? = some (mrk k j) := by simp [marks, h]
theorem marks_getD (k m j : Nat) (h : j < m) : (marks k m).getD j 0 = mrk k j := by rw [List.getD_eq_getElem?_getD, marks_get k m j h]; rfl
theorem marks_take (k m n : Nat) (h : m ≤ n) : (marks k n).take m = marks k m := by
  unfold marks
  rw [← List.map_take, List.take_range, Nat.min_eq_left h]
theorem mrk_wrap (k j : Nat) : IntKind.u8.wrap (31 * (k : Int) + 3 * (j : Int) + 1) = ((mrk k j : Nat) : Int) := by
  rw [IntKind.wrap_u8]; unfold mrk; omega
theorem mrk_lt (k j : Nat) : mrk k j < 256 := by unfold mrk; omega
theorem eq_marks (k n : Nat) (f : List Nat) (hl : f.length = n) (h : ∀ m, m < n → f[m]? = some (mrk k m)) : f = marks k n := by
  apply List.ext_getElem?
  intro i
  by_cases hi : i < n
  · rw [h i hi, marks_get k n i hi]
  · rw [List.getElem?_eq_none (by omega), List.getElem?_eq_none (by rw [marks_length]; omega)]

/-- The block of a slice's row. -/
def At (A : Option Addr) (g : Nat) : Prop := A = some ⟨g, 0, none⟩
/-- A slice of one's own. -/
def Og (w : World) (A : Option Addr) (n c : Nat) (xs : List Nat) : Prop := w.ownsRow 0 5 1 (.slice A n c) n (valsB xs)
theorem Og.len {w : World} {A : Option Addr} {n c : Nat} {xs : List Nat} (h : Og w A n c xs) : xs.length = n := by
  have := h.1
  rw [valsB_length] at this
  omega
theorem Og.kind {w : World} {A : Option Addr} {n c : Nat} {xs : List Nat} (h : Og w A n c xs) : (A = none ∧ n = 0 ∧ c = 0) ∨ ∃ g, A = some ⟨g, 0, none⟩ ∧ Ow w 0 g n c xs := by
  have h0 := h
  rcases h.2 with ⟨h1, h2⟩ | ⟨g, cap, cur, h1, _⟩
  · injection h1 with h3 _ h4
    exact .inl ⟨h3, h2, h4⟩
  · injection h1 with h3 _ h4
    subst h3
    exact .inr ⟨g, rfl, h0⟩
theorem Og.pos {w : World} {A : Option Addr} {n c : Nat} {xs : List Nat} (h : Og w A n c xs) (hn : 0 < n) : ∃ g, A = some ⟨g, 0, none⟩ ∧ Ow w 0 g n c xs := by
  rcases h.kind with ⟨_, h1, _⟩ | h1
  · omega
  · exact h1
theorem Og.rdv {w : World} {A : Option Addr} {n c : Nat} {xs : List Nat} (h : Og w A n c xs) : Rdv w A n 1 (valsB xs) := by
  obtain ⟨A', c', e, h1, _⟩ := rdv_own h
  injection e with e1 _ _
  subst e1
  exact h1
theorem Og.lt {w : World} {g n c : Nat} {xs : List Nat} (h : Og w (some ⟨g, 0, none⟩) n c xs) : g < w.heap.size := Ow.lt (c := c) h
theorem Og.stays {w w' : World} {A : Option Addr} {n c : Nat} {xs : List Nat} (h : Og w A n c xs) (hb : ∀ g, A = some ⟨g, 0, none⟩ → w'.heap[g]? = w.heap[g]?) : Og w' A n c xs := by
  rcases h.kind with ⟨rfl, rfl, rfl⟩ | ⟨g, rfl, h1⟩
  · have := h.len
    obtain rfl := List.eq_nil_of_length_eq_zero this
    exact World.ownsRow_nil _ _ _ _
  · exact Ow.stays h1 (hb g rfl)
/-- What an append of a byte comes to. -/
def Apn (w w' : World) (A : Option Addr) (n : Nat) (xs : List Nat) (y g' c' : Nat) : Prop :=
  Og w' (some ⟨g', 0, none⟩) (n + 1) c' (xs ++ [y]) ∧ w.heap.size ≤ w'.heap.size ∧ ((A = some ⟨g', 0, none⟩ ∧ ∀ b, b < w.heap.size → b ≠ g' → w'.heap[b]? = w.heap[b]?) ∨ (g' = w.heap.size ∧ ∀ b, b < w.heap.size → w'.heap[b]? = w.heap[b]?)) ∧ ∀ B, B ≤ w.heap.size → (∀ g, A = some ⟨g, 0, none⟩ → B ≤ g) → Below B w w'
theorem run_apn {w : World} {A : Option Addr} {n c : Nat} {xs : List Nat} (h : Og w A n c xs) (ty : TypeId) (q y c2 : Nat) (hq : Rdv w (some ⟨q, 0, none⟩) 1 1 (valsB [y])) (hn : n ≤ 1000000) :
    ∃ g' c' w', (Builtin.append_ #[45, 45] ty #[.slice A n c, .slice (some ⟨q, 0, none⟩) 1 c2]).run Try.prog w = .ok (.slice (some ⟨g', 0, none⟩) (n + 1) c') w' ∧ Apn w w' A n xs y g' c' := by
  rcases h.kind with ⟨rfl, rfl, rfl⟩ | ⟨g, rfl, h1⟩
  · obtain ⟨v', w', hrun, h1, h2, h3⟩ := run_append_row elemB w 0 ty (.slice none 0 0) 0 (valsB xs) h (some ⟨q, 0, none⟩) 1 c2 (valsB [y]) hq (valsB_one _) (fun h => by cases h) (by decide) (by decide) (Nat.zero_le _)
    rcases h1.2 with ⟨_, h4⟩ | ⟨g', c', cur, rfl, _⟩
    · omega
    · have hg : g' = w.heap.size := by
        rcases h3 with h3 | h3
        · cases h3
        · injection h3
      refine ⟨g', c', w', hrun, ?_, h2.size, .inr ⟨hg, fun b hb => h2.block b hb (fun e => by cases e)⟩, fun B hB _ => (Below.refl B w).grown h2 hB (fun k hk => by cases hk)⟩
      unfold Og
      rw [valsB_append]
      exact h1
  · obtain ⟨g', c', w', hrun, h2, h3⟩ := run_append_one h1 ty q y c2 hq hn (Nat.zero_le _)
    refine ⟨g', c', w', hrun, h2, ?_⟩
    rcases h3 with ⟨rfl, _, h4⟩ | ⟨h4, h5⟩
    · exact ⟨h4.size, .inl ⟨rfl, fun b hb hne => h4.block b hb (fun e => by cases e; exact hne rfl)⟩, fun B hB hg => (Below.refl B w).grown h4 hB (fun k hk => by cases hk; exact hg _ rfl)⟩
    · exact ⟨h5.size, .inr ⟨h4, fun b hb => h5.block b hb⟩, fun B hB _ => h5.mono hB⟩
theorem wpList_apn {w : World} {ops : Array Oper} {rest : List Oper} {o : Oper} {a : Act} {Q : Exit → Act → World → Prop} (hgd : o.guard = none) (s x : Operand)
    (ho : o.op = .call { callee := .builtin .append, args := #[s, x], argTypes := #[45, 45] })
    (A : Option Addr) (n c : Nat) (xs : List Nat) (hs : a.eval s = .slice A n c) (h : Og w A n c xs) (q y c2 : Nat) (hx : a.eval x = .slice (some ⟨q, 0, none⟩) 1 c2) (hq : Rdv w (some ⟨q, 0, none⟩) 1 1 (valsB [y])) (hn : n ≤ 1000000)
    (k : ∀ g' c' w', Apn w w' A n xs y g' c' → wpList Try.prog ops Q rest (a.put o.dst (.slice (some ⟨g', 0, none⟩) (n + 1) c')) w') : wpList Try.prog ops Q (o :: rest) a w := by
  obtain ⟨g', c', w', hrun, happ⟩ := run_apn h o.type q y c2 hq hn
  refine wpList_plain hgd fun K hK => ?_
  have h4 := k g' c' w' happ
  unfold Oper.wp
  simp [execOp, ho, resolve, invoke, builtin, hs, hx, hrun, Result.andThen]
  exact hK _ _ h4

/-- The rows, as they are handed in: where they lie, and that no two share a block. -/
structure Rows (w : World) (G K : Nat) (A : Nat → Option Addr) (n c : Nat → Nat) : Prop where
  tab : ∀ i, i < K → w.cell? ⟨G, i, none⟩ = some (.slice (A i) (n i) (c i))
  lt : G < w.heap.size
/-- What doesn't hang on the world. -/
structure Sep (G K : Nat) (A : Nat → Option Addr) (n : Nat → Nat) : Prop where
  apart : ∀ i j, i < K → j < K → i ≠ j → ∀ g, A i = some ⟨g, 0, none⟩ → A j ≠ some ⟨g, 0, none⟩
  off : ∀ i, i < K → A i ≠ some ⟨G, 0, none⟩
  short : ∀ i, i < K → n i ≤ 100000
  few : K ≤ 100000
/-- While the first loop runs: rows below k are marked, of row k the first j bytes. -/
def S1 (w : World) (G K : Nat) (A : Nat → Option Addr) (n c : Nat → Nat) (k j : Nat) : Prop :=
  Rows w G K A n c ∧ ∃ f : Nat → List Nat, (∀ i, i < K → Og w (A i) (n i) (c i) (f i)) ∧ (∀ i, i < k → f i = marks i (n i)) ∧ ∀ m, m < j → (f k)[m]? = some (mrk k m)
theorem S1.next {w : World} {G K : Nat} {A : Nat → Option Addr} {n c : Nat → Nat} {k : Nat} (h : S1 w G K A n c k (n k)) (hk : k < K) : S1 w G K A n c (k + 1) 0 := by
  obtain ⟨h1, f, h2, h3, h4⟩ := h
  refine ⟨h1, f, h2, fun i hi => ?_, fun m hm => by omega⟩
  by_cases hik : i < k
  · exact h3 i hik
  · obtain rfl : i = k := by omega
    exact eq_marks _ _ _ (h2 _ hk).len h4
theorem S1.start {w : World} {G K : Nat} {A : Nat → Option Addr} {n c : Nat → Nat} {f : Nat → List Nat} (h1 : Rows w G K A n c) (h2 : ∀ i, i < K → Og w (A i) (n i) (c i) (f i)) : S1 w G K A n c 0 0 :=
  ⟨h1, f, h2, fun _ hi => by omega, fun _ hm => by omega⟩
theorem S1.all {w : World} {G K : Nat} {A : Nat → Option Addr} {n c : Nat → Nat} (h : S1 w G K A n c K 0) : ∀ i, i < K → Og w (A i) (n i) (c i) (marks i (n i)) := by
  obtain ⟨_, f, h2, h3, _⟩ := h
  intro i hi
  rw [← h3 i hi]
  exact h2 i hi
theorem S1.set {w : World} {G K : Nat} {A : Nat → Option Addr} {n c : Nat → Nat} {k j g : Nat} (h : S1 w G K A n c k j) (D : Sep G K A n) (hk : k < K) (hj : j < n k) (hA : A k = some ⟨g, 0, none⟩) :
    S1 (w.setCell ⟨g, j, none⟩ (.int .u8 ((mrk k j : Nat) : Int))) G K A n c k (j + 1) := by
  obtain ⟨h1, f, h2, h3, h4⟩ := h
  have hself : Og (w.setCell ⟨g, j, none⟩ (.int .u8 ((mrk k j : Nat) : Int))) (A k) (n k) (c k) ((f k).set j (mrk k j)) := by
    have h5 := h2 k hk
    rw [hA] at h5 ⊢
    exact Ow.set h5 j (mrk k j)
  have hfl := (h2 k hk).len
  refine ⟨⟨fun i hi => ?_, by rw [World.size_setCell]; exact h1.lt⟩, fun i => if i = k then (f k).set j (mrk k j) else f i, fun i hi => ?_, fun i hi => ?_, fun m hm => ?_⟩
  · refine (World.cell?_of_block (a := ⟨G, i, none⟩) (heap_setCell_other _ ⟨g, j, none⟩ _ _ (fun e : G = g => D.off k hk (by rw [e]; exact hA)))).trans ?_
    exact h1.tab i hi
  · by_cases hik : i = k
    · subst hik
      simpa using hself
    · simp only [hik, if_false]
      refine (h2 i hi).stays fun b hb => ?_
      exact heap_setCell_other _ ⟨g, j, none⟩ _ _ (fun e : b = g => D.apart i k hi hk hik b hb (by rw [e]; exact hA))
  · have hik : ¬ i = k := by omega
    simp only [hik, if_false]
    exact h3 i hi
  · simp only [if_true]
    by_cases hmj : m = j
    · subst hmj
      rw [List.getElem?_set_self (by omega)]
    · rw [List.getElem?_set_ne (fun e => hmj e.symm)]
      exact h4 m (by omega)
end Go.Proofs.Ytiemjgkpjmncfaa
