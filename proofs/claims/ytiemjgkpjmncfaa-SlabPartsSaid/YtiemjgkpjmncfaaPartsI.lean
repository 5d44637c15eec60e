/- What a range over slab.Parts puts together: the parts, each the law's own, and all their bytes. -/
import Derived.Test.YtiemjgkpjmncfaaRefParts
import Derived.Test.YtiemjgkpjmncfaaPartsO
import Derived.Test.YtiemjgkpjmncfaaSeal2
namespace Go.Proofs.Ytiemjgkpjmncfaa
set_option maxRecDepth 100000
open Go.RowKit

theorem wpListIn_append {F : Fence} {n : Nat} {P : Program} {w w' : World} {ops : Array Oper} {rest : List Oper} {o : Oper} {a : Act} {Q : Exit → Act → World → Prop} {v : Value} (hg : o.guard = none) (d s : Operand) (dT sT : TypeId)
    (ho : o.op = .call { callee := .builtin .append, args := #[d, s], argTypes := #[dT, sT] }) (u1 u2 : Value) (hd : a.eval d = u1) (hs : a.eval s = u2)
    (hrun : (Builtin.append_ #[dT, sT] o.type #[u1, u2]).run P w = .ok v w') (h : wpListIn F n P ops Q rest (a.put o.dst v) w') : wpListIn F n P ops Q (o :: rest) a w := by
  refine wpListIn_plain hg fun K hK' => ?_
  unfold Oper.wpIn
  refine ⟨?_, ?_⟩
  · simp [Oper.about, ho, resolve, Target.leads, Sem.run_pure]
  · rw [Oper.semAt_plain F _ _ (by rw [ho]; intro c hc'; cases hc')]
    simp [execOp, ho, resolve, invoke, builtin, hd, hs, hrun, Result.andThen]
    exact hK' _ _ h
/-- The parts, as values. -/
def rowsL (ds : List Nat) (A : Nat → Option Addr) (c : Nat → Nat) (k : Nat) : List Value := (List.range k).map fun i => .slice (A i) (partN ds i).length (c i)
theorem rowsL_succ (ds : List Nat) (A : Nat → Option Addr) (c : Nat → Nat) (k : Nat) (X : Option Addr) (y : Nat) : rowsL ds (fun i => if i = k then X else A i) (fun i => if i = k then y else c i) (k + 1) = rowsL ds A c k ++ [.slice X (partN ds k).length y] := by
  unfold rowsL
  rw [List.range_succ, List.map_append]
  congr 1
  · apply List.map_congr_left
    intro i hi
    have : ¬ i = k := by have := List.mem_range.1 hi; omega
    simp [this]
  · simp
theorem rowsL_length (ds : List Nat) (A : Nat → Option Addr) (c : Nat → Nat) (k : Nat) : (rowsL ds A c k).length = k := by simp [rowsL]
theorem rowsL_get (ds : List Nat) (A : Nat → Option Addr) (c : Nat → Nat) (k i : Nat) (h : i < k) : (rowsL ds A c k)[i]? = some (.slice (A i) (partN ds i).length (c i)) := by simp [rowsL, h]
/-- The law's two boxes while the parts come in. -/
structure GI (w4 : World) (y z5 z6 : Nat) (ds : List Nat) (k : Nat) (W : World) (vg va : Value) (A : Nat → Option Addr) (c : Nat → Nat) : Prop where
  below : Below y w4 W
  b9 : W.heap[y + 1]? = some (.cells #[vg] 86 (0, 0))
  b10 : W.heap[y + 3]? = some (.cells #[va] 45 (0, 0))
  got : W.ownsRow y 45 1 vg k (rowsL ds A c k)
  all : OwnB W y va (ds.take (50 * k))
  rows : ∀ i, i < k → W.ownsRow y 5 1 (.slice (A i) (partN ds i).length (c i)) (partN ds i).length (valsB (partN ds i))
  apart : ∀ i j, i < k → j < k → i ≠ j → ∀ b, A i = some ⟨b, 0, none⟩ → A j ≠ some ⟨b, 0, none⟩
  apartA : ∀ i, i < k → ∀ b, A i = some ⟨b, 0, none⟩ → va.ownBlock ≠ some b
  ne : vg.ownBlock ≠ some (y + 3)
  away9 : ∀ b, vg.ownBlock = some b → b < z5 ∨ z6 ≤ b
  away10 : ∀ b, va.ownBlock = some b → b < z5 ∨ z6 ≤ b
  size : z6 ≤ W.heap.size
/-- The cells of one's own row stand in a block of cells. -/
theorem own_cells {w : World} {B e size n : Nat} {v : Value} {xs : List Value} (h : w.ownsRow B e size v n xs) (b : Nat) (hb : v.ownBlock = some b) : B ≤ b ∧ b < w.heap.size ∧ ∃ cur, w.heap[b]? = some (.cells cur e (0, 0)) := by
  rcases h.2 with ⟨rfl, _⟩ | ⟨g, cap, cur, rfl, h1, h2, _⟩
  · cases hb
  · cases hb
    exact ⟨h1, (Array.getElem?_eq_some_iff.1 h2).1, cur, h2⟩
theorem own_keep {w w' : World} {B e size n : Nat} {v : Value} {xs : List Value} (h : w.ownsRow B e size v n xs) (hb : ∀ b cur, v.ownBlock = some b → w.heap[b]? = some (.cells cur e (0, 0)) → w'.heap[b]? = w.heap[b]?) : w'.ownsRow B e size v n xs := by
  refine ⟨h.1, ?_⟩
  rcases h.2 with h0 | ⟨g, cap, cur, rfl, h1, h2, h3⟩
  · exact .inl h0
  · exact .inr ⟨g, cap, cur, rfl, h1, (hb g cur rfl h2).trans h2, h3⟩
theorem slice_block {A : Option Addr} {n c b : Nat} (h : A = some ⟨b, 0, none⟩) : (Value.slice A n c).ownBlock = some b := by subst h; rfl
theorem own_at {w : World} {B e size n c b : Nat} {A : Option Addr} {xs : List Value} (h : w.ownsRow B e size (.slice A n c) n xs) (hb : (Value.slice A n c).ownBlock = some b) : A = some ⟨b, 0, none⟩ := by
  rcases h.2 with ⟨h1, _⟩ | ⟨g, cap, cur, h1, _⟩
  · injection h1 with h1
    subst h1
    cases hb
  · injection h1 with h1
    subst h1
    cases hb
    rfl
theorem GI.keep {w4 : World} {y z5 z6 : Nat} {ds : List Nat} {k : Nat} {W W' : World} {vg va : Value} {A : Nat → Option Addr} {c : Nat → Nat} (h : GI w4 y z5 z6 ds k W vg va A c) (hb : Below y w4 W') (hs : W.heap.size ≤ W'.heap.size)
    (hc : ∀ (b : Nat) (cs : Array Value) (t : TypeId) (f : Nat × Nat), W.heap[b]? = some (.cells cs t f) → W'.heap[b]? = W.heap[b]?) : GI w4 y z5 z6 ds k W' vg va A c where
  below := hb
  b9 := (hc _ _ _ _ h.b9).trans h.b9
  b10 := (hc _ _ _ _ h.b10).trans h.b10
  got := own_keep h.got fun b cur _ e => hc b cur _ _ e
  all := own_keep h.all fun b cur _ e => hc b cur _ _ e
  rows := fun i hi => own_keep (h.rows i hi) fun b cur _ e => hc b cur _ _ e
  apart := h.apart
  apartA := h.apartA
  ne := h.ne
  away9 := h.away9
  away10 := h.away10
  size := Nat.le_trans h.size hs
theorem GI.stays {w4 : World} {y z5 z6 : Nat} {ds : List Nat} {k : Nat} {W W' : World} {vg va : Value} {A : Nat → Option Addr} {c : Nat → Nat} (h : GI w4 y z5 z6 ds k W vg va A c) (hy : y ≤ z6) (hb : Below W.heap.size W W') : GI w4 y z5 z6 ds k W' vg va A c :=
  h.keep (h.below.trans (hb.mono (Nat.le_trans hy h.size))) hb.size fun b _ _ _ e => hb.block b (Array.getElem?_eq_some_iff.1 e).1
theorem GI.turns {w4 : World} {y z5 z6 l : Nat} {ds : List Nat} {k : Nat} {W : World} {o o' : Obj} {vg va : Value} {A : Nat → Option Addr} {c : Nat → Nat} (h : GI w4 y z5 z6 ds k W vg va A c) (hy : y ≤ l) (hl : W.heap[l]? = some o) (ho : o.isCells = false) : GI w4 y z5 z6 ds k (W.putObj l o') vg va A c :=
  h.keep (h.below.grown (grownBy_putObj' W l o') (Nat.le_trans hy (Nat.le_of_lt (Array.getElem?_eq_some_iff.1 hl).1)) (fun q e => by cases e; exact hy)) (grownBy_putObj' W l o').size fun b cs t f e => World.putObj_heap_other (fun e2 => by subst e2; rw [hl] at e; cases e; cases ho)
theorem ty_ne {w : World} {b : Nat} {c1 c2 : Array Value} {t1 t2 : TypeId} {f1 f2 : Nat × Nat} (h1 : w.heap[b]? = some (.cells c1 t1 f1)) (h2 : w.heap[b]? = some (.cells c2 t2 f2)) (h : t1 ≠ t2) : False := by
  rw [h1] at h2
  injection h2 with h2
  injection h2 with _ h2 _
  exact h h2
/-- What the first append leaves. -/
theorem GI.one {w4 : World} {y z5 z6 : Nat} {ds : List Nat} {k : Nat} {W W2 : World} {vg va p : Value} {A : Nat → Option Addr} {c : Nat → Nat} (h : GI w4 y z5 z6 ds k W vg va A c) (hg : (W.alloc (.cells #[p] 45)).grownBy W2 vg.ownBlock) (u : Value) :
    W.heap.size ≤ W2.heap.size ∧ W2.heap[y + 1]? = some (.cells #[vg] 86 (0, 0)) ∧ (W2.setCell ⟨y + 1, 0, none⟩ u).heap[y + 3]? = some (.cells #[va] 45 (0, 0)) ∧ OwnB (W2.setCell ⟨y + 1, 0, none⟩ u) y va (ds.take (50 * k)) ∧
    ∀ b, b < W.heap.size → vg.ownBlock ≠ some b → b ≠ y + 1 → (W2.setCell ⟨y + 1, 0, none⟩ u).heap[b]? = W.heap[b]? := by
  have hs := hg.size
  rw [World.size_alloc] at hs
  have keep : ∀ b, b < W.heap.size → vg.ownBlock ≠ some b → W2.heap[b]? = W.heap[b]? := fun b hb hne => (hg.block b (by rw [World.size_alloc]; omega) (fun e => hne e.symm)).trans (heap_old W _ b hb)
  have keep3 : ∀ b, b < W.heap.size → vg.ownBlock ≠ some b → b ≠ y + 1 → (W2.setCell ⟨y + 1, 0, none⟩ u).heap[b]? = W.heap[b]? := fun b hb hne h1 => (heap_setCell_other W2 ⟨y + 1, 0, none⟩ b u h1).trans (keep b hb hne)
  have l1 := (Array.getElem?_eq_some_iff.1 h.b9).1
  have l3 := (Array.getElem?_eq_some_iff.1 h.b10).1
  refine ⟨by omega, (keep _ l1 (fun e => ?_)).trans h.b9, (keep3 _ l3 h.ne (by omega)).trans h.b10, own_keep h.all fun b cur _ e => keep3 b (Array.getElem?_eq_some_iff.1 e).1 (fun e2 => ?_) (fun e2 => ?_), keep3⟩
  · obtain ⟨_, _, cur, h2⟩ := own_cells h.got _ e
    exact ty_ne h2 h.b9 (by decide)
  · obtain ⟨_, _, cur2, h2⟩ := own_cells h.got _ e2
    exact ty_ne h2 e (by decide)
  · subst e2
    exact ty_ne e h.b9 (by decide)
/-- A part more. -/
theorem GI.push {w4 : World} {y z5 z6 z0 : Nat} {ds : List Nat} {k cp : Nat} {W W2 W4 : World} {vg va vg' va' : Value} {X : Option Addr} {A : Nat → Option Addr} {c : Nat → Nat} (h : GI w4 y z5 z6 ds k W vg va A c) (_ : y + 4 ≤ z6)
    (hz : ∀ i, i < k → ∀ b, A i = some ⟨b, 0, none⟩ → b < z0) (hza : ∀ b, va.ownBlock = some b → b < z0) (hz0 : y ≤ z0)
    (hp : W.ownsRow z0 5 1 (.slice X (partN ds k).length cp) (partN ds k).length (valsB (partN ds k)))
    (hg : (W.alloc (.cells #[.slice X (partN ds k).length cp] 45)).grownBy W2 vg.ownBlock) (ho : W2.ownsRow y 45 1 vg' (k + 1) (rowsL ds A c k ++ [.slice X (partN ds k).length cp])) (hv : vg'.ownBlock = vg.ownBlock ∨ vg'.ownBlock = some (W.alloc (.cells #[.slice X (partN ds k).length cp] 45)).heap.size)
    (hga : (W2.setCell ⟨y + 1, 0, none⟩ vg').grownBy W4 va.ownBlock) (hoa : OwnB W4 y va' (ds.take (50 * (k + 1)))) (hva : va'.ownBlock = va.ownBlock ∨ va'.ownBlock = some (W2.setCell ⟨y + 1, 0, none⟩ vg').heap.size) :
    W4.heap[y + 3]? = some (.cells #[va] 45 (0, 0)) ∧ GI w4 y z5 z6 ds (k + 1) (W4.setCell ⟨y + 3, 0, none⟩ va') vg' va' (fun i => if i = k then X else A i) (fun i => if i = k then cp else c i) ∧
      KeepsOthers W (W4.setCell ⟨y + 3, 0, none⟩ va') ∧ ∀ b, z5 ≤ b → b < z6 → y + 4 ≤ z5 → (W4.setCell ⟨y + 3, 0, none⟩ va').heap[b]? = W.heap[b]? := by
  obtain ⟨hs, f9, f10, fall, keep3⟩ := h.one hg vg'
  have hs2 := hg.size
  have hs4 := hga.size
  rw [World.size_setCell] at hs4 hva
  rw [World.size_alloc] at hs2
  have l3 := (Array.getElem?_eq_some_iff.1 h.b10).1
  have hsz := h.size
  have keep4 : ∀ b, b < W2.heap.size → va.ownBlock ≠ some b → W4.heap[b]? = (W2.setCell ⟨y + 1, 0, none⟩ vg').heap[b]? := fun b hb hne => hga.block b (by rw [World.size_setCell]; exact hb) (fun e => hne e.symm)
  have keep5 : ∀ b, b < W.heap.size → vg.ownBlock ≠ some b → va.ownBlock ≠ some b → b ≠ y + 1 → b ≠ y + 3 → (W4.setCell ⟨y + 3, 0, none⟩ va').heap[b]? = W.heap[b]? := fun b hb h1 h2 h3 h4 =>
    (heap_setCell_other W4 ⟨y + 3, 0, none⟩ b va' h4).trans ((keep4 b (by omega) h2).trans (keep3 b hb h1 h3))
  have va3 : va.ownBlock ≠ some (y + 3) := fun e => by
    obtain ⟨_, _, cur, h2⟩ := own_cells h.all _ e
    exact ty_ne h2 h.b10 (by decide)
  have va1 : va.ownBlock ≠ some (y + 1) := fun e => by
    obtain ⟨_, _, cur, h2⟩ := own_cells h.all _ e
    exact ty_ne h2 h.b9 (by decide)
  have vgt : ∀ b cur, W.heap[b]? = some (.cells cur 5 (0, 0)) → vg.ownBlock ≠ some b := fun b cur e e2 => by
    obtain ⟨_, _, cur2, h2⟩ := own_cells h.got _ e2
    exact ty_ne h2 e (by decide)
  have t1 : ∀ b cur, W.heap[b]? = some (.cells cur 5 (0, 0)) → b ≠ y + 1 ∧ b ≠ y + 3 := fun b cur e =>
    ⟨fun e2 => by subst e2; exact ty_ne e h.b9 (by decide), fun e2 => by subst e2; exact ty_ne e h.b10 (by decide)⟩
  have g10 : W4.heap[y + 3]? = some (.cells #[va] 45 (0, 0)) := (keep4 _ (by omega) va3).trans f10
  have hX : ∀ b, X = some ⟨b, 0, none⟩ → z0 ≤ b ∧ b < W.heap.size := fun b e => by
    obtain ⟨h1, h2, _⟩ := own_cells hp b (slice_block e)
    exact ⟨h1, h2⟩
  have rowk : ∀ (i : Nat) (B : Option Addr) (q cc : Nat) (xs : List Value), W.ownsRow y 5 1 (.slice B q cc) q xs → (∀ b, B = some ⟨b, 0, none⟩ → va.ownBlock ≠ some b) → (W4.setCell ⟨y + 3, 0, none⟩ va').ownsRow y 5 1 (.slice B q cc) q xs := fun _ B q cc xs ho2 hne =>
    own_keep ho2 fun b cur e1 e2 => by
      obtain ⟨n1, n3⟩ := t1 b cur e2
      exact keep5 b (Array.getElem?_eq_some_iff.1 e2).1 (vgt b cur e2) (hne b (own_at ho2 e1)) n1 n3
  have s9 : (W4.setCell ⟨y + 3, 0, none⟩ va').heap[y + 1]? = some (.cells #[vg'] 86 (0, 0)) := by
    rw [heap_setCell_other W4 ⟨y + 3, 0, none⟩ (y + 1) va' (by show y + 1 ≠ y + 3; omega), keep4 (y + 1) (by omega) va1]
    exact heap_setCell_same W2 (y + 1) 0 #[vg] 86 vg' f9
  have s10 : (W4.setCell ⟨y + 3, 0, none⟩ va').heap[y + 3]? = some (.cells #[va'] 45 (0, 0)) := heap_setCell_same W4 (y + 3) 0 #[va] 45 va' g10
  have hyX : W.ownsRow y 5 1 (.slice X (partN ds k).length cp) (partN ds k).length (valsB (partN ds k)) := by
    refine ⟨hp.1, ?_⟩
    rcases hp.2 with h0 | ⟨g, cap, cur, e, h1, h2⟩
    · exact .inl h0
    · exact .inr ⟨g, cap, cur, e, by omega, h2⟩
  have hXva : ∀ b, X = some ⟨b, 0, none⟩ → va.ownBlock ≠ some b := fun b e e2 => by
    have h1 := (hX b e).1
    have h2 := hza b e2
    omega
  refine ⟨g10, ?_, ⟨by rw [World.size_setCell]; omega, fun b o hb hc => ?_⟩, fun b h1 h2 h3 => ?_⟩
  · exact {
      below := by
        have b1 : Below y w4 (W.alloc (.cells #[.slice X (partN ds k).length cp] 45)) := h.below.alloc (by omega) _
        have b2 := b1.grown hg (by rw [World.size_alloc]; omega) (fun q e => (own_cells h.got q e).1)
        have b3 := b2.setCell (show y ≤ (⟨y + 1, 0, none⟩ : Addr).block from Nat.le_succ _) vg'
        have b4 := b3.grown hga (by rw [World.size_setCell]; omega) (fun q e => (own_cells h.all q e).1)
        exact b4.setCell (show y ≤ (⟨y + 3, 0, none⟩ : Addr).block from Nat.le_add_right _ _) va'
      b9 := s9
      b10 := s10
      got := by
        rw [rowsL_succ]
        refine own_keep ho fun b cur e1 e2 => ?_
        have hbs : b < W2.heap.size := (Array.getElem?_eq_some_iff.1 e2).1
        have n3 : b ≠ y + 3 := fun e => by
          subst e
          rcases hv with hv | hv
          · rw [hv] at e1; exact h.ne e1
          · rw [hv, World.size_alloc] at e1
            injection e1 with e1
            omega
        have n1 : b ≠ y + 1 := fun e => by subst e; exact ty_ne e2 f9 (by decide)
        have nv : va.ownBlock ≠ some b := fun e => by
          obtain ⟨_, _, cur2, h2⟩ := own_cells fall b e
          rw [heap_setCell_other W2 ⟨y + 1, 0, none⟩ b vg' n1] at h2
          exact ty_ne h2 e2 (by decide)
        exact (heap_setCell_other W4 ⟨y + 3, 0, none⟩ b va' n3).trans ((keep4 b hbs nv).trans (heap_setCell_other W2 ⟨y + 1, 0, none⟩ b vg' n1))
      all := by
        refine own_keep hoa fun b cur e1 e2 => heap_setCell_other W4 ⟨y + 3, 0, none⟩ b va' (fun e => ?_)
        subst e
        exact ty_ne e2 g10 (by decide)
      rows := fun i hi => by
        by_cases hik : i = k
        · subst hik
          simp only [if_true]
          exact rowk 0 X _ cp _ hyX hXva
        · simp only [hik, if_false]
          exact rowk 0 (A i) _ (c i) _ (h.rows i (by omega)) (h.apartA i (by omega))
      apart := fun i j hi hj hij b e1 e2 => by
        by_cases hik : i = k
        · subst hik
          have hjk : ¬ j = i := fun e => hij e.symm
          simp only [if_true] at e1
          simp only [hjk, if_false] at e2
          have h1 := (hX b e1).1
          have h2 := hz j (by omega) b e2
          omega
        · simp only [hik, if_false] at e1
          by_cases hjk : j = k
          · subst hjk
            simp only [if_true] at e2
            have h1 := (hX b e2).1
            have h2 := hz i (by omega) b e1
            omega
          · simp only [hjk, if_false] at e2
            exact h.apart i j (by omega) (by omega) hij b e1 e2
      apartA := fun i hi b e1 e2 => by
        have hb : b < W.heap.size ∧ va.ownBlock ≠ some b := by
          by_cases hik : i = k
          · subst hik
            simp only [if_true] at e1
            exact ⟨(hX b e1).2, hXva b e1⟩
          · simp only [hik, if_false] at e1
            exact ⟨(own_cells (h.rows i (by omega)) b (slice_block e1)).2.1, h.apartA i (by omega) b e1⟩
        rcases hva with hva | hva
        · exact hb.2 (hva ▸ e2)
        · rw [hva] at e2
          injection e2 with e2
          omega
      ne := fun e => by
        rcases hv with hv | hv
        · exact h.ne (hv ▸ e)
        · rw [hv, World.size_alloc] at e
          injection e with e
          omega
      away9 := fun b e => by
        rcases hv with hv | hv
        · exact h.away9 b (hv ▸ e)
        · rw [hv, World.size_alloc] at e
          injection e with e
          exact .inr (by omega)
      away10 := fun b e => by
        rcases hva with hva | hva
        · exact h.away10 b (hva ▸ e)
        · rw [hva] at e
          injection e with e
          exact .inr (by omega)
      size := by rw [World.size_setCell]; omega }
  · have hbs := (Array.getElem?_eq_some_iff.1 hb).1
    refine (keep5 b hbs (fun e => ?_) (fun e => ?_) (fun e => ?_) (fun e => ?_)).trans hb
    · obtain ⟨_, _, cur, h2⟩ := own_cells h.got _ e
      rw [hb] at h2; cases h2; cases hc
    · obtain ⟨_, _, cur, h2⟩ := own_cells h.all _ e
      rw [hb] at h2; cases h2; cases hc
    · subst e
      have h2 := h.b9
      rw [hb] at h2; cases h2; cases hc
    · subst e
      have h2 := h.b10
      rw [hb] at h2; cases h2; cases hc
  · refine keep5 b (by omega) (fun e => ?_) (fun e => ?_) (by omega) (by omega)
    · rcases h.away9 b e with h5 | h5 <;> omega
    · rcases h.away10 b e with h5 | h5 <;> omega
/-- The boxes, before the first part. -/
def boxW (w4 : World) : World := (((w4.alloc (.cells #[] 45)).alloc (.cells #[.slice (some ⟨w4.heap.size, 0, none⟩) 0 0] 86)).alloc (.cells #[] 5)).alloc (.cells #[.slice (some ⟨w4.heap.size + 1 + 1, 0, none⟩) 0 0] 45)
theorem boxW_size (w4 : World) : (boxW w4).heap.size = w4.heap.size + 4 := by simp [boxW]
theorem boxW_below (w4 : World) : Below w4.heap.size w4 (boxW w4) := by
  refine (((Below.alloc ((Below.refl _ w4).alloc (Nat.le_refl _) _) ?_ _).alloc ?_ _).alloc ?_ _) <;> simp <;> omega
theorem GI.start (w4 w6 : World) (ds : List Nat) (hb : Below (boxW w4).heap.size (boxW w4) w6) :
    GI w4 w4.heap.size (w4.heap.size + 4) w6.heap.size ds 0 w6 (.slice (some ⟨w4.heap.size, 0, none⟩) 0 0) (.slice (some ⟨w4.heap.size + 1 + 1, 0, none⟩) 0 0) (fun _ => none) (fun _ => 0) := by
  have hs := boxW_size w4
  have hs6 := hb.size
  have at_ : ∀ b, b < w4.heap.size + 4 → w6.heap[b]? = (boxW w4).heap[b]? := fun b h => hb.block b (by omega)
  have h0 : (boxW w4).heap[w4.heap.size]? = some (.cells #[] 45 (0, 0)) := by
    unfold boxW
    rw [heap_old _ _ _ (by simp <;> omega), heap_old _ _ _ (by simp <;> omega), heap_old _ _ _ (by simp)]
    exact heap_alloc_new w4 _
  have h1 : (boxW w4).heap[w4.heap.size + 1]? = some (.cells #[.slice (some ⟨w4.heap.size, 0, none⟩) 0 0] 86 (0, 0)) := by
    unfold boxW
    rw [heap_old _ _ _ (by simp <;> omega), heap_old _ _ _ (by simp)]
    exact heap_alloc2_new w4 _ _
  have h2 : (boxW w4).heap[w4.heap.size + 2]? = some (.cells #[] 5 (0, 0)) := by
    unfold boxW
    rw [heap_old _ _ _ (by simp)]
    have h := heap_alloc_new ((w4.alloc (.cells #[] 45)).alloc (.cells #[.slice (some ⟨w4.heap.size, 0, none⟩) 0 0] 86)) (.cells #[] 5)
    rw [World.size_alloc, World.size_alloc] at h
    exact h
  have h3 : (boxW w4).heap[w4.heap.size + 3]? = some (.cells #[.slice (some ⟨w4.heap.size + 1 + 1, 0, none⟩) 0 0] 45 (0, 0)) := by
    unfold boxW
    have h := heap_alloc_new (((w4.alloc (.cells #[] 45)).alloc (.cells #[.slice (some ⟨w4.heap.size, 0, none⟩) 0 0] 86)).alloc (.cells #[] 5)) (.cells #[.slice (some ⟨w4.heap.size + 1 + 1, 0, none⟩) 0 0] 45)
    rw [World.size_alloc, World.size_alloc, World.size_alloc] at h
    exact h
  exact {
    below := (boxW_below w4).trans (hb.mono (by omega))
    b9 := (at_ _ (by omega)).trans h1
    b10 := (at_ _ (by omega)).trans h3
    got := ⟨rfl, .inr ⟨w4.heap.size, 0, #[], rfl, Nat.le_refl _, (at_ _ (by omega)).trans h0, Nat.le_refl _, by decide, rfl, rfl⟩⟩
    all := ⟨rfl, .inr ⟨w4.heap.size + 2, 0, #[], rfl, by omega, (at_ _ (by omega)).trans h2, Nat.le_refl _, by decide, rfl, rfl⟩⟩
    rows := fun i hi => by omega
    apart := fun i j hi _ _ _ _ => by omega
    apartA := fun i hi _ _ => by omega
    ne := fun e => by injection e with e; have : w4.heap.size = w4.heap.size + 3 := e; omega
    away9 := fun b e => by injection e with e; have : w4.heap.size = b := e; omega
    away10 := fun b e => by injection e with e; have : w4.heap.size + 1 + 1 = b := e; omega
    size := Nat.le_refl _ }
theorem take_part (ds : List Nat) (k : Nat) : ds.take (50 * (k + 1)) = ds.take (50 * k) ++ partN ds k := by
  rw [show 50 * (k + 1) = 50 * k + 50 by omega, List.take_add]
  rfl
end Go.Proofs.Ytiemjgkpjmncfaa
