/- The document's pick. -/
import Derived.Test.YtgdkgoiagjjccaaZD
namespace Go.Proofs.Ytgdkgoiagjjccaa
set_option maxRecDepth 100000
open Go.RowKit

theorem alloc3 (w : World) (x y z : Obj) : (((w.alloc x).alloc y).alloc z).heap[w.heap.size]? = some x ∧ (((w.alloc x).alloc y).alloc z).heap[w.heap.size + 1]? = some y ∧ (((w.alloc x).alloc y).alloc z).heap[w.heap.size + 1 + 1]? = some z ∧
    Below w.heap.size w (((w.alloc x).alloc y).alloc z) ∧ w.heap.size + 3 ≤ (((w.alloc x).alloc y).alloc z).heap.size := by
  refine ⟨?_, ?_, ?_, (((Below.refl _ w).alloc (Nat.le_refl _) _).alloc (by simp) _).alloc (by rw [World.size_alloc, World.size_alloc]; omega) _, by rw [World.size_alloc, World.size_alloc, World.size_alloc]; omega⟩
  · exact (Below.heap_alloc _ _ _ (by simp; omega)).trans ((Below.heap_alloc _ _ _ (by simp)).trans (new_at w _ _ rfl))
  · exact (Below.heap_alloc _ _ _ (by simp)).trans (new_at (w.alloc x) _ _ (by simp))
  · exact new_at ((w.alloc x).alloc y) _ _ (by simp)
theorem cpy_made {w W : World} {B g b2 b3 b4 n m : Nat} {c : Nat} {A : Option Addr} {p : Int} {en : List Bool} {ha : List Int} {ra : List Bool} (below : Below w.heap.size w W) (low : w.heap.size + 3 ≤ B ∧ B ≤ g ∧ B ≤ b2 ∧ B ≤ b3 ∧ B ≤ b4) (hi : g < W.heap.size ∧ b2 < W.heap.size ∧ b3 < W.heap.size ∧ b4 < W.heap.size)
    (hn : 0 < n) (hm : 0 < m) (box : W.heap[g]? = some (.cells #[.slice none 0 0, .slice none 0 0, .slice none 0 0, .slice none 0 0, .int .i64 0] 74 (0, 0)))
    (hen : Bls W (some ⟨b2, 0, none⟩) n en) (hha : Nums W (some ⟨b3, 0, none⟩) m ha) (hra : Bls W (some ⟨b4, 0, none⟩) m ra) (ne : b2 ≠ b3 ∧ b2 ≠ b4 ∧ b3 ≠ b4) (fr : (∀ o, W.frozen? ⟨b2, o, none⟩ = false) ∧ (∀ o, W.frozen? ⟨b3, o, none⟩ = false) ∧ ∀ o, W.frozen? ⟨b4, o, none⟩ = false)
    (r4 : W.heap[w.heap.size + 1]? = some (.cells #[.slice none 0 0, .slice none 0 0, .slice none 0 0, .slice none 0 0, .int .i64 0] 74 (0, 0))) (r5 : W.heap[w.heap.size + 1 + 1]? = some (.cells #[.int .i64 0, .int .i64 0, .int .i64 0] 81 (0, 0))) (c2 c3 c4 : Nat) :
    Cpy w B (((((W.setCell ⟨g, 0, none⟩ (.slice A n c)).setCell ⟨g, 1, none⟩ (.slice (some ⟨b2, 0, none⟩) n c2)).setCell ⟨g, 2, none⟩ (.slice (some ⟨b3, 0, none⟩) m c3)).setCell ⟨g, 3, none⟩ (.slice (some ⟨b4, 0, none⟩) m c4)).setCell ⟨g, 4, none⟩ (.int .i64 p)) g b2 b3 b4 A n c c2 m c3 c4 p en ha ra := by
  obtain ⟨l0, l1, l2, l3, l4⟩ := low
  have at0 : ∀ {b : Nat} {v : Value}, W.cell? ⟨b, 0, none⟩ = some v → v ≠ .slice none 0 0 → g ≠ b := fun h hne e => by
    subst e
    rw [cell_of_row W g 0 _ 74 (0, 0) box] at h
    injection h with h
    exact hne h.symm
  have cen : ∀ j, j < n → W.cell? ⟨b2, j, none⟩ = some (.bool (en.getD j false)) := fun j hj => by
    obtain ⟨b, off, e, hc⟩ := hen.2.2 hn
    injection e with e
    injection e with e1 e2
    subst e1 e2
    have := hc j hj
    rwa [Nat.zero_add] at this
  have cha : ∀ j, j < m → W.cell? ⟨b3, j, none⟩ = some (.int .i64 (ha.getD j 0)) := fun j hj => by
    obtain ⟨b, off, e, hc⟩ := hha.2.2 hm
    injection e with e
    injection e with e1 e2
    subst e1 e2
    have := hc j (by have := hha.1; omega)
    rwa [Nat.zero_add] at this
  have cra : ∀ j, j < m → W.cell? ⟨b4, j, none⟩ = some (.bool (ra.getD j false)) := fun j hj => by
    obtain ⟨b, off, e, hc⟩ := hra.2.2 hm
    injection e with e
    injection e with e1 e2
    subst e1 e2
    have := hc j hj
    rwa [Nat.zero_add] at this
  have g2 := at0 (cen 0 hn) (by intro h; cases h)
  have g3 := at0 (cha 0 hm) (by intro h; cases h)
  have g4 := at0 (cra 0 hm) (by intro h; cases h)
  have hw : w.heap.size ≤ g := by omega
  refine ⟨((((below.setCell (p := ⟨g, 0, none⟩) hw _).setCell (p := ⟨g, 1, none⟩) hw _).setCell (p := ⟨g, 2, none⟩) hw _).setCell (p := ⟨g, 3, none⟩) hw _).setCell (p := ⟨g, 4, none⟩) hw _, ⟨l0, l1, l2, l3, l4⟩, by simp only [World.size_setCell]; exact hi, ⟨g2, g3, g4, ne⟩, q_set box, ⟨hen.1, hha.1, hra.1⟩, fun j hj => by rw [set_blk g2, set_blk g2, set_blk g2, set_blk g2, set_blk g2]; exact cen j hj,
    fun j hj => by rw [set_blk g3, set_blk g3, set_blk g3, set_blk g3, set_blk g3]; exact cha j hj, fun j hj => by rw [set_blk g4, set_blk g4, set_blk g4, set_blk g4, set_blk g4]; exact cra j hj, ⟨fun o => by simp only [World.frozen?_setCell]; exact fr.1 o, fun o => by simp only [World.frozen?_setCell]; exact fr.2.1 o, fun o => by simp only [World.frozen?_setCell]; exact fr.2.2 o⟩, ?_, ?_⟩
  · have hne : w.heap.size + 1 ≠ g := by omega
    exact (Below.heap_setCell _ _ _ _ hne).trans ((Below.heap_setCell _ _ _ _ hne).trans ((Below.heap_setCell _ _ _ _ hne).trans ((Below.heap_setCell _ _ _ _ hne).trans ((Below.heap_setCell _ _ _ _ hne).trans r4))))
  · have hne : w.heap.size + 1 + 1 ≠ g := by omega
    exact (Below.heap_setCell _ _ _ _ hne).trans ((Below.heap_setCell _ _ _ _ hne).trans ((Below.heap_setCell _ _ _ _ hne).trans ((Below.heap_setCell _ _ _ _ hne).trans ((Below.heap_setCell _ _ _ _ hne).trans r5))))
theorem haL_fits {ls : List (List Int)} {s : PS} (h : Inv ls s) (hn : s.n ≤ 1000000) : ∀ x ∈ haL s, Fits x := by
  intro x hx
  simp only [haL, List.mem_map, List.mem_range] at hx
  obtain ⟨w, hw, rfl⟩ := hx
  unfold Fits
  by_cases h1 : s.ws w = -1
  · rw [h1]; decide
  · obtain ⟨a, b, _⟩ := h.ws w hw h1
    omega
theorem info74 : (Try.prog.info? 74).map (·.size) = some 5 := by kernel_rfl
theorem info81 : (Try.prog.info? 81).map (·.size) = some 3 := by kernel_rfl
theorem results_pick (tmps : Array Value) (w : World) (g4 g5 : Nat) (cs4 cs5 : Array Value) (e : Int) (h4 : tmps.getD 4 undef = .pointer (some ⟨g4, 0, none⟩)) (h5 : tmps.getD 5 undef = .pointer (some ⟨g5, 0, none⟩)) (h6 : tmps.getD 6 undef = .int .i64 e)
    (hg4 : w.heap[g4]? = some (.cells cs4 74 (0, 0))) (hg5 : w.heap[g5]? = some (.cells cs5 81 (0, 0))) (s4 : cs4.size = 5) (s5 : cs5.size = 3) :
    (results Try.f45 tmps).run Try.prog w = .ok (.tuple #[.agg cs4, .agg cs5, .int .i64 e]) w := by
  have h4' : tmps[4]?.getD undef = .pointer (some ⟨g4, 0, none⟩) := by simpa using h4
  have h5' : tmps[5]?.getD undef = .pointer (some ⟨g5, 0, none⟩) := by simpa using h5
  have h6' : tmps[6]?.getD undef = .int .i64 e := by simpa using h6
  simp [results, Try.results45, h4', h5', h6', asAddr, run_loadVar_row w g4 74 74 cs4 (0, 0) _ hg4 Try.underlying74 rfl (by rw [s4]; exact info74), run_loadVar_row w g5 81 81 cs5 (0, 0) _ hg5 Try.underlying81 rfl (by rw [s5]; exact info81)]
/-- What the document's pick answers. -/
def PickR (w : World) (A : Option Addr) (n c m : Nat) (ls : List (List Int)) (o : PS × PS.Out) (p : Int) (e : Ending) (W : World) : Prop :=
  ∃ A2 c2 A3 c3 A4 c4 k t v, o.2 = .ev k t v ∧ e = .returned (.tuple #[refV A n c A2 c2 A3 m c3 A4 c4 p, .agg #[.int .i64 k, .int .i64 t, .int .i64 v], .int .i64 0]) ∧ RefR W A A2 A3 A4 ls o.1 ∧ ((A2 = none → c2 = 0) ∧ (A3 = none → c3 = 0) ∧ (A4 = none → c4 = 0)) ∧ Below w.heap.size w W ∧ ∀ a, A2 = some a ∨ A3 = some a ∨ A4 = some a → w.heap.size ≤ a.block

theorem Way.inv {ls : List (List Int)} {s : PS} {k : Nat} {o : PS × PS.Out} (h : Way ls s k o) : s.left = 0 ∨ (∃ i, i < s.n ∧ s.ws k = (i : Int) ∧ s.wk i = (k : Int) ∧ (s.kd i = 1 ∨ s.kd i = 2) ∧ o = s.act i) ∨
    (∃ i t, i < s.n ∧ s.ws k = -1 ∧ rdyTo s s.n = (i : Int) :: t ∧ s.kd i = 0 ∧ s.wk i = -1 ∧ o = (s.took i k).act i) ∨
    (∃ i v : Nat, i < s.n ∧ s.ws k = -1 ∧ rdyTo s s.n = [] ∧ whoS s (k : Int) s.n = (v : Int) ∧ v < s.m ∧ s.ws v = (i : Int) ∧ s.wk i = (v : Int) ∧ (s.kd i = 1 ∨ s.kd i = 2) ∧ o = s.act i) := by
  cases h with
  | ended h0 => exact .inl h0
  | has i hl hi hw hk h12 => exact .inr (.inl ⟨i, hi, hw, hk, h12, rfl⟩)
  | took i t hl hi hw hr hk hwk => exact .inr (.inr (.inl ⟨i, t, hi, hw, hr, hk, hwk, rfl⟩))
  | help i v hl hi hw hr hwho hv hws hk h12 => exact .inr (.inr (.inr ⟨i, v, hi, hw, hr, hwho, hv, hws, hk, h12, rfl⟩))
/-- The results are stored. -/
theorem Cpy.fin {w W : World} {B g b2 b3 b4 n c c2 m c3 c4 : Nat} {A : Option Addr} {p : Int} {en : List Bool} {ha : List Int} {ra : List Bool} (h : Cpy w B W g b2 b3 b4 A n c c2 m c3 c4 p en ha ra) (x0 x1 x2 x3 x4 y0 y1 y2 : Value) {W' : World}
    (hW : W' = (((((((W.setCell ⟨w.heap.size + 1, 0, none⟩ x0).setCell ⟨w.heap.size + 1, 1, none⟩ x1).setCell ⟨w.heap.size + 1, 2, none⟩ x2).setCell ⟨w.heap.size + 1, 3, none⟩ x3).setCell ⟨w.heap.size + 1, 4, none⟩ x4).setCell ⟨w.heap.size + 1 + 1, 0, none⟩ y0).setCell ⟨w.heap.size + 1 + 1, 1, none⟩ y1).setCell ⟨w.heap.size + 1 + 1, 2, none⟩ y2) :
    W'.heap[w.heap.size + 1]? = some (.cells #[x0, x1, x2, x3, x4] 74 (0, 0)) ∧ W'.heap[w.heap.size + 1 + 1]? = some (.cells #[y0, y1, y2] 81 (0, 0)) ∧
    ∀ (ls : List (List Int)) (s : PS), Rws w A n ls → s.n = n → s.m = m → enL s = en → haL s = ha → raL s = ra → (∀ x ∈ ha, Fits x) → n ≤ 9223372036854775807 → m ≤ 9223372036854775807 → RefR W' A (some ⟨b2, 0, none⟩) (some ⟨b3, 0, none⟩) (some ⟨b4, 0, none⟩) ls s ∧ Below w.heap.size w W' := by
  obtain ⟨l0, l1, l2, l3, l4⟩ := h.low
  have k1 : w.heap.size ≤ w.heap.size + 1 := by omega
  have k2 : w.heap.size ≤ w.heap.size + 1 + 1 := by omega
  have n12 : w.heap.size + 1 ≠ w.heap.size + 1 + 1 := by omega
  have hB : Below w.heap.size w W' := by
    rw [hW]
    exact (((((((h.below.setCell (p := ⟨w.heap.size + 1, 0, none⟩) k1 _).setCell (p := ⟨w.heap.size + 1, 1, none⟩) k1 _).setCell (p := ⟨w.heap.size + 1, 2, none⟩) k1 _).setCell (p := ⟨w.heap.size + 1, 3, none⟩) k1 _).setCell (p := ⟨w.heap.size + 1, 4, none⟩) k1 _).setCell (p := ⟨w.heap.size + 1 + 1, 0, none⟩) k2 _).setCell (p := ⟨w.heap.size + 1 + 1, 1, none⟩) k2 _).setCell (p := ⟨w.heap.size + 1 + 1, 2, none⟩) k2 _
  have cc : ∀ b, B ≤ b → ∀ o, W'.cell? ⟨b, o, none⟩ = W.cell? ⟨b, o, none⟩ := fun b hb o => by
    have m1 : w.heap.size + 1 ≠ b := by omega
    have m2 : w.heap.size + 1 + 1 ≠ b := by omega
    rw [hW, set_blk m2, set_blk m2, set_blk m2, set_blk m1, set_blk m1, set_blk m1, set_blk m1, set_blk m1]
  refine ⟨?_, ?_, ?_⟩
  · rw [hW]
    exact (Below.heap_setCell _ _ _ _ n12).trans ((Below.heap_setCell _ _ _ _ n12).trans ((Below.heap_setCell _ _ _ _ n12).trans (q_set h.r4)))
  · rw [hW]
    refine e_set (x := .int .i64 0) (y := .int .i64 0) (z := .int .i64 0) ?_
    exact (Below.heap_setCell _ _ _ _ n12.symm).trans ((Below.heap_setCell _ _ _ _ n12.symm).trans ((Below.heap_setCell _ _ _ _ n12.symm).trans ((Below.heap_setCell _ _ _ _ n12.symm).trans ((Below.heap_setCell _ _ _ _ n12.symm).trans h.r5))))
  · intro ls s hl hn hm he hh hr hf h1 h2
    subst hn hm he hh hr
    exact ⟨⟨hl.below hB, ⟨h.len.1, h1, fun _ => ⟨_, _, rfl, fun j hj => by rw [Nat.zero_add, cc b2 l2]; exact h.en j hj⟩⟩, ⟨h.len.2.1, hf, fun _ => ⟨_, _, rfl, fun j hj => by rw [Nat.zero_add, cc b3 l3]; exact h.ha j hj⟩⟩, ⟨h.len.2.2, h2, fun _ => ⟨_, _, rfl, fun j hj => by rw [Nat.zero_add, cc b4 l4]; exact h.ra j hj⟩⟩⟩, hB⟩
theorem heap_drew (w : World) : w.drew.heap = w.heap := rfl
theorem RefR.drew {W : World} {A A2 A3 A4 : Option Addr} {ls : List (List Int)} {s : PS} (h : RefR W A A2 A3 A4 ls s) : RefR W.drew A A2 A3 A4 ls s := h.ext fun _ _ => rfl
theorem Cpy.finD {w W : World} {B g b2 b3 b4 n c c2 m c3 c4 : Nat} {A : Option Addr} {p : Int} {en : List Bool} {ha : List Int} {ra : List Bool} (h : Cpy w B W g b2 b3 b4 A n c c2 m c3 c4 p en ha ra) (x0 x1 x2 x3 x4 y0 y1 y2 : Value) {W' : World}
    (hW : W' = World.drew ((((((((W.setCell ⟨w.heap.size + 1, 0, none⟩ x0).setCell ⟨w.heap.size + 1, 1, none⟩ x1).setCell ⟨w.heap.size + 1, 2, none⟩ x2).setCell ⟨w.heap.size + 1, 3, none⟩ x3).setCell ⟨w.heap.size + 1, 4, none⟩ x4).setCell ⟨w.heap.size + 1 + 1, 0, none⟩ y0).setCell ⟨w.heap.size + 1 + 1, 1, none⟩ y1).setCell ⟨w.heap.size + 1 + 1, 2, none⟩ y2)) :
    W'.heap[w.heap.size + 1]? = some (.cells #[x0, x1, x2, x3, x4] 74 (0, 0)) ∧ W'.heap[w.heap.size + 1 + 1]? = some (.cells #[y0, y1, y2] 81 (0, 0)) ∧
    ∀ (ls : List (List Int)) (s : PS), Rws w A n ls → s.n = n → s.m = m → enL s = en → haL s = ha → raL s = ra → (∀ x ∈ ha, Fits x) → n ≤ 9223372036854775807 → m ≤ 9223372036854775807 → RefR W' A (some ⟨b2, 0, none⟩) (some ⟨b3, 0, none⟩) (some ⟨b4, 0, none⟩) ls s ∧ Below w.heap.size w W' := by
  obtain ⟨F4, F5, F6⟩ := h.fin x0 x1 x2 x3 x4 y0 y1 y2 rfl
  subst hW
  exact ⟨by rw [heap_drew]; exact F4, by rw [heap_drew]; exact F5, fun ls s h1 h2 h3 h4 h5 h6 h7 h8 h9 => ⟨(F6 ls s h1 h2 h3 h4 h5 h6 h7 h8 h9).1.drew, (F6 ls s h1 h2 h3 h4 h5 h6 h7 h8 h9).2.drew⟩⟩
theorem Cpy.fresh {w W : World} {B g b2 b3 b4 n c c2 m c3 c4 : Nat} {A : Option Addr} {p : Int} {en : List Bool} {ha : List Int} {ra : List Bool} (h : Cpy w B W g b2 b3 b4 A n c c2 m c3 c4 p en ha ra) : ∀ a : Addr, some ⟨b2, 0, none⟩ = some a ∨ some ⟨b3, 0, none⟩ = some a ∨ some ⟨b4, 0, none⟩ = some a → w.heap.size ≤ a.block := by
  obtain ⟨l0, l1, l2, l3, l4⟩ := h.low
  rintro a (h | h | h) <;> injection h with h <;> subst h
  · show w.heap.size ≤ b2; omega
  · show w.heap.size ≤ b3; omega
  · show w.heap.size ≤ b4; omega
theorem fits_set {l : List Int} (h : ∀ x ∈ l, Fits x) (k : Nat) (v : Int) (hv : Fits v) : ∀ x ∈ l.set k v, Fits x := fun x hx => by
  rcases List.mem_or_eq_of_mem_set hx with h1 | h1
  · exact h x h1
  · rw [h1]; exact hv

/-- What stands in the results' blocks and in the copy. -/
structure Cells8 (W : World) (r4 r5 g : Nat) (A A2 A3 A4 : Option Addr) (n c c2 m c3 c4 : Nat) (p : Int) : Prop where
  y0 : W.cell? ⟨g, 0, none⟩ = some (.slice A n c)
  y1 : W.cell? ⟨g, 1, none⟩ = some (.slice A2 n c2)
  y2 : W.cell? ⟨g, 2, none⟩ = some (.slice A3 m c3)
  y3 : W.cell? ⟨g, 3, none⟩ = some (.slice A4 m c4)
  y4 : W.cell? ⟨g, 4, none⟩ = some (.int .i64 p)
  z0 : W.cell? ⟨r4, 0, none⟩ = some (.slice none 0 0)
  z1 : W.cell? ⟨r4, 1, none⟩ = some (.slice none 0 0)
  z2 : W.cell? ⟨r4, 2, none⟩ = some (.slice none 0 0)
  z3 : W.cell? ⟨r4, 3, none⟩ = some (.slice none 0 0)
  z4 : W.cell? ⟨r4, 4, none⟩ = some (.int .i64 0)
  x0 : W.cell? ⟨r5, 0, none⟩ = some (.int .i64 0)
  x1 : W.cell? ⟨r5, 1, none⟩ = some (.int .i64 0)
  x2 : W.cell? ⟨r5, 2, none⟩ = some (.int .i64 0)
  f0 : W.frozen? ⟨r4, 0, none⟩ = false
  f1 : W.frozen? ⟨r4, 1, none⟩ = false
  f2 : W.frozen? ⟨r4, 2, none⟩ = false
  f3 : W.frozen? ⟨r4, 3, none⟩ = false
  f4 : W.frozen? ⟨r4, 4, none⟩ = false
  k0 : W.frozen? ⟨r5, 0, none⟩ = false
  k1 : W.frozen? ⟨r5, 1, none⟩ = false
  k2 : W.frozen? ⟨r5, 2, none⟩ = false
theorem Cpy.cells8 {w W : World} {B g b2 b3 b4 n c c2 m c3 c4 : Nat} {A : Option Addr} {p : Int} {en : List Bool} {ha : List Int} {ra : List Bool} (h : Cpy w B W g b2 b3 b4 A n c c2 m c3 c4 p en ha ra) :
    Cells8 W (w.heap.size + 1) (w.heap.size + 1 + 1) g A (some ⟨b2, 0, none⟩) (some ⟨b3, 0, none⟩) (some ⟨b4, 0, none⟩) n c c2 m c3 c4 p :=
  ⟨(cell_of_row W _ 0 _ 74 (0, 0) h.box).trans rfl, (cell_of_row W _ 1 _ 74 (0, 0) h.box).trans rfl, (cell_of_row W _ 2 _ 74 (0, 0) h.box).trans rfl, (cell_of_row W _ 3 _ 74 (0, 0) h.box).trans rfl, (cell_of_row W _ 4 _ 74 (0, 0) h.box).trans rfl,
    (cell_of_row W _ 0 _ 74 (0, 0) h.r4).trans rfl, (cell_of_row W _ 1 _ 74 (0, 0) h.r4).trans rfl, (cell_of_row W _ 2 _ 74 (0, 0) h.r4).trans rfl, (cell_of_row W _ 3 _ 74 (0, 0) h.r4).trans rfl, (cell_of_row W _ 4 _ 74 (0, 0) h.r4).trans rfl,
    (cell_of_row W _ 0 _ 81 (0, 0) h.r5).trans rfl, (cell_of_row W _ 1 _ 81 (0, 0) h.r5).trans rfl, (cell_of_row W _ 2 _ 81 (0, 0) h.r5).trans rfl,
    frozen_of_row W _ 0 _ 74 h.r4, frozen_of_row W _ 1 _ 74 h.r4, frozen_of_row W _ 2 _ 74 h.r4, frozen_of_row W _ 3 _ 74 h.r4, frozen_of_row W _ 4 _ 74 h.r4, frozen_of_row W _ 0 _ 81 h.r5, frozen_of_row W _ 1 _ 81 h.r5, frozen_of_row W _ 2 _ 81 h.r5⟩
theorem fits_nat {i : Nat} (h : i ≤ 1000000) : Fits (i : Int) := by unfold Fits; omega

set_option maxHeartbeats 8000000 in
theorem refpick_act (A : Option Addr) (c : Nat) (A2 : Option Addr) (c2 : Nat) (A3 : Option Addr) (c3 : Nat) (A4 : Option Addr) (c4 : Nat) (p : Int) (ls : List (List Int)) (s : PS) (w : World) (h : RefR w A A2 A3 A4 ls s) (hI : Inv ls s) (hn : s.n ≤ 1000000) (hm : s.m ≤ 1000000) (hp : 0 ≤ p ∧ p ≤ 1000000000) (hl : s.left ≠ 0) (hn0 : 0 < s.n) (k : Nat) (hk : k < s.m)
    (hnil : (A2 = none → c2 = 0) ∧ (A3 = none → c3 = 0) ∧ (A4 = none → c4 = 0)) (o : PS × PS.Out) (hw : Way ls s k o) :
    Calls Try.prog 45 #[refV A s.n c A2 c2 A3 s.m c3 A4 c4 p, .int .i64 (k : Int)] w (PickR w A s.n c s.m ls o (p + 1)) := by
  have HC := Lib.hid (fun w' (hb : Below w.heap.size w w') => refleft_any A c A2 c2 A3 c3 A4 c4 p ls s w' (h.below hb) hI hn)
  have HBX := Lib.hid (heap_alloc_new w (.cells (refC A s.n c A2 c2 A3 s.m c3 A4 c4 p) 74))
  have HR := Lib.hid h
  have HI := Lib.hid hI
  have hl0 : (s.left == 0) = false := beq_eq_false_iff_ne.2 hl
  have HL0 := Lib.hid hl
  obtain ⟨lf, hlf⟩ : ∃ lf, lf = s.left := ⟨_, rfl⟩
  rw [← hlf] at HC hl0
  obtain ⟨m, hm'⟩ : ∃ m, m = s.m := ⟨_, rfl⟩
  obtain ⟨n, hn'⟩ : ∃ n, n = s.n := ⟨_, rfl⟩
  have HN := Lib.hid hn'
  have HM := Lib.hid hm'
  have HFH := Lib.hid (haL_fits hI hn)
  have HWAY := Lib.hid hw
  rw [← hn'] at hn hn0 HC HBX ⊢
  rw [← hm'] at hm hk HC HBX ⊢
  unfold refV refC at *
  clear h hI hl hlf hn' hm' hw
  go_enter Try.func45, Try.ntmps45
  go_wp2_with fail
  refine Calls.mono (HC.out _ ?_) ?_
  · exact (alloc3 w _ _ _).2.2.2.1
  rintro e w1 ⟨rfl, hb1⟩
  have hk3 := alloc3 w (.cells (refC A n c A2 c2 A3 m c3 A4 c4 p) 74) (.cells #[.slice none 0 0, .slice none 0 0, .slice none 0 0, .slice none 0 0, .int .i64 0] 74) (.cells #[.int .i64 0, .int .i64 0, .int .i64 0] 81)
  unfold refC at hk3
  obtain ⟨k0, k1, k2, k3, k4⟩ := hk3
  have HX1 := Lib.hid ((hb1.block _ (Array.getElem?_eq_some_iff.1 k0).1).trans k0)
  have HX4 := Lib.hid ((hb1.block _ (Array.getElem?_eq_some_iff.1 k1).1).trans k1)
  have HX5 := Lib.hid ((hb1.block _ (Array.getElem?_eq_some_iff.1 k2).1).trans k2)
  have HW1 := Lib.hid (k3.trans (hb1.mono k3.size))
  have hsz : w.heap.size + 3 ≤ w1.heap.size := Nat.le_trans k4 hb1.size
  have HR1 := Lib.hid (HR.out.below HW1.out)
  clear hb1 k0 k1 k2 k3 k4 HC
  go_upto_region 5 with fail
  go_cut [7] from 28 to 45 (fun v wx => ∃ g b2 b3 b4 c5 c6 c7, v = .pointer (some ⟨g, 0, none⟩) ∧ Cpy w w1.heap.size wx g b2 b3 b4 A n c c5 m c6 c7 (p + 1) (enL s) (haL s) (raL s))
  case first =>
    refine wp_region_noPanic ?_
    have HY := Lib.hid (show ∀ w2, Ext w1.drew w2 → w2.heap[w.heap.size]? = some (.cells #[.slice A n c, .slice A2 n c2, .slice A3 m c3, .slice A4 m c4, .int .i64 p] 74 (0, 0)) from fun w2 hw => (hw.block _ (Array.getElem?_eq_some_iff.1 HX1.out).1).trans HX1.out)
    have HRR := Lib.hid (show ∀ w2, Ext w1.drew w2 → RefR w2 A A2 A3 A4 ls s from fun w2 hw => HR1.out.below (W := w1) ⟨hw.os, hw.tape, hw.output, hw.size, hw.block⟩)
    have hp1 : IntKind.i64.wrap (p + 1) = p + 1 := IntWalk.i64_in _ (by omega)
    refine wp_region_abs 19 125 [
      .is (.pointer (some ⟨w.heap.size, 0, none⟩)),
      .is (.slice A n c),
      .tells fun _ v _ _ => ∃ g, v = .slice (some g) 0 0,
      .is (.pointer (some ⟨w.heap.size, 1, none⟩)),
      .is (.slice A2 n c2),
      .tells fun _ v w w' => Row w w' v n (valsB (enL s)),
      .tells fun _ v _ _ => ∃ g, v = .slice (some g) 0 0,
      .is (.pointer (some ⟨w.heap.size, 2, none⟩)),
      .is (.slice A3 m c3),
      .tells fun _ v w w' => Row w w' v m (valsZ (haL s)),
      .tells fun _ v _ _ => ∃ g, v = .slice (some g) 0 0,
      .is (.pointer (some ⟨w.heap.size, 3, none⟩)),
      .is (.slice A4 m c4),
      .tells fun _ v w w' => Row w w' v m (valsB (raL s)),
      .is (.pointer (some ⟨w.heap.size, 4, none⟩)),
      .is (.int .i64 p),
      .is (.int .i64 (p + 1)),
      .tells fun d v _ _ => v = .agg #[(d.getD 0 (undef, w, w)).1, (d.getD 1 (undef, w, w)).1, (d.getD 2 (undef, w, w)).1, (d.getD 3 (undef, w, w)).1, (d.getD 4 (undef, w, w)).1],
      .tells fun _ v w w' => v = .pointer (some ⟨w.heap.size, 0, none⟩) ∧ w'.heap[w.heap.size]? = some (.cells #[.slice none 0 0, .slice none 0 0, .slice none 0 0, .slice none 0 0, .int .i64 0] 74 (0, 0))] [28, 29, 30, 31, 32, 33, 34, 35, 36, 37, 38, 39, 40, 41, 42, 43, 44, 45, 7]
      [[], [0], [], [], [3], [2, 4], [], [], [7], [6, 8, 5], [], [], [11], [10, 12, 9], [], [14], [15], [1, 5, 9, 13, 16], []] (by kernel_rfl) (by rfl) rfl rfl (by kernel_rfl) (fun _ _ _ _ h => h.elim) ?_ ?_
    · refine ⟨?_, ?_, ?_, ?_, ?_, ?_, ?_, ?_, ?_, ?_, ?_, ?_, ?_, ?_, ?_, ?_, ?_, ?_, ?_, trivial⟩
      · intro w2 hw K hK
        go_simp
        exact hK _ _ rfl (Below.refl _ _)
      · intro w2 hw K hK
        have y := cell_of_row w2 _ 0 _ 74 (0, 0) (HY.out w2 hw)
        simp only [List.getElem?_toArray, List.getElem?_cons_zero] at y
        go_simp
        exact hK _ _ rfl (Below.refl _ _)
      · intro w2 hw K hK
        go_simp
        exact hK _ _ ⟨_, rfl⟩ ((Below.refl _ _).alloc (Nat.le_refl _) _)
      · intro w2 hw K hK
        go_simp
        exact hK _ _ rfl (Below.refl _ _)
      · intro w2 hw K hK
        have y := cell_of_row w2 _ 1 _ 74 (0, 0) (HY.out w2 hw)
        simp only [List.getElem?_toArray, List.getElem?_cons_zero, List.getElem?_cons_succ] at y
        go_simp
        exact hK _ _ rfl (Below.refl _ _)
      · rintro w2 hw v0 _ _ ⟨_, g, rfl⟩ -
        refine (show ∀ d, Does _ _ _ _ _ _ d _ from fun d => ?_) _
        exact does_append_fresh (F := fun _ v w w' => Row w w' v n (valsB (enL s))) elem67 rfl _ _ rfl g rfl A2 n c2 _ rfl (rdv_bls (by rw [HN.out]; exact (HRR.out w2 hw).ended)) hnil.1 (by unfold maxLen; omega) (by omega) fun v w' h => h
      · intro w2 hw K hK
        go_simp
        exact hK _ _ ⟨_, rfl⟩ ((Below.refl _ _).alloc (Nat.le_refl _) _)
      · intro w2 hw K hK
        go_simp
        exact hK _ _ rfl (Below.refl _ _)
      · intro w2 hw K hK
        have y := cell_of_row w2 _ 2 _ 74 (0, 0) (HY.out w2 hw)
        simp only [List.getElem?_toArray, List.getElem?_cons_zero, List.getElem?_cons_succ] at y
        go_simp
        exact hK _ _ rfl (Below.refl _ _)
      · rintro w2 hw v0 _ _ ⟨_, g, rfl⟩ - v2 _ _ - -
        refine (show ∀ d, Does _ _ _ _ _ _ d _ from fun d => ?_) _
        exact does_append_fresh (F := fun _ v w w' => Row w w' v m (valsZ (haL s))) elem38 rfl _ _ rfl g rfl A3 m c3 _ rfl (rdv_nums (by rw [HM.out]; exact (HRR.out w2 hw).has)) hnil.2.1 (by unfold maxLen; omega) (by omega) fun v w' h => h
      · intro w2 hw K hK
        go_simp
        exact hK _ _ ⟨_, rfl⟩ ((Below.refl _ _).alloc (Nat.le_refl _) _)
      · intro w2 hw K hK
        go_simp
        exact hK _ _ rfl (Below.refl _ _)
      · intro w2 hw K hK
        have y := cell_of_row w2 _ 3 _ 74 (0, 0) (HY.out w2 hw)
        simp only [List.getElem?_toArray, List.getElem?_cons_zero, List.getElem?_cons_succ] at y
        go_simp
        exact hK _ _ rfl (Below.refl _ _)
      · rintro w2 hw v0 _ _ ⟨_, g, rfl⟩ - v2 _ _ - -
        refine (show ∀ d, Does _ _ _ _ _ _ d _ from fun d => ?_) _
        exact does_append_fresh (F := fun _ v w w' => Row w w' v m (valsB (raL s))) elem67 rfl _ _ rfl g rfl A4 m c4 _ rfl (rdv_bls (by rw [HM.out]; exact (HRR.out w2 hw).ran)) hnil.2.2 (by unfold maxLen; omega) (by omega) fun v w' h => h
      · intro w2 hw K hK
        go_simp
        exact hK _ _ rfl (Below.refl _ _)
      · intro w2 hw K hK
        have y := cell_of_row w2 _ 4 _ 74 (0, 0) (HY.out w2 hw)
        simp only [List.getElem?_toArray, List.getElem?_cons_zero, List.getElem?_cons_succ] at y
        go_simp
        exact hK _ _ rfl (Below.refl _ _)
      · intro w2 hw K hK
        go_simp
        exact hK _ _ rfl (Below.refl _ _)
      · rintro w2 hw v1 _ _ ⟨_, A5, c5, rfl, -⟩ - v2 _ _ ⟨_, A6, c6, rfl, -⟩ - v3 _ _ ⟨_, A7, c7, rfl, -⟩ -
        intro K hK
        go_simp
        exact hK _ _ rfl (Below.refl _ _)
      · intro w2 hw K hK
        go_simp
        exact hK _ _ ⟨rfl, heap_alloc_new _ _⟩ ((Below.refl _ _).alloc (Nat.le_refl _) _)
    · intro w2 hw2
      intro v2 _ _ _ _ _ _ v5 wb5 wa5 h5 x5 y5 _ v6 _ _ _ _ _ _ v9 wb9 wa9 h9 x9 _ r9 v10 _ _ _ _ _ _ v13 wb13 wa13 h13 x13 _ r13 v17 wb17 wa17 h17 _ _ _ v18 wb18 wa18 h18 x18 y18 _
      simp only [Behind]
      simp only [List.map_cons, List.getD_cons_zero, List.getD_cons_succ, List.nil_append, List.cons_append] at h17
      have q1 : Ext wa5 wb9 := by
        have := r9 5 (by simp)
        simpa only [List.getD_cons_zero, List.getD_cons_succ, List.nil_append, List.cons_append] using this
      have q2 : Ext wa9 wb13 := by
        have := r13 9 (by simp)
        simpa only [List.getD_cons_zero, List.getD_cons_succ, List.nil_append, List.cons_append] using this
      obtain ⟨rfl, h18⟩ := h18
      obtain ⟨A5, c5, rfl, R5, G5⟩ := h5
      obtain ⟨A6, c6, rfl, R6, G6⟩ := h9
      obtain ⟨A7, c7, rfl, R7, G7⟩ := h13
      obtain ⟨b2, rfl, l2, i2, f2⟩ := G5 hn0
      obtain ⟨b3, rfl, l3, i3, f3⟩ := G6 (by omega)
      obtain ⟨b4, rfl, l4, i4, f4⟩ := G7 (by omega)
      have s1 := q1.size
      have s2 := q2.size
      have s3 := x13.size
      have s4 := y5.size
      have s5 := y18.size
      have s6 := x18.size
      have s7 := x5.size
      have s8 := x9.size
      have s9 : w1.drew.heap.size = w1.heap.size := rfl
      have g18 := (x18.block _ (Array.getElem?_eq_some_iff.1 h18).1).trans h18
      have hgl := (Array.getElem?_eq_some_iff.1 h18).1
      have C := cpy_made (w := w) (m := m) (B := w1.heap.size) (b2 := b2) (b3 := b3) (b4 := b4) (g := wb18.heap.size) (A := A) (n := n) (c := c) (p := p + 1) (W := w2) (HW1.out.drew.trans (hw2.mono HW1.out.size)) ⟨hsz, by omega, by omega, by omega, by omega⟩ ⟨by omega, by omega, by omega, by omega⟩ hn0 (by omega) g18 (bls_rdv (R5.ext (stays_w x5)) (by omega)) (nums_rdv (R6.ext (stays_w x9)) HFH.out) (bls_rdv (R7.ext (stays_w x13)) (by omega)) ⟨by omega, by omega, by omega⟩
        ⟨fun o => ((cell_frozen (x5.block b2 i2)).2 o).trans (f2 o), fun o => ((cell_frozen (x9.block b3 i3)).2 o).trans (f3 o), fun o => ((cell_frozen (x13.block b4 i4)).2 o).trans (f4 o)⟩ ((hw2.block _ (Array.getElem?_eq_some_iff.1 HX4.out).1).trans HX4.out) ((hw2.block _ (Array.getElem?_eq_some_iff.1 HX5.out).1).trans HX5.out) c5 c6 c7
      have HCP := Lib.hid C
      have e0 := cell_of_row w2 _ 0 _ 74 (0, 0) g18
      have e1 := cell_of_row w2 _ 1 _ 74 (0, 0) g18
      have e2 := cell_of_row w2 _ 2 _ 74 (0, 0) g18
      have e3 := cell_of_row w2 _ 3 _ 74 (0, 0) g18
      have e4 := cell_of_row w2 _ 4 _ 74 (0, 0) g18
      have j0 : w2.frozen? ⟨wb18.heap.size, 0, none⟩ = false := frozen_of_row w2 _ 0 _ 74 g18
      have j1 : w2.frozen? ⟨wb18.heap.size, 1, none⟩ = false := frozen_of_row w2 _ 1 _ 74 g18
      have j2 : w2.frozen? ⟨wb18.heap.size, 2, none⟩ = false := frozen_of_row w2 _ 2 _ 74 g18
      have j3 : w2.frozen? ⟨wb18.heap.size, 3, none⟩ = false := frozen_of_row w2 _ 3 _ 74 g18
      have j4 : w2.frozen? ⟨wb18.heap.size, 4, none⟩ = false := frozen_of_row w2 _ 4 _ 74 g18
      simp only [List.getElem?_toArray, List.getElem?_cons_zero, List.getElem?_cons_succ] at e0 e1 e2 e3 e4
      subst h17
      clear C R5 R6 R7 G5 G6 G7 g18 h18 q1 q2 x5 x9 x13 x18 y5 y18 hw2 r9 r13 HY HRR HX1 HX4 HX5 HR HR1 HBX s1 s2 s3 s4 s5 s6 s7 s8 s9 hgl f2 f3 f4 hp1
      simp only [List.drop, Act.put, List.setIfInBounds_toArray, List.set_cons_zero, List.set_cons_succ]
      go_wp2_with fail
      refine NoPanic.normal ?_
      refine ‹∀ (a' : Act) (w' : World), Met _ a' w' → _› _ _ ?_
      go_meet
      case rel => exact ⟨_, b2, b3, b4, c5, c6, c7, rfl, HCP.out⟩
  case rest =>
    obtain ⟨g, b2, b3, b4, c5, c6, c7, rfl, C⟩ := hcut
    have HLS := Lib.hid HR.out.leans
    clear HX1 HX4 HX5 HW1 HR1 HBX HR hsz
    rcases HWAY.out.inv with h0 | ⟨i, hi, hw, hk2, h12, ho⟩ | ⟨i, t, hi, hw, hr, hk0, hwk, ho⟩ | ⟨i, v, hi, hw, hr, hwho, hv, hws, hwk, h12, ho⟩
    · exact absurd h0 HL0.out
    · have HO := Lib.hid ho
      have hin : i < n := by rw [HN.out]; exact hi
      have hvm := hk
      have hwv := hw
      have hkv := hk2
      have HCP := Lib.hid C
      have hh := C.ha k hk
      rw [haL_at s k (by rw [← HM.out]; exact hk), hw] at hh
      obtain ⟨y0, y1, y2, y3, y4, -, -, -, -, -, -, -, -, -, -, -, -, -, -, -, -⟩ := C.cells8
      have HWV := Lib.hid hwv
      have HKV := Lib.hid hkv
      clear ho hi hw hk2 C hwv hkv
      go_upto_region 18 with fail
      clear hh y0 y1 y2 y3 y4
      have hwv := HWV.out
      have hkv := HKV.out
      obtain ⟨y0, y1, y2, y3, y4, -, -, -, -, -, -, -, -, -, -, -, -, -, -, -, -⟩ := HCP.out.cells8
      have hh := HCP.out.ha k hvm
      rw [haL_at s k (by rw [← HM.out]; exact hvm), hwv] at hh
      have hr := HCP.out.ra k hvm
      rw [raL_at s k (by rw [← HM.out]; exact hvm)] at hr
      have fa := HCP.out.fr.1
      have fb := HCP.out.fr.2.1
      have fc := HCP.out.fr.2.2
      obtain ⟨n1, n2, n3, n4, n5, n6⟩ := HCP.out.ne
      have hw0 := Lib.hid hwv
      have hkw := Lib.hid hkv
      have hv0 : (0 : Int) ≤ (k : Int) := by omega
      have hv1 : (k : Int) < (m : Int) := by omega
      have hi0 : (0 : Int) ≤ (i : Int) := by omega
      have hi1 : (i : Int) < (n : Int) := by omega
      rcases h12 with h1 | h2
      · have hrb : ranB s k = false := by
          unfold ranB; rw [hwv, Int.toNat_natCast, h1]; simp
        rw [hrb] at hr
        have H1 := Lib.hid h1
        clear hrb h1 hwv hkv
        go_upto_region 21 with fail
        have C2 := HCP.out.setRa k hvm true
        clear hh hr y0 y1 y2 y3 y4 fa fb fc HCP
        generalize World.setCell wc _ _ = wd at C2 ⊢
        obtain ⟨y0, y1, y2, y3, y4, z0, z1, z2, z3, z4, x0, x1, x2, f0, f1, f2, f3, f4, k0, k1, k2⟩ := C2.cells8
        have HC2 := Lib.hid C2
        clear C2
        go_wp2_with fail
        obtain ⟨F4, F5, F6⟩ := HC2.out.fin (.slice A n c) (.slice (some ⟨b2, 0, none⟩) n c5) (.slice (some ⟨b3, 0, none⟩) m c6) (.slice (some ⟨b4, 0, none⟩) m c7) (.int .i64 (p + 1)) (.int .i64 2) (.int .i64 (i : Int)) (.int .i64 (k : Int)) rfl
        refine bodyPost_ret (results_pick _ _ _ _ _ _ _ rfl rfl rfl F4 F5 rfl rfl) rfl ?_
        obtain ⟨F7, F8⟩ := F6 ls o.1 (by rw [HN.out]; exact HLS.out) (by rw [HO.out, HN.out]; exact (step_picks s i).2.1) (by rw [HO.out, HM.out]; exact (step_picks s i).2.2) (by rw [HO.out]; exact act1_enL H1.out) (by rw [HO.out]; exact act1_haL H1.out) (by rw [HO.out]; exact act1_raL HI.out H1.out hw0.out hkw.out) HFH.out (by omega) (by omega)
        exact ⟨_, _, _, _, _, _, _, _, _, by rw [HO.out]; show PS.Out.ev (s.kd i + 1) i (s.wk i) = _; rw [H1.out, hkw.out]; rfl, rfl, F7, ⟨(fun h => by cases h), (fun h => by cases h), (fun h => by cases h)⟩, F8, HC2.out.fresh⟩
      · have hrb : ranB s k = true := by
          unfold ranB; rw [hwv, Int.toNat_natCast, h2]; simp
        rw [hrb] at hr
        have H2 := Lib.hid h2
        have cen := HCP.out.en i hin
        obtain ⟨eni, heni⟩ : ∃ e, e = (enL s).getD i false := ⟨_, rfl⟩
        rw [← heni] at cen
        clear hrb h2 hwv hkv heni
        go_upto_region 25 with fail
        have C2 := ((HCP.out.setHa k hvm (-1)).setRa k hvm false).setEn i hin true
        clear hh hr y0 y1 y2 y3 y4 fa fb fc cen HCP
        generalize World.setCell (World.setCell (World.setCell wc _ _) _ _) _ _ = wd at C2 ⊢
        obtain ⟨y0, y1, y2, y3, y4, z0, z1, z2, z3, z4, x0, x1, x2, f0, f1, f2, f3, f4, k0, k1, k2⟩ := C2.cells8
        have HC2 := Lib.hid C2
        clear C2
        go_wp2_with fail
        obtain ⟨F4, F5, F6⟩ := HC2.out.fin (.slice A n c) (.slice (some ⟨b2, 0, none⟩) n c5) (.slice (some ⟨b3, 0, none⟩) m c6) (.slice (some ⟨b4, 0, none⟩) m c7) (.int .i64 (p + 1)) (.int .i64 3) (.int .i64 (i : Int)) (.int .i64 (k : Int)) rfl
        refine bodyPost_ret (results_pick _ _ _ _ _ _ _ rfl rfl rfl F4 F5 rfl rfl) rfl ?_
        obtain ⟨F7, F8⟩ := F6 ls o.1 (by rw [HN.out]; exact HLS.out) (by rw [HO.out, HN.out]; exact (step_picks s i).2.1) (by rw [HO.out, HM.out]; exact (step_picks s i).2.2) (by rw [HO.out]; exact act2_enL H2.out) (by rw [HO.out]; exact act2_haL H2.out hkw.out) (by rw [HO.out]; exact act2_raL HI.out H2.out hkw.out) (fits_set HFH.out _ _ (by decide)) (by omega) (by omega)
        exact ⟨_, _, _, _, _, _, _, _, _, by rw [HO.out]; show PS.Out.ev (s.kd i + 1) i (s.wk i) = _; rw [H2.out, hkw.out]; rfl, rfl, F7, ⟨(fun h => by cases h), (fun h => by cases h), (fun h => by cases h)⟩, F8, HC2.out.fresh⟩
    · have HO := Lib.hid ho
      have hin : i < n := by rw [HN.out]; exact hi
      have RC := C.refR (by rw [HN.out]; exact HLS.out.below C.below) HN.out.symm HM.out.symm rfl rfl rfl HFH.out (by omega) (by omega)
      have CR := refready_any A c (some ⟨b2, 0, none⟩) c5 (some ⟨b3, 0, none⟩) c6 (some ⟨b4, 0, none⟩) c7 (p + 1) ls s wc RC HI.out (by rw [← HN.out]; exact hn) (by rw [← HM.out]; exact hm)
      rw [hr, ← HN.out, ← HM.out] at CR
      unfold refV refC at CR
      have hh := C.ha k hk
      rw [haL_at s k (by rw [← HM.out]; exact hk), hw] at hh
      obtain ⟨y0, y1, y2, y3, y4, -, -, -, -, -, -, -, -, -, -, -, -, -, -, -, -⟩ := C.cells8
      have HCP := Lib.hid C
      have HCR := Lib.hid CR
      have HK0 := Lib.hid hk0
      have HWK := Lib.hid hwk
      have hl3 := C.hi.2.2.1
      clear ho hi hw hr hk0 hwk C CR RC
      go_wp2_with fail
      refine Calls.mono HCR.out ?_
      rintro e we ⟨v9, rfl, A9, c9, rfl, hnum, hfr, hbe⟩
      have HCE := Lib.hid (HCP.out.ext hbe)
      obtain ⟨b9, off9, rfl, hc9⟩ := hnum.2.2 (by simp)
      have l0 := hc9 0 (by simp)
      rw [Nat.add_zero] at l0
      have l0 : we.cell? ⟨b9, off9, none⟩ = some (.int .i64 (i : Int)) := l0
      have hb9 : wc.heap.size ≤ b9 := hfr _ rfl
      have n9 : b9 ≠ b3 := by omega
      have hlen : ((i : Int) :: t).length = t.length + 1 := rfl
      rw [hlen]
      have hb9e : b9 < we.heap.size := World.block_lt_of_cell? _ _ l0
      have hi4 := HCP.out.hi
      clear hnum hfr hbe hc9 hh y0 y1 y2 y3 y4 HCP hlen
      obtain ⟨y0, y1, y2, y3, y4, -, -, -, -, -, -, -, -, -, -, -, -, -, -, -, -⟩ := HCE.out.cells8
      have hh := HCE.out.ha k hk
      have hr := HCE.out.ra k hk
      obtain ⟨q3, hq3⟩ : ∃ q, q = (haL s).getD k 0 := ⟨_, rfl⟩
      obtain ⟨q4, hq4⟩ : ∃ q, q = (raL s).getD k false := ⟨_, rfl⟩
      rw [← hq3] at hh
      rw [← hq4] at hr
      have fb := HCE.out.fr.2.1 k
      have fc := HCE.out.fr.2.2 k
      obtain ⟨n1, n2, n3, n4, n5, n6⟩ := HCE.out.ne
      obtain ⟨k0, k1, k2, k3, k4⟩ := HCE.out.low
      have u1 : b3 ≠ g := fun e => n2 e.symm
      have u2 : b3 ≠ b9 := by omega
      have u3 : b4 ≠ g := fun e => n3 e.symm
      have u4 : b4 ≠ b9 := by omega
      have u5 : w.heap.size + 1 ≠ g := by omega
      have u6 : w.heap.size + 1 + 1 ≠ g := by omega
      have u7 : w.heap.size + 1 ≠ b9 := by omega
      have u8 : w.heap.size + 1 + 1 ≠ b9 := by omega
      have u9 : w.heap.size + 1 ≠ w.heap.size + 1 + 1 := by omega
      have u10 : w.heap.size + 1 + 1 ≠ w.heap.size + 1 := by omega
      have u11 : b9 ≠ b4 := by omega
      have t0 : (0 : Int) < ((t.length + 1 : Nat) : Int) := by omega
      have t1 : (0 : Int) ≤ (k : Int) := by omega
      have t2 : (k : Int) < (m : Int) := by omega
      clear hq3 hq4 hi4 hb9 n1 n2 n3 n4 n5 n6
      go_upto_region 10 with fail
      go_region_held3 (fun w' => w'.cell? ⟨g, 2, none⟩ = some (.slice (some ⟨b3, 0, none⟩) m c6) ∧ w'.cell? ⟨b9, off9, none⟩ = some (.int .i64 (i : Int))) (go_keep) (fail)
      have C1 := (HCE.out.setHa k hk i).ext ((Below.refl _ _).drew)
      have l1 : ((we.setCell ⟨b3, k, none⟩ (.int .i64 (i : Int))).drew).cell? ⟨b9, off9, none⟩ = some (.int .i64 (i : Int)) := (set_blk u2).trans l0
      clear hh hr y0 y1 y2 y3 y4 fb fc l0 hb9e HCE
      revert C1 l1
      generalize World.drew (World.setCell we _ _) = wf
      intro C1 l1
      have HC1 := Lib.hid C1
      obtain ⟨y0, y1, y2, y3, y4, -, -, -, -, -, -, -, -, -, -, -, -, -, -, -, -⟩ := C1.cells8
      have hr := C1.ra k hk
      obtain ⟨q4, hq4⟩ : ∃ q, q = (raL s).getD k false := ⟨_, rfl⟩
      rw [← hq4] at hr
      have fc := C1.fr.2.2 k
      clear C1 hq4
      go_upto_region 12 with fail
      have C2 := HC1.out.setRa k hk false
      have l2 : (wf.setCell ⟨b4, k, none⟩ (.bool false)).cell? ⟨b9, off9, none⟩ = some (.int .i64 (i : Int)) := (set_blk u4).trans l1
      clear hr y0 y1 y2 y3 y4 fc l1 HC1
      revert C2 l2
      generalize World.setCell wf _ _ = wg
      intro C2 l2
      obtain ⟨y0, y1, y2, y3, y4, z0, z1, z2, z3, z4, x0, x1, x2, f0, f1, f2, f3, f4, k0, k1, k2⟩ := C2.cells8
      have HC2 := Lib.hid C2
      clear C2
      go_region_held3 (fun w' => w'.cell? ⟨g, 0, none⟩ = some (.slice A n c) ∧ w'.cell? ⟨g, 1, none⟩ = some (.slice (some ⟨b2, 0, none⟩) n c5) ∧ w'.cell? ⟨g, 2, none⟩ = some (.slice (some ⟨b3, 0, none⟩) m c6) ∧ w'.cell? ⟨g, 3, none⟩ = some (.slice (some ⟨b4, 0, none⟩) m c7) ∧ w'.cell? ⟨g, 4, none⟩ = some (.int .i64 (p + 1)) ∧ w'.cell? ⟨b9, off9, none⟩ = some (.int .i64 (i : Int))) (go_keep) (fail)
      · clear y0 y1 y2 y3 y4 z0 z1 z2 z3 z4 x0 x1 x2 f0 f1 f2 f3 f4 k0 k1 k2 l2
        go_wp2_with fail
        obtain ⟨F4, F5, F6⟩ := HC2.out.finD (.slice A n c) (.slice (some ⟨b2, 0, none⟩) n c5) (.slice (some ⟨b3, 0, none⟩) m c6) (.slice (some ⟨b4, 0, none⟩) m c7) (.int .i64 (p + 1)) (.int .i64 1) (.int .i64 (i : Int)) (.int .i64 (k : Int)) rfl
        refine bodyPost_ret (results_pick _ _ _ _ _ _ _ rfl rfl rfl F4 F5 rfl rfl) rfl ?_
        obtain ⟨F7, F8⟩ := F6 ls o.1 (by rw [HN.out]; exact HLS.out) (by rw [HO.out, HN.out]; exact (step_picks (s.took i k) i).2.1) (by rw [HO.out, HM.out]; exact (step_picks (s.took i k) i).2.2) (by rw [HO.out]; exact took_enL HK0.out) (by rw [HO.out]; exact took_haL HK0.out) (by rw [HO.out]; exact took_raL HI.out HK0.out HWK.out) (fits_set HFH.out _ _ (fits_nat (by omega))) (by omega) (by omega)
        exact ⟨_, _, _, _, _, _, _, _, _, by rw [HO.out]; show PS.Out.ev (s.kd i + 1) i ((s.took i k).wk i) = _; rw [HK0.out, show (s.took i k).wk i = (k : Int) from upd_same _ _ _]; rfl, rfl, F7, ⟨(fun h => by cases h), (fun h => by cases h), (fun h => by cases h)⟩, F8, HC2.out.fresh⟩
    · have HO := Lib.hid ho
      have hin : i < n := by rw [HN.out]; exact hi
      have hvm : v < m := by rw [HM.out]; exact hv
      have RC := C.refR (by rw [HN.out]; exact HLS.out.below C.below) HN.out.symm HM.out.symm rfl rfl rfl HFH.out (by omega) (by omega)
      have CR := refready_any A c (some ⟨b2, 0, none⟩) c5 (some ⟨b3, 0, none⟩) c6 (some ⟨b4, 0, none⟩) c7 (p + 1) ls s wc RC HI.out (by rw [← HN.out]; exact hn) (by rw [← HM.out]; exact hm)
      rw [hr, ← HN.out, ← HM.out] at CR
      unfold refV refC at CR
      have CH := fun (j : Nat) w' (hj : j < n) (hb : Below wc.heap.size wc w') => holder_any A c (some ⟨b2, 0, none⟩) c5 (some ⟨b3, 0, none⟩) c6 (some ⟨b4, 0, none⟩) c7 (p + 1) ls s j w' (RC.below hb) HI.out (by rw [← HN.out]; exact hj) (by rw [← HM.out]; exact hm)
      rw [← HN.out, ← HM.out] at CH
      unfold refV refC at CH
      have hh := C.ha k hk
      rw [haL_at s k (by rw [← HM.out]; exact hk), hw] at hh
      obtain ⟨y0, y1, y2, y3, y4, -, -, -, -, -, -, -, -, -, -, -, -, -, -, -, -⟩ := C.cells8
      have HCP := Lib.hid C
      have HCR := Lib.hid CR
      have HCH := Lib.hid CH
      have HWV := Lib.hid hws
      have HKV := Lib.hid hwk
      have HWHO := Lib.hid hwho
      clear ho hi hw hr hws hwk hwho hv C CR CH RC
      go_wp2_with fail
      refine Calls.mono HCR.out ?_
      rintro e we ⟨v9, rfl, A9, c9, rfl, -, -, hbe⟩
      have HBE := Lib.hid hbe
      have HCE := Lib.hid (HCP.out.ext hbe)
      clear hbe hh y0 y1 y2 y3 y4 HCR
      obtain ⟨y0, y1, y2, y3, y4, -, -, -, -, -, -, -, -, -, -, -, -, -, -, -, -⟩ := HCE.out.cells8
      go_wp2_with fail
      go_loopw [8, 10] (fun x8 x10 wr => ∃ t : Nat, x10 = .int .i64 ((n : Int) - 1 - t) ∧ t ≤ n ∧ x8 = .int .i64 (whoS s (k : Int) t) ∧ Below wc.heap.size wc wr) (fun _ x10 _ => (intOf x10 + 1).toNat)
      case atStart => exact ⟨0, by simp, by omega, rfl, HBE.out⟩
      case round =>
        obtain ⟨t, rfl, ht, rfl, hbr⟩ := hrel
        have HCX := Lib.hid (HCP.out.ext hbr)
        clear y0 y1 y2 y3 y4 HCE HBE
        obtain ⟨y0, y1, y2, y3, y4, -, -, -, -, -, -, -, -, -, -, -, -, -, -, -, -⟩ := HCX.out.cells8
        by_cases htn : t < n
        · obtain ⟨j, hj⟩ : ∃ j : Nat, (n : Int) - 1 - t = (j : Int) := ⟨n - 1 - t, by omega⟩
          have hjn : j < n := by omega
          have CJ := HCH.out j wr hjn hbr
          have hs : whoS s (k : Int) (t + 1) = if s.wk j = -1 then whoS s (k : Int) t else s.wk j := by
            have e : s.n - 1 - t = j := by rw [← HN.out]; omega
            show (if s.wk (s.n - 1 - t) = -1 then _ else _) = _
            rw [e]
          have hwj : s.wk j = -1 ∨ 0 ≤ s.wk j := by
            by_cases h1 : s.wk j = -1
            · exact .inl h1
            · exact .inr (HI.out.wk j (by rw [← HN.out]; exact hjn) h1).1
          rw [hj]
          have hj1 : (j : Int) = (n : Int) - 1 - t := hj.symm
          have HJ := Lib.hid hj1
          obtain ⟨z, hz⟩ : ∃ z, z = s.wk j := ⟨_, rfl⟩
          rw [← hz] at CJ hs hwj
          have HCJ := Lib.hid CJ
          have CJ2 := fun w' (hb : Below wc.heap.size wc w') => HCH.out j w' hjn hb
          rw [← hz] at CJ2
          have HCJ2 := Lib.hid CJ2
          have HBR := Lib.hid hbr
          obtain ⟨q, hq⟩ : ∃ q, q = whoS s (k : Int) t := ⟨_, rfl⟩
          rw [← hq] at hs ⊢
          have HS := Lib.hid hs
          have hjb : (j : Int) ≤ 1000000 := by omega
          clear CJ CJ2 hbr hj hj1 hz hq hs
          go_wp2_with fail
          refine Calls.mono HCJ.out ?_
          rintro e wf ⟨rfl, hbf⟩
          have HBF := Lib.hid (HBR.out.trans (hbf.mono HBR.out.size))
          clear hbf y0 y1 y2 y3 y4 HCJ HBR
          rcases hwj with rfl | hwj
          · go_wp2_with fail
            go_roundw
            case rel => exact ⟨t + 1, by have := HJ.out; congr 1 <;> omega, by omega, by rw [HS.out]; rfl, HBF.out⟩
            case measure => have := HJ.out; simp only [intOf]; omega
          · obtain ⟨y0, y1, y2, y3, y4, -, -, -, -, -, -, -, -, -, -, -, -, -, -, -, -⟩ := (HCP.out.ext HBF.out).cells8
            go_wp2_with fail
            refine Calls.mono (HCJ2.out _ HBF.out) ?_
            rintro e wh ⟨rfl, hbh⟩
            have HBH := Lib.hid (HBF.out.trans (hbh.mono HBF.out.size))
            clear hbh y0 y1 y2 y3 y4
            go_wp2_with fail
            go_roundw
            case rel => exact ⟨t + 1, by have := HJ.out; congr 1 <;> omega, by omega, by rw [HS.out, if_neg (by omega)], HBH.out⟩
            case measure => have := HJ.out; simp only [intOf]; omega
        · obtain rfl : n = t := by omega
          rw [HN.out, HWHO.out, ← HN.out]
          have e1 : ((n : Int) - 1 - n) = -1 := by omega
          rw [e1]
          clear e1 hbr
          have hwv := HWV.out
          have hkv := HKV.out
          go_upto_region 18 with fail
          clear y0 y1 y2 y3 y4
          obtain ⟨y0, y1, y2, y3, y4, -, -, -, -, -, -, -, -, -, -, -, -, -, -, -, -⟩ := HCX.out.cells8
          have hh := HCX.out.ha v hvm
          rw [haL_at s v (by rw [← HM.out]; exact hvm), hwv] at hh
          have hr := HCX.out.ra v hvm
          rw [raL_at s v (by rw [← HM.out]; exact hvm)] at hr
          have fa := HCX.out.fr.1
          have fb := HCX.out.fr.2.1
          have fc := HCX.out.fr.2.2
          obtain ⟨n1, n2, n3, n4, n5, n6⟩ := HCX.out.ne
          have hw0 := Lib.hid hwv
          have hkw := Lib.hid hkv
          have hv0 : (0 : Int) ≤ (v : Int) := by omega
          have hv1 : (v : Int) < (m : Int) := by omega
          have hi0 : (0 : Int) ≤ (i : Int) := by omega
          have hi1 : (i : Int) < (n : Int) := by omega
          rcases h12 with h1 | h2
          · have hrb : ranB s v = false := by
              unfold ranB; rw [hwv, Int.toNat_natCast, h1]; simp
            rw [hrb] at hr
            have H1 := Lib.hid h1
            clear hrb h1 hwv hkv
            go_upto_region 21 with fail
            have C2 := HCX.out.setRa v hvm true
            clear hh hr y0 y1 y2 y3 y4 fa fb fc HCX
            generalize World.setCell wr _ _ = wd at C2 ⊢
            obtain ⟨y0, y1, y2, y3, y4, z0, z1, z2, z3, z4, x0, x1, x2, f0, f1, f2, f3, f4, k0, k1, k2⟩ := C2.cells8
            have HC2 := Lib.hid C2
            clear C2
            go_wp2_with fail
            obtain ⟨F4, F5, F6⟩ := HC2.out.fin (.slice A n c) (.slice (some ⟨b2, 0, none⟩) n c5) (.slice (some ⟨b3, 0, none⟩) m c6) (.slice (some ⟨b4, 0, none⟩) m c7) (.int .i64 (p + 1)) (.int .i64 2) (.int .i64 (i : Int)) (.int .i64 (v : Int)) rfl
            refine bodyPost_ret (results_pick _ _ _ _ _ _ _ rfl rfl rfl F4 F5 rfl rfl) rfl ?_
            obtain ⟨F7, F8⟩ := F6 ls o.1 (by rw [HN.out]; exact HLS.out) (by rw [HO.out, HN.out]; exact (step_picks s i).2.1) (by rw [HO.out, HM.out]; exact (step_picks s i).2.2) (by rw [HO.out]; exact act1_enL H1.out) (by rw [HO.out]; exact act1_haL H1.out) (by rw [HO.out]; exact act1_raL HI.out H1.out hw0.out hkw.out) HFH.out (by omega) (by omega)
            exact ⟨_, _, _, _, _, _, _, _, _, by rw [HO.out]; show PS.Out.ev (s.kd i + 1) i (s.wk i) = _; rw [H1.out, hkw.out]; rfl, rfl, F7, ⟨(fun h => by cases h), (fun h => by cases h), (fun h => by cases h)⟩, F8, HC2.out.fresh⟩
          · have hrb : ranB s v = true := by
              unfold ranB; rw [hwv, Int.toNat_natCast, h2]; simp
            rw [hrb] at hr
            have H2 := Lib.hid h2
            have cen := HCX.out.en i hin
            obtain ⟨eni, heni⟩ : ∃ e, e = (enL s).getD i false := ⟨_, rfl⟩
            rw [← heni] at cen
            clear hrb h2 hwv hkv heni
            go_upto_region 25 with fail
            have C2 := ((HCX.out.setHa v hvm (-1)).setRa v hvm false).setEn i hin true
            clear hh hr y0 y1 y2 y3 y4 fa fb fc cen HCX
            generalize World.setCell (World.setCell (World.setCell wr _ _) _ _) _ _ = wd at C2 ⊢
            obtain ⟨y0, y1, y2, y3, y4, z0, z1, z2, z3, z4, x0, x1, x2, f0, f1, f2, f3, f4, k0, k1, k2⟩ := C2.cells8
            have HC2 := Lib.hid C2
            clear C2
            go_wp2_with fail
            obtain ⟨F4, F5, F6⟩ := HC2.out.fin (.slice A n c) (.slice (some ⟨b2, 0, none⟩) n c5) (.slice (some ⟨b3, 0, none⟩) m c6) (.slice (some ⟨b4, 0, none⟩) m c7) (.int .i64 (p + 1)) (.int .i64 3) (.int .i64 (i : Int)) (.int .i64 (v : Int)) rfl
            refine bodyPost_ret (results_pick _ _ _ _ _ _ _ rfl rfl rfl F4 F5 rfl rfl) rfl ?_
            obtain ⟨F7, F8⟩ := F6 ls o.1 (by rw [HN.out]; exact HLS.out) (by rw [HO.out, HN.out]; exact (step_picks s i).2.1) (by rw [HO.out, HM.out]; exact (step_picks s i).2.2) (by rw [HO.out]; exact act2_enL H2.out) (by rw [HO.out]; exact act2_haL H2.out hkw.out) (by rw [HO.out]; exact act2_raL HI.out H2.out hkw.out) (fits_set HFH.out _ _ (by decide)) (by omega) (by omega)
            exact ⟨_, _, _, _, _, _, _, _, _, by rw [HO.out]; show PS.Out.ev (s.kd i + 1) i (s.wk i) = _; rw [H2.out, hkw.out]; rfl, rfl, F7, ⟨(fun h => by cases h), (fun h => by cases h), (fun h => by cases h)⟩, F8, HC2.out.fresh⟩
end Go.Proofs.Ytgdkgoiagjjccaa
