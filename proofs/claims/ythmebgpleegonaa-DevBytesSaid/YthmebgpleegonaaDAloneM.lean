/- Two sets, and what an act on one device leaves of the others. -/
import Derived.Test.YthmebgpleegonaaDEq
namespace Go.Proofs.Ythmebgpleegonaa
set_option maxRecDepth 100000
open Go.RowKit

/-- A set stands where what changes is not its own. -/
theorem St.keep {w w' : World} {F G G' : Nat → Prop} {g : Nat} {p : Pw} {ds : List Dk} {K : Nat} (h : St w F g p ds K) (hc : Chg w w' G G') (hd : ∀ k, F k → ¬ G k) : St w' F g p ds K := by
  obtain ⟨v, L, h1, h2⟩ := h
  exact ⟨v, L, h1.keep hc.size fun k hk hlt => hc.block k hlt (hd k hk), h2⟩
/-- Blocks of two sets stay apart where one of them changes. -/
theorem Chg.apart {w w' : World} {F G G' : Nat → Prop} (hc : Chg w w' G G') (hlt : ∀ k, F k → k < w.heap.size) (hd : ∀ k, F k → ¬ G k) : ∀ k, F k → ¬ G' k := fun k hk hg => by
  rcases hc.new k hg with e | e
  · exact hd k hk e
  · have := hlt k hk; omega
/-- The power is on and not armed. -/
def On (p : Pw) : Prop := p.ia = false ∧ p.gone = false
theorem On.step {p : Pw} (h : On p) : (stepP p).1 = true ∧ On (stepP p).2 ∧ (stepP p).2.steps = p.steps + 1 ∧ (stepP p).2.armed = p.armed := by
  obtain ⟨st, ar, ia, gn⟩ := p
  obtain ⟨h1, h2⟩ := h
  simp only at h1 h2
  subst h1 h2
  exact ⟨rfl, ⟨rfl, rfl⟩, rfl, rfl⟩
theorem setAt_get (ds : List Dk) (j k : Nat) (f : Dk → Dk) : (setAt ds j f)[k]? = if j = k then (ds[k]?).map f else ds[k]? := by
  unfold setAt
  cases h : ds[j]? with
  | none =>
    by_cases e : j = k
    · subst e; rw [if_pos rfl, h]; rfl
    · rw [if_neg e]
  | some d =>
    obtain ⟨hj, rfl⟩ := List.getElem?_eq_some_iff.1 h
    by_cases e : j = k
    · subst e
      rw [if_pos rfl, h]
      simp [hj]
    · rw [if_neg e]
      simp [e]
theorem writeM_get {p : Pw} (h : On p) (ds : List Dk) (d i : Int) (x : Sx) (k : Nat) : (writeM p ds d i x).2.2[k]? = if hasB ds d i = true ∧ d.toNat = k then (ds[k]?).map fun e => e.more ⟨i, x⟩ else ds[k]? := by
  unfold writeM
  by_cases hb : hasB ds d i = false
  · rw [if_pos hb, if_neg (fun e => by rw [hb] at e; exact absurd e.1 (by decide))]
  · rw [if_neg hb, if_neg (by rw [h.step.1]; decide)]
    have hb' : hasB ds d i = true := by simpa using hb
    simp only [setAt_get, hb', true_and]
theorem flushM_get {p : Pw} (h : On p) (ds : List Dk) (d : Int) (k : Nat) : (flushM p ds d).2.2[k]? = if hasB ds d 0 = true ∧ d.toNat = k then (ds[k]?).map Dk.flushed else ds[k]? := by
  unfold flushM
  by_cases hb : hasB ds d 0 = false
  · rw [if_pos hb, if_neg (fun e => by rw [hb] at e; exact absurd e.1 (by decide))]
  · rw [if_neg hb, if_neg (by rw [h.step.1]; decide)]
    have hb' : hasB ds d 0 = true := by simpa using hb
    simp only [setAt_get, hb', true_and]
theorem writeM_on {p : Pw} (h : On p) (ds : List Dk) (d i : Int) (x : Sx) : On (writeM p ds d i x).2.1 ∧ (writeM p ds d i x).2.1.steps ≤ p.steps + 1 ∧ (writeM p ds d i x).2.1.armed = p.armed ∧ (writeM p ds d i x).2.2.map Dk.size = ds.map Dk.size := by
  unfold writeM
  split
  · exact ⟨h, Nat.le_succ _, rfl, rfl⟩
  · split
    · exact ⟨h.step.2.1, Nat.le_of_eq h.step.2.2.1, h.step.2.2.2, rfl⟩
    · exact ⟨h.step.2.1, Nat.le_of_eq h.step.2.2.1, h.step.2.2.2, setAt_size _ _ _ fun _ => rfl⟩
theorem flushM_on {p : Pw} (h : On p) (ds : List Dk) (d : Int) : On (flushM p ds d).2.1 ∧ (flushM p ds d).2.1.steps ≤ p.steps + 1 ∧ (flushM p ds d).2.1.armed = p.armed ∧ (flushM p ds d).2.2.map Dk.size = ds.map Dk.size := by
  unfold flushM
  split
  · exact ⟨h, Nat.le_succ _, rfl, rfl⟩
  · split
    · exact ⟨h.step.2.1, Nat.le_of_eq h.step.2.2.1, h.step.2.2.2, rfl⟩
    · exact ⟨h.step.2.1, Nat.le_of_eq h.step.2.2.1, h.step.2.2.2, setAt_size _ _ _ fun _ => rfl⟩
/-- Whether there is such a sector hangs on the sizes alone. -/
theorem hasB_sizes {ds dt : List Dk} (h : ds.map Dk.size = dt.map Dk.size) (d i : Int) : hasB ds d i = hasB dt d i := by
  have hl : ds.length = dt.length := by have := congrArg List.length h; simpa using this
  have hg : (ds[d.toNat]?).map Dk.size = (dt[d.toNat]?).map Dk.size := by rw [← List.getElem?_map, ← List.getElem?_map, h]
  unfold hasB
  rw [hl, hg]
/-- The device that is looked at. -/
theorem one_mod (x : Int) : ∃ k : Nat, k < 3 ∧ wrap64 ((IntKind.u64.wrap x).tmod 3) = (k : Int) := by
  have h0 : 0 ≤ IntKind.u64.wrap x := by
    have : IntKind.u64.wrap x = x % 18446744073709551616 := by rfl
    omega
  rw [Int.tmod_eq_emod_of_nonneg h0]
  refine ⟨((IntKind.u64.wrap x) % 3).toNat, by omega, ?_⟩
  unfold wrap64
  omega
/-- An act and the two sets' places, in memory. -/
def Bx (w : World) (z : Nat) (o : Opx) (g g2 : Nat) : Prop := w.cell? ⟨z, 0, none⟩ = some (.int .i64 o.kind) ∧ w.cell? ⟨z, 1, none⟩ = some (.int .i64 o.dev) ∧ w.cell? ⟨z, 2, none⟩ = some (.int .i64 o.n) ∧ w.cell? ⟨z, 3, none⟩ = some (.int .u8 (o.b : Int)) ∧ w.cell? ⟨z + 1, 0, none⟩ = some (.pointer (some ⟨g, 0, none⟩)) ∧ w.cell? ⟨z + 1, 1, none⟩ = some (.pointer (some ⟨g2, 0, none⟩))
theorem bx_new (w : World) (o : Opx) (g g2 : Nat) : Bx ((w.alloc (.cells #[.int .i64 o.kind, .int .i64 o.dev, .int .i64 o.n, .int .u8 (o.b : Int), .slice o.A o.m o.c] 40)).alloc (.cells #[.pointer (some ⟨g, 0, none⟩), .pointer (some ⟨g2, 0, none⟩)] 26)) w.heap.size o g g2 := by
  obtain ⟨w1, h1⟩ : ∃ w1, w1 = w.alloc (.cells #[.int .i64 o.kind, .int .i64 o.dev, .int .i64 o.n, .int .u8 (o.b : Int), .slice o.A o.m o.c] 40) := ⟨_, rfl⟩
  have hb : w1.heap[w.heap.size]? = some (.cells #[.int .i64 o.kind, .int .i64 o.dev, .int .i64 o.n, .int .u8 (o.b : Int), .slice o.A o.m o.c] 40 (0, 0)) := by rw [h1]; exact heap_alloc_new w _
  have hs : w1.heap.size = w.heap.size + 1 := by rw [h1, World.size_alloc]
  rw [← h1]
  have hbe : Below w1.heap.size w1 (w1.alloc (.cells #[.pointer (some ⟨g, 0, none⟩), .pointer (some ⟨g2, 0, none⟩)] 26)) := (Below.refl _ _).alloc (Nat.le_refl _) _
  have hb2 := (hbe.block w.heap.size (by omega)).trans hb
  have hn := heap_alloc_new w1 (.cells #[.pointer (some ⟨g, 0, none⟩), .pointer (some ⟨g2, 0, none⟩)] 26)
  rw [hs] at hn
  exact ⟨(cell_of_row _ _ 0 _ _ (0, 0) hb2).trans rfl, (cell_of_row _ _ 1 _ _ (0, 0) hb2).trans rfl, (cell_of_row _ _ 2 _ _ (0, 0) hb2).trans rfl, (cell_of_row _ _ 3 _ _ (0, 0) hb2).trans rfl, (cell_of_row _ _ 0 _ _ (0, 0) hn).trans rfl, (cell_of_row _ _ 1 _ _ (0, 0) hn).trans rfl⟩
theorem Bx.later {w w' : World} {z : Nat} {o : Opx} {g g2 : Nat} {F F' : Nat → Prop} (h : Bx w z o g g2) (hc : Chg w w' F F') (hz : ∀ k, F k → k < z) : Bx w' z o g g2 := by
  obtain ⟨h0, h1, h2, h3, h4, h5⟩ := h
  have hl := World.block_lt_of_cell? _ _ h0
  have hl2 := World.block_lt_of_cell? _ _ h4
  have n0 : ¬ F z := fun e => by have := hz _ e; omega
  have n1 : ¬ F (z + 1) := fun e => by have := hz _ e; omega
  have hl : z < w.heap.size := hl
  have hl2 : z + 1 < w.heap.size := hl2
  exact ⟨(hc.cell' (p := ⟨z, 0, none⟩) hl n0).trans h0, (hc.cell' (p := ⟨z, 1, none⟩) hl n0).trans h1, (hc.cell' (p := ⟨z, 2, none⟩) hl n0).trans h2, (hc.cell' (p := ⟨z, 3, none⟩) hl n0).trans h3, (hc.cell' (p := ⟨z + 1, 0, none⟩) hl2 n1).trans h4, (hc.cell' (p := ⟨z + 1, 1, none⟩) hl2 n1).trans h5⟩
theorem size_len3 {ds : List Dk} (h : ds.map Dk.size = [4, 4, 4]) : ds.length = 3 := by have := congrArg List.length h; simpa using this
end Go.Proofs.Ythmebgpleegonaa
