/- Feet in memory; on which ones each leans. -/
import Derived.Test.YtgdkgoiagjjccaaGHits
import Derived.Test.YtgdkgoiagjjccaaSPlayS
namespace Go.Proofs.Ytgdkgoiagjjccaa
set_option maxRecDepth 100000
open Go.RowKit Go.Shelf

def noFt : Ft := ⟨[], [], []⟩
/-- A slice that reads as feet. -/
def Fts (w : World) (A : Option Addr) (n : Nat) (fs : List Ft) : Prop :=
  fs.length = n ∧ n ≤ 9223372036854775807 ∧ (0 < n → ∃ b off, A = some ⟨b, off, none⟩ ∧ ∀ j, j < n → ∃ x : FV, FtAt w x (fs.getD j noFt) ∧ w.cell? ⟨b, off + j * 3, none⟩ = some (.slice x.A x.n x.c) ∧ w.cell? ⟨b, off + j * 3 + 1, none⟩ = some (.slice x.A2 x.n2 x.c2) ∧ w.cell? ⟨b, off + j * 3 + 2, none⟩ = some (.slice x.A3 x.n3 x.c3))
theorem Fts.below {w w' : World} {A : Option Addr} {n : Nat} {fs : List Ft} (h : Fts w A n fs) (hb : Below w.heap.size w w') : Fts w' A n fs :=
  ⟨h.1, h.2.1, fun hn => by
    obtain ⟨b, off, e, hc⟩ := h.2.2 hn
    refine ⟨b, off, e, fun j hj => ?_⟩
    obtain ⟨x, h1, h2, h3, h4⟩ := hc j hj
    exact ⟨x, h1.below hb, (stays_w hb _ (World.block_lt_of_cell? _ _ h2)).trans h2, (stays_w hb _ (World.block_lt_of_cell? _ _ h3)).trans h3, (stays_w hb _ (World.block_lt_of_cell? _ _ h4)).trans h4⟩⟩
/-- The first places of which it is so. -/
def selTo (p : Nat → Bool) (k : Nat) : List Int := ((List.range k).filter p).map Int.ofNat
theorem selTo_succ (p : Nat → Bool) (k : Nat) : selTo p (k + 1) = selTo p k ++ if p k = true then [(k : Int)] else [] := by
  unfold selTo
  rw [List.range_succ, List.filter_append, List.map_append]
  congr 1
  cases h : p k <;> simp [h]
theorem selTo_len (p : Nat → Bool) (k : Nat) : (selTo p k).length ≤ k := by
  unfold selTo
  rw [List.length_map]
  have := List.length_filter_le p (List.range k)
  rwa [List.length_range] at this
theorem selTo_fits (p : Nat → Bool) (k : Nat) (hk : k ≤ 1000000) : ∀ x ∈ selTo p k, Fits x := by
  intro x hx
  simp only [selTo, List.mem_map, List.mem_filter, List.mem_range] at hx
  obtain ⟨y, ⟨hy, _⟩, rfl⟩ := hx
  unfold Fits
  simp only [Int.ofNat_eq_natCast]
  omega
def leanP (fs : List Ft) (i j : Nat) : Bool := meetB (fs.getD i noFt) (fs.getD j noFt)
def leansL (fs : List Ft) : List (List Int) := (List.range fs.length).map fun i => selTo (leanP fs i) i
theorem leansL_at (fs : List Ft) {i : Nat} (h : i < fs.length) : (leansL fs).getD i [] = selTo (leanP fs i) i := by simp [leansL, List.getD_eq_getElem?_getD, h]
theorem leansL_len (fs : List Ft) : (leansL fs).length = fs.length := by simp [leansL]
theorem selTo_mem {p : Nat → Bool} {k : Nat} {x : Int} (h : x ∈ selTo p k) : 0 ≤ x ∧ x < (k : Int) := by
  simp only [selTo, List.mem_map, List.mem_filter, List.mem_range] at h
  obtain ⟨y, ⟨hy, _⟩, rfl⟩ := h
  simp only [Int.ofNat_eq_natCast]
  omega
theorem selTo_rise (p : Nat → Bool) (k : Nat) : (selTo p k).Pairwise (· < ·) := by
  unfold selTo
  refine List.Pairwise.map _ ?_ ((List.pairwise_lt_range (n := k)).filter p)
  intro a b h
  simp only [Int.ofNat_eq_natCast]
  omega
theorem leansL_good (fs : List Ft) : GoodL (leansL fs) := by
  rw [goodTo_all]
  intro i hi q x hx
  rw [leansL_len] at hi
  rw [leansL_at fs hi] at hx ⊢
  have h1 := selTo_mem (List.mem_of_getElem? hx)
  refine ⟨h1.1, h1.2, fun y hq hy => ?_⟩
  have h2 := List.pairwise_iff_getElem.1 (selTo_rise (leanP fs i) i)
  obtain ⟨q1, rfl⟩ := List.getElem?_eq_some_iff.1 hx
  obtain ⟨q2, rfl⟩ := List.getElem?_eq_some_iff.1 hy
  exact h2 (q - 1) q q2 q1 (by omega)
end Go.Proofs.Ytgdkgoiagjjccaa
