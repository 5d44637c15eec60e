/- Feet in memory. -/
import Derived.Test.YtmicheheibkmjaaGHits

namespace Go.Proofs.Ytmicheheibkmjaa
set_option maxRecDepth 100000
open Go.RowKit Go.Shelf

theorem stays_w {w w' : World} (h : Below w.heap.size w w') : ∀ p : Addr, p.block < w.heap.size → w'.cell? p = w.cell? p := fun _ hp => h.cell hp
def noFt : Ft := ⟨[], [], []⟩
/-- A slice that reads as feet. -/
def Fts (w : World) (A : Option Addr) (n : Nat) (fs : List Ft) : Prop :=
  fs.length = n ∧ n ≤ 9223372036854775807 ∧ (0 < n → ∃ b off, A = some ⟨b, off, none⟩ ∧ ∀ j, j < n → ∃ x : FV, FtAt w x (fs.getD j noFt) ∧ w.cell? ⟨b, off + j * 3, none⟩ = some (.slice x.A x.n x.c) ∧ w.cell? ⟨b, off + j * 3 + 1, none⟩ = some (.slice x.A2 x.n2 x.c2) ∧ w.cell? ⟨b, off + j * 3 + 2, none⟩ = some (.slice x.A3 x.n3 x.c3))
theorem Fts.below {w w' : World} {A : Option Addr} {n : Nat} {fs : List Ft} (h : Fts w A n fs) (hb : Below w.heap.size w w') : Fts w' A n fs :=
  ⟨h.1, h.2.1, fun hn => by
    obtain ⟨b, off, e, hc⟩ := h.2.2 hn
    refine ⟨b, off, e, fun j hj => ?_⟩
    obtain ⟨x, h1, h2, h3, h4⟩ := hc j hj
    exact ⟨x, h1.below hb, (stays_w hb _ (World.block_lt_of_cell? _ _ h2)).trans h2, (stays_w hb _ (World.block_lt_of_cell? _ _ h3)).trans h3, (stays_w hb _ (World.block_lt_of_cell? _ _ h4)).trans h4⟩⟩
end Go.Proofs.Ytmicheheibkmjaa
