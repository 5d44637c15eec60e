/- Two feet in a row. -/
import Derived.Test.YtmicheheibkmjaaFJoinW
namespace Go.Proofs.Ytmicheheibkmjaa
set_option maxRecDepth 100000
open Go.RowKit

theorem FBox.cs3 {w : World} {b : Nat} {x : FV} (h : FBox w b x) : w.cell? ⟨b, 0, none⟩ = some (.slice x.A x.n x.c) ∧ w.cell? ⟨b, 1, none⟩ = some (.slice x.A2 x.n2 x.c2) ∧ w.cell? ⟨b, 2, none⟩ = some (.slice x.A3 x.n3 x.c3) := ⟨h.c0, h.c1, h.c2⟩
theorem two_feet (w : World) (x y : FV) (f g : Ft) (hx : FtG w x f) (hy : FtG w y g) :
    FtsG (w.alloc (.cells #[.slice x.A x.n x.c, .slice x.A2 x.n2 x.c2, .slice x.A3 x.n3 x.c3, .slice y.A y.n y.c, .slice y.A2 y.n2 y.c2, .slice y.A3 y.n3 y.c3] 30)) (some ⟨w.heap.size, 0, none⟩) 2 [f, g] := by
  have hb : Below w.heap.size w (w.alloc (.cells #[.slice x.A x.n x.c, .slice x.A2 x.n2 x.c2, .slice x.A3 x.n3 x.c3, .slice y.A y.n y.c, .slice y.A2 y.n2 y.c2, .slice y.A3 y.n3 y.c3] 30)) := (Below.refl _ w).alloc (Nat.le_refl _) _
  have hc := fun j => cell_of_row (w.alloc (.cells #[.slice x.A x.n x.c, .slice x.A2 x.n2 x.c2, .slice x.A3 x.n3 x.c3, .slice y.A y.n y.c, .slice y.A2 y.n2 y.c2, .slice y.A3 y.n3 y.c3] 30)) w.heap.size j _ 30 (0, 0) (heap_alloc_new w _)
  refine ⟨rfl, fun _ => ⟨_, _, rfl, fun j hj => ?_⟩⟩
  rcases j with _ | _ | j
  · exact ⟨x, hx.below hb, (hc 0).trans rfl, (hc 1).trans rfl, (hc 2).trans rfl⟩
  · exact ⟨y, hy.below hb, (hc 3).trans rfl, (hc 4).trans rfl, (hc 5).trans rfl⟩
  · omega
end Go.Proofs.Ytmicheheibkmjaa
