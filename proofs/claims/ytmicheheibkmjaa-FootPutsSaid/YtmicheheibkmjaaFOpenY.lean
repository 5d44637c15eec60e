/- A foot opened, whose keys are numbers. -/
import Derived.Test.YtmicheheibkmjaaFOpen
import Derived.Test.YtmicheheibkmjaaFPuts
namespace Go.Proofs.Ytmicheheibkmjaa
set_option maxRecDepth 100000
open Go.ChangeShapes Go.WideShapes Go.ChangeAt Go.RowKit

section
variable {H : Type} {enc : TypeId × Value → H} {W : World} {sp : Nat → Bool}
theorem open_keyf {fuel : Nat} {cs : List Value} {x : DataW H × List MemPlace} (hf : DataW.trod enc Try.prog W 0 sp true fuel 24 cs = some x) : ∃ q : K, cs = q.vals ∧ Fits q.k := by
  obtain ⟨z0, z1, m, _, hl2, k0, k1⟩ := trod_struct2 Try.underlying24 hf
  rw [cells24] at hl2
  match cs, hl2 with
  | [v0, v1], _ =>
    simp [cells3] at k0 k1
    obtain ⟨a0, e0, _⟩ := DataW.trod_int Try.underlying3 k0
    obtain ⟨a1, e1, _, w1⟩ := DataW.trod_int Try.underlying3 k1
    injection e0 with e0
    injection e1 with e1
    have b1 := bounds_i64 w1
    exact ⟨⟨a0, a1⟩, by rw [e0, e1]; rfl, by unfold Fits; simp only; omega⟩
theorem open_footy {fuel : Nat} {cs : List Value} {x : DataW H × List MemPlace} (hf : DataW.trod enc Try.prog W 0 sp true fuel 30 cs = some x) : ∃ q : FV × Ft, cs = q.1.cs.toList ∧ FtG W q.1 q.2 ∧ FitY q.2 := by
  obtain ⟨y0, y1, y2, n, _, hl, g0, g1, g2⟩ := Go.Deep.trod_struct3 Try.underlying30 hf
  rw [cells30] at hl
  match cs, hl with
  | [v0, v1, v2], _ =>
    simp [cells27, cells28] at g0 g1 g2
    obtain ⟨A, n1, c, l, rfl, h1, h2, i1, hy1⟩ := open_rowat (fun q : K => Fits q.k) K.len (by decide) Try.underlying27 cells24 ⟨0, 0⟩ open_keyf g0
    obtain ⟨A2, n2, c2, l2, rfl, h3, h4, i2, hfit⟩ := open_rowat FitS Sp.len (by decide) Try.underlying28 cells54 ⟨0, 0, 0⟩ open_spanw g1
    obtain ⟨A3, n3, c3, l3, rfl, h5, h6, i3, hy3⟩ := open_rowat (fun q : K => Fits q.k) K.len (by decide) Try.underlying27 cells24 ⟨0, 0⟩ open_keyf g2
    exact ⟨(⟨A, n1, c, A2, n2, c2, A3, n3, c3⟩, ⟨l, l2, l3⟩), rfl, ⟨⟨h1, h3, h5, h2, h4, h6⟩, i1, i2, i3, hfit⟩, hy1, hy3⟩
theorem open_footyv {v : Value} {base : Nat} {r : Reach} {x : DataW H × List MemPlace} (hv : Value.okWide Try.prog W r base 30 v) (h : ∃ fuel, DataW.trod enc Try.prog W 0 sp true fuel 30 v.cells.toList = some x) : ∃ (q : FV) (f : Ft), v = q.val ∧ FtG W q f ∧ FitY f := by
  obtain ⟨cs, rfl, _⟩ := okWide_struct Try.underlying30 hv
  obtain ⟨fuel, hf⟩ := h
  obtain ⟨q, e, hq⟩ := open_footy hf
  refine ⟨q.1, q.2, ?_, hq⟩
  have e' : cs.toList = q.1.cs.toList := e
  unfold FV.val
  obtain ⟨l⟩ := cs
  simp only at e'
  rw [e']
end
end Go.Proofs.Ytmicheheibkmjaa
