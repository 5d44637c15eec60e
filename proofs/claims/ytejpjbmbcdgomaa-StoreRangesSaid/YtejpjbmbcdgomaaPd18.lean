/- SOpenR: put together. -/
import Derived.Test.YtejpjbmbcdgomaaPc22
/- A span, opened. -/
namespace Go.Proofs.Ytejpjbmbcdgomaa
set_option maxRecDepth 100000
open Go.ChangeShapes Go.WideShapes Go.ChangeAt Go.RowKit

theorem cellsSpan : Try.prog.cellsOf 24 = 3 := by kernel_rfl
section
variable {H : Type} {enc : TypeId × Value → H} {W : World} {sp : Nat → Bool}
theorem open_spanv {v : Value} {base : Nat} {r : Reach} {x : DataW H × List MemPlace} (hv : Value.okWide Try.prog W r base 24 v) (h : ∃ fuel, DataW.trod enc Try.prog W 0 sp true fuel 24 v.cells.toList = some x) : ∃ t lo hi : Int, v = .agg #[.int .i64 t, .int .i64 lo, .int .i64 hi] := by
  obtain ⟨cs, rfl, _⟩ := okWide_struct Try.underlying24 hv
  obtain ⟨fuel, hf⟩ := h
  obtain ⟨l⟩ := cs
  have hf : DataW.trod enc Try.prog W 0 sp true fuel 24 l = some x := hf
  obtain ⟨y0, y1, y2, n, _, hl, g0, g1, g2⟩ := trod_struct3 Try.underlying24 hf
  rw [cellsSpan] at hl
  match l, hl with
  | [v0, v1, v2], _ =>
    simp [cells3] at g0 g1 g2
    obtain ⟨a0, e0, _⟩ := DataW.trod_int Try.underlying3 g0
    obtain ⟨a1, e1, _⟩ := DataW.trod_int Try.underlying3 g1
    obtain ⟨a2, e2, _⟩ := DataW.trod_int Try.underlying3 g2
    injection e0 with e0
    injection e1 with e1
    injection e2 with e2
    exact ⟨a0, a1, a2, by rw [e0, e1, e2]⟩
end
end Go.Proofs.Ytejpjbmbcdgomaa
