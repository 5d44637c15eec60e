/- VOpen, VTellO: put together. -/
import Derived.Test.YtejpjbmbcdgomaaPt21
import Derived.Test.YtejpjbmbcdgomaaPt50
/- A row of writes, opened. -/
namespace Go.Proofs.Ytejpjbmbcdgomaa
set_option maxRecDepth 100000
open Go.ChangeShapes Go.WideShapes Go.ChangeAt Go.RowKit

theorem open_wrs18 {H : Type} {enc : TypeId × Value → H} {W : World} {sp : Nat → Bool} {v : Value} {base : Nat} {r : Reach} {x : DataW H × List MemPlace} (hv : Value.okWide Try.prog W r base 32 v) (h : ∃ fuel, DataW.trod enc Try.prog W 0 sp true fuel 32 v.cells.toList = some x) :
    ∃ A c ws, v = .slice A (List.length ws) c ∧ Wrs W A ws ∧ (∀ x ∈ ws, WrOk x) ∧ ws.length ≤ 9223372036854775807 := by
  obtain ⟨B, len, cap, rfl⟩ := okWide_slice Try.underlying32 hv
  obtain ⟨fuel, hf⟩ := h
  obtain ⟨A, n, c, l, e, h1, h2, _, h4⟩ := open_rowat (f := Wr.vals) WrOk Wr.vlen (by decide) Try.underlying32 cellsWr ⟨0, 0, 0, false⟩ open_wr (by simpa [Value.cells] using hf)
  obtain rfl := h1.len
  exact ⟨A, c, l, e, h1, h4, h2⟩
end Go.Proofs.Ytejpjbmbcdgomaa

/- Acts of a sweep's law, opened. -/
namespace Go.Proofs.Ytejpjbmbcdgomaa
set_option maxRecDepth 100000
open Go.ChangeShapes Go.WideShapes Go.ChangeAt Go.RowKit

theorem cellsOp18 : Try.prog.cellsOf 85 = 2 := by kernel_rfl
theorem open_op18 {H : Type} {enc : TypeId × Value → H} {W : World} {sp : Nat → Bool} {fuel : Nat} {cs : List Value} {x : DataW H × List MemPlace} (hf : DataW.trod enc Try.prog W 0 sp true fuel 85 cs = some x) : ∃ o : Oz, cs = o.vals ∧ OzOk W o := by
  obtain ⟨y0, y1, n, _, hl, g0, g1⟩ := trod_struct2 Try.underlying85 hf
  rw [cellsOp18] at hl
  match cs, hl with
  | [v0, v1], _ =>
    simp [cells3, cellsWs] at g0 g1
    obtain ⟨A, m, c, l, e1, h1, h2, h3, h4⟩ := open_rowat (f := Wr.vals) WrOk Wr.vlen (by decide) Try.underlying32 cellsWr ⟨0, 0, 0, false⟩ open_wr g0
    obtain ⟨a0, e0, _, w0⟩ := DataW.trod_int Try.underlying3 g1
    injection e0 with e0
    obtain rfl := h1.len
    exact ⟨⟨A, c, l, a0⟩, by rw [e0, e1]; rfl, ⟨h1, h4, h2, bounds_i64 w0, h3⟩⟩
theorem open_ops18 {H : Type} {enc : TypeId × Value → H} {W : World} {sp : Nat → Bool} {v : Value} {base : Nat} {r : Reach} {x : DataW H × List MemPlace} (hv : Value.okWide Try.prog W r base 74 v) (h : ∃ fuel, DataW.trod enc Try.prog W 0 sp true fuel 74 v.cells.toList = some x) :
    ∃ A c os, v = .slice A (List.length os) c ∧ Ozs W A os := by
  obtain ⟨B, len, cap, rfl⟩ := okWide_slice Try.underlying74 hv
  obtain ⟨fuel, hf⟩ := h
  obtain ⟨A, n, c, l, e, h1, h2, _, h4⟩ := open_rowat (f := Oz.vals) (OzOk W) Oz.vlen (by decide) Try.underlying74 cellsOp18 ⟨none, 0, [], 0⟩ open_op18 (by simpa [Value.cells] using hf)
  obtain rfl := h1.len
  exact ⟨A, c, l, e, ⟨h1, h4, h2⟩⟩
end Go.Proofs.Ytejpjbmbcdgomaa
