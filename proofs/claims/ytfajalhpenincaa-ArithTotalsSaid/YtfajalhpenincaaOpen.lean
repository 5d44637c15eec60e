/- Slices of numbers, opened. -/
import Derived.Test.YtfajalhpenincaaTotalsWalk
import Derived.ProofKit
import Derived.OpenShut
namespace Go.Proofs.Ytfajalhpenincaa
set_option maxRecDepth 100000
open Go.ChangeShapes Go.WideShapes Go.ChangeAt Go.RowKit

theorem cells3 : Try.prog.cellsOf 3 = 1 := by kernel_rfl
section
variable {H : Type} {enc : TypeId × Value → H} {W : World} {sp : Nat → Bool}
theorem fits_wf {z : Int} (h : (Lit.int .i64 z).wf = true) : Fits z := by
  have := bounds_i64 h
  unfold Fits; omega
theorem open_nums {fuel : Nat} {v : Value} {x : DataW H × List MemPlace} (hf : DataW.trod enc Try.prog W 0 sp true fuel 23 [v] = some x) :
    ∃ A n c xs, v = .slice A n c ∧ Nums W A n xs ∧ n ≤ 9223372036854775807 ∧ n ≤ c ∧ (A = none → c = 0) ∧ c ≤ 9223372036854775807 := by
  rcases open_ints Try.underlying23 Try.underlying3 cells3 hf with ⟨hcs, _⟩ | ⟨a, len, cap, zs, hcs, _, hl, hm, hz, _, hcell, hwz⟩
  · injection hcs with hcs
    subst hcs
    exact ⟨none, 0, 0, [], rfl, ⟨rfl, fun x hx => (by cases hx), fun hn => absurd hn (by omega)⟩, by decide, Nat.le_refl _, fun _ => rfl, by decide⟩
  · injection hcs with hcs
    subst hcs
    unfold maxLen at hm
    have hlz : len ≤ zs.length := by rw [hz]; split <;> omega
    refine ⟨some a, len, cap, zs.take len, rfl, ⟨by simp; omega, fun x hx => fits_wf (hwz x (List.mem_of_mem_take hx)), fun hn => ?_⟩, by omega, hl, (fun h => by cases h), by omega⟩
    obtain ⟨b, off, spot⟩ := a
    have h0 := hcell 0 (by omega)
    have hspot : spot = none := by simpa [Addr.add] using World.cell?_spot h0
    subst hspot
    refine ⟨b, off, rfl, fun j hj => ?_⟩
    have h1 := hcell j (by omega)
    rw [addr_plus] at h1
    rw [h1]
    have e : (zs.take len).getD j 0 = zs.getD j 0 := by simp [List.getD_eq_getElem?_getD, hj]
    rw [e]
theorem open_list {v : Value} {base : Nat} {r : Reach} {x : DataW H × List MemPlace} (hv : Value.okWide Try.prog W r base 23 v) (h : ∃ fuel, DataW.trod enc Try.prog W 0 sp true fuel 23 v.cells.toList = some x) :
    ∃ A n c xs, v = .slice A n c ∧ Nums W A n xs ∧ n ≤ 9223372036854775807 ∧ n ≤ c ∧ (A = none → c = 0) ∧ c ≤ 9223372036854775807 := by
  obtain ⟨a, l, c, rfl⟩ := okWide_slice Try.underlying23 hv
  obtain ⟨fuel, hf⟩ := h
  exact open_nums (by simpa [Value.cells] using hf)
end
end Go.Proofs.Ytfajalhpenincaa
