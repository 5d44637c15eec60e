/- Rows of numbers, truths, plans: opened. -/
import Derived.Test.YtgdkgoiagjjccaaSNew
import Derived.Test.YtgdkgoiagjjccaaZB
import Derived.Deep.Matrix
namespace Go.Proofs.Ytgdkgoiagjjccaa
set_option maxRecDepth 100000
open Go.ChangeShapes Go.WideShapes Go.ChangeAt Go.RowKit

theorem cells56 : Try.prog.cellsOf 56 = 1 := by kernel_rfl
theorem cells67 : Try.prog.cellsOf 67 = 1 := by kernel_rfl
section
variable {H : Type} {enc : TypeId × Value → H} {W : World}
theorem open_rows' {fuel : Nat} {v : Value} {x : DataW H × List MemPlace} (hf : DataW.trod enc Try.prog W 0 (fun _ => true) true fuel 56 [v] = some x) :
    ∃ A n c ls, v = .slice A n c ∧ Rws W A n ls ∧ n ≤ c ∧ (A = none → c = 0) := by
  rcases Go.Deep.open_int_rows Try.underlying56 Try.underlying38 Try.underlying3 cells38 cells3 hf with ⟨hcs, _⟩ | ⟨a, len, cap, A, L, C, Z, hcs, _, hl, hm, _, hx⟩
  · injection hcs with hcs
    subst hcs
    exact ⟨none, 0, 0, [], rfl, ⟨rfl, by decide, fun h => absurd h (by decide)⟩, Nat.le_refl _, fun _ => rfl⟩
  · injection hcs with hcs
    subst hcs
    unfold maxLen at hm
    refine ⟨some a, len, cap, (List.range len).map (fun r => (Z r).take (L r)), rfl, ⟨by simp, by omega, fun hn => ?_⟩, hl, fun h => by cases h⟩
    obtain ⟨b, off, spot⟩ := a
    have h0 := (hx 0 (by omega)).1
    have hspot : spot = none := by simpa [Addr.add] using World.cell?_spot h0
    subst hspot
    refine ⟨b, off, rfl, fun j hj => ?_⟩
    obtain ⟨h1, h2, h3, h4, h5, h6, h7⟩ := hx j (by omega)
    unfold maxLen at h3
    have e : ((List.range len).map (fun r => (Z r).take (L r))).getD j [] = (Z j).take (L j) := by simp [List.getD_eq_getElem?_getD, hj]
    have el : ((Z j).take (L j)).length = L j := by rw [List.length_take]; omega
    rw [addr_add'] at h1
    rw [e, el]
    refine ⟨A j, C j, h1, ⟨el, fun z hz => fits_wf (h5 z (List.mem_of_mem_take hz)), fun hL => ?_⟩, by omega⟩
    cases hA : A j with
    | none => have := h6 hA; omega
    | some a' =>
      obtain ⟨_, hc⟩ := h7 a' hA
      obtain ⟨b', off', spot'⟩ := a'
      have h8 := hc 0 (by omega)
      have hs' : spot' = none := by simpa [Addr.add] using World.cell?_spot h8
      subst hs'
      refine ⟨b', off', rfl, fun i hi => ?_⟩
      have h9 := hc i (by omega)
      rw [addr_add'] at h9
      rw [h9]
      simp [List.getD_eq_getElem?_getD, hi]
theorem open_rows {v : Value} {base : Nat} {r : Reach} {x : DataW H × List MemPlace} (hv : Value.okWide Try.prog W r base 56 v) (h : ∃ fuel, DataW.trod enc Try.prog W 0 (fun _ => true) true fuel 56 v.cells.toList = some x) :
    ∃ A n c ls, v = .slice A n c ∧ Rws W A n ls ∧ n ≤ c ∧ (A = none → c = 0) := by
  obtain ⟨B, len, cap, rfl⟩ := okWide_slice Try.underlying56 hv
  obtain ⟨fuel, hf⟩ := h
  exact open_rows' (by simpa [Value.cells] using hf)
end
end Go.Proofs.Ytgdkgoiagjjccaa
