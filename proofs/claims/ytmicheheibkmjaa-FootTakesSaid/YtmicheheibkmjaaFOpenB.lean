/- Bytes, opened. -/
import Derived.Test.YtmicheheibkmjaaFOpen
import Derived.Test.YtmicheheibkmjaaZW1
import Derived.Lib.SmallJoins
namespace Go.Proofs.Ytmicheheibkmjaa
set_option maxRecDepth 100000
open Go.ChangeShapes Go.WideShapes Go.ChangeAt Go.RowKit

theorem cells5 : Try.prog.cellsOf 5 = 1 := by kernel_rfl
section
variable {H : Type} {enc : TypeId × Value → H} {W : World} {sp : Nat → Bool}
theorem wf_u8 {z : Int} (h : (Lit.int .u8 z).wf = true) : 0 ≤ z ∧ z < 256 := by
  have := bounds_u8 h
  omega
theorem open_bytes {fuel : Nat} {v : Value} {x : DataW H × List MemPlace} (hf : DataW.trod enc Try.prog W 0 sp true fuel 40 [v] = some x) :
    ∃ A n c xs, v = .slice A n c ∧ Rdv W A n 1 (valsB xs) ∧ n ≤ 9223372036854775807 ∧ n ≤ c ∧ (A = none → c = 0) ∧ ∀ y ∈ xs, y < 256 := by
  rcases open_ints Try.underlying40 Try.underlying5 cells5 hf with ⟨hcs, _⟩ | ⟨a, len, cap, zs, hcs, _, hl, hm, hz, _, hcell, hwz⟩
  · injection hcs with hcs
    subst hcs
    exact ⟨none, 0, 0, [], rfl, ⟨rfl, fun hn => absurd hn (by omega)⟩, by decide, Nat.le_refl _, fun _ => rfl, fun y hy => by cases hy⟩
  · injection hcs with hcs
    subst hcs
    unfold maxLen at hm
    have hlz : len ≤ zs.length := by rw [hz]; split <;> omega
    refine ⟨some a, len, cap, (zs.take len).map Int.toNat, rfl, ⟨by simp [valsB]; omega, fun hn => ?_⟩, by omega, hl, (fun h => by cases h), fun y hy => ?_⟩
    · obtain ⟨b, off, spot⟩ := a
      have h0 := hcell 0 (by omega)
      have hspot : spot = none := by simpa [Addr.add] using World.cell?_spot h0
      subst hspot
      refine ⟨b, off, rfl, fun j u hj => ?_⟩
      rw [valsB_get] at hj
      have hjl : j < len := by
        rcases Nat.lt_or_ge j len with h | h
        · exact h
        · rw [List.getElem?_eq_none (by simp; omega)] at hj; cases hj
      have h1 := hcell j (by omega)
      rw [addr_plus] at h1
      have hzj : zs[j]? = some (zs[j]'(by omega)) := List.getElem?_eq_getElem (by omega)
      have hwz1 := wf_u8 (hwz _ (List.getElem_mem (show j < zs.length by omega)))
      have e : ((zs.take len).map Int.toNat)[j]? = some (zs[j]'(by omega)).toNat := by
        rw [List.getElem?_map, List.getElem?_take, if_pos hjl, hzj]; rfl
      rw [e] at hj
      injection hj with hj
      rw [h1, ← hj]
      congr 2
      rw [List.getD_eq_getElem?_getD, hzj]
      show zs[j] = _
      omega
    · obtain ⟨z, hz, rfl⟩ := List.mem_map.1 hy
      have := wf_u8 (hwz z (List.mem_of_mem_take hz))
      omega
theorem open_bytesv {v : Value} {base : Nat} {r : Reach} {x : DataW H × List MemPlace} (hv : Value.okWide Try.prog W r base 40 v) (h : ∃ fuel, DataW.trod enc Try.prog W 0 sp true fuel 40 v.cells.toList = some x) :
    ∃ A n c xs, v = .slice A n c ∧ Rdv W A n 1 (valsB xs) ∧ n ≤ 9223372036854775807 ∧ n ≤ c ∧ (A = none → c = 0) ∧ ∀ y ∈ xs, y < 256 := by
  obtain ⟨a, l, c, rfl⟩ := okWide_slice Try.underlying40 hv
  obtain ⟨fuel, hf⟩ := h
  exact open_bytes (by simpa [Value.cells] using hf)
end
end Go.Proofs.Ytmicheheibkmjaa
