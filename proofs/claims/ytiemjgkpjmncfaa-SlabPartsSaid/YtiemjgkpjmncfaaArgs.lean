/- Bytes and slabs that came in, opened. -/
import Derived.Test.YtiemjgkpjmncfaaTornLaw
import Derived.ProofKit
import Derived.OpenShut
import Derived.Deep.Slices
import Derived.Lib.SmallJoins
import Derived.Deep.Strs
namespace Go.Proofs.Ytiemjgkpjmncfaa
set_option maxRecDepth 100000
open Go.ChangeShapes Go.WideShapes Go.ChangeAt Go.RowKit

theorem cells3 : Try.prog.cellsOf 3 = 1 := by kernel_rfl
theorem cells5 : Try.prog.cellsOf 5 = 1 := by kernel_rfl
theorem cells45 : Try.prog.cellsOf 45 = 1 := by kernel_rfl
theorem cells74 : Try.prog.cellsOf 74 = 3 := by kernel_rfl
section
variable {H : Type} {enc : TypeId × Value → H} {W : World} {sp : Nat → Bool}
theorem fits_wf {z : Int} (h : (Lit.int .i64 z).wf = true) : Fits z := by
  have := bounds_i64 h
  unfold Fits; omega
theorem wfb_u8 {z : Int} (h : (Lit.int .u8 z).wf = true) : 0 ≤ z ∧ z < 256 := by
  have := bounds_u8 h
  omega
theorem open_bytes {fuel : Nat} {v : Value} {x : DataW H × List MemPlace} (hf : DataW.trod enc Try.prog W 0 sp true fuel 45 [v] = some x) :
    ∃ A n c xs, v = .slice A n c ∧ Rdv W A n 1 (valsB xs) ∧ n ≤ 9223372036854775807 ∧ n ≤ c ∧ (A = none → c = 0) ∧ ∀ y ∈ xs, y < 256 := by
  rcases open_ints Try.underlying45 Try.underlying5 cells5 hf with ⟨hcs, _⟩ | ⟨a, len, cap, zs, hcs, _, hl, hm, hz, _, hcell, hwz⟩
  · injection hcs with hcs
    subst hcs
    exact ⟨none, 0, 0, [], rfl, ⟨rfl, fun hn => absurd hn (by omega)⟩, by decide, Nat.le_refl _, fun _ => rfl, fun y hy => by cases hy⟩
  · injection hcs with hcs
    subst hcs
    unfold maxLen at hm
    have hlz : len ≤ zs.length := by rw [hz]; split <;> omega
    refine ⟨some a, len, cap, (zs.take len).map Int.toNat, rfl, ⟨by simp [valsB]; omega, fun hn => ?_⟩, by omega, hl, (fun h => by cases h), fun y hy => ?_⟩
    · obtain ⟨b, off, spot⟩ := a
      have h0 := hcell 0 (by omega)
      have hspot : spot = none := by simpa [Addr.add] using World.cell?_spot h0
      subst hspot
      refine ⟨b, off, rfl, fun j u hj => ?_⟩
      rw [valsB_get] at hj
      have hjl : j < len := by
        rcases Nat.lt_or_ge j len with h | h
        · exact h
        · rw [List.getElem?_eq_none (by simp; omega)] at hj; cases hj
      have h1 := hcell j (by omega)
      rw [addr_plus] at h1
      have hzj : zs[j]? = some (zs[j]'(by omega)) := List.getElem?_eq_getElem (by omega)
      have hwz1 := wfb_u8 (hwz _ (List.getElem_mem (show j < zs.length by omega)))
      have e : ((zs.take len).map Int.toNat)[j]? = some (zs[j]'(by omega)).toNat := by
        rw [List.getElem?_map, List.getElem?_take, if_pos hjl, hzj]; rfl
      rw [e] at hj
      injection hj with hj
      rw [h1, ← hj]
      congr 2
      rw [List.getD_eq_getElem?_getD, hzj]
      show zs[j] = _
      omega
    · obtain ⟨z, hz, rfl⟩ := List.mem_map.1 hy
      have := wfb_u8 (hwz z (List.mem_of_mem_take hz))
      omega
theorem open_slab {fuel : Nat} {cs : List Value} {x : DataW H × List MemPlace} (hf : DataW.trod enc Try.prog W 0 sp true fuel 74 cs = some x) :
    ∃ (a k : Int) (A : Option Addr) (n c : Nat) (ds : List Nat), cs = [.int .i64 a, .int .i64 k, .slice A n c] ∧ Fits a ∧ Fits k ∧ Rdv W A n 1 (valsB ds) ∧ n ≤ 9223372036854775807 ∧ n ≤ c ∧ (A = none → c = 0) ∧ ∀ y ∈ ds, y < 256 := by
  obtain ⟨y0, y1, y2, n, _, hl, g0, g1, g2⟩ := Go.Deep.trod_struct3 Try.underlying74 hf
  rw [cells74] at hl
  match cs, hl with
  | [v0, v1, v2], _ =>
    simp [cells3, cells45] at g0 g1 g2
    obtain ⟨a0, e0, _, w0⟩ := DataW.trod_int Try.underlying3 g0
    obtain ⟨a1, e1, _, w1⟩ := DataW.trod_int Try.underlying3 g1
    injection e0 with e0
    injection e1 with e1
    obtain ⟨A, m, c, ys, rfl, hr, hm, hmc, hnil, hs⟩ := open_bytes g2
    exact ⟨a0, a1, A, m, c, ys, by rw [e0, e1], fits_wf w0, fits_wf w1, hr, hm, hmc, hnil, hs⟩
theorem open_slabv {v : Value} {base : Nat} {r : Reach} {x : DataW H × List MemPlace} (hv : Value.okWide Try.prog W r base 74 v) (h : ∃ fuel, DataW.trod enc Try.prog W 0 sp true fuel 74 v.cells.toList = some x) :
    ∃ (a k : Int) (A : Option Addr) (n c : Nat) (ds : List Nat), v = .agg #[.int .i64 a, .int .i64 k, .slice A n c] ∧ Fits a ∧ Fits k ∧ Rdv W A n 1 (valsB ds) ∧ n ≤ 9223372036854775807 ∧ n ≤ c ∧ (A = none → c = 0) ∧ ∀ y ∈ ds, y < 256 := by
  obtain ⟨cs, rfl, _⟩ := okWide_struct Try.underlying74 hv
  obtain ⟨fuel, hf⟩ := h
  obtain ⟨a, k, A, n, c, ds, e, rest⟩ := open_slab hf
  refine ⟨a, k, A, n, c, ds, ?_, rest⟩
  have e' : cs.toList = [.int .i64 a, .int .i64 k, .slice A n c] := e
  obtain ⟨l⟩ := cs
  simp only at e'
  rw [e']
theorem open_bytesv {v : Value} {base : Nat} {r : Reach} {x : DataW H × List MemPlace} (hv : Value.okWide Try.prog W r base 45 v) (h : ∃ fuel, DataW.trod enc Try.prog W 0 sp true fuel 45 v.cells.toList = some x) :
    ∃ A n c xs, v = .slice A n c ∧ Rdv W A n 1 (valsB xs) ∧ n ≤ 9223372036854775807 ∧ n ≤ c ∧ (A = none → c = 0) ∧ ∀ y ∈ xs, y < 256 := by
  obtain ⟨a, l, c, rfl⟩ := okWide_slice Try.underlying45 hv
  obtain ⟨fuel, hf⟩ := h
  exact open_bytes (by simpa [Value.cells] using hf)
end
end Go.Proofs.Ytiemjgkpjmncfaa
