/- Bytes, numbers, values and rows of values, opened. -/
import Derived.Test.YtlegaajacmjejaaOpen
import Derived.Test.YtlegaajacmjejaaNone
import Derived.Lib.SmallJoins
namespace Go.Proofs.Ytlegaajacmjejaa
set_option maxRecDepth 100000
open Go.ChangeShapes Go.WideShapes Go.ChangeAt Go.RowKit

theorem cells3 : Try.prog.cellsOf 3 = 1 := by kernel_rfl
theorem cells5 : Try.prog.cellsOf 5 = 1 := by kernel_rfl
theorem cells29 : Try.prog.cellsOf 29 = 1 := by kernel_rfl
theorem cells26 : Try.prog.cellsOf 26 = 1 := by kernel_rfl
theorem cells31 : Try.prog.cellsOf 31 = 4 := by kernel_rfl
section
variable {H : Type} {enc : TypeId × Value → H} {W : World} {sp : Nat → Bool}
theorem fits_wf {z : Int} (h : (Lit.int .i64 z).wf = true) : Fits z := by
  have := bounds_i64 h
  unfold Fits; omega
theorem wf_u8 {z : Int} (h : (Lit.int .u8 z).wf = true) : 0 ≤ z ∧ z < 256 := by
  have := bounds_u8 h
  omega
theorem wf_u64 {z : Int} (h : (Lit.int .u64 z).wf = true) : ∃ n : Nat, z = (n : Int) ∧ n < 18446744073709551616 := by
  have := bounds_u64 h
  exact ⟨z.toNat, by omega, by omega⟩
theorem open_bytes {fuel : Nat} {v : Value} {x : DataW H × List MemPlace} (hf : DataW.trod enc Try.prog W 0 sp true fuel 26 [v] = some x) :
    ∃ A n c xs, v = .slice A n c ∧ Rdv W A n 1 (valsB xs) ∧ n ≤ 9223372036854775807 ∧ n ≤ c ∧ (A = none → c = 0) ∧ ∀ y ∈ xs, y < 256 := by
  rcases open_ints Try.underlying26 Try.underlying5 cells5 hf with ⟨hcs, _⟩ | ⟨a, len, cap, zs, hcs, _, hl, hm, hz, _, hcell, hwz⟩
  · injection hcs with hcs
    subst hcs
    exact ⟨none, 0, 0, [], rfl, ⟨rfl, fun hn => absurd hn (by omega)⟩, by decide, Nat.le_refl _, fun _ => rfl, fun y hy => by cases hy⟩
  · injection hcs with hcs
    subst hcs
    unfold maxLen at hm
    have hlz : len ≤ zs.length := by rw [hz]; split <;> omega
    refine ⟨some a, len, cap, (zs.take len).map Int.toNat, rfl, ⟨by simp [valsB]; omega, fun hn => ?_⟩, by omega, hl, (fun h => by cases h), fun y hy => ?_⟩
    · obtain ⟨b, off, spot⟩ := a
      have h0 := hcell 0 (by omega)
      have hspot : spot = none := by simpa [Addr.add] using World.cell?_spot h0
      subst hspot
      refine ⟨b, off, rfl, fun j u hj => ?_⟩
      rw [valsB_get] at hj
      have hjl : j < len := by
        rcases Nat.lt_or_ge j len with h | h
        · exact h
        · rw [List.getElem?_eq_none (by simp; omega)] at hj; cases hj
      have h1 := hcell j (by omega)
      rw [addr_plus] at h1
      have hzj : zs[j]? = some (zs[j]'(by omega)) := List.getElem?_eq_getElem (by omega)
      have hwz1 := wf_u8 (hwz _ (List.getElem_mem (show j < zs.length by omega)))
      have e : ((zs.take len).map Int.toNat)[j]? = some (zs[j]'(by omega)).toNat := by
        rw [List.getElem?_map, List.getElem?_take, if_pos hjl, hzj]; rfl
      rw [e] at hj
      injection hj with hj
      rw [h1, ← hj]
      congr 2
      rw [List.getD_eq_getElem?_getD, hzj]
      show zs[j] = _
      omega
    · obtain ⟨z, hz, rfl⟩ := List.mem_map.1 hy
      have := wf_u8 (hwz z (List.mem_of_mem_take hz))
      omega
theorem open_kinds {fuel : Nat} {v : Value} {x : DataW H × List MemPlace} (hf : DataW.trod enc Try.prog W 0 sp true fuel 39 [v] = some x) :
    ∃ A n c ks, v = .slice A n c ∧ Rdv W A n 1 (valsI ks) ∧ n ≤ 9223372036854775807 := by
  rcases open_ints Try.underlying39 Try.underlying3 cells3 hf with ⟨hcs, _⟩ | ⟨a, len, cap, zs, hcs, _, hl, hm, hz, _, hcell, hwz⟩
  · injection hcs with hcs
    subst hcs
    exact ⟨none, 0, 0, [], rfl, ⟨rfl, fun hn => absurd hn (by omega)⟩, by decide⟩
  · injection hcs with hcs
    subst hcs
    unfold maxLen at hm
    have hlz : len ≤ zs.length := by rw [hz]; split <;> omega
    refine ⟨some a, len, cap, zs.take len, rfl, ⟨by simp [valsI]; omega, fun hn => ?_⟩, by omega⟩
    obtain ⟨b, off, spot⟩ := a
    have h0 := hcell 0 (by omega)
    have hspot : spot = none := by simpa [Addr.add] using World.cell?_spot h0
    subst hspot
    refine ⟨b, off, rfl, fun j u hj => ?_⟩
    have hjl : j < len := by
      rcases Nat.lt_or_ge j len with h | h
      · exact h
      · rw [List.getElem?_eq_none (by simp [valsI]; omega)] at hj; cases hj
    have h1 := hcell j (by omega)
    rw [addr_plus] at h1
    have e : (valsI (zs.take len))[j]? = some (.int .i64 (zs.getD j 0)) := by
      simp [valsI, hjl, List.getD_eq_getElem?_getD, List.getElem?_eq_getElem (show j < zs.length by omega)]
    rw [e] at hj
    injection hj with hj
    rw [h1, hj]
theorem open_val {fuel : Nat} {cs : List Value} {x : DataW H × List MemPlace} (hf : DataW.trod enc Try.prog W 0 sp true fuel 31 cs = some x) : ∃ v : VV, cs = [.int .i64 v.k, .int .i64 v.n, .int .u64 (v.u : Int), .slice v.A v.m v.c] ∧ VOk W v := by
  obtain ⟨y0, y1, y2, y3, n, _, hl, g0, g1, g2, g3⟩ := Go.Joins.trod_struct4 Try.underlying31 hf
  rw [cells31] at hl
  match cs, hl with
  | [v0, v1, v2, v3], _ =>
    simp [cells3, cells29, cells26] at g0 g1 g2 g3
    obtain ⟨a0, e0, _, _⟩ := DataW.trod_int Try.underlying3 g0
    obtain ⟨a1, e1, _, w1⟩ := DataW.trod_int Try.underlying3 g1
    obtain ⟨a2, e2, _, w2⟩ := DataW.trod_int Try.underlying29 g2
    injection e0 with e0
    injection e1 with e1
    injection e2 with e2
    obtain ⟨u, rfl, hu⟩ := wf_u64 w2
    obtain ⟨A, m, c, ys, rfl, hr, hm, hmc, hnil, hs⟩ := open_bytes g3
    exact ⟨⟨a0, a1, u, A, m, c, ys⟩, by rw [e0, e1, e2], hr, hnil, fits_wf w1, hu, hs, hm⟩
theorem open_vals {fuel : Nat} {v : Value} {x : DataW H × List MemPlace} (hf : DataW.trod enc Try.prog W 0 sp true fuel 22 [v] = some x) :
    ∃ A n c vs, v = .slice A n c ∧ Vals W A n vs ∧ n ≤ 9223372036854775807 := by
  rcases Go.Deep.open_slice Try.underlying22 hf with ⟨hcs, _⟩ | ⟨a, len, cap, m, k, D, Pl, hcs, _, hl, hm, hmm, _, hx⟩
  · injection hcs with hcs
    subst hcs
    exact ⟨none, 0, 0, [], rfl, ⟨rfl, fun hn => absurd hn (by omega), fun v hv => by cases hv⟩, by decide⟩
  · injection hcs with hcs
    subst hcs
    unfold maxLen at hm
    have hlm : len ≤ m := by rw [hmm]; split <;> omega
    have hall : ∀ j, ∃ q : VV, j < len → W.cells? 0 (a.add (j * 4)) 4 = some [.int .i64 q.k, .int .i64 q.n, .int .u64 (q.u : Int), .slice q.A q.m q.c] ∧ VOk W q := by
      intro j
      by_cases hj : j < len
      · obtain ⟨cs', h1, h2⟩ := hx j (by omega)
        rw [cells31] at h1
        obtain ⟨q, rfl, hq⟩ := open_val h2
        exact ⟨q, fun _ => ⟨h1, hq⟩⟩
      · exact ⟨⟨0, 0, 0, none, 0, 0, []⟩, fun h => absurd h hj⟩
    obtain ⟨F, hall⟩ := Classical.axiomOfChoice hall
    refine ⟨some a, len, cap, (List.range len).map F, rfl, ⟨by simp, fun hn => ?_, fun v hv => ?_⟩, by omega⟩
    · obtain ⟨b, off, spot⟩ := a
      obtain ⟨_, _, h0⟩ := World.cells?_some (hall 0 hn).1
      have h00 := h0 0 (by omega)
      have hspot : spot = none := by simpa [Addr.add] using World.cell?_spot h00
      subst hspot
      refine ⟨b, off, rfl, fun j hj => ?_⟩
      have hj' : j < len := by simpa using hj
      obtain ⟨_, _, h1⟩ := World.cells?_some (hall j hj').1
      have c0 := h1 0 (by omega)
      have c1 := h1 1 (by omega)
      have c2 := h1 2 (by omega)
      have c3 := h1 3 (by omega)
      simp only [addr_plus] at c0 c1 c2 c3
      simp only [List.getElem_map, List.getElem_range]
      exact ⟨by simpa using c0, by simpa using c1, by simpa using c2, by simpa using c3⟩
    · obtain ⟨j, hj, rfl⟩ := List.mem_map.1 hv
      exact (hall j (by simpa using hj)).2
theorem open_valv {v : Value} {base : Nat} {r : Reach} {x : DataW H × List MemPlace} (hv : Value.okWide Try.prog W r base 31 v) (h : ∃ fuel, DataW.trod enc Try.prog W 0 sp true fuel 31 v.cells.toList = some x) :
    ∃ q : VV, v = q.val ∧ VOk W q := by
  obtain ⟨cs, rfl, _⟩ := okWide_struct Try.underlying31 hv
  obtain ⟨fuel, hf⟩ := h
  obtain ⟨q, e, hq⟩ := open_val hf
  refine ⟨q, ?_, hq⟩
  have e' : cs.toList = [.int .i64 q.k, .int .i64 q.n, .int .u64 (q.u : Int), .slice q.A q.m q.c] := e
  obtain ⟨l⟩ := cs
  simp only at e'
  rw [e']
  rfl
theorem open_valsv {v : Value} {base : Nat} {r : Reach} {x : DataW H × List MemPlace} (hv : Value.okWide Try.prog W r base 22 v) (h : ∃ fuel, DataW.trod enc Try.prog W 0 sp true fuel 22 v.cells.toList = some x) :
    ∃ A n c vs, v = .slice A n c ∧ Vals W A n vs ∧ n ≤ 9223372036854775807 := by
  obtain ⟨a, l, c, rfl⟩ := okWide_slice Try.underlying22 hv
  obtain ⟨fuel, hf⟩ := h
  exact open_vals (by simpa [Value.cells] using hf)
theorem open_bytesv {v : Value} {base : Nat} {r : Reach} {x : DataW H × List MemPlace} (hv : Value.okWide Try.prog W r base 26 v) (h : ∃ fuel, DataW.trod enc Try.prog W 0 sp true fuel 26 v.cells.toList = some x) :
    ∃ A n c xs, v = .slice A n c ∧ Rdv W A n 1 (valsB xs) ∧ n ≤ 9223372036854775807 ∧ n ≤ c ∧ (A = none → c = 0) ∧ ∀ y ∈ xs, y < 256 := by
  obtain ⟨a, l, c, rfl⟩ := okWide_slice Try.underlying26 hv
  obtain ⟨fuel, hf⟩ := h
  exact open_bytes (by simpa [Value.cells] using hf)
theorem open_kindsv {v : Value} {base : Nat} {r : Reach} {x : DataW H × List MemPlace} (hv : Value.okWide Try.prog W r base 39 v) (h : ∃ fuel, DataW.trod enc Try.prog W 0 sp true fuel 39 v.cells.toList = some x) :
    ∃ A n c ks, v = .slice A n c ∧ Rdv W A n 1 (valsI ks) ∧ n ≤ 9223372036854775807 := by
  obtain ⟨a, l, c, rfl⟩ := okWide_slice Try.underlying39 hv
  obtain ⟨fuel, hf⟩ := h
  exact open_kinds (by simpa [Value.cells] using hf)
end
end Go.Proofs.Ytlegaajacmjejaa
