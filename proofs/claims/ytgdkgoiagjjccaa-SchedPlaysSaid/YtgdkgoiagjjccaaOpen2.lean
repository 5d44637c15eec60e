/- Slices of numbers and of writes, opened. -/
import Derived.Test.YtgdkgoiagjjccaaOpen
import Derived.Test.YtgdkgoiagjjccaaPlace
import Derived.ProofKit
import Derived.Deep.Slices
import Derived.Deep.Strs
namespace Go.Proofs.Ytgdkgoiagjjccaa
set_option maxRecDepth 100000
open Go.ChangeShapes Go.WideShapes Go.ChangeAt Go.RowKit

/-- A slice that reads as writes. -/
def Wrs (w : World) (A : Option Addr) (n : Nat) (ws : List (Int × Int × Int × Bool)) : Prop :=
  ws.length = n ∧ (0 < n → ∃ b off, A = some ⟨b, off, none⟩ ∧ ∀ j (h : j < ws.length), w.cell? ⟨b, off + j * 4, none⟩ = some (.int .i64 ws[j].1) ∧ w.cell? ⟨b, off + j * 4 + 1, none⟩ = some (.int .i64 ws[j].2.1) ∧
    w.cell? ⟨b, off + j * 4 + 2, none⟩ = some (.int .i64 ws[j].2.2.1) ∧ w.cell? ⟨b, off + j * 4 + 3, none⟩ = some (.bool ws[j].2.2.2))
theorem Wrs.first {w : World} {A : Option Addr} {n : Nat} {ws : List (Int × Int × Int × Bool)} (h : Wrs w A n ws) : ∃ T K, Wr0 w A n T K := by
  obtain ⟨hl, hc⟩ := h
  rcases Nat.eq_zero_or_pos n with h0 | h0
  · exact ⟨0, 0, fun h => absurd h (by omega)⟩
  · obtain ⟨b, off, e, hj⟩ := hc h0
    have h1 := hj 0 (by omega)
    exact ⟨_, _, fun _ => ⟨b, off, e, by simpa using h1.1, by simpa using h1.2.1⟩⟩

theorem addr_add' (b off j : Nat) : (⟨b, off, none⟩ : Addr).add j = ⟨b, off + j, none⟩ := by
  unfold Addr.add
  by_cases h : j = 0
  · subst h; simp
  · simp [h]
theorem cells3 : Try.prog.cellsOf 3 = 1 := by kernel_rfl
theorem cells4 : Try.prog.cellsOf 4 = 1 := by kernel_rfl
theorem cells37 : Try.prog.cellsOf 37 = 1 := by kernel_rfl
theorem cells38 : Try.prog.cellsOf 38 = 1 := by kernel_rfl
theorem cells104 : Try.prog.cellsOf 104 = 2 := by kernel_rfl
theorem cells106 : Try.prog.cellsOf 106 = 4 := by kernel_rfl
section
variable {H : Type} {enc : TypeId × Value → H} {W : World} {sp : Nat → Bool}
theorem fits_wf {z : Int} (h : (Lit.int .i64 z).wf = true) : Fits z := by
  have := bounds_i64 h
  unfold Fits; omega
theorem open_nums {fuel : Nat} {v : Value} {x : DataW H × List MemPlace} (hf : DataW.trod enc Try.prog W 0 sp true fuel 38 [v] = some x) :
    ∃ A n c xs, v = .slice A n c ∧ Nums W A n xs ∧ n ≤ 9223372036854775807 ∧ n ≤ c ∧ (A = none → c = 0) := by
  rcases open_ints Try.underlying38 Try.underlying3 cells3 hf with ⟨hcs, _⟩ | ⟨a, len, cap, zs, hcs, _, hl, hm, hz, _, hcell, hwz⟩
  · injection hcs with hcs
    subst hcs
    exact ⟨none, 0, 0, [], rfl, ⟨rfl, fun x hx => (by cases hx), fun hn => absurd hn (by omega)⟩, by decide, Nat.le_refl _, fun _ => rfl⟩
  · injection hcs with hcs
    subst hcs
    unfold maxLen at hm
    have hlz : len ≤ zs.length := by rw [hz]; split <;> omega
    refine ⟨some a, len, cap, zs.take len, rfl, ⟨by simp; omega, fun x hx => fits_wf (hwz x (List.mem_of_mem_take hx)), fun hn => ?_⟩, by omega, hl, fun h => by cases h⟩
    obtain ⟨b, off, spot⟩ := a
    have h0 := hcell 0 (by omega)
    have hspot : spot = none := by simpa [Addr.add] using World.cell?_spot h0
    subst hspot
    refine ⟨b, off, rfl, fun j hj => ?_⟩
    have h1 := hcell j (by omega)
    rw [addr_add'] at h1
    rw [h1]
    have e : (zs.take len).getD j 0 = zs.getD j 0 := by simp [List.getD_eq_getElem?_getD, hj]
    rw [e]
theorem open_write {fuel : Nat} {cs : List Value} {x : DataW H × List MemPlace} (hf : DataW.trod enc Try.prog W 0 sp true fuel 106 cs = some x) : ∃ q : Int × Int × Int × Bool, cs = [.int .i64 q.1, .int .i64 q.2.1, .int .i64 q.2.2.1, .bool q.2.2.2] := by
  obtain ⟨y0, y1, y2, n, _, hl, g0, g1, g2⟩ := Go.Deep.trod_struct3 Try.underlying106 hf
  rw [cells106] at hl
  match cs, hl with
  | [v0, v1, v2, v3], _ =>
    obtain ⟨z0, z1, m, _, hl2, k0, k1⟩ := trod_struct2 Try.underlying104 g0
    simp [cells104, cells3, cells4] at g1 g2 k0 k1
    obtain ⟨a0, e0, _⟩ := DataW.trod_int Try.underlying3 k0
    obtain ⟨a1, e1, _⟩ := DataW.trod_int Try.underlying3 k1
    obtain ⟨a2, e2, _⟩ := DataW.trod_int Try.underlying3 g1
    obtain ⟨a3, e3, _⟩ := DataW.trod_bool Try.underlying4 g2
    injection e0 with e0
    injection e1 with e1
    injection e2 with e2
    injection e3 with e3
    exact ⟨(a0, a1, a2, a3), by rw [e0, e1, e2, e3]⟩
theorem open_writes {fuel : Nat} {v : Value} {x : DataW H × List MemPlace} (hf : DataW.trod enc Try.prog W 0 sp true fuel 37 [v] = some x) :
    ∃ A n c ws, v = .slice A n c ∧ Wrs W A n ws ∧ n ≤ 9223372036854775807 ∧ n ≤ c ∧ (A = none → c = 0) := by
  rcases Go.Deep.open_slice Try.underlying37 hf with ⟨hcs, _⟩ | ⟨a, len, cap, m, k, D, Pl, hcs, _, hl, hm, hmm, _, hx⟩
  · injection hcs with hcs
    subst hcs
    exact ⟨none, 0, 0, [], rfl, ⟨rfl, fun hn => absurd hn (by omega)⟩, by decide, Nat.le_refl _, fun _ => rfl⟩
  · injection hcs with hcs
    subst hcs
    unfold maxLen at hm
    have hlm : len ≤ m := by rw [hmm]; split <;> omega
    have hall : ∀ j, ∃ q : Int × Int × Int × Bool, j < len → W.cells? 0 (a.add (j * 4)) 4 = some [.int .i64 q.1, .int .i64 q.2.1, .int .i64 q.2.2.1, .bool q.2.2.2] := by
      intro j
      by_cases hj : j < len
      · obtain ⟨cs', h1, h2⟩ := hx j (by omega)
        rw [cells106] at h1
        obtain ⟨q, rfl⟩ := open_write h2
        exact ⟨q, fun _ => h1⟩
      · exact ⟨(0, 0, 0, false), fun h => absurd h hj⟩
    obtain ⟨F, hall⟩ := Classical.axiomOfChoice hall
    refine ⟨some a, len, cap, (List.range len).map F, rfl, ⟨by simp, fun hn => ?_⟩, by omega, hl, fun h => by cases h⟩
    obtain ⟨b, off, spot⟩ := a
    obtain ⟨_, _, h0⟩ := World.cells?_some (hall 0 hn)
    have h00 := h0 0 (by omega)
    have hspot : spot = none := by simpa [Addr.add] using World.cell?_spot h00
    subst hspot
    refine ⟨b, off, rfl, fun j hj => ?_⟩
    have hj' : j < len := by simpa using hj
    obtain ⟨_, _, h1⟩ := World.cells?_some (hall j hj')
    have c0 := h1 0 (by omega)
    have c1 := h1 1 (by omega)
    have c2 := h1 2 (by omega)
    have c3 := h1 3 (by omega)
    simp only [addr_add'] at c0 c1 c2 c3
    simp only [List.getElem_map, List.getElem_range]
    exact ⟨by simpa using c0, by simpa using c1, by simpa using c2, by simpa using c3⟩
theorem open_where {v : Value} {base : Nat} {r : Reach} {x : DataW H × List MemPlace} (hv : Value.okWide Try.prog W r base 40 v) (h : ∃ fuel, DataW.trod enc Try.prog W 0 sp true fuel 40 v.cells.toList = some x) :
    ∃ A n c A2 m c2 ws xs, v = .agg #[.slice A n c, .slice A2 m c2] ∧ Wrs W A n ws ∧ Nums W A2 m xs ∧ n ≤ 9223372036854775807 ∧ m ≤ 9223372036854775807 ∧ (n ≤ c ∧ (A = none → c = 0)) ∧ m ≤ c2 ∧ (A2 = none → c2 = 0) := by
  obtain ⟨cs, rfl, hsz⟩ := okWide_struct Try.underlying40 hv
  obtain ⟨fuel, hf⟩ := h
  obtain ⟨y0, y1, n, _, hl, g0, g1⟩ := trod_struct2 Try.underlying40 hf
  obtain ⟨l⟩ := cs
  rw [show Try.prog.cellsOf 40 = 2 by kernel_rfl] at hl
  simp only [Value.cells] at hl g0 g1
  match l, hl with
  | [u0, u1], _ =>
    simp [cells37, cells38] at g0 g1
    obtain ⟨A, n1, c, ws, rfl, h1, h2, h3⟩ := open_writes g0
    obtain ⟨A2, m, c2, xs, rfl, h4, h5, h6⟩ := open_nums g1
    exact ⟨A, n1, c, A2, m, c2, ws, xs, rfl, h1, h4, h2, h5, h3, h6⟩
end
end Go.Proofs.Ytgdkgoiagjjccaa
