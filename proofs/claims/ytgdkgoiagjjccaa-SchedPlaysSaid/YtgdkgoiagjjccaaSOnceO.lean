/- SchedOnce's walk, whole; its arguments opened. -/
import Derived.Test.YtgdkgoiagjjccaaSOnceL
import Derived.Test.YtgdkgoiagjjccaaSOpen
namespace Go.Proofs.Ytgdkgoiagjjccaa
set_option maxRecDepth 100000
open Go.ChangeShapes Go.WideShapes Go.ChangeAt Go.RowKit

theorem once_law (A : Option Addr) (n c : Nat) (A2 : Option Addr) (n2 c2 : Nat) (m : Int) (A3 : Option Addr) (n3 c3 : Nat) (ls : List (List Int)) (bs : List Bool) (xs : List Int) (w : World) (h : Rws w A n ls) (hi : Bls w A2 n2 bs) (hx : Nums w A3 n3 xs) (h3 : n3 ≤ 9223372036854775807) :
    Calls Try.prog 12 #[planV A n c A2 n2 c2 m, .slice A3 n3 c3] w fun e w' => e = .returned (.bool true) ∧ Below w.heap.size w w' := by
  by_cases hS : (SmallL ls ∧ n3 ≤ 200) ∧ n2 ≤ 40
  · by_cases hg : GoodL ls ∧ n2 = n
    · obtain ⟨hg1, rfl⟩ := hg
      by_cases hm : m < 1 ∨ 64 < m
      · exact once_bad A n2 c A2 n2 c2 m A3 n3 c3 ls 1 w h h3 hS.1 hS.2 fun w' h' => new_range A n2 c A2 c2 ls m w' h' hg1 hm
      · obtain ⟨k, rfl⟩ : ∃ k : Nat, m = (k : Int) := ⟨m.toNat, by omega⟩
        exact once_main A n2 c A2 c2 k A3 n3 c3 ls bs xs w h hi hx hS.1 hS.2 hg1 (by omega)
    · exact once_bad A n c A2 n2 c2 m A3 n3 c3 ls 2 w h h3 hS.1 hS.2 fun w' h' => new_form A n c A2 n2 c2 ls m w' h' hg
  · exact once_skip A n c A2 n2 c2 m A3 n3 c3 ls w h h3 hS
section
variable {H : Type} {enc : TypeId × Value → H} {W : World}
theorem open_bools' {fuel : Nat} {v : Value} {x : DataW H × List MemPlace} (hf : DataW.trod enc Try.prog W 0 (fun _ => true) true fuel 67 [v] = some x) :
    ∃ A n c bs, v = .slice A n c ∧ Bls W A n bs ∧ n ≤ c ∧ (A = none → c = 0) := by
  rcases Go.Deep.open_slice1 Try.underlying67 (by kernel_rfl) hf with ⟨hcs, _⟩ | ⟨a, len, cap, m, k, V, D, Pl, hcs, _, hl, hm, hmm, _, hx⟩
  · injection hcs with hcs
    subst hcs
    exact ⟨none, 0, 0, [], rfl, ⟨rfl, by decide, fun h => absurd h (by decide)⟩, Nat.le_refl _, fun _ => rfl⟩
  · injection hcs with hcs
    subst hcs
    unfold maxLen at hm
    have hlm : len ≤ m := by rw [hmm]; split <;> omega
    have hall : ∀ j, ∃ q : Bool, j < len → V j = .bool q := by
      intro j
      by_cases hj : j < len
      · obtain ⟨q, hq, _⟩ := DataW.trod_bool Try.underlying4 (hx j (by omega)).2
        injection hq with hq
        exact ⟨q, fun _ => hq⟩
      · exact ⟨false, fun h => absurd h hj⟩
    obtain ⟨F, hall⟩ := Classical.axiomOfChoice hall
    refine ⟨some a, len, cap, (List.range len).map F, rfl, ⟨by simp, by omega, fun hn => ?_⟩, hl, fun h => by cases h⟩
    obtain ⟨b, off, spot⟩ := a
    have h00 := (hx 0 (by omega)).1
    have hspot : spot = none := by simpa [Addr.add] using World.cell?_spot h00
    subst hspot
    refine ⟨b, off, rfl, fun j hj => ?_⟩
    have h1 := (hx j (by omega)).1
    rw [addr_add', hall j hj] at h1
    rw [h1]
    simp [List.getD_eq_getElem?_getD, hj]
theorem open_plan {v : Value} {base : Nat} {r : Reach} {x : DataW H × List MemPlace} (hv : Value.okWide Try.prog W r base 69 v) (h : ∃ fuel, DataW.trod enc Try.prog W 0 (fun _ => true) true fuel 69 v.cells.toList = some x) :
    ∃ A n c A2 n2 c2 m ls bs, v = planV A n c A2 n2 c2 m ∧ Rws W A n ls ∧ Bls W A2 n2 bs := by
  obtain ⟨cs, rfl, hsz⟩ := okWide_struct Try.underlying69 hv
  obtain ⟨fuel, hf⟩ := h
  obtain ⟨y0, y1, y2, n, _, hl, g0, g1, g2⟩ := Go.Deep.trod_struct3 Try.underlying69 hf
  obtain ⟨l⟩ := cs
  rw [show Try.prog.cellsOf 69 = 3 by kernel_rfl] at hl
  simp only [Value.cells] at hl g0 g1 g2
  match l, hl with
  | [u0, u1, u2], _ =>
    simp [cells56, cells67, cells3] at g0 g1 g2
    obtain ⟨A, n1, c, ls, rfl, h1, _⟩ := open_rows' g0
    obtain ⟨A2, m, c2, bs, rfl, h2, _⟩ := open_bools' g1
    obtain ⟨a2, e2, _⟩ := DataW.trod_int Try.underlying3 g2
    injection e2 with e2
    exact ⟨A, n1, c, A2, m, c2, a2, ls, bs, by rw [e2]; rfl, h1, h2⟩
end
end Go.Proofs.Ytgdkgoiagjjccaa
