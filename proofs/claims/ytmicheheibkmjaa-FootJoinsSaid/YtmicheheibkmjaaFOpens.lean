/- Opening a row of feet. -/
import Derived.Test.YtmicheheibkmjaaFOpen
import Derived.Test.YtmicheheibkmjaaFJoinW
import Derived.ProofKit
import Derived.OpenShut
import Derived.Deep.Slices
import Derived.Deep.Strs
import Derived.ShutString
import Derived.ChangeOld
namespace Go.Proofs.Ytmicheheibkmjaa
set_option maxRecDepth 100000
open Go.ChangeShapes Go.WideShapes Go.ChangeAt Go.RowKit
section
variable {H : Type} {enc : TypeId × Value → H} {W : World} {sp : Nat → Bool}
theorem open_feet' {fuel : Nat} {v : Value} {x : DataW H × List MemPlace} (hin : DataW.trod enc Try.prog W 0 sp true fuel 22 [v] = some x) : ∃ A n c fs, v = .slice A n c ∧ FtsG W A n fs ∧ n ≤ 9223372036854775807 := by
  rcases Go.Deep.open_slice Try.underlying22 hin with ⟨hcs, _⟩ | ⟨a, len, cap, m, k2, D, Pl, hcs, _, hl, hm, hmm, _, hx⟩
  · injection hcs with hcs
    subst hcs
    exact ⟨none, 0, 0, [], rfl, ⟨rfl, fun hn => absurd hn (by omega)⟩, by decide⟩
  · injection hcs with hcs
    subst hcs
    unfold maxLen at hm
    have hlm : len ≤ m := by rw [hmm]; split <;> omega
    have hall : ∀ j, ∃ q : FV × Ft, j < len → W.cells? 0 (a.add (j * 3)) 3 = some q.1.cs.toList ∧ FtG W q.1 q.2 := by
      intro j
      by_cases hj : j < len
      · obtain ⟨cs', h1, h2⟩ := hx j (by omega)
        rw [cells30] at h1
        obtain ⟨q, rfl, hq⟩ := open_footw h2
        exact ⟨q, fun _ => ⟨h1, hq⟩⟩
      · exact ⟨(⟨none, 0, 0, none, 0, 0, none, 0, 0⟩, noFt), fun h => absurd h hj⟩
    obtain ⟨F, hall⟩ := Classical.axiomOfChoice hall
    refine ⟨some a, len, cap, (List.range len).map fun j => (F j).2, rfl, ⟨by simp, fun hn => ?_⟩, by omega⟩
    obtain ⟨b, off, spot⟩ := a
    obtain ⟨_, _, h0⟩ := World.cells?_some (hall 0 hn).1
    have h00 := h0 0 (by show 0 < 3; omega)
    have hspot : spot = none := by simpa [Addr.add] using World.cell?_spot h00
    subst hspot
    refine ⟨b, off, rfl, fun j hj => ⟨(F j).1, ?_, ?_⟩⟩
    · have e : ((List.range len).map fun j => (F j).2).getD j noFt = (F j).2 := by simp [List.getD_eq_getElem?_getD, hj]
      rw [e]
      exact (hall j hj).2
    · obtain ⟨_, _, h1⟩ := World.cells?_some (hall j hj).1
      have c0 := h1 0 (by omega)
      have c1 := h1 1 (by omega)
      have c2 := h1 2 (by omega)
      simp only [addr_add'] at c0 c1 c2
      exact ⟨by simpa [FV.cs] using c0, by simpa [FV.cs] using c1, by simpa [FV.cs] using c2⟩
theorem open_feet {v : Value} {base : Nat} {r : Reach} {x : DataW H × List MemPlace} (hv : Value.okWide Try.prog W r base 22 v) (h : ∃ fuel, DataW.trod enc Try.prog W 0 sp true fuel 22 v.cells.toList = some x) : ∃ A n c fs, v = .slice A n c ∧ FtsG W A n fs ∧ n ≤ 9223372036854775807 := by
  obtain ⟨B, len, cap, rfl⟩ := okWide_slice Try.underlying22 hv
  obtain ⟨fuel, hf⟩ := h
  exact open_feet' (by simpa [Value.cells] using hf)
end
end Go.Proofs.Ytmicheheibkmjaa
