/- From the row's readings to what the walks are told: byte slices, slices of them, the table; and a start that holds the table. -/
import Derived.Test.YtfajalhpenincaaDoorPartsWalk
import Derived.ProofKit
import Derived.OpenShut
import Derived.ShutString
import Derived.ChangeOld
import Derived.Below
import Derived.ChangeVars
import Derived.JoinedOf
import Derived.LaidLaws
import Derived.LaidHandle
import Derived.MakeChecks
import Derived.Stop.Joined
import Derived.Lib.LaidTab
import Derived.Deep.Slices
namespace Go.Proofs.YtfajalhpenincaaDoor
open Go.ChangeShapes Go.WideShapes Go.ChangeAt Go.RowKit

theorem own : ownKnob Tryd.prog.godebug = none := by kernel_rfl
theorem laidOut : laidOutB Tryd.prog = true := by kernel_rfl
theorem gHalf : Tryd.prog.globalNamed "sluiceway/crc.half" = some 0 := by kernel_rfl
theorem gHalfType : (Tryd.prog.globals[0]?).map (·.type) = some 46 := by kernel_rfl
theorem cells23 : Tryd.prog.cellsOf 23 = 1 := by kernel_rfl
theorem cells46 : Tryd.prog.cellsOf 46 = 16 := by kernel_rfl
theorem cells5 : Tryd.prog.cellsOf 5 = 1 := by kernel_rfl
theorem cells22 : Tryd.prog.cellsOf 22 = 1 := by kernel_rfl

def tabZ : List Int := [0, 498536548, 997073096, 651767980, 1994146192, 1802195444, 1303535960, 1342533948, 3988292384, 4027552580, 3604390888, 3412177804, 2607071920, 2262029012, 2685067896, 3183342108]
theorem tabZ_at : ∀ i, i < 16 → tabZ.getD i 0 = ((tabN.getD i 0 : Nat) : Int) := by decide

theorem tab_of_laid {W : World} (h : laidMet Tryd.prog [("sluiceway/crc.half", Lib.tabData .u32 tabZ)] W) : Tab W := by
  have hT := Lib.tabIs_of_head gHalf gHalfType Tryd.underlying46 Tryd.underlying23 cells23 cells46 h
  intro i hi
  rw [← tabZ_at i hi]
  exact hT.cell gHalf i hi
theorem laid_is : (Rows.laid_sluiceway_crc_half : DataW Unit) = Lib.tabData .u32 tabZ := rfl

noncomputable def laidWorld (os : Os) : World :=
  { World.holding Tryd.prog os ⟨#[], #[], []⟩ with heap := (World.holding Tryd.prog os ⟨#[], #[], []⟩).heap.modify 0 fun
      | .cells _ t frozen => .cells (tabZ.map fun z => Value.int .u32 z).toArray t frozen
      | o => o }
theorem laid_met (os : Os) (args : Array Value) : laidMetH Tryd.prog [("sluiceway/crc.half", Rows.laid_sluiceway_crc_half)] ((laidWorld os).forCall (fun _ _ => 0) ⟨#[], args, []⟩).memory := by
  rw [Go.MakeChecks.laidMetH_plain _ _ _ (by rfl)]
  exact laidMet_of_run' 8 (by kernel_rfl) (by kernel_rfl)

section
variable {H : Type} {enc : TypeId × Value → H} {W : World} {sp : Nat → Bool}
theorem wf_u8 {z : Int} (h : (Lit.int .u8 z).wf = true) : 0 ≤ z ∧ z < 256 := by
  have := bounds_u8 h
  omega
theorem open_bts {fuel : Nat} {v : Value} {x : DataW H × List MemPlace} (hf : DataW.trod enc Tryd.prog W 0 sp true fuel 22 [v] = some x) :
    ∃ A n c xs, v = .slice A n c ∧ Bts W A n xs ∧ n ≤ 9223372036854775807 ∧ (A = none → c = 0) := by
  rcases open_ints Tryd.underlying22 Tryd.underlying5 cells5 hf with ⟨hcs, _⟩ | ⟨a, len, cap, zs, hcs, _, hl, hm, hz, _, hcell, hwz⟩
  · injection hcs with hcs
    subst hcs
    exact ⟨none, 0, 0, [], rfl, ⟨rfl, fun x hx => (by cases hx), fun hn => absurd hn (by omega)⟩, by decide, fun _ => rfl⟩
  · injection hcs with hcs
    subst hcs
    unfold maxLen at hm
    have hlz : len ≤ zs.length := by rw [hz]; split <;> omega
    refine ⟨some a, len, cap, (zs.take len).map Int.toNat, rfl, ⟨by simp; omega, ?_, fun hn => ?_⟩, by omega, fun h => by cases h⟩
    · intro x hx
      obtain ⟨z, hz, rfl⟩ := List.mem_map.1 hx
      have := wf_u8 (hwz z (List.mem_of_mem_take hz))
      omega
    · obtain ⟨b, off, spot⟩ := a
      have h0 := hcell 0 (by omega)
      have hspot : spot = none := by simpa [Addr.add] using World.cell?_spot h0
      subst hspot
      refine ⟨b, off, rfl, fun j hj => ?_⟩
      have h1 := hcell j (by omega)
      rw [addr_add] at h1
      rw [h1]
      have hw : zs.getD j 0 ∈ zs := by
        rw [List.getD_eq_getElem?_getD, List.getElem?_eq_getElem (by omega)]
        exact List.getElem_mem _
      have := wf_u8 (hwz _ hw)
      have e : (((zs.take len).map Int.toNat).getD j 0 : Nat) = (zs.getD j 0).toNat := by
        simp [List.getD_eq_getElem?_getD, hj, List.getElem?_eq_getElem (show j < zs.length by omega)]
      rw [e]
      congr 2
      omega
theorem open_parts {fuel : Nat} {v : Value} {x : DataW H × List MemPlace} (hf : DataW.trod enc Tryd.prog W 0 sp true fuel 31 [v] = some x) :
    ∃ A n c xss, v = .slice A n c ∧ Prt W A n xss ∧ n ≤ 9223372036854775807 := by
  rcases Go.Deep.open_slice1 Tryd.underlying31 cells22 hf with ⟨hcs, _⟩ | ⟨a, len, cap, m, k, V, D, Pl, hcs, _, hl, hm, hmm, _, hc⟩
  · injection hcs with hcs
    subst hcs
    exact ⟨none, 0, 0, [], rfl, ⟨rfl, fun hn => absurd hn (by omega)⟩, by decide⟩
  · injection hcs with hcs
    subst hcs
    unfold maxLen at hm
    have hlm : len ≤ m := by rw [hmm]; split <;> omega
    have hall : ∀ j, ∃ A n c xs, j < len → V j = .slice A n c ∧ Bts W A n xs ∧ n ≤ 9223372036854775807 ∧ (A = none → c = 0) := by
      intro j
      by_cases hj : j < len
      · obtain ⟨A, n, c, xs, h⟩ := open_bts (hc j (by omega)).2
        exact ⟨A, n, c, xs, fun _ => h⟩
      · exact ⟨none, 0, 0, [], fun h => absurd h hj⟩
    obtain ⟨FA, hall⟩ := Classical.axiomOfChoice hall
    obtain ⟨FN, hall⟩ := Classical.axiomOfChoice hall
    obtain ⟨FC, hall⟩ := Classical.axiomOfChoice hall
    obtain ⟨FX, hall⟩ := Classical.axiomOfChoice hall
    refine ⟨some a, len, cap, (List.range len).map FX, rfl, ⟨by simp, fun hn => ?_⟩, by omega⟩
    obtain ⟨b, off, spot⟩ := a
    have h0 := (hc 0 (by omega)).1
    have hspot : spot = none := by simpa [Addr.add] using World.cell?_spot h0
    subst hspot
    refine ⟨b, off, rfl, fun j hj => ?_⟩
    have h1 := (hc j (by omega)).1
    rw [addr_add] at h1
    obtain ⟨h2, h3, h4, h5⟩ := hall j hj
    refine ⟨FA j, FN j, FC j, by rw [h1, h2], ?_, h4, h5⟩
    have e : ((List.range len).map FX).getD j [] = FX j := by simp [List.getD_eq_getElem?_getD, hj]
    rw [e]
    exact h3
end
end Go.Proofs.YtfajalhpenincaaDoor
