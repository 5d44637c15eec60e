/- From the row's readings to what the walks are told: programs, bytes, the table of shapes; and a start that holds the table. -/
import Derived.Test.YtkeckjgihjpfbaaDoorCheck
import Derived.ProofKit
import Derived.OpenShut
import Derived.ShutString
import Derived.ChangeOld
import Derived.Below
import Derived.ChangeVars
import Derived.JoinedOf
import Derived.LaidLaws
import Derived.LaidHandle
import Derived.MakeChecks
import Derived.Stop.Joined
import Derived.Lib.LaidTab
import Derived.Deep.Slices
import Derived.Deep.Fields
import Derived.ChangeSame
import Derived.Lib.SmallJoins
namespace Go.Proofs.YtkeckjgihjpfbaaDoor
open Go.ChangeShapes Go.WideShapes Go.ChangeAt Go.RowKit Go.Deep Go.Joins

theorem own : ownKnob Tryd.prog.godebug = none := by kernel_rfl
theorem laidOut : laidOutB Tryd.prog = true := by kernel_rfl
theorem gShapes : Tryd.prog.globalNamed "sluiceway/prog.shapes" = some 0 := by kernel_rfl
theorem gShapesType : (Tryd.prog.globals[0]?).map (·.type) = some 90 := by kernel_rfl
theorem cells9 : Tryd.prog.cellsOf 9 = 1 := by kernel_rfl
theorem cells90 : Tryd.prog.cellsOf 90 = 16 := by kernel_rfl
theorem cells5 : Tryd.prog.cellsOf 5 = 1 := by kernel_rfl
theorem cells28 : Tryd.prog.cellsOf 28 = 1 := by kernel_rfl
theorem cells3 : Tryd.prog.cellsOf 3 = 1 := by kernel_rfl
theorem cells22 : Tryd.prog.cellsOf 22 = 1 := by kernel_rfl
theorem cells24 : Tryd.prog.cellsOf 24 = 2 := by kernel_rfl
theorem cells43 : Tryd.prog.cellsOf 43 = 6 := by kernel_rfl

def strData {H : Type} (ss : List (List UInt8)) : DataW H := .agg (ss.map fun s => .lit (.string s))
theorem cells_of_strs {H : Type} {enc : TypeId × Value → H} {P : Program} {w : World} {base : Nat} {sp : Nat → Bool} {held : Bool} {fuel : Nat} {t e : TypeId} {n : Nat} {cs : List Value} {ss : List (List UInt8)} {p : List MemPlace}
    (ht : P.underlying t = some (.array n e)) (he : P.underlying e = some .string) (hce : P.cellsOf e = 1) (hct : P.cellsOf t = n)
    (h : DataW.trod enc P w base sp held fuel t cs = some (strData ss, p)) : cs = ss.map fun s => Value.string ⟨s.toArray⟩ := by
  cases fuel with
  | zero => simp [DataW.trod] at h
  | succ fuel =>
    simp only [DataW.trod, ht, hce, hct, Nat.mul_one] at h
    split at h
    · rename_i hl
      obtain ⟨xs, hm, hx⟩ := Option.map_eq_some_iff.1 h
      have hxs : xs.map (·.1) = ss.map fun s => (DataW.lit (.string s) : DataW H) := by
        have := congrArg Prod.fst hx
        simpa [strData] using this
      have hxl : xs.length = n := by simpa using Lib.mapM_length hm
      have hzl : ss.length = n := by
        have := congrArg List.length hxs
        simp at this
        omega
      apply List.ext_getElem?
      intro i
      by_cases hi : i < n
      · obtain ⟨b, hb, hf⟩ := Lib.mapM_at hm i i (by simp [hi])
        obtain ⟨z, hc, rfl, _⟩ := DataW.trod_string he hf
        have h1 : cs[i]? = some (.string z) := by
          have := congrArg (·[0]?) hc
          simpa [List.getElem?_take, List.getElem?_drop] using this
        have h2 : (xs.map (·.1))[i]? = some (DataW.lit (.string z.data.toList) : DataW H) := by simp [hb]
        rw [hxs] at h2
        simp only [List.getElem?_map, Option.map_eq_some_iff, DataW.lit.injEq, Lit.string.injEq] at h2
        obtain ⟨z', hz', rfl⟩ := h2
        simp [h1, hz']
      · rw [List.getElem?_eq_none (by omega), List.getElem?_eq_none (by simp; omega)]
    · cases h
def shapesS : List (List UInt8) := [[97, 110], [97, 98], [97, 98, 99], [97, 98, 99], [97, 98, 99], [97, 98, 99], [97, 98, 99], [97, 116, 98], [97, 116, 98], [116, 98, 97], [116, 98], [97, 116, 98, 99, 107], [97, 116, 98, 99, 107], [115, 98, 106, 99], [98, 106, 99], [97]]
theorem shapes_at : ∀ i : Nat, i < 16 → shapesS[i]? = some ((shapeL (i : Int)).map UInt8.ofNat) := by decide +kernel
theorem laid_is {H : Type} : (Rows.laid_sluiceway_prog_shapes : DataW H) = strData shapesS := rfl
theorem strN_mk (xs : List Nat) : strN xs = ⟨(xs.map UInt8.ofNat).toArray⟩ := by
  have h := strN_data xs
  have : (strN xs).data = (xs.map UInt8.ofNat).toArray := by rw [← h]
  rw [← this]
theorem tab_of_laid {W : World} (h : laidMet Tryd.prog [("sluiceway/prog.shapes", Rows.laid_sluiceway_prog_shapes)] W) : Tab W := by
  rw [laid_is] at h
  obtain ⟨ps, ⟨g', t', cs, fuel, p, q, hg', ht', hvar, hd, _, _⟩, _⟩ := h
  obtain rfl := Option.some.inj (gShapes.symm.trans hg')
  obtain rfl := Option.some.inj (gShapesType.symm.trans ht')
  have hcs := cells_of_strs Tryd.underlying90 Tryd.underlying9 cells9 cells90 hd
  intro i hi
  have h1 := World.var?_cell gShapes hvar i
  rw [h1, ← Array.getElem?_toList, hcs, strN_mk, List.getElem?_map, shapes_at i hi]
  rfl

section
variable {H : Type} {enc : TypeId × Value → H} {P : Program} {w : World} {base : Nat} {spare : Nat → Bool} {held : Bool}
theorem open_slice_fields {t e : TypeId} {fs : Array Field} {fuel : Nat} {cs : List Value} {x : DataW H × List MemPlace} (ht : P.underlying t = some (.slice e)) (he : P.underlying e = some (.struct fs))
    (hone : oneCellFields P fs = true) (hC : P.cellsOf e = fs.size) (h : DataW.trod enc P w base spare held fuel t cs = some x) :
    (cs = [.slice none 0 0] ∧ x = (.nil, [])) ∨
    ∃ (a : Addr) (len cap m : Nat) (D : Nat → DataW H) (Pl : Nat → List MemPlace), cs = [.slice (some a) len cap] ∧ base ≤ a.block ∧ len ≤ cap ∧ cap ≤ maxLen ∧ m = (if spare a.block then cap else len) ∧
      x = (.slice ((List.range len).map D) ((List.range (m - len)).map fun j => D (len + j)), MemPlace.row a (m * fs.size) ++ (List.range m).flatMap Pl) ∧
      ∀ i, i < m → ∃ (ys : List (DataW H × List MemPlace)) (n : Nat), D i = .agg (ys.map (·.1)) ∧ Pl i = ys.flatMap (·.2) ∧ ys.length = fs.size ∧
        ∀ (j : Nat) (f : Field), fs[j]? = some f → ∃ (v : Value) (y : DataW H × List MemPlace), w.cell? (a.add (i * fs.size + j)) = some v ∧ ys[j]? = some y ∧ DataW.trod enc P w base spare held n f.type [v] = some y := by
  rcases open_slice ht h with h0 | ⟨a, len, cap, m, n, D, Pl, hcs, hb, hl, hm, hmm, hx, hi⟩
  · exact .inl h0
  · refine .inr ⟨a, len, cap, m, D, Pl, hcs, hb, hl, hm, hmm, by rw [hC] at hx; exact hx, fun i him => ?_⟩
    obtain ⟨cs', hc, ht'⟩ := hi i him
    rw [hC] at hc
    obtain ⟨ys, n', hn', hy, hlen, hyl, hf⟩ := DataW.trod_struct he ht'
    obtain ⟨_, hcl, hat⟩ := World.cells?_some hc
    simp only [Prod.mk.injEq] at hy
    refine ⟨ys, n', hy.1, hy.2, hyl, fun j f hj => ?_⟩
    obtain ⟨ho, hk⟩ := hone_of hone j f hj
    have hjl : j < fs.size := (Array.getElem?_eq_some_iff.1 hj).1
    have hcell := hat j hjl
    have hv : cs'[j]? = some (cs'[j]'(by omega)) := List.getElem?_eq_getElem (by omega)
    have h1 := hf j f hj
    rw [ho, hk] at h1
    have hone' : (cs'.drop j).take 1 = [cs'[j]'(by omega)] := by
      rw [List.drop_eq_getElem_cons (by omega)]
      rfl
    rw [hone'] at h1
    have hys : ys[j]? = some (ys[j]'(by omega)) := List.getElem?_eq_getElem (by omega)
    refine ⟨_, _, ?_, hys, h1.trans hys⟩
    rw [← Go.Deep.add_add, hcell, hv]
end
section
variable {H : Type} {enc : TypeId × Value → H} {W : World} {sp : Nat → Bool}
theorem fits_wf {z : Int} (h : (Lit.int .i64 z).wf = true) : Fits z := by
  have := bounds_i64 h
  unfold Fits
  omega
theorem open_codes {fuel : Nat} {v : Value} {x : DataW H × List MemPlace} (hf : DataW.trod enc Tryd.prog W 0 sp true fuel 22 [v] = some x) :
    ∃ A n c l, v = .slice A n c ∧ Codes W A n l ∧ n ≤ 9223372036854775807 ∧ n ≤ c ∧ (A = none → c = 0) ∧ ∀ y ∈ l, Ins.Ok y := by
  rcases open_slice_fields Tryd.underlying22 Tryd.underlying43 (by kernel_rfl) (by rw [cells43]; rfl) hf with ⟨hcs, _⟩ | ⟨a, len, cap, m, D, Pl, hcs, _, hl, hm, hmm, _, hc⟩
  · injection hcs with hcs
    subst hcs
    exact ⟨none, 0, 0, [], rfl, ⟨rfl, rfl, fun hn => absurd hn (by omega)⟩, by decide, by decide, fun _ => rfl, fun y hy => by cases hy⟩
  · injection hcs with hcs
    subst hcs
    unfold maxLen at hm
    have hlm : len ≤ m := by rw [hmm]; split <;> omega
    have hall : ∀ i : Nat, ∀ j : Nat, ∃ z : Int, i < len → j < 6 → W.cell? (a.add (i * 6 + j)) = some (.int .i64 z) ∧ Fits z := by
      intro i j
      by_cases hij : i < len ∧ j < 6
      · obtain ⟨hi, hj⟩ := hij
        obtain ⟨ys, n, _, _, _, hcell⟩ := hc i (by omega)
        have key : ∀ (f : Field), (#[{ name := "Op", type := 3, offset := 0, embedded := false, tag := "", pkgPath := "", byteOffset := 0 }, { name := "A", type := 3, offset := 1, embedded := false, tag := "", pkgPath := "", byteOffset := 8 }, { name := "B", type := 3, offset := 2, embedded := false, tag := "", pkgPath := "", byteOffset := 16 }, { name := "C", type := 3, offset := 3, embedded := false, tag := "", pkgPath := "", byteOffset := 24 }, { name := "T", type := 3, offset := 4, embedded := false, tag := "", pkgPath := "", byteOffset := 32 }, { name := "N", type := 3, offset := 5, embedded := false, tag := "", pkgPath := "", byteOffset := 40 }] : Array Field)[j]? = some f → f.type = 3 → ∃ z : Int, W.cell? (a.add (i * 6 + j)) = some (.int .i64 z) ∧ Fits z := by
          intro f hfj h3
          obtain ⟨v, y, h1, _, h2⟩ := hcell j f hfj
          rw [h3] at h2
          obtain ⟨z, hz, _, hw⟩ := DataW.trod_int Tryd.underlying3 h2
          injection hz with hz
          subst hz
          exact ⟨z, h1, fits_wf hw⟩
        have hj6 : j = 0 ∨ j = 1 ∨ j = 2 ∨ j = 3 ∨ j = 4 ∨ j = 5 := by omega
        obtain ⟨z, hz⟩ : ∃ z : Int, W.cell? (a.add (i * 6 + j)) = some (.int .i64 z) ∧ Fits z := by
          rcases hj6 with rfl | rfl | rfl | rfl | rfl | rfl <;> exact key _ rfl rfl
        exact ⟨z, fun _ _ => hz⟩
      · exact ⟨0, fun h1 h2 => absurd ⟨h1, h2⟩ hij⟩
    obtain ⟨Z, hZ⟩ := Classical.axiomOfChoice (fun i => Classical.axiomOfChoice (hall i))
    refine ⟨some a, len, cap, (List.range len).map fun i => ⟨Z i 0, Z i 1, Z i 2, Z i 3, Z i 4, Z i 5⟩, rfl, ⟨by simp, ?_, fun hn => ?_⟩, by omega, hl, (fun h => by cases h), ?_⟩
    · rw [insV_length]; simp
    · obtain ⟨b, off, spot⟩ := a
      have h0 := (hZ 0 0 hn (by omega)).1
      have hspot : spot = none := by simpa [Addr.add] using World.cell?_spot h0
      subst hspot
      refine ⟨b, off, rfl, fun j u hj => ?_⟩
      have hjl := (List.getElem?_eq_some_iff.1 hj).1
      rw [insV_length] at hjl
      simp only [List.length_map, List.length_range] at hjl
      have hk : j / 6 < len := by omega
      have hr : j % 6 < 6 := Nat.mod_lt _ (by omega)
      have hjj : j / 6 * 6 + j % 6 = j := by omega
      have h1 := (hZ (j / 6) (j % 6) hk hr).1
      rw [addr_plus, hjj] at h1
      rw [h1, ← hj, ← hjj, insV_get _ (j / 6) (by simpa using hk) (j % 6) hr]
      have hj6 : j % 6 = 0 ∨ j % 6 = 1 ∨ j % 6 = 2 ∨ j % 6 = 3 ∨ j % 6 = 4 ∨ j % 6 = 5 := by omega
      rw [hjj]
      rcases hj6 with h | h | h | h | h | h <;> rw [h] <;> simp [Ins.vals]
    · intro y hy
      obtain ⟨i, hi, rfl⟩ := List.mem_map.1 hy
      have hi' := List.mem_range.1 hi
      exact ⟨(hZ i 0 hi' (by omega)).2, (hZ i 1 hi' (by omega)).2, (hZ i 2 hi' (by omega)).2, (hZ i 3 hi' (by omega)).2, (hZ i 4 hi' (by omega)).2, (hZ i 5 hi' (by omega)).2⟩
set_option maxRecDepth 100000 in
theorem open_prog {v : Value} {base : Nat} {r : Reach} {d : DataW H} {p : List MemPlace} (hv : Value.okWide Tryd.prog W r base 24 v) (h : DataW.Trod enc Tryd.prog W 0 sp true 24 v d p) :
    ∃ f A n c l, v = .agg #[.int .i64 f, .slice A n c] ∧ Fits f ∧ Codes W A n l ∧ n ≤ 9223372036854775807 ∧ n ≤ c ∧ (A = none → c = 0) ∧ ∀ y ∈ l, Ins.Ok y := by
  obtain ⟨v0, v1, y0, y1, n, rfl, _, _, h0, h1⟩ := open_agg2 Tryd.underlying24 (by kernel_rfl) cells24 hv h
  obtain ⟨f, hf, _, hw⟩ := DataW.trod_int Tryd.underlying3 h0
  injection hf with hf
  subst hf
  obtain ⟨A, n, c, l, rfl, hc, h2, h3, h4, h5⟩ := open_codes h1
  exact ⟨f, A, n, c, l, rfl, fits_wf hw, hc, h2, h3, h4, h5⟩
end

noncomputable def laidWorld (os : Os) : World :=
  { World.holding Tryd.prog os ⟨#[], #[], []⟩ with heap := (World.holding Tryd.prog os ⟨#[], #[], []⟩).heap.modify 0 fun
      | .cells _ t frozen => .cells (shapesS.map fun s => Value.string ⟨s.toArray⟩).toArray t frozen
      | o => o }
theorem laid_met (os : Os) (args : Array Value) : laidMetH Tryd.prog [("sluiceway/prog.shapes", Rows.laid_sluiceway_prog_shapes)] ((laidWorld os).forCall (fun _ _ => 0) ⟨#[], args, []⟩).memory := by
  rw [Go.MakeChecks.laidMetH_plain _ _ _ (by rfl)]
  exact laidMet_of_run' 8 (by kernel_rfl) (by kernel_rfl)
end Go.Proofs.YtkeckjgihjpfbaaDoor
