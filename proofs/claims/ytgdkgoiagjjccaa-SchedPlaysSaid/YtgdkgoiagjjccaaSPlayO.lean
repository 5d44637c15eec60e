/- SchedPlays, whole; its arguments opened. -/
import Derived.Test.YtgdkgoiagjjccaaSPlay
import Derived.Test.YtgdkgoiagjjccaaSOnceO
namespace Go.Proofs.Ytgdkgoiagjjccaa
set_option maxRecDepth 100000
open Go.ChangeShapes Go.WideShapes Go.ChangeAt Go.RowKit

theorem plays_law (A : Option Addr) (n c : Nat) (A2 : Option Addr) (n2 c2 : Nat) (m : Int) (A3 : Option Addr) (n3 c3 : Nat) (ls : List (List Int)) (bs : List Bool) (xs : List Int) (w : World) (h : Rws w A n ls) (hk : Nok w A n) (hi : Bls w A2 n2 bs) (hnil2 : A2 = none → c2 = 0) (hx : Nums w A3 n3 xs) (h3 : n3 ≤ 9223372036854775807) :
    Calls Try.prog 11 #[planV A n c A2 n2 c2 m, .slice A3 n3 c3] w fun e w' => e = .returned (.bool true) ∧ Below w.heap.size w w' := by
  by_cases hS : (SmallL ls ∧ n3 ≤ 200) ∧ n2 ≤ 40
  · exact plays_main A n c A2 n2 c2 m A3 n3 c3 ls bs xs w h hk hi hnil2 hx hS.1 hS.2
  · exact plays_skip A n c A2 n2 c2 m A3 n3 c3 ls w h h3 hS
section
variable {H : Type} {enc : TypeId × Value → H} {W : World}
theorem open_rows2 {fuel : Nat} {v : Value} {x : DataW H × List MemPlace} (hf : DataW.trod enc Try.prog W 0 (fun _ => true) true fuel 56 [v] = some x) :
    ∃ A n c ls, v = .slice A n c ∧ Rws W A n ls ∧ Nok W A n := by
  obtain ⟨A, n, c, ls, rfl, hr, hle, hcn⟩ := open_rows' hf
  refine ⟨A, n, c, ls, rfl, hr, ?_⟩
  rcases Go.Deep.open_int_rows Try.underlying56 Try.underlying38 Try.underlying3 cells38 cells3 hf with ⟨hcs, _⟩ | ⟨a, len, cap, A1, L, C, Z, hcs, _, hl, hm, _, hx⟩
  · injection hcs with hcs
    injection hcs with h1 h2 h3
    subst h1
    intro b off e
    cases e
  · injection hcs with hcs
    injection hcs with h1 h2 h3
    subst h1 h2 h3
    intro b off e j hj A' L' c' hc hA
    injection e with e
    subst e
    obtain ⟨h4, _, _, _, _, h6, _⟩ := hx j (by omega)
    rw [addr_add', hc] at h4
    injection h4 with h4
    injection h4 with q1 q2 q3
    rw [q3]
    exact h6 (by rw [← q1]; exact hA)
theorem open_plan2 {v : Value} {base : Nat} {r : Reach} {x : DataW H × List MemPlace} (hv : Value.okWide Try.prog W r base 69 v) (h : ∃ fuel, DataW.trod enc Try.prog W 0 (fun _ => true) true fuel 69 v.cells.toList = some x) :
    ∃ A n c A2 n2 c2 m ls bs, v = planV A n c A2 n2 c2 m ∧ Rws W A n ls ∧ Nok W A n ∧ Bls W A2 n2 bs ∧ (A2 = none → c2 = 0) := by
  obtain ⟨cs, rfl, hsz⟩ := okWide_struct Try.underlying69 hv
  obtain ⟨fuel, hf⟩ := h
  obtain ⟨y0, y1, y2, n, _, hl, g0, g1, g2⟩ := Go.Deep.trod_struct3 Try.underlying69 hf
  obtain ⟨l⟩ := cs
  rw [show Try.prog.cellsOf 69 = 3 by kernel_rfl] at hl
  simp only [Value.cells] at hl g0 g1 g2
  match l, hl with
  | [u0, u1, u2], _ =>
    simp [cells56, cells67, cells3] at g0 g1 g2
    obtain ⟨A, n1, c, ls, rfl, h1, hk⟩ := open_rows2 g0
    obtain ⟨A2, m, c2, bs, rfl, h2, _, hn2⟩ := open_bools' g1
    obtain ⟨a2, e2, _⟩ := DataW.trod_int Try.underlying3 g2
    injection e2 with e2
    exact ⟨A, n1, c, A2, m, c2, a2, ls, bs, by rw [e2]; rfl, h1, hk, h2, hn2⟩
end
end Go.Proofs.Ytgdkgoiagjjccaa
