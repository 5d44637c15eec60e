/- SchedOnce: each task once, behind all on which it leans. -/
import Derived.Test.YtgdkgoiagjjccaaSOnceS
import Derived.Test.YtgdkgoiagjjccaaSAlive
import Derived.Deep.CutBlock
namespace Go.Proofs.Ytgdkgoiagjjccaa
set_option maxRecDepth 100000
open Go.RowKit

def planV (A : Option Addr) (n c : Nat) (A2 : Option Addr) (n2 c2 : Nat) (m : Int) : Value := .agg #[.slice A n c, .slice A2 n2 c2, .int .i64 m]
/-- Where nothing is played. -/
theorem once_skip (A : Option Addr) (n c : Nat) (A2 : Option Addr) (n2 c2 : Nat) (m : Int) (A3 : Option Addr) (n3 c3 : Nat) (ls : List (List Int)) (w : World) (h : Rws w A n ls) (h3 : n3 ≤ 9223372036854775807)
    (hno : ¬ ((SmallL ls ∧ n3 ≤ 200) ∧ n2 ≤ 40)) : Calls Try.prog 12 #[planV A n c A2 n2 c2 m, .slice A3 n3 c3] w fun e w' => e = .returned (.bool true) ∧ Below w.heap.size w w' := by
  have hb0 : Below w.heap.size w (w.alloc (.cells #[.slice A n c, .slice A2 n2 c2, .int .i64 m] 69)) := (Below.refl _ w).alloc (Nat.le_refl _) _
  have HA := Lib.hid (alive21 (w.alloc (.cells #[.slice A n c, .slice A2 n2 c2, .int .i64 m] 69)))
  have HH := Lib.hid (h.below hb0)
  have HB0 := Lib.hid hb0
  have HBX := Lib.hid (heap_alloc_new w (.cells #[.slice A n c, .slice A2 n2 c2, .int .i64 m] 69))
  unfold planV
  by_cases hS : SmallL ls ∧ n3 ≤ 200
  · have h2 : 40 < n2 := by
      rcases Nat.lt_or_ge 40 n2 with h2 | h2
      · exact h2
      · exact absurd ⟨hS, h2⟩ hno
    have h2' : (40 : Int) < (n2 : Int) := by omega
    have HL := Lib.hid (show ∀ w', Rws w' A n ls → Calls Try.prog 41 #[.slice A n c, .slice A3 n3 c3] w' fun e w'' => e = .returned (.bool false) ∧ w' = w'' from fun w' h' => by
      have := large_any A n c A3 n3 c3 ls w' h' h3
      rw [decide_eq_true hS] at this
      exact this)
    clear h hno hS hb0
    go_enter Try.func12, Try.ntmps12
    go_wp2_with fail
    refine Calls.mono HA.out ?_
    rintro e w1 ⟨rfl, hb1⟩
    have hx := (hb1.block w.heap.size (Array.getElem?_eq_some_iff.1 HBX.out).1).trans HBX.out
    have x0 := cell_of_row w1 _ 0 _ 69 (0, 0) hx
    have x1 := cell_of_row w1 _ 1 _ 69 (0, 0) hx
    simp only [List.getElem?_toArray, List.getElem?_cons_zero, List.getElem?_cons_succ] at x0 x1
    have HB1 := Lib.hid hb1
    have HE := Lib.hid (HB0.out.trans (hb1.mono HB0.out.size))
    clear hb1 hx
    go_wp2_with fail
    refine Calls.mono (HL.out _ (HH.out.below HB1.out)) ?_
    rintro e w2 ⟨rfl, rfl⟩
    go_wp2_with fail
    go_ret
    exact ⟨rfl, HE.out⟩
  · have HL := Lib.hid (show ∀ w', Rws w' A n ls → Calls Try.prog 41 #[.slice A n c, .slice A3 n3 c3] w' fun e w'' => e = .returned (.bool true) ∧ w' = w'' from fun w' h' => by
      have := large_any A n c A3 n3 c3 ls w' h' h3
      rw [decide_eq_false hS] at this
      exact this)
    clear h hno hS hb0
    go_enter Try.func12, Try.ntmps12
    go_wp2_with fail
    refine Calls.mono HA.out ?_
    rintro e w1 ⟨rfl, hb1⟩
    have hx := (hb1.block w.heap.size (Array.getElem?_eq_some_iff.1 HBX.out).1).trans HBX.out
    have x0 := cell_of_row w1 _ 0 _ 69 (0, 0) hx
    have x1 := cell_of_row w1 _ 1 _ 69 (0, 0) hx
    simp only [List.getElem?_toArray, List.getElem?_cons_zero, List.getElem?_cons_succ] at x0 x1
    have HB1 := Lib.hid hb1
    have HE := Lib.hid (HB0.out.trans (hb1.mono HB0.out.size))
    clear hb1 hx
    go_wp2_with fail
    refine Calls.mono (HL.out _ (HH.out.below HB1.out)) ?_
    rintro e w2 ⟨rfl, rfl⟩
    go_wp2_with fail
    go_ret
    exact ⟨rfl, HE.out⟩
/-- Where New tells an error. -/
theorem once_bad (A : Option Addr) (n c : Nat) (A2 : Option Addr) (n2 c2 : Nat) (m : Int) (A3 : Option Addr) (n3 c3 : Nat) (ls : List (List Int)) (k : Int) (w : World) (h : Rws w A n ls) (h3 : n3 ≤ 9223372036854775807)
    (hS : SmallL ls ∧ n3 ≤ 200) (h2 : n2 ≤ 40) (hN : ∀ w', Rws w' A n ls → Calls Try.prog 42 #[.slice A n c, .slice A2 n2 c2, .int .i64 m] w' fun e w'' => e = .returned (.tuple #[.pointer none, errV k]) ∧ w' = w'') :
    Calls Try.prog 12 #[planV A n c A2 n2 c2 m, .slice A3 n3 c3] w fun e w' => e = .returned (.bool true) ∧ Below w.heap.size w w' := by
  have hb0 : Below w.heap.size w (w.alloc (.cells #[.slice A n c, .slice A2 n2 c2, .int .i64 m] 69)) := (Below.refl _ w).alloc (Nat.le_refl _) _
  have HA := Lib.hid (alive21 (w.alloc (.cells #[.slice A n c, .slice A2 n2 c2, .int .i64 m] 69)))
  have HH := Lib.hid (h.below hb0)
  have HB0 := Lib.hid hb0
  have HBX := Lib.hid (heap_alloc_new w (.cells #[.slice A n c, .slice A2 n2 c2, .int .i64 m] 69))
  unfold planV
  have h2' : ¬ (40 : Int) < (n2 : Int) := by omega
  have HL := Lib.hid (show ∀ w', Rws w' A n ls → Calls Try.prog 41 #[.slice A n c, .slice A3 n3 c3] w' fun e w'' => e = .returned (.bool false) ∧ w' = w'' from fun w' h' => by
    have := large_any A n c A3 n3 c3 ls w' h' h3
    rw [decide_eq_true hS] at this
    exact this)
  unfold errV at hN
  have HN := Lib.hid hN
  clear h hS hb0 hN
  go_enter Try.func12, Try.ntmps12
  go_wp2_with fail
  refine Calls.mono HA.out ?_
  rintro e w1 ⟨rfl, hb1⟩
  have hx := (hb1.block w.heap.size (Array.getElem?_eq_some_iff.1 HBX.out).1).trans HBX.out
  have x0 := cell_of_row w1 _ 0 _ 69 (0, 0) hx
  have x1 := cell_of_row w1 _ 1 _ 69 (0, 0) hx
  have x2 := cell_of_row w1 _ 2 _ 69 (0, 0) hx
  simp only [List.getElem?_toArray, List.getElem?_cons_zero, List.getElem?_cons_succ] at x0 x1 x2
  have HB1 := Lib.hid hb1
  have HE := Lib.hid (HB0.out.trans (hb1.mono HB0.out.size))
  clear hb1 hx
  go_wp2_with fail
  refine Calls.mono (HL.out _ (HH.out.below HB1.out)) ?_
  rintro e w2 ⟨rfl, rfl⟩
  go_wp2_with fail
  refine Calls.mono (HN.out _ (HH.out.below HB1.out)) ?_
  rintro e w2 ⟨rfl, rfl⟩
  go_wp2_with fail
  go_ret
  exact ⟨rfl, HE.out⟩
end Go.Proofs.Ytgdkgoiagjjccaa
