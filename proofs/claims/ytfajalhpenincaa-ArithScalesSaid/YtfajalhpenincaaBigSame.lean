/- The contract of the reference's Same. -/
import Derived.Test.YtfajalhpenincaaBigIs
namespace Go.Proofs.Ytfajalhpenincaa
open Go.RowKit

set_option maxHeartbeats 1000000 in
theorem same_any (x y : Value) (a b : Int) (w : World) (hx : IsBig w x a) (hy : IsBig w y b) :
    Calls Try.prog 42 #[x, y] w fun e w' => e = .returned (.bool (decide (a = b))) ∧ Below w.heap.size w w' := by
  obtain ⟨s, A, n, c, ds, rfl, ha⟩ := hx
  obtain ⟨t, A2, n2, c2, es, rfl, hb⟩ := hy
  have hb1 : Below w.heap.size w ((w.alloc (.cells #[.bool s, .slice A n c] 25)).alloc (.cells #[.bool t, .slice A2 n2 c2] 25)) := ((Below.refl _ w).alloc (Nat.le_refl _) _).alloc (by simp) _
  have ga := ha.ext (stays_below hb1)
  have gb := hb.ext (stays_below hb1)
  have C1 := less_any A n c ds A2 n2 c2 es _ ga.dg gb.dg (by have := ga.short; omega) (by have := gb.short; omega)
  have C2 := less_any A2 n2 c2 es A n c ds _ gb.dg ga.dg (by have := gb.short; omega) (by have := ga.short; omega)
  have v1 := ha.value
  have v2 := hb.value
  have s1 := ha.sign
  have s2 := hb.sign
  obtain ⟨X, hX⟩ : ∃ X, X = val ds := ⟨_, rfl⟩
  obtain ⟨Y, hY⟩ : ∃ Y, Y = val es := ⟨_, rfl⟩
  rw [← hX] at C1 C2 v1
  rw [← hY] at C1 C2 v2
  have D1 := Lib.hid C1
  have D2 := Lib.hid C2
  have HB := Lib.hid hb1
  have V1 := Lib.hid v1
  have V2 := Lib.hid v2
  have S1 := Lib.hid s1
  have S2 := Lib.hid s2
  clear C1 C2 hX hY ga gb ha hb hb1 v1 v2 s1 s2
  by_cases hst : s = t
  · subst hst
    have hs2 : (a < 0) ↔ (b < 0) := by
      have := S1.out.symm.trans S2.out
      simpa using this
    have HS2 := Lib.hid hs2
    clear hs2
    by_cases h1 : X < Y
    · have e1 : decide (X < Y) = true := decide_eq_true h1
      have e2 : decide (a = b) = false := decide_eq_false (fun h => by have := V1.out; have := V2.out; subst h; omega)
      rw [e1] at D1
      have E2 := Lib.hid e2
      clear e1 e2 h1
      go_enter Try.func42, Try.ntmps42
      go_wp2_with fail
      refine Calls.mono D1.out ?_
      rintro e w9 ⟨rfl, rfl⟩
      go_wp2_with fail
      go_ret
      exact ⟨ret_bool E2.out.symm, HB.out⟩
    · have e1 : decide (X < Y) = false := decide_eq_false h1
      rw [e1] at D1
      have e3 : (!decide (Y < X)) = decide (a = b) := by
        have q1 := V1.out
        have q2 := V2.out
        have q3 := HS2.out
        by_cases h2 : Y < X
        · rw [decide_eq_true h2, decide_eq_false (show ¬ a = b from fun h => by subst h; omega)]; rfl
        · rw [decide_eq_false h2, decide_eq_true (show a = b by omega)]; rfl
      obtain ⟨u, hu⟩ : ∃ u, u = decide (Y < X) := ⟨_, rfl⟩
      rw [← hu] at e3 D2
      have E3 := Lib.hid e3
      clear e1 e3 h1 hu
      go_enter Try.func42, Try.ntmps42
      go_wp2_with fail
      refine Calls.mono D1.out ?_
      rintro e w9 ⟨rfl, rfl⟩
      go_wp2_with fail
      refine Calls.mono D2.out ?_
      rintro e w9 ⟨rfl, rfl⟩
      go_wp2_with fail
      go_ret
      exact ⟨ret_bool E3.out, HB.out⟩
  · have e1 : (s == t) = false := by rw [beq_eq_false_iff_ne]; exact hst
    have e2 : decide (a = b) = false := decide_eq_false (fun h => hst (by rw [S1.out, S2.out, h]))
    have E2 := Lib.hid e2
    clear e2
    go_enter Try.func42, Try.ntmps42
    go_wp2_with fail
    go_ret
    exact ⟨ret_bool E2.out.symm, HB.out⟩
end Go.Proofs.Ytfajalhpenincaa
