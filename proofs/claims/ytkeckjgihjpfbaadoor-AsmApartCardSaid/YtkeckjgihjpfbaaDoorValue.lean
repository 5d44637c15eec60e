/- The contract of the document's value. -/
import Derived.Test.YtkeckjgihjpfbaaDoorRCheck
namespace Go.Proofs.YtkeckjgihjpfbaaDoor
set_option maxRecDepth 100000
open Go.RowKit

set_option maxHeartbeats 2000000 in
theorem value_any (x : Ins) (l : Nat) (w : World) : Calls Tryd.prog 49 #[x.val, .int .u8 (l : Int)] w fun e w' => e = .returned (.int .i64 (x.get (offL l))) ∧ Below w.heap.size w w' := by
  have HBA := Lib.hid ((Below.refl w.heap.size w).alloc (Nat.le_refl _) (.cells #[.int .i64 x.op, .int .i64 x.a, .int .i64 x.b, .int .i64 x.c, .int .i64 x.t, .int .i64 x.n] 43))
  unfold Ins.val
  by_cases h1 : l = 97
  · subst h1
    go_enter Tryd.func49, Tryd.ntmps49
    go_wp2_with fail
    go_ret
    exact ⟨rfl, HBA.out⟩
  by_cases h2 : l = 115
  · subst h2
    go_enter Tryd.func49, Tryd.ntmps49
    go_wp2_with fail
    go_ret
    exact ⟨rfl, HBA.out⟩
  by_cases h3 : l = 98
  · subst h3
    go_enter Tryd.func49, Tryd.ntmps49
    go_wp2_with fail
    go_ret
    exact ⟨rfl, HBA.out⟩
  by_cases h4 : l = 99
  · subst h4
    go_enter Tryd.func49, Tryd.ntmps49
    go_wp2_with fail
    go_ret
    exact ⟨rfl, HBA.out⟩
  by_cases h5 : l = 116
  · subst h5
    go_enter Tryd.func49, Tryd.ntmps49
    go_wp2_with fail
    go_ret
    exact ⟨rfl, HBA.out⟩
  have HE := Lib.hid (show x.get (offL l) = x.n by rw [show offL l = 5 by simp [offL, h1, h2, h3, h4, h5]]; rfl)
  have d1 : ((l : Int) == 97) = false := by rw [beq_eq_false_iff_ne]; omega
  have d2 : ((l : Int) == 115) = false := by rw [beq_eq_false_iff_ne]; omega
  have d3 : ((l : Int) == 98) = false := by rw [beq_eq_false_iff_ne]; omega
  have d4 : ((l : Int) == 99) = false := by rw [beq_eq_false_iff_ne]; omega
  have d5 : ((l : Int) == 116) = false := by rw [beq_eq_false_iff_ne]; omega
  clear h1 h2 h3 h4 h5
  go_enter Tryd.func49, Tryd.ntmps49
  go_wp2_with fail
  go_ret
  exact ⟨by rw [HE.out]; rfl, HBA.out⟩
end Go.Proofs.YtkeckjgihjpfbaaDoor
