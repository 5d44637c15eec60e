/- The contracts of prog.Shape, field, bounds. -/
import Derived.Test.YtkeckjgihjpfbaaDoorIns
import Derived.Deep.QuietTactic
import Derived.BigQuiet
namespace Go.Proofs.YtkeckjgihjpfbaaDoor
set_option maxRecDepth 100000
open Go.RowKit

/-- The letters of an operation. -/
def shapeL (op : Int) : List Nat :=
  if op = 0 then [97, 110] else if op = 1 then [97, 98] else if 2 ≤ op ∧ op ≤ 6 then [97, 98, 99] else if op = 7 ∨ op = 8 then [97, 116, 98] else if op = 9 then [116, 98, 97] else if op = 10 then [116, 98]
  else if op = 11 ∨ op = 12 then [97, 116, 98, 99, 107] else if op = 13 then [115, 98, 106, 99] else if op = 14 then [98, 106, 99] else if op = 15 then [97] else []
def okOp (op : Int) : Bool := decide (0 ≤ op ∧ op < 16)
/-- The table. -/
def Tab (w : World) : Prop := ∀ i : Nat, i < 16 → w.cell? ⟨0, i, none⟩ = some (.string (strN (shapeL i)))
theorem tab_size {w : World} (h : Tab w) : 0 < w.heap.size := by
  have h0 := h 0 (by omega)
  have := World.block_lt_of_cell? _ _ h0
  simpa using this
theorem Tab.ext {w w' : World} (h : Tab w) (hb : Below w.heap.size w w') : Tab w' := fun i hi => (hb.cell (p := ⟨0, i, none⟩) (tab_size h)).trans (h i hi)
theorem shapeL_none (op : Int) (h : op < 0 ∨ 16 ≤ op) : shapeL op = [] := by
  unfold shapeL
  simp only [show ¬ op = 0 by omega, show ¬ op = 1 by omega, show ¬ (2 ≤ op ∧ op ≤ 6) by omega, show ¬ (op = 7 ∨ op = 8) by omega, show ¬ op = 9 by omega, show ¬ op = 10 by omega, show ¬ (op = 11 ∨ op = 12) by omega, show ¬ op = 13 by omega, show ¬ op = 14 by omega, show ¬ op = 15 by omega, if_false]
theorem strN_nil : strN [] = { data := #[] } := rfl
set_option maxHeartbeats 400000 in
theorem shape_yes (k : Nat) (hk : k < 16) (w : World) (hT : Tab w) : Calls Tryd.prog 25 #[.int .i64 (k : Int)] w fun e w' => e = .returned (.tuple #[.string (strN (shapeL k)), .bool true]) ∧ w = w' := by
  have hc := hT k hk
  obtain ⟨s, hs⟩ : ∃ s, s = strN (shapeL k) := ⟨_, rfl⟩
  rw [← hs] at hc ⊢
  clear hs hT
  have d1 : decide ((k : Int) < 0) = false := decide_eq_false (by omega)
  have d2 : decide ((16 : Int) ≤ (k : Int)) = false := decide_eq_false (by omega)
  go_enter Tryd.func25, Tryd.ntmps25
  go_wp2_with fail
  go_ret2
  exact ⟨rfl, rfl⟩
set_option maxHeartbeats 400000 in
theorem shape_no (op : Int) (h : op < 0 ∨ 16 ≤ op) (w : World) : Calls Tryd.prog 25 #[.int .i64 op] w fun e w' => e = .returned (.tuple #[.string (strN []), .bool false]) ∧ w = w' := by
  rw [strN_nil]
  by_cases h1 : op < 0
  · have d1 : decide (op < 0) = true := decide_eq_true h1
    clear h
    go_enter Tryd.func25, Tryd.ntmps25
    go_wp2_with fail
    go_ret2
    exact ⟨rfl, rfl⟩
  · have d1 : decide (op < 0) = false := decide_eq_false h1
    have d2 : decide ((16 : Int) ≤ op) = true := decide_eq_true (by omega)
    clear h
    go_enter Tryd.func25, Tryd.ntmps25
    go_wp2_with fail
    go_ret2
    exact ⟨rfl, rfl⟩
theorem shape_any (op : Int) (w : World) (hT : Tab w) : Calls Tryd.prog 25 #[.int .i64 op] w fun e w' => e = .returned (.tuple #[.string (strN (shapeL op)), .bool (okOp op)]) ∧ w = w' := by
  by_cases h : 0 ≤ op ∧ op < 16
  · obtain ⟨k, rfl⟩ := Int.eq_ofNat_of_zero_le h.1
    have e : okOp k = true := decide_eq_true h
    rw [e]
    exact shape_yes k (by omega) w hT
  · have e : okOp op = false := decide_eq_false h
    rw [e, shapeL_none op (by omega)]
    exact shape_no op (by omega) w

/-- Which field a letter means. -/
def offL (l : Nat) : Nat := if l = 97 ∨ l = 115 then 1 else if l = 98 then 2 else if l = 99 then 3 else if l = 116 then 4 else 5
set_option maxHeartbeats 1000000 in
theorem field_any (g l : Nat) (w : World) : Calls Tryd.prog 69 #[.pointer (some ⟨g, 0, none⟩), .int .u8 (l : Int)] w fun e w' => e = .returned (.pointer (some ⟨g, offL l, none⟩)) ∧ w = w' := by
  by_cases h1 : l = 97
  · subst h1
    go_enter Tryd.func69, Tryd.ntmps69
    go_wp2_with fail
    go_ret
    exact ⟨rfl, rfl⟩
  by_cases h2 : l = 115
  · subst h2
    go_enter Tryd.func69, Tryd.ntmps69
    go_wp2_with fail
    go_ret
    exact ⟨rfl, rfl⟩
  by_cases h3 : l = 98
  · subst h3
    go_enter Tryd.func69, Tryd.ntmps69
    go_wp2_with fail
    go_ret
    exact ⟨rfl, rfl⟩
  by_cases h4 : l = 99
  · subst h4
    go_enter Tryd.func69, Tryd.ntmps69
    go_wp2_with fail
    go_ret
    exact ⟨rfl, rfl⟩
  by_cases h5 : l = 116
  · subst h5
    go_enter Tryd.func69, Tryd.ntmps69
    go_wp2_with fail
    go_ret
    exact ⟨rfl, rfl⟩
  have e : offL l = 5 := by simp [offL, h1, h2, h3, h4, h5]
  have d1 : ((l : Int) == 97) = false := by rw [beq_eq_false_iff_ne]; omega
  have d2 : ((l : Int) == 115) = false := by rw [beq_eq_false_iff_ne]; omega
  have d3 : ((l : Int) == 98) = false := by rw [beq_eq_false_iff_ne]; omega
  have d4 : ((l : Int) == 99) = false := by rw [beq_eq_false_iff_ne]; omega
  have d5 : ((l : Int) == 116) = false := by rw [beq_eq_false_iff_ne]; omega
  rw [e]
  clear e h1 h2 h3 h4 h5
  go_enter Tryd.func69, Tryd.ntmps69
  go_wp2_with fail
  go_ret
  exact ⟨rfl, rfl⟩
def loL (l : Nat) : Int := if l = 107 ∨ l = 115 then 1 else 0
def hiL (l : Nat) (behind : Int) : Int := if l = 116 ∨ l = 106 then 3 else if l = 107 then 64 else if l = 115 then behind else 7
set_option maxHeartbeats 1000000 in
theorem bounds_any (l : Nat) (z : Int) (w : World) : Calls Tryd.prog 89 #[.int .u8 (l : Int), .int .i64 z] w fun e w' => e = .returned (.tuple #[.int .i64 (loL l), .int .i64 (hiL l z)]) ∧ w = w' := by
  by_cases h1 : l = 116
  · subst h1
    go_enter Tryd.func89, Tryd.ntmps89
    go_wp2_with fail
    go_ret2
    exact ⟨rfl, rfl⟩
  by_cases h2 : l = 107
  · subst h2
    go_enter Tryd.func89, Tryd.ntmps89
    go_wp2_with fail
    go_ret2
    exact ⟨rfl, rfl⟩
  by_cases h3 : l = 115
  · subst h3
    go_enter Tryd.func89, Tryd.ntmps89
    go_wp2_with fail
    go_ret2
    exact ⟨rfl, rfl⟩
  by_cases h4 : l = 106
  · subst h4
    go_enter Tryd.func89, Tryd.ntmps89
    go_wp2_with fail
    go_ret2
    exact ⟨rfl, rfl⟩
  have e1 : loL l = 0 := by simp [loL, h2, h3]
  have e2 : hiL l z = 7 := by simp [hiL, h1, h2, h3, h4]
  have d1 : ((l : Int) == 116) = false := by rw [beq_eq_false_iff_ne]; omega
  have d2 : ((l : Int) == 107) = false := by rw [beq_eq_false_iff_ne]; omega
  have d3 : ((l : Int) == 115) = false := by rw [beq_eq_false_iff_ne]; omega
  have d4 : ((l : Int) == 106) = false := by rw [beq_eq_false_iff_ne]; omega
  rw [e1, e2]
  clear e1 e2 h1 h2 h3 h4
  go_enter Tryd.func89, Tryd.ntmps89
  go_wp2_with fail
  go_ret2
  exact ⟨rfl, rfl⟩
end Go.Proofs.YtkeckjgihjpfbaaDoor
