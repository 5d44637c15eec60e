/- The contracts of the document's uses, register, good and Check. -/
import Derived.Test.YtkeckjgihjpfbaaDoorAlive
namespace Go.Proofs.YtkeckjgihjpfbaaDoor
set_option maxRecDepth 100000
open Go.RowKit

set_option maxHeartbeats 1000000 in
theorem uses_any (ls : List Nat) (hs : ∀ x ∈ ls, x < 256) (hl : ls.length ≤ 5) (q : Nat) (_ : q < 256) (w : World) :
    Calls Tryd.prog 72 #[.string (strN ls), .int .u8 (q : Int)] w fun e w' => e = .returned (.bool (decide (q ∈ ls))) ∧ w' = w := by
  obtain ⟨s, hss⟩ : ∃ s, s = strN ls := ⟨_, rfl⟩
  obtain ⟨m, hm⟩ : ∃ m, m = ls.length := ⟨_, rfl⟩
  have hsz : s.size = m := by rw [hss, strN_size, hm]
  have HIX := Lib.hid (fun k (hk : k < ls.length) w => (by rw [hss]; exact idx_str ls hs k hk w : (Instr.index 9 (.string s) (.int .i64 (k : Int))).run Tryd.prog w = .ok (.int .u8 ((ls[k] : Nat) : Int)) w))
  rw [← hss]
  rw [← hm] at hl
  have HM := Lib.hid hm
  clear hss hs hm
  go_enter Tryd.func72, Tryd.ntmps72
  go_wp2_with fail
  go_loop [5] (fun i => ∃ k : Nat, i = .int .i64 (k : Int) ∧ k ≤ m ∧ ∀ j (h : j < ls.length), j < k → ls[j] ≠ q) (fun i => m - (intOf i).toNat)
  case atStart => exact ⟨0, rfl, by omega, fun j _ h => absurd h (by omega)⟩
  case round =>
    obtain ⟨k, rfl, hk, hall⟩ := hrel
    have HALL := Lib.hid hall
    clear hall
    by_cases hlt : k < m
    · have hkl : k < ls.length := by rw [← HM.out]; exact hlt
      have hix := HIX.out k hkl
      obtain ⟨l, hl2⟩ : ∃ l, l = ls[k] := ⟨_, rfl⟩
      rw [← hl2] at hix
      have HL := Lib.hid hl2
      clear hl2
      by_cases he : l = q
      · have d1 : ((l : Int) == (q : Int)) = true := by rw [beq_iff_eq]; omega
        have HR := Lib.hid (show decide (q ∈ ls) = true from decide_eq_true (by rw [← he, HL.out]; exact List.getElem_mem hkl))
        clear he
        go_wp2_with fail
        go_ret
        exact ⟨ret_bool' HR.out.symm, rfl⟩
      · have d1 : ((l : Int) == (q : Int)) = false := by rw [beq_eq_false_iff_ne]; omega
        have HE := Lib.hid he
        clear he
        go_wp2_with fail
        go_round
        case rel => exact ⟨k + 1, by go_num, by omega, fun j h1 hj => by
          rcases Nat.lt_or_ge j k with h | h
          · exact HALL.out j h1 h
          · obtain rfl : j = k := by omega
            rw [← HL.out]; exact HE.out⟩
        case measure => simp [intOf]; omega
    · obtain rfl : k = m := by omega
      have HR := Lib.hid (show decide (q ∈ ls) = false from decide_eq_false (fun h => by
        obtain ⟨j, hj, he⟩ := List.getElem_of_mem h
        exact HALL.out j hj (by rw [HM.out]; exact hj) he))
      go_wp2_with fail
      go_ret
      exact ⟨ret_bool' HR.out.symm, rfl⟩
def regB (u : Bool) (n : Int) : Bool := if u then decide (0 ≤ n ∧ n ≤ 7) else decide (n = 0)
set_option maxHeartbeats 1000000 in
theorem register_any (u : Bool) (n : Int) (w : World) : Calls Tryd.prog 71 #[.bool u, .int .i64 n] w fun e w' => e = .returned (.bool (regB u n)) ∧ w' = w := by
  cases u with
  | true =>
    by_cases h1 : 0 ≤ n
    · have d1 : decide (0 ≤ n) = true := decide_eq_true h1
      by_cases h2 : n ≤ 7
      · have d2 : decide (n ≤ 7) = true := decide_eq_true h2
        have HR := Lib.hid (show regB true n = true from decide_eq_true ⟨h1, h2⟩)
        clear h1 h2
        go_enter Tryd.func71, Tryd.ntmps71
        go_wp2_with fail
        go_ret
        exact ⟨ret_bool' HR.out.symm, rfl⟩
      · have d2 : decide (n ≤ 7) = false := decide_eq_false h2
        have HR := Lib.hid (show regB true n = false from decide_eq_false (fun h => h2 h.2))
        clear h1 h2
        go_enter Tryd.func71, Tryd.ntmps71
        go_wp2_with fail
        go_ret
        exact ⟨ret_bool' HR.out.symm, rfl⟩
    · have d1 : decide (0 ≤ n) = false := decide_eq_false h1
      have HR := Lib.hid (show regB true n = false from decide_eq_false (fun h => h1 h.1))
      clear h1
      go_enter Tryd.func71, Tryd.ntmps71
      go_wp2_with fail
      go_ret
      exact ⟨ret_bool' HR.out.symm, rfl⟩
  | false =>
    by_cases h1 : n = 0
    · have d1 : (n == 0) = true := by rw [beq_iff_eq]; exact h1
      have HR := Lib.hid (show regB false n = true from decide_eq_true h1)
      clear h1
      go_enter Tryd.func71, Tryd.ntmps71
      go_wp2_with fail
      go_ret
      exact ⟨ret_bool' HR.out.symm, rfl⟩
    · have d1 : (n == 0) = false := by rw [beq_eq_false_iff_ne]; exact h1
      have HR := Lib.hid (show regB false n = false from decide_eq_false h1)
      clear h1
      go_enter Tryd.func71, Tryd.ntmps71
      go_wp2_with fail
      go_ret
      exact ⟨ret_bool' HR.out.symm, rfl⟩
/-- What the document's good says. -/
def rgood (x : Ins) (z : Int) : Bool :=
  okOp x.op && (regB (decide (98 ∈ shapeL x.op)) x.b && (regB (decide (99 ∈ shapeL x.op)) x.c && ((if x.op = 13 then decide (1 ≤ x.a ∧ x.a ≤ z) else regB (decide (97 ∈ shapeL x.op)) x.a) &&
    ((if 116 ∈ shapeL x.op then decide (0 ≤ x.t ∧ x.t ≤ 3) else decide (x.t = 0)) && (if 107 ∈ shapeL x.op then decide (1 ≤ x.n ∧ x.n ≤ 64) else if 106 ∈ shapeL x.op then decide (0 ≤ x.n ∧ x.n ≤ 3) else (decide (110 ∈ shapeL x.op) || decide (x.n = 0)))))))
theorem rgood_is (x : Ins) (z : Int) : rgood x z = goodI x z := by
  by_cases h : 0 ≤ x.op ∧ x.op < 16
  · obtain ⟨op, a, b, c, t, n⟩ := x
    have h16 : op = 0 ∨ op = 1 ∨ op = 2 ∨ op = 3 ∨ op = 4 ∨ op = 5 ∨ op = 6 ∨ op = 7 ∨ op = 8 ∨ op = 9 ∨ op = 10 ∨ op = 11 ∨ op = 12 ∨ op = 13 ∨ op = 14 ∨ op = 15 := by have : 0 ≤ op ∧ op < 16 := h; omega
    rcases h16 with rfl | rfl | rfl | rfl | rfl | rfl | rfl | rfl | rfl | rfl | rfl | rfl | rfl | rfl | rfl | rfl
    all_goals
      rw [Bool.eq_iff_iff]
      simp [rgood, goodI, okOp, shapeL, regB, inB, offL, loL, hiL, Ins.get, usedL, Ins.set, Ins.zero]
      try omega
  · have e : okOp x.op = false := decide_eq_false h
    simp [rgood, goodI, e]
end Go.Proofs.YtkeckjgihjpfbaaDoor
