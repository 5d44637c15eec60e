/- The contract of the document's good: the walk. -/
import Derived.Test.YtkeckjgihjpfbaaDoorRGood
import Derived.Deep.Cut
namespace Go.Proofs.YtkeckjgihjpfbaaDoor
set_option maxRecDepth 100000
open Go.RowKit

theorem below_drewN {B : Nat} {a w : World} (h : Below B a w) (n : Nat) : Below B a (w.drewN n) := ⟨h.os, h.tape, h.output, h.size, h.block⟩
theorem strN_isEmpty (ls : List Nat) : (strN ls).toList.isEmpty = ls.isEmpty := by rw [strN_toList]; cases ls <;> rfl
theorem shapeL_ok (op : Int) : (shapeL op).isEmpty = !okOp op := by
  by_cases h : 0 ≤ op ∧ op < 16
  · have h16 : op = 0 ∨ op = 1 ∨ op = 2 ∨ op = 3 ∨ op = 4 ∨ op = 5 ∨ op = 6 ∨ op = 7 ∨ op = 8 ∨ op = 9 ∨ op = 10 ∨ op = 11 ∨ op = 12 ∨ op = 13 ∨ op = 14 ∨ op = 15 := by omega
    rcases h16 with rfl | rfl | rfl | rfl | rfl | rfl | rfl | rfl | rfl | rfl | rfl | rfl | rfl | rfl | rfl | rfl <;> decide
  · rw [shapeL_none op (by omega), show okOp op = false from decide_eq_false h]
    rfl
theorem quiet_add {P : Program} {f : FuncId} {args : Array Value} {w : World} {a n : Nat} {v : Value}
    (h : Calls P f args (w.drewN (a + n)) fun e w' => e = .returned v ∧ ∃ m, w' = (w.drewN (a + n)).drewN m) :
    Calls P f args (w.drewN (a + n)) fun e w'' => e = .returned v ∧ ∃ m, w'' = w.drewN (a + m) :=
  h.mono fun _ _ ⟨he, m, hm⟩ => ⟨he, n + m, by rw [hm, World.drewN_drewN, Nat.add_assoc]⟩
theorem quiet_add_same {P : Program} {f : FuncId} {args : Array Value} {w : World} {a n : Nat} {v : Value}
    (h : Calls P f args (w.drewN (a + n)) fun e w' => e = .returned v ∧ w' = w.drewN (a + n)) :
    Calls P f args (w.drewN (a + n)) fun e w'' => e = .returned v ∧ ∃ m, w'' = w.drewN (a + m) :=
  h.mono fun _ _ ⟨he, hm⟩ => ⟨he, n, hm⟩
def pA (x : Ins) (z : Int) : Bool := if x.op = 13 then decide (1 ≤ x.a ∧ x.a ≤ z) else regB (decide (97 ∈ shapeL x.op)) x.a
def pT (x : Ins) : Bool := if 116 ∈ shapeL x.op then decide (0 ≤ x.t ∧ x.t ≤ 3) else decide (x.t = 0)
def pN (x : Ins) : Bool := if 107 ∈ shapeL x.op then decide (1 ≤ x.n ∧ x.n ≤ 64) else if 106 ∈ shapeL x.op then decide (0 ≤ x.n ∧ x.n ≤ 3) else (decide (110 ∈ shapeL x.op) || decide (x.n = 0))
set_option maxHeartbeats 16000000 in
theorem rgood_any (x : Ins) (z : Int) (w : World) : Calls Tryd.prog 41 #[x.val, .int .i64 z] w fun e w' => e = .returned (.bool (goodI x z)) ∧ Below w.heap.size w w' := by
  have HRG := Lib.hid (show goodI x z = (okOp x.op && (regB (decide (98 ∈ shapeL x.op)) x.b && (regB (decide (99 ∈ shapeL x.op)) x.c && (pA x z && (pT x && pN x))))) from (rgood_is x z).symm)
  have HBA := Lib.hid ((Below.refl w.heap.size w).alloc (Nat.le_refl _) (.cells #[.int .i64 x.op, .int .i64 x.a, .int .i64 x.b, .int .i64 x.c, .int .i64 x.t, .int .i64 x.n] 43))
  have HS := Lib.hid (refshape_any x.op (w.alloc (.cells #[.int .i64 x.op, .int .i64 x.a, .int .i64 x.b, .int .i64 x.c, .int .i64 x.t, .int .i64 x.n] 43)))
  have hse := strN_isEmpty (shapeL x.op)
  rw [shapeL_ok] at hse
  have U : ∀ q : Nat, q < 256 → ∀ W : World, Calls Tryd.prog 72 #[.string (strN (shapeL x.op)), .int .u8 (q : Int)] W fun e w' => e = .returned (.bool (decide (q ∈ shapeL x.op))) ∧ w' = W := fun q hq W => uses_any (shapeL x.op) (shapeL_small x.op) (shapeL_len x.op) q hq W
  have U97 := Lib.hid (show ∀ W : World, Calls Tryd.prog 72 #[.string (strN (shapeL x.op)), .int .u8 97] W fun e w' => e = .returned (.bool (decide (97 ∈ shapeL x.op))) ∧ w' = W from U 97 (by decide))
  have U98 := Lib.hid (show ∀ W : World, Calls Tryd.prog 72 #[.string (strN (shapeL x.op)), .int .u8 98] W fun e w' => e = .returned (.bool (decide (98 ∈ shapeL x.op))) ∧ w' = W from U 98 (by decide))
  have U99 := Lib.hid (show ∀ W : World, Calls Tryd.prog 72 #[.string (strN (shapeL x.op)), .int .u8 99] W fun e w' => e = .returned (.bool (decide (99 ∈ shapeL x.op))) ∧ w' = W from U 99 (by decide))
  have U106 := Lib.hid (show ∀ W : World, Calls Tryd.prog 72 #[.string (strN (shapeL x.op)), .int .u8 106] W fun e w' => e = .returned (.bool (decide (106 ∈ shapeL x.op))) ∧ w' = W from U 106 (by decide))
  have U107 := Lib.hid (show ∀ W : World, Calls Tryd.prog 72 #[.string (strN (shapeL x.op)), .int .u8 107] W fun e w' => e = .returned (.bool (decide (107 ∈ shapeL x.op))) ∧ w' = W from U 107 (by decide))
  have U110 := Lib.hid (show ∀ W : World, Calls Tryd.prog 72 #[.string (strN (shapeL x.op)), .int .u8 110] W fun e w' => e = .returned (.bool (decide (110 ∈ shapeL x.op))) ∧ w' = W from U 110 (by decide))
  have U116 := Lib.hid (show ∀ W : World, Calls Tryd.prog 72 #[.string (strN (shapeL x.op)), .int .u8 116] W fun e w' => e = .returned (.bool (decide (116 ∈ shapeL x.op))) ∧ w' = W from U 116 (by decide))
  clear U
  obtain ⟨s, hs⟩ : ∃ s, s = strN (shapeL x.op) := ⟨_, rfl⟩
  rw [← hs] at HS hse U97 U98 U99 U106 U107 U110 U116
  have HPA := Lib.hid (show pA x z = if x.op = 13 then decide (1 ≤ x.a ∧ x.a ≤ z) else regB (decide (97 ∈ shapeL x.op)) x.a from rfl)
  have HPT := Lib.hid (show pT x = if decide (116 ∈ shapeL x.op) = true then decide (0 ≤ x.t ∧ x.t ≤ 3) else decide (x.t = 0) by unfold pT; simp)
  have HPN := Lib.hid (show pN x = if decide (107 ∈ shapeL x.op) = true then decide (1 ≤ x.n ∧ x.n ≤ 64) else if decide (106 ∈ shapeL x.op) = true then decide (0 ≤ x.n ∧ x.n ≤ 3) else (decide (110 ∈ shapeL x.op) || decide (x.n = 0)) by unfold pN; simp)
  obtain ⟨ok, hok⟩ : ∃ b, b = okOp x.op := ⟨_, rfl⟩
  obtain ⟨u97, h97⟩ : ∃ b, b = decide (97 ∈ shapeL x.op) := ⟨_, rfl⟩
  obtain ⟨u98, h98⟩ : ∃ b, b = decide (98 ∈ shapeL x.op) := ⟨_, rfl⟩
  obtain ⟨u99, h99⟩ : ∃ b, b = decide (99 ∈ shapeL x.op) := ⟨_, rfl⟩
  obtain ⟨u106, h106⟩ : ∃ b, b = decide (106 ∈ shapeL x.op) := ⟨_, rfl⟩
  obtain ⟨u107, h107⟩ : ∃ b, b = decide (107 ∈ shapeL x.op) := ⟨_, rfl⟩
  obtain ⟨u110, h110⟩ : ∃ b, b = decide (110 ∈ shapeL x.op) := ⟨_, rfl⟩
  obtain ⟨u116, h116⟩ : ∃ b, b = decide (116 ∈ shapeL x.op) := ⟨_, rfl⟩
  rw [← h97] at U97 HPA
  rw [← h98] at U98 HRG
  rw [← h99] at U99 HRG
  rw [← h106] at U106 HPN
  rw [← h107] at U107 HPN
  rw [← h110] at U110 HPN
  rw [← h116] at U116 HPT
  rw [← hok] at HRG hse
  clear hs h97 h98 h99 h106 h107 h110 h116 hok
  have R98 := Lib.hid (register_any u98 x.b)
  have R99 := Lib.hid (register_any u99 x.c)
  have R97 := Lib.hid (register_any u97 x.a)
  obtain ⟨rb, hrb⟩ : ∃ b, b = regB u98 x.b := ⟨_, rfl⟩
  obtain ⟨rc, hrc⟩ : ∃ b, b = regB u99 x.c := ⟨_, rfl⟩
  obtain ⟨ra, hra⟩ : ∃ b, b = regB u97 x.a := ⟨_, rfl⟩
  obtain ⟨pa, hpa⟩ : ∃ b, b = pA x z := ⟨_, rfl⟩
  obtain ⟨pt, hpt⟩ : ∃ b, b = pT x := ⟨_, rfl⟩
  obtain ⟨pn, hpn⟩ : ∃ b, b = pN x := ⟨_, rfl⟩
  rw [← hrb] at R98 HRG
  rw [← hrc] at R99 HRG
  rw [← hra] at R97 HPA
  rw [← hpa] at HPA HRG
  rw [← hpt] at HPT HRG
  rw [← hpn] at HPN HRG
  obtain ⟨R, hR⟩ : ∃ b, b = goodI x z := ⟨_, rfl⟩
  rw [← hR] at HRG ⊢
  clear hrb hrc hra hpa hpt hpn hR
  unfold Ins.val
  cases ok with
  | false =>
    go_enter Tryd.func41, Tryd.ntmps41
    go_wp2_with fail
    refine Calls.mono HS.out ?_
    rintro e w1 ⟨rfl, rfl⟩
    go_wp2_with fail
    go_quiet (fail)
    go_wp2_with fail
    go_ret
    exact ⟨ret_bool' (by rw [HRG.out]; rfl), below_drewN HBA.out _⟩
  | true =>
    cases rb with
    | false =>
      go_enter Tryd.func41, Tryd.ntmps41
      go_wp2_with fail
      refine Calls.mono HS.out ?_
      rintro e w1 ⟨rfl, rfl⟩
      go_wp2_with fail
      go_quiet (first | (go_at_call 72; with_reducible exact Calls.quiet_of_same (U98.out _)) | (go_at_call 72; with_reducible exact Calls.quiet_of_same (U99.out _)) | (go_at_call 72; with_reducible exact Calls.quiet_of_same (U97.out _)) | (go_at_call 71; with_reducible exact Calls.quiet_of_same (R98.out _)) | (go_at_call 71; with_reducible exact Calls.quiet_of_same (R99.out _)) | (go_at_call 71; with_reducible exact Calls.quiet_of_same (R97.out _)))
      go_wp2_with fail
      go_ret
      exact ⟨ret_bool' (by rw [HRG.out]; rfl), below_drewN HBA.out _⟩
    | true =>
      cases rc with
      | false =>
        go_enter Tryd.func41, Tryd.ntmps41
        go_wp2_with fail
        refine Calls.mono HS.out ?_
        rintro e w1 ⟨rfl, rfl⟩
        go_wp2_with fail
        go_quiet (first | (go_at_call 72; with_reducible exact Calls.quiet_of_same (U98.out _)) | (go_at_call 72; with_reducible exact Calls.quiet_of_same (U99.out _)) | (go_at_call 72; with_reducible exact Calls.quiet_of_same (U97.out _)) | (go_at_call 71; with_reducible exact Calls.quiet_of_same (R98.out _)) | (go_at_call 71; with_reducible exact Calls.quiet_of_same (R99.out _)) | (go_at_call 71; with_reducible exact Calls.quiet_of_same (R97.out _)))
        go_wp2_with fail
        go_ret
        exact ⟨ret_bool' (by rw [HRG.out]; rfl), below_drewN HBA.out _⟩
      | true =>
        go_enter Tryd.func41, Tryd.ntmps41
        go_wp2_with fail
        refine Calls.mono HS.out ?_
        rintro e w1 ⟨rfl, rfl⟩
        go_wp2_with fail
        go_quiet (first | (go_at_call 72; with_reducible exact Calls.quiet_of_same (U98.out _)) | (go_at_call 72; with_reducible exact Calls.quiet_of_same (U99.out _)) | (go_at_call 72; with_reducible exact Calls.quiet_of_same (U97.out _)) | (go_at_call 71; with_reducible exact Calls.quiet_of_same (R98.out _)) | (go_at_call 71; with_reducible exact Calls.quiet_of_same (R99.out _)) | (go_at_call 71; with_reducible exact Calls.quiet_of_same (R97.out _)))
        by_cases h13 : x.op = 13
        · have d13 : (x.op == 13) = true := by rw [beq_iff_eq]; exact h13
          have HP := Lib.hid (show pa = decide (1 ≤ x.a ∧ x.a ≤ z) by rw [HPA.out, if_pos h13])
          clear h13
          by_cases ha1 : x.a < 1
          · have d1 : decide (x.a < 1) = true := decide_eq_true ha1
            have hA := Lib.hid (show pa = false by rw [HP.out]; simp; omega)
            clear ha1
            go_wp2_with fail
            go_ret
            exact ⟨ret_bool' (by rw [HRG.out, hA.out]; rfl), below_drewN HBA.out _⟩
          · have d1 : decide (x.a < 1) = false := decide_eq_false ha1
            by_cases ha2 : z < x.a
            · have d2 : decide (z < x.a) = true := decide_eq_true ha2
              have hA := Lib.hid (show pa = false by rw [HP.out]; simp; omega)
              clear ha1 ha2
              go_wp2_with fail
              go_ret
              exact ⟨ret_bool' (by rw [HRG.out, hA.out]; rfl), below_drewN HBA.out _⟩
            · have d2 : decide (z < x.a) = false := decide_eq_false ha2
              have hA := Lib.hid (show pa = true by rw [HP.out]; simp; omega)
              clear ha1 ha2
              go_wp2_with fail
              refine Calls.mono (U116.out _) ?_
              rintro e w2 ⟨rfl, rfl⟩
              cases u116 with
              | true =>
                by_cases t1 : x.t < 0
                · have d1 : decide (x.t < 0) = true := decide_eq_true t1
                  have hTT := Lib.hid (show pt = false by rw [HPT.out]; simp; omega)
                  clear t1
                  go_wp2_with fail
                  go_ret
                  exact ⟨ret_bool' (by rw [HRG.out, hA.out, hTT.out]; rfl), below_drewN HBA.out _⟩
                · have d1 : decide (x.t < 0) = false := decide_eq_false t1
                  by_cases t2 : 3 < x.t
                  · have d2 : decide (3 < x.t) = true := decide_eq_true t2
                    have hTT := Lib.hid (show pt = false by rw [HPT.out]; simp; omega)
                    clear t1 t2
                    go_wp2_with fail
                    go_ret
                    exact ⟨ret_bool' (by rw [HRG.out, hA.out, hTT.out]; rfl), below_drewN HBA.out _⟩
                  · have d2 : decide (3 < x.t) = false := decide_eq_false t2
                    have hTT := Lib.hid (show pt = true by rw [HPT.out]; simp; omega)
                    clear t1 t2
                    go_wp2_with fail
                    clear d1 d2
                    refine Calls.mono (U107.out _) ?_
                    rintro e w3 ⟨rfl, rfl⟩
                    cases u107 with
                    | true =>
                      by_cases n1 : 1 ≤ x.n
                      · have d1 : decide (1 ≤ x.n) = true := decide_eq_true n1
                        by_cases n2 : x.n ≤ 64
                        · have d2 : decide (x.n ≤ 64) = true := decide_eq_true n2
                          have hN := Lib.hid (show pn = true by rw [HPN.out]; simp [n1, n2])
                          clear n1 n2
                          go_wp2_with fail
                          go_ret
                          exact ⟨ret_bool' (by rw [HRG.out, hA.out, hTT.out, hN.out]; rfl), below_drewN HBA.out _⟩
                        · have d2 : decide (x.n ≤ 64) = false := decide_eq_false n2
                          have hN := Lib.hid (show pn = false by rw [HPN.out]; simp [n1, n2])
                          clear n1 n2
                          go_wp2_with fail
                          go_ret
                          exact ⟨ret_bool' (by rw [HRG.out, hA.out, hTT.out, hN.out]; rfl), below_drewN HBA.out _⟩
                      · have d1 : decide (1 ≤ x.n) = false := decide_eq_false n1
                        have hN := Lib.hid (show pn = false by rw [HPN.out]; simp [n1])
                        clear n1
                        go_wp2_with fail
                        go_ret
                        exact ⟨ret_bool' (by rw [HRG.out, hA.out, hTT.out, hN.out]; rfl), below_drewN HBA.out _⟩
                    | false =>
                      go_wp2_with fail
                      refine Calls.mono (U106.out _) ?_
                      rintro e w4 ⟨rfl, rfl⟩
                      cases u106 with
                      | true =>
                        by_cases n1 : 0 ≤ x.n
                        · have d1 : decide (0 ≤ x.n) = true := decide_eq_true n1
                          by_cases n2 : x.n ≤ 3
                          · have d2 : decide (x.n ≤ 3) = true := decide_eq_true n2
                            have hN := Lib.hid (show pn = true by rw [HPN.out]; simp [n1, n2])
                            clear n1 n2
                            go_wp2_with fail
                            go_ret
                            exact ⟨ret_bool' (by rw [HRG.out, hA.out, hTT.out, hN.out]; rfl), below_drewN HBA.out _⟩
                          · have d2 : decide (x.n ≤ 3) = false := decide_eq_false n2
                            have hN := Lib.hid (show pn = false by rw [HPN.out]; simp [n1, n2])
                            clear n1 n2
                            go_wp2_with fail
                            go_ret
                            exact ⟨ret_bool' (by rw [HRG.out, hA.out, hTT.out, hN.out]; rfl), below_drewN HBA.out _⟩
                        · have d1 : decide (0 ≤ x.n) = false := decide_eq_false n1
                          have hN := Lib.hid (show pn = false by rw [HPN.out]; simp [n1])
                          clear n1
                          go_wp2_with fail
                          go_ret
                          exact ⟨ret_bool' (by rw [HRG.out, hA.out, hTT.out, hN.out]; rfl), below_drewN HBA.out _⟩
                      | false =>
                        go_wp2_with fail
                        refine Calls.mono (U110.out _) ?_
                        rintro e w5 ⟨rfl, rfl⟩
                        cases u110 with
                        | true =>
                          have hN := Lib.hid (show pn = true by rw [HPN.out]; simp)
                          go_wp2_with fail
                          go_ret
                          exact ⟨ret_bool' (by rw [HRG.out, hA.out, hTT.out, hN.out]; rfl), below_drewN HBA.out _⟩
                        | false =>
                          by_cases n1 : x.n = 0
                          · have d1 : (x.n == 0) = true := by rw [beq_iff_eq]; exact n1
                            have hN := Lib.hid (show pn = true by rw [HPN.out]; simp [n1])
                            clear n1
                            go_wp2_with fail
                            go_ret
                            exact ⟨ret_bool' (by rw [HRG.out, hA.out, hTT.out, hN.out]; rfl), below_drewN HBA.out _⟩
                          · have d1 : (x.n == 0) = false := by rw [beq_eq_false_iff_ne]; exact n1
                            have hN := Lib.hid (show pn = false by rw [HPN.out]; simp [n1])
                            clear n1
                            go_wp2_with fail
                            go_ret
                            exact ⟨ret_bool' (by rw [HRG.out, hA.out, hTT.out, hN.out]; rfl), below_drewN HBA.out _⟩
              | false =>
                by_cases t1 : x.t = 0
                · have d1 : (x.t != 0) = false := by simp [t1]
                  have hTT := Lib.hid (show pt = true by rw [HPT.out]; simp [t1])
                  clear t1
                  go_wp2_with fail
                  clear d1
                  refine Calls.mono (U107.out _) ?_
                  rintro e w3 ⟨rfl, rfl⟩
                  cases u107 with
                  | true =>
                    by_cases n1 : 1 ≤ x.n
                    · have d1 : decide (1 ≤ x.n) = true := decide_eq_true n1
                      by_cases n2 : x.n ≤ 64
                      · have d2 : decide (x.n ≤ 64) = true := decide_eq_true n2
                        have hN := Lib.hid (show pn = true by rw [HPN.out]; simp [n1, n2])
                        clear n1 n2
                        go_wp2_with fail
                        go_ret
                        exact ⟨ret_bool' (by rw [HRG.out, hA.out, hTT.out, hN.out]; rfl), below_drewN HBA.out _⟩
                      · have d2 : decide (x.n ≤ 64) = false := decide_eq_false n2
                        have hN := Lib.hid (show pn = false by rw [HPN.out]; simp [n1, n2])
                        clear n1 n2
                        go_wp2_with fail
                        go_ret
                        exact ⟨ret_bool' (by rw [HRG.out, hA.out, hTT.out, hN.out]; rfl), below_drewN HBA.out _⟩
                    · have d1 : decide (1 ≤ x.n) = false := decide_eq_false n1
                      have hN := Lib.hid (show pn = false by rw [HPN.out]; simp [n1])
                      clear n1
                      go_wp2_with fail
                      go_ret
                      exact ⟨ret_bool' (by rw [HRG.out, hA.out, hTT.out, hN.out]; rfl), below_drewN HBA.out _⟩
                  | false =>
                    go_wp2_with fail
                    refine Calls.mono (U106.out _) ?_
                    rintro e w4 ⟨rfl, rfl⟩
                    cases u106 with
                    | true =>
                      by_cases n1 : 0 ≤ x.n
                      · have d1 : decide (0 ≤ x.n) = true := decide_eq_true n1
                        by_cases n2 : x.n ≤ 3
                        · have d2 : decide (x.n ≤ 3) = true := decide_eq_true n2
                          have hN := Lib.hid (show pn = true by rw [HPN.out]; simp [n1, n2])
                          clear n1 n2
                          go_wp2_with fail
                          go_ret
                          exact ⟨ret_bool' (by rw [HRG.out, hA.out, hTT.out, hN.out]; rfl), below_drewN HBA.out _⟩
                        · have d2 : decide (x.n ≤ 3) = false := decide_eq_false n2
                          have hN := Lib.hid (show pn = false by rw [HPN.out]; simp [n1, n2])
                          clear n1 n2
                          go_wp2_with fail
                          go_ret
                          exact ⟨ret_bool' (by rw [HRG.out, hA.out, hTT.out, hN.out]; rfl), below_drewN HBA.out _⟩
                      · have d1 : decide (0 ≤ x.n) = false := decide_eq_false n1
                        have hN := Lib.hid (show pn = false by rw [HPN.out]; simp [n1])
                        clear n1
                        go_wp2_with fail
                        go_ret
                        exact ⟨ret_bool' (by rw [HRG.out, hA.out, hTT.out, hN.out]; rfl), below_drewN HBA.out _⟩
                    | false =>
                      go_wp2_with fail
                      refine Calls.mono (U110.out _) ?_
                      rintro e w5 ⟨rfl, rfl⟩
                      cases u110 with
                      | true =>
                        have hN := Lib.hid (show pn = true by rw [HPN.out]; simp)
                        go_wp2_with fail
                        go_ret
                        exact ⟨ret_bool' (by rw [HRG.out, hA.out, hTT.out, hN.out]; rfl), below_drewN HBA.out _⟩
                      | false =>
                        by_cases n1 : x.n = 0
                        · have d1 : (x.n == 0) = true := by rw [beq_iff_eq]; exact n1
                          have hN := Lib.hid (show pn = true by rw [HPN.out]; simp [n1])
                          clear n1
                          go_wp2_with fail
                          go_ret
                          exact ⟨ret_bool' (by rw [HRG.out, hA.out, hTT.out, hN.out]; rfl), below_drewN HBA.out _⟩
                        · have d1 : (x.n == 0) = false := by rw [beq_eq_false_iff_ne]; exact n1
                          have hN := Lib.hid (show pn = false by rw [HPN.out]; simp [n1])
                          clear n1
                          go_wp2_with fail
                          go_ret
                          exact ⟨ret_bool' (by rw [HRG.out, hA.out, hTT.out, hN.out]; rfl), below_drewN HBA.out _⟩
                · have d1 : (x.t != 0) = true := by rw [bne_iff_ne]; exact t1
                  have hTT := Lib.hid (show pt = false by rw [HPT.out]; simp [t1])
                  clear t1
                  go_wp2_with fail
                  go_ret
                  exact ⟨ret_bool' (by rw [HRG.out, hA.out, hTT.out]; rfl), below_drewN HBA.out _⟩
        · have d13 : (x.op == 13) = false := by rw [beq_eq_false_iff_ne]; exact h13
          have hA := Lib.hid (show pa = ra by rw [HPA.out, if_neg h13])
          clear h13
          cases ra with
          | false =>
            go_wp2_with fail
            go_quiet (first | (go_at_call 72; with_reducible exact quiet_add_same (U97.out _)) | (go_at_call 71; with_reducible exact quiet_add_same (R97.out _)))
            go_wp2_with fail
            go_ret
            exact ⟨ret_bool' (by rw [HRG.out, hA.out]; rfl), below_drewN (below_drewN HBA.out _) _⟩
          | true =>
            go_wp2_with fail
            go_quiet (first | (go_at_call 72; with_reducible exact quiet_add_same (U97.out _)) | (go_at_call 71; with_reducible exact quiet_add_same (R97.out _)))
            go_wp2_with fail
            refine Calls.mono (U116.out _) ?_
            rintro e w2 ⟨rfl, rfl⟩
            cases u116 with
            | true =>
              by_cases t1 : x.t < 0
              · have d1 : decide (x.t < 0) = true := decide_eq_true t1
                have hTT := Lib.hid (show pt = false by rw [HPT.out]; simp; omega)
                clear t1
                go_wp2_with fail
                go_ret
                exact ⟨ret_bool' (by rw [HRG.out, hA.out, hTT.out]; rfl), below_drewN HBA.out _⟩
              · have d1 : decide (x.t < 0) = false := decide_eq_false t1
                by_cases t2 : 3 < x.t
                · have d2 : decide (3 < x.t) = true := decide_eq_true t2
                  have hTT := Lib.hid (show pt = false by rw [HPT.out]; simp; omega)
                  clear t1 t2
                  go_wp2_with fail
                  go_ret
                  exact ⟨ret_bool' (by rw [HRG.out, hA.out, hTT.out]; rfl), below_drewN HBA.out _⟩
                · have d2 : decide (3 < x.t) = false := decide_eq_false t2
                  have hTT := Lib.hid (show pt = true by rw [HPT.out]; simp; omega)
                  clear t1 t2
                  go_wp2_with fail
                  clear d1 d2
                  refine Calls.mono (U107.out _) ?_
                  rintro e w3 ⟨rfl, rfl⟩
                  cases u107 with
                  | true =>
                    by_cases n1 : 1 ≤ x.n
                    · have d1 : decide (1 ≤ x.n) = true := decide_eq_true n1
                      by_cases n2 : x.n ≤ 64
                      · have d2 : decide (x.n ≤ 64) = true := decide_eq_true n2
                        have hN := Lib.hid (show pn = true by rw [HPN.out]; simp [n1, n2])
                        clear n1 n2
                        go_wp2_with fail
                        go_ret
                        exact ⟨ret_bool' (by rw [HRG.out, hA.out, hTT.out, hN.out]; rfl), below_drewN HBA.out _⟩
                      · have d2 : decide (x.n ≤ 64) = false := decide_eq_false n2
                        have hN := Lib.hid (show pn = false by rw [HPN.out]; simp [n1, n2])
                        clear n1 n2
                        go_wp2_with fail
                        go_ret
                        exact ⟨ret_bool' (by rw [HRG.out, hA.out, hTT.out, hN.out]; rfl), below_drewN HBA.out _⟩
                    · have d1 : decide (1 ≤ x.n) = false := decide_eq_false n1
                      have hN := Lib.hid (show pn = false by rw [HPN.out]; simp [n1])
                      clear n1
                      go_wp2_with fail
                      go_ret
                      exact ⟨ret_bool' (by rw [HRG.out, hA.out, hTT.out, hN.out]; rfl), below_drewN HBA.out _⟩
                  | false =>
                    go_wp2_with fail
                    refine Calls.mono (U106.out _) ?_
                    rintro e w4 ⟨rfl, rfl⟩
                    cases u106 with
                    | true =>
                      by_cases n1 : 0 ≤ x.n
                      · have d1 : decide (0 ≤ x.n) = true := decide_eq_true n1
                        by_cases n2 : x.n ≤ 3
                        · have d2 : decide (x.n ≤ 3) = true := decide_eq_true n2
                          have hN := Lib.hid (show pn = true by rw [HPN.out]; simp [n1, n2])
                          clear n1 n2
                          go_wp2_with fail
                          go_ret
                          exact ⟨ret_bool' (by rw [HRG.out, hA.out, hTT.out, hN.out]; rfl), below_drewN HBA.out _⟩
                        · have d2 : decide (x.n ≤ 3) = false := decide_eq_false n2
                          have hN := Lib.hid (show pn = false by rw [HPN.out]; simp [n1, n2])
                          clear n1 n2
                          go_wp2_with fail
                          go_ret
                          exact ⟨ret_bool' (by rw [HRG.out, hA.out, hTT.out, hN.out]; rfl), below_drewN HBA.out _⟩
                      · have d1 : decide (0 ≤ x.n) = false := decide_eq_false n1
                        have hN := Lib.hid (show pn = false by rw [HPN.out]; simp [n1])
                        clear n1
                        go_wp2_with fail
                        go_ret
                        exact ⟨ret_bool' (by rw [HRG.out, hA.out, hTT.out, hN.out]; rfl), below_drewN HBA.out _⟩
                    | false =>
                      go_wp2_with fail
                      refine Calls.mono (U110.out _) ?_
                      rintro e w5 ⟨rfl, rfl⟩
                      cases u110 with
                      | true =>
                        have hN := Lib.hid (show pn = true by rw [HPN.out]; simp)
                        go_wp2_with fail
                        go_ret
                        exact ⟨ret_bool' (by rw [HRG.out, hA.out, hTT.out, hN.out]; rfl), below_drewN HBA.out _⟩
                      | false =>
                        by_cases n1 : x.n = 0
                        · have d1 : (x.n == 0) = true := by rw [beq_iff_eq]; exact n1
                          have hN := Lib.hid (show pn = true by rw [HPN.out]; simp [n1])
                          clear n1
                          go_wp2_with fail
                          go_ret
                          exact ⟨ret_bool' (by rw [HRG.out, hA.out, hTT.out, hN.out]; rfl), below_drewN HBA.out _⟩
                        · have d1 : (x.n == 0) = false := by rw [beq_eq_false_iff_ne]; exact n1
                          have hN := Lib.hid (show pn = false by rw [HPN.out]; simp [n1])
                          clear n1
                          go_wp2_with fail
                          go_ret
                          exact ⟨ret_bool' (by rw [HRG.out, hA.out, hTT.out, hN.out]; rfl), below_drewN HBA.out _⟩
            | false =>
              by_cases t1 : x.t = 0
              · have d1 : (x.t != 0) = false := by simp [t1]
                have hTT := Lib.hid (show pt = true by rw [HPT.out]; simp [t1])
                clear t1
                go_wp2_with fail
                clear d1
                refine Calls.mono (U107.out _) ?_
                rintro e w3 ⟨rfl, rfl⟩
                cases u107 with
                | true =>
                  by_cases n1 : 1 ≤ x.n
                  · have d1 : decide (1 ≤ x.n) = true := decide_eq_true n1
                    by_cases n2 : x.n ≤ 64
                    · have d2 : decide (x.n ≤ 64) = true := decide_eq_true n2
                      have hN := Lib.hid (show pn = true by rw [HPN.out]; simp [n1, n2])
                      clear n1 n2
                      go_wp2_with fail
                      go_ret
                      exact ⟨ret_bool' (by rw [HRG.out, hA.out, hTT.out, hN.out]; rfl), below_drewN HBA.out _⟩
                    · have d2 : decide (x.n ≤ 64) = false := decide_eq_false n2
                      have hN := Lib.hid (show pn = false by rw [HPN.out]; simp [n1, n2])
                      clear n1 n2
                      go_wp2_with fail
                      go_ret
                      exact ⟨ret_bool' (by rw [HRG.out, hA.out, hTT.out, hN.out]; rfl), below_drewN HBA.out _⟩
                  · have d1 : decide (1 ≤ x.n) = false := decide_eq_false n1
                    have hN := Lib.hid (show pn = false by rw [HPN.out]; simp [n1])
                    clear n1
                    go_wp2_with fail
                    go_ret
                    exact ⟨ret_bool' (by rw [HRG.out, hA.out, hTT.out, hN.out]; rfl), below_drewN HBA.out _⟩
                | false =>
                  go_wp2_with fail
                  refine Calls.mono (U106.out _) ?_
                  rintro e w4 ⟨rfl, rfl⟩
                  cases u106 with
                  | true =>
                    by_cases n1 : 0 ≤ x.n
                    · have d1 : decide (0 ≤ x.n) = true := decide_eq_true n1
                      by_cases n2 : x.n ≤ 3
                      · have d2 : decide (x.n ≤ 3) = true := decide_eq_true n2
                        have hN := Lib.hid (show pn = true by rw [HPN.out]; simp [n1, n2])
                        clear n1 n2
                        go_wp2_with fail
                        go_ret
                        exact ⟨ret_bool' (by rw [HRG.out, hA.out, hTT.out, hN.out]; rfl), below_drewN HBA.out _⟩
                      · have d2 : decide (x.n ≤ 3) = false := decide_eq_false n2
                        have hN := Lib.hid (show pn = false by rw [HPN.out]; simp [n1, n2])
                        clear n1 n2
                        go_wp2_with fail
                        go_ret
                        exact ⟨ret_bool' (by rw [HRG.out, hA.out, hTT.out, hN.out]; rfl), below_drewN HBA.out _⟩
                    · have d1 : decide (0 ≤ x.n) = false := decide_eq_false n1
                      have hN := Lib.hid (show pn = false by rw [HPN.out]; simp [n1])
                      clear n1
                      go_wp2_with fail
                      go_ret
                      exact ⟨ret_bool' (by rw [HRG.out, hA.out, hTT.out, hN.out]; rfl), below_drewN HBA.out _⟩
                  | false =>
                    go_wp2_with fail
                    refine Calls.mono (U110.out _) ?_
                    rintro e w5 ⟨rfl, rfl⟩
                    cases u110 with
                    | true =>
                      have hN := Lib.hid (show pn = true by rw [HPN.out]; simp)
                      go_wp2_with fail
                      go_ret
                      exact ⟨ret_bool' (by rw [HRG.out, hA.out, hTT.out, hN.out]; rfl), below_drewN HBA.out _⟩
                    | false =>
                      by_cases n1 : x.n = 0
                      · have d1 : (x.n == 0) = true := by rw [beq_iff_eq]; exact n1
                        have hN := Lib.hid (show pn = true by rw [HPN.out]; simp [n1])
                        clear n1
                        go_wp2_with fail
                        go_ret
                        exact ⟨ret_bool' (by rw [HRG.out, hA.out, hTT.out, hN.out]; rfl), below_drewN HBA.out _⟩
                      · have d1 : (x.n == 0) = false := by rw [beq_eq_false_iff_ne]; exact n1
                        have hN := Lib.hid (show pn = false by rw [HPN.out]; simp [n1])
                        clear n1
                        go_wp2_with fail
                        go_ret
                        exact ⟨ret_bool' (by rw [HRG.out, hA.out, hTT.out, hN.out]; rfl), below_drewN HBA.out _⟩
              · have d1 : (x.t != 0) = true := by rw [bne_iff_ne]; exact t1
                have hTT := Lib.hid (show pt = false by rw [HPT.out]; simp [t1])
                clear t1
                go_wp2_with fail
                go_ret
                exact ⟨ret_bool' (by rw [HRG.out, hA.out, hTT.out]; rfl), below_drewN HBA.out _⟩
end Go.Proofs.YtkeckjgihjpfbaaDoor
