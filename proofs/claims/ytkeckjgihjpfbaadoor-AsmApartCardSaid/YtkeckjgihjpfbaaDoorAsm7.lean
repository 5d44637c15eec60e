/- Layer 7: alive; asm.Line; AsmLines answers true of whatever instruction and operation. -/
import Derived.Test.YtkeckjgihjpfbaaDoorAsm6
namespace Go.Proofs.YtkeckjgihjpfbaaDoor
set_option maxRecDepth 100000
open Go.RowKit
attribute [local go_sem ↓] Go.wp_at_zero Go.wp_at_succ

theorem itoa_digit (k : Nat) (h : k < 10) : Lib.itoa (k : Int) = [UInt8.ofNat (48 + k)] := by
  unfold Lib.itoa
  rw [if_neg (by omega), Int.toNat_natCast, digit_one k h]
theorem alive_text : printLs 5 [out1] = [102, 117, 101, 108, 32, 53, 10, 111, 117, 116, 32, 114, 49, 10] := by
  have h5 := itoa_digit 5 (by omega)
  have h1 := itoa_digit 1 (by omega)
  have h5' : Lib.itoa 5 = [53] := h5
  have h1' : Lib.itoa 1 = [49] := h1
  have e : lineL out1 = [111, 117, 116, 32, 114, 49] := by
    show wordL 15 ++ (shapeL 15).flatMap (fun l => 32 :: out1.word l) = _
    rw [show shapeL 15 = [97] from rfl]
    show wordL 15 ++ ((32 :: ([114] ++ Lib.itoa 1)) ++ []) = _
    rw [h1']
    rfl
  unfold printLs headL
  rw [h5', List.flatMap_cons, e]
  rfl
theorem out1_ok : ∀ x ∈ [out1], x.Ok := fun x hx => by
  rw [List.mem_singleton.1 hx]
  exact ⟨by unfold Fits out1; decide, by unfold Fits out1; decide, by unfold Fits out1; decide, by unfold Fits out1; decide, by unfold Fits out1; decide, by unfold Fits out1; decide⟩
set_option maxHeartbeats 2000000 in
theorem asm_alive (w : World) (hT : AT w) : Calls Tryd.prog 28 #[] w fun e w' => e = .returned (.bool true) ∧ Below w.heap.size w w' := by
  have hb1 := (Below.refl w.heap.size w).alloc (Nat.le_refl _) (.cells #[.int .i64 15, .int .i64 1, .int .i64 0, .int .i64 0, .int .i64 0, .int .i64 0] 43)
  have HB1 := Lib.hid hb1
  have HE := print_any 5 (by unfold Fits; decide) (some ⟨w.heap.size, 0, none⟩) 1 1 [out1] _ (hT.ext hb1) (alive_codes w) (by omega) out1_ok
  have HP := Lib.hid (show ∀ w1 w' e, PrintE 5 [out1] w1 w' e → e = .returned (.tuple #[.string { data := #[102, 117, 101, 108, 32, 53, 10, 111, 117, 116, 32, 114, 49, 10] }, .nilIface]) from fun w1 w' e h => by
    rcases h with ⟨_, h⟩ | ⟨h, _⟩
    · rw [h, alive_text]; rfl
    · exact absurd alive_chk h)
  have HE := Lib.hid HE
  clear hT hb1
  go_enter Tryd.func28, Tryd.ntmps28
  go_wp2_with fail
  refine Calls.mono HE.out ?_
  rintro e w2 ⟨he, hb2⟩
  have HB2 := Lib.hid (HB1.out.trans (hb2.mono HB1.out.size))
  obtain rfl := HP.out _ _ _ he
  clear hb2 he
  go_wp2_with fail
  go_ret
  exact ⟨rfl, HB2.out⟩
def LineE (x : Ins) (w w' : World) (e : Ending) : Prop :=
  (okOp x.op = true ∧ e = .returned (.tuple #[.string (tx (lineL x)), .nilIface])) ∨
  (okOp x.op = false ∧ ∃ b, e = .returned (.tuple #[.string { data := #[] }, .iface 72 (.pointer (some ⟨b, 0, none⟩))]) ∧ w.heap.size ≤ b ∧ FaultAt w' b 0)
set_option maxHeartbeats 2000000 in
theorem asmline_any (x : Ins) (hx : x.Ok) (w : World) (hT : AT w) : Calls Tryd.prog 33 #[x.val] w fun e w' => LineE x w w' e ∧ Below w.heap.size w w' := by
  have hbx := (Below.refl w.heap.size w).alloc (Nat.le_refl _) (.cells #[.int .i64 x.op, .int .i64 x.a, .int .i64 x.b, .int .i64 x.c, .int .i64 x.t, .int .i64 x.n] 43)
  have HBX := Lib.hid hbx
  have HW := Lib.hid (word_any x.op _ (hT.ext hbx))
  have HLN := line_any x hx _ (hT.ext hbx)
  unfold Ins.val at HLN ⊢
  have HLN := Lib.hid HLN
  clear hbx hT hx
  cases hok : okOp x.op with
  | true =>
    rw [hok] at HW
    have HOK := Lib.hid hok
    clear hok
    go_enter Tryd.func33, Tryd.ntmps33
    go_wp2_with fail
    refine Calls.mono HW.out ?_
    rintro e w2 ⟨rfl, rfl⟩
    go_wp2_with fail
    refine Calls.mono HLN.out ?_
    rintro e w3 ⟨rfl, hb3⟩
    have HB3 := Lib.hid (HBX.out.trans (hb3.mono HBX.out.size))
    clear hb3
    go_wp2_with fail
    go_ret2
    exact ⟨.inl ⟨HOK.out, rfl⟩, HB3.out⟩
  | false =>
    rw [hok] at HW
    have HOK := Lib.hid hok
    clear hok
    go_enter Tryd.func33, Tryd.ntmps33
    go_wp2_with fail
    refine Calls.mono HW.out ?_
    rintro e w2 ⟨rfl, rfl⟩
    go_wp2_with fail
    go_ret2
    exact ⟨.inr ⟨HOK.out, w.heap.size + 1, rfl, by omega, by
      have h := heap_alloc_new (w.alloc (.cells #[.int .i64 x.op, .int .i64 x.a, .int .i64 x.b, .int .i64 x.c, .int .i64 x.t, .int .i64 x.n] 43)) (.cells #[.int .i64 0, .iface 36 (.int .i64 5)] 75)
      rw [World.size_alloc] at h
      exact h⟩, HBX.out.alloc HBX.out.size _⟩
theorem tx_toList (l : List UInt8) : (tx l).toList = l := by rw [ByteArray.toList_eq]; simp [tx]
theorem word_empty (op : Int) : (tx (wordL op)).toList.isEmpty = !okOp op := by
  rw [tx_toList]
  by_cases h : 0 ≤ op ∧ op < 16
  · have h16 : op = 0 ∨ op = 1 ∨ op = 2 ∨ op = 3 ∨ op = 4 ∨ op = 5 ∨ op = 6 ∨ op = 7 ∨ op = 8 ∨ op = 9 ∨ op = 10 ∨ op = 11 ∨ op = 12 ∨ op = 13 ∨ op = 14 ∨ op = 15 := by omega
    rcases h16 with rfl | rfl | rfl | rfl | rfl | rfl | rfl | rfl | rfl | rfl | rfl | rfl | rfl | rfl | rfl | rfl <;> rfl
  · rw [wordL_none op (by omega), show okOp op = false from decide_eq_false h]
    rfl
set_option maxHeartbeats 4000000 in
theorem lines_law (x : Ins) (hx : x.Ok) (op : Int) (w : World) (hT : AT w) : Calls Tryd.prog 9 #[x.val, .int .i64 op] w fun e w' => e = .returned (.bool true) ∧ Below w.heap.size w w' := by
  have hbx := (Below.refl w.heap.size w).alloc (Nat.le_refl _) (.cells #[.int .i64 x.op, .int .i64 x.a, .int .i64 x.b, .int .i64 x.c, .int .i64 x.t, .int .i64 x.n] 43)
  have HN := Lib.hid (one_new w (.cells #[.int .i64 x.op, .int .i64 x.a, .int .i64 x.b, .int .i64 x.c, .int .i64 x.t, .int .i64 x.n] 43))
  have HBX := Lib.hid hbx
  have HAL := Lib.hid (asm_alive _ (hT.ext hbx))
  have HT := Lib.hid hT
  have HX := Lib.hid hx
  have HV := Lib.hid (show x.val = .agg #[.int .i64 x.op, .int .i64 x.a, .int .i64 x.b, .int .i64 x.c, .int .i64 x.t, .int .i64 x.n] from rfl)
  unfold Ins.val
  clear hbx hT hx
  go_enter Tryd.func9, Tryd.ntmps9
  go_wp2_with fail
  refine Calls.mono HAL.out ?_
  rintro e w1 ⟨rfl, hb1⟩
  have HB1 := Lib.hid (HBX.out.trans (hb1.mono HBX.out.size))
  have HN1 := Lib.hid (box_later HN.out hb1)
  have c0 : w1.cell? ⟨w.heap.size, 0, none⟩ = some (.int .i64 x.op) := cell_of_row w1 _ 0 _ 43 (0, 0) HN1.out
  have c1 : w1.cell? ⟨w.heap.size, 1, none⟩ = some (.int .i64 x.a) := cell_of_row w1 _ 1 _ 43 (0, 0) HN1.out
  have c2 : w1.cell? ⟨w.heap.size, 2, none⟩ = some (.int .i64 x.b) := cell_of_row w1 _ 2 _ 43 (0, 0) HN1.out
  have c3 : w1.cell? ⟨w.heap.size, 3, none⟩ = some (.int .i64 x.c) := cell_of_row w1 _ 3 _ 43 (0, 0) HN1.out
  have c4 : w1.cell? ⟨w.heap.size, 4, none⟩ = some (.int .i64 x.t) := cell_of_row w1 _ 4 _ 43 (0, 0) HN1.out
  have c5 : w1.cell? ⟨w.heap.size, 5, none⟩ = some (.int .i64 x.n) := cell_of_row w1 _ 5 _ 43 (0, 0) HN1.out
  have HLN := asmline_any x HX.out w1 (HT.out.ext HB1.out)
  rw [HV.out] at HLN
  have HLN := Lib.hid HLN
  clear hb1
  go_wp2_with fail
  refine Calls.mono HLN.out ?_
  rintro e w2 ⟨he, hb2⟩
  have HB2 := Lib.hid (HB1.out.trans (hb2.mono HB1.out.size))
  have HN2 := Lib.hid (box_later HN1.out hb2)
  clear c0 c1 c2 c3 c4 c5 hb2
  have HW2 := Lib.hid (word_any op w2 (HT.out.ext HB2.out))
  have HRW := Lib.hid (refword_any op w2)
  have HROP := Lib.hid (fun w => refword_any x.op w)
  have hwe := word_empty op
  have hwx := word_empty x.op
  obtain ⟨s, hs⟩ : ∃ s, s = tx (wordL op) := ⟨_, rfl⟩
  obtain ⟨sx, hsx⟩ : ∃ s, s = tx (wordL x.op) := ⟨_, rfl⟩
  obtain ⟨ok, hok⟩ : ∃ ok, ok = okOp op := ⟨_, rfl⟩
  rw [← hs] at HW2 HRW hwe
  rw [← hsx] at HROP hwx
  rw [← hok] at HW2 hwe
  have hne : (s.toList != s.toList) = false := by simp
  have hnn : (ok == !s.toList.isEmpty) = true := by rw [hwe]; cases ok <;> rfl
  clear hs hsx hok hwe
  rcases he with ⟨hokx, rfl⟩ | ⟨hokx, b, rfl, hbl, hfa⟩
  · rw [hokx] at hwx
    have HRL := fun w => refline_any x HX.out w
    rw [HV.out] at HRL
    have HRL := Lib.hid HRL
    have hll : ((tx (lineL x)).toList == (tx (lineL x)).toList) = true := by simp
    obtain ⟨q, hq⟩ : ∃ q, q = tx (lineL x) := ⟨_, rfl⟩
    rw [← hq] at hll HRL ⊢
    clear hq hokx
    go_wp2_with fail
    refine Calls.mono HW2.out ?_
    rintro e w3 ⟨rfl, rfl⟩
    go_wp2_with fail
    refine Calls.mono HRW.out ?_
    rintro e w3 ⟨rfl, hb3⟩
    have HB3 := Lib.hid (HB2.out.trans (hb3.mono HB2.out.size))
    have HN3 := Lib.hid (box_later HN2.out hb3)
    clear hb3
    have c0 : w3.cell? ⟨w.heap.size, 0, none⟩ = some (.int .i64 x.op) := cell_of_row w3 _ 0 _ 43 (0, 0) HN3.out
    go_wp2_with fail
    refine Calls.mono (HROP.out _) ?_
    rintro e w4 ⟨rfl, hb4⟩
    have HB4 := Lib.hid (HB3.out.trans (hb4.mono HB3.out.size))
    have HN4 := Lib.hid (box_later HN3.out hb4)
    clear hb4 c0
    have c0 : w4.cell? ⟨w.heap.size, 0, none⟩ = some (.int .i64 x.op) := cell_of_row w4 _ 0 _ 43 (0, 0) HN4.out
    have c1 : w4.cell? ⟨w.heap.size, 1, none⟩ = some (.int .i64 x.a) := cell_of_row w4 _ 1 _ 43 (0, 0) HN4.out
    have c2 : w4.cell? ⟨w.heap.size, 2, none⟩ = some (.int .i64 x.b) := cell_of_row w4 _ 2 _ 43 (0, 0) HN4.out
    have c3 : w4.cell? ⟨w.heap.size, 3, none⟩ = some (.int .i64 x.c) := cell_of_row w4 _ 3 _ 43 (0, 0) HN4.out
    have c4 : w4.cell? ⟨w.heap.size, 4, none⟩ = some (.int .i64 x.t) := cell_of_row w4 _ 4 _ 43 (0, 0) HN4.out
    have c5 : w4.cell? ⟨w.heap.size, 5, none⟩ = some (.int .i64 x.n) := cell_of_row w4 _ 5 _ 43 (0, 0) HN4.out
    go_wp2_with fail
    refine Calls.mono (HRL.out _) ?_
    rintro e w5 ⟨rfl, hb5⟩
    have HB5 := Lib.hid (HB4.out.trans (hb5.mono HB4.out.size))
    clear hb5 c0 c1 c2 c3 c4 c5
    go_wp2_with fail
    go_ret
    exact ⟨rfl, HB5.out⟩
  · rw [hokx] at hwx
    have HFA := Lib.hid hfa
    clear hokx hfa
    go_wp2_with fail
    refine Calls.mono HW2.out ?_
    rintro e w3 ⟨rfl, rfl⟩
    go_wp2_with fail
    refine Calls.mono HRW.out ?_
    rintro e w3 ⟨rfl, hb3⟩
    have HB3 := Lib.hid (HB2.out.trans (hb3.mono HB2.out.size))
    have HN3 := Lib.hid (box_later HN2.out hb3)
    have HFA3 := Lib.hid (show FaultAt w3 b 0 from box_later HFA.out hb3)
    clear hb3
    have c0 : w3.cell? ⟨w.heap.size, 0, none⟩ = some (.int .i64 x.op) := cell_of_row w3 _ 0 _ 43 (0, 0) HN3.out
    go_wp2_with fail
    refine Calls.mono (HROP.out _) ?_
    rintro e w4 ⟨rfl, hb4⟩
    have HB4 := Lib.hid (HB3.out.trans (hb4.mono HB3.out.size))
    have HI := Lib.hid (is_fault b 0 w4 (box_later HFA3.out hb4))
    have HA := Lib.hid (at_fault b 0 w4 (box_later HFA3.out hb4))
    clear hb4 c0
    go_wp2_with fail
    refine Calls.mono HI.out ?_
    rintro e w5 ⟨rfl, rfl⟩
    go_wp2_with fail
    refine Calls.mono HA.out ?_
    rintro e w5 ⟨rfl, rfl⟩
    go_wp2_with fail
    go_ret
    exact ⟨rfl, HB4.out⟩
end Go.Proofs.YtkeckjgihjpfbaaDoor
