/- YtkeckjgihjpfbaaDoorAsm4, YtkeckjgihjpfbaaDoorAsm5, YtkeckjgihjpfbaaDoorAsm6, YtkeckjgihjpfbaaDoorAsmM, YtkeckjgihjpfbaaDoorAsmP, YtkeckjgihjpfbaaDoorAsm7, YtkeckjgihjpfbaaDoorCutS, YtkeckjgihjpfbaaDoorAsmQ, YtkeckjgihjpfbaaDoorAsmR, YtkeckjgihjpfbaaDoorAsmS, YtkeckjgihjpfbaaDoorAsmT, YtkeckjgihjpfbaaDoorAsmU: put together. -/
import Derived.Test.YtkeckjgihjpfbaaDoorZP2
import Derived.Test.YtkeckjgihjpfbaaDoorZP3
import Derived.Deep.RegionHeld3
import Derived.Lib.AtoiAllCases
import Derived.Shelf.LaysM
import Derived.Shelf.LaysC
import Derived.Shelf.Strconv.AtoiAll
import Derived.Shelf.Strings.Cut
import Derived.Shelf.Strings.Split
import Derived.Shelf.Small.Wraps
import Derived.Test.YtkeckjgihjpfbaaDoorProg
import Derived.Lib.SmallJoins
/- Layer 7: an instruction's line. -/
namespace Go.Proofs.YtkeckjgihjpfbaaDoor
set_option maxRecDepth 100000
open Go.RowKit
attribute [local go_sem ↓] Go.wp_at_zero Go.wp_at_succ

def Ins.word (x : Ins) (l : Nat) : List UInt8 := fieldW l (x.get (offL l))
def lineLs (x : Ins) (ls : List Nat) : List UInt8 := wordL x.op ++ ls.flatMap fun l => 32 :: x.word l
/-- An instruction's line. -/
def lineL (x : Ins) : List UInt8 := lineLs x (shapeL x.op)
theorem lineLs_take (x : Ins) (ls : List Nat) (k : Nat) (hk : k < ls.length) : lineLs x (ls.take (k + 1)) = lineLs x (ls.take k) ++ ([32] ++ x.word ls[k]) := by
  unfold lineLs
  rw [List.take_succ_eq_append_getElem hk, List.flatMap_append, List.flatMap_singleton, List.append_assoc]
  rfl
theorem word_len (op : Int) : (wordL op).length ≤ 5 := by
  by_cases h : 0 ≤ op ∧ op < 16
  · have h16 : op = 0 ∨ op = 1 ∨ op = 2 ∨ op = 3 ∨ op = 4 ∨ op = 5 ∨ op = 6 ∨ op = 7 ∨ op = 8 ∨ op = 9 ∨ op = 10 ∨ op = 11 ∨ op = 12 ∨ op = 13 ∨ op = 14 ∨ op = 15 := by omega
    rcases h16 with rfl | rfl | rfl | rfl | rfl | rfl | rfl | rfl | rfl | rfl | rfl | rfl | rfl | rfl | rfl | rfl <;> decide
  · rw [wordL_none op (by omega)]; decide
theorem sign_len (z : Int) : (signL z).length ≤ 2 := by
  unfold signL
  split
  · decide
  · split
    · decide
    · split
      · decide
      · split <;> decide
theorem get_fits {x : Ins} (h : x.Ok) (l : Nat) : Fits (x.get (offL l)) := by
  unfold offL
  split
  · exact h.a
  · split
    · exact h.b
    · split
      · exact h.c
      · split
        · exact h.t
        · exact h.n
theorem fieldW_len (l : Nat) (z : Int) (hz : Fits z) : (fieldW l z).length ≤ 22 := by
  unfold fieldW
  split
  · have := sign_len z; omega
  · have h1 := mark_len l
    have h2 := itoa_len z hz
    rw [List.length_append]; omega
theorem lineLs_len {x : Ins} (h : x.Ok) (ls : List Nat) : (lineLs x ls).length ≤ 5 + ls.length * 23 := by
  unfold lineLs
  rw [List.length_append]
  have h1 := word_len x.op
  have h2 : (ls.flatMap fun l => 32 :: x.word l).length ≤ ls.length * 23 := by
    induction ls with
    | nil => simp
    | cons l ls ih =>
      have := fieldW_len l _ (get_fits h l)
      rw [List.flatMap_cons, List.length_append, List.length_cons, List.length_cons]
      unfold Ins.word at *
      omega
  omega
set_option maxHeartbeats 8000000 in
theorem line_any (x : Ins) (hx : x.Ok) (w : World) (hT : AT w) : Calls Tryd.prog 56 #[x.val] w fun e w' => e = .returned (.string (tx (lineL x))) ∧ Below w.heap.size w w' := by
  obtain ⟨ls, hls⟩ : ∃ ls, ls = shapeL x.op := ⟨_, rfl⟩
  have HSM := Lib.hid (show ∀ y ∈ ls, y < 256 by rw [hls]; exact shapeL_small _)
  have hlen : ls.length ≤ 5 := by rw [hls]; exact shapeL_len _
  have HLINE := Lib.hid (show lineL x = lineLs x ls by unfold lineL; rw [← hls])
  have HLL := Lib.hid (fun k => lineLs_len hx (ls.take k))
  have HTAKE := Lib.hid (lineLs_take x ls)
  have hbx := (Below.refl w.heap.size w).alloc (Nat.le_refl _) (.cells #[.int .i64 x.op, .int .i64 x.a, .int .i64 x.b, .int .i64 x.c, .int .i64 x.t, .int .i64 x.n] 43)
  have HW := Lib.hid (word_any x.op _ (hT.ext hbx))
  have hsh := shape_any x.op _ (hT.ext hbx).shapes
  rw [← hls] at hsh
  obtain ⟨s, hs⟩ : ∃ s, s = strN ls := ⟨_, rfl⟩
  obtain ⟨m, hm⟩ : ∃ m, m = ls.length := ⟨_, rfl⟩
  have hsz : s.size = m := by rw [hs, strN_size, hm]
  have HIX := Lib.hid (fun k (hk : k < ls.length) w => (by rw [hs]; exact idx_str ls HSM.out k hk w : (Instr.index 9 (.string s) (.int .i64 (k : Int))).run Tryd.prog w = .ok (.int .u8 ((ls[k] : Nat) : Int)) w))
  rw [← hs] at hsh
  have HSH := Lib.hid hsh
  have HM := Lib.hid hm
  rw [← hm] at hlen
  have HBX := Lib.hid hbx
  have HNEW := Lib.hid (heap_alloc_new w (.cells #[.int .i64 x.op, .int .i64 x.a, .int .i64 x.b, .int .i64 x.c, .int .i64 x.t, .int .i64 x.n] 43))
  have HT := Lib.hid hT
  have HX := Lib.hid hx
  have HL0 := Lib.hid (show wordL x.op = lineLs x (ls.take 0) by unfold lineLs; simp)
  unfold Ins.val
  clear hx hT hsh hls hs hm hbx
  go_enter Tryd.func56, Tryd.ntmps56
  go_wp2_with fail
  refine Calls.mono HW.out ?_
  rintro e w1 ⟨rfl, rfl⟩
  go_wp2_with fail
  refine Calls.mono HSH.out ?_
  rintro e w1 ⟨rfl, rfl⟩
  go_wp2_with fail
  go_loopw [3, 22] (fun t i wr => ∃ k : Nat, i = .int .i64 (k : Int) ∧ k ≤ m ∧ t = .string (tx (lineLs x (ls.take k))) ∧ Below w.heap.size w wr ∧ wr.heap[w.heap.size]? = some (.cells #[.int .i64 x.op, .int .i64 x.a, .int .i64 x.b, .int .i64 x.c, .int .i64 x.t, .int .i64 x.n] 43 (0, 0))) (fun _ i _ => m - (intOf i).toNat)
  case atStart => exact ⟨0, rfl, by omega, by rw [HL0.out], HBX.out, HNEW.out⟩
  case round =>
    obtain ⟨k, rfl, hk, rfl, hb, hbb⟩ := hrel
    have HB := Lib.hid hb
    have HBB := Lib.hid hbb
    by_cases hlt : k < m
    · have hkl : k < ls.length := by rw [← HM.out]; exact hlt
      have hix := HIX.out k hkl
      have HTK := Lib.hid (HTAKE.out k hkl)
      obtain ⟨l, hl⟩ : ∃ l, l = ls[k] := ⟨_, rfl⟩
      rw [← hl] at hix HTK
      clear hl
      have hol := offL_le l
      have HF := Lib.hid (fun (W : World) => (afield_any w.heap.size l W).mono fun e w' h => (⟨h.1, by rw [← h.2]; exact Below.refl _ _⟩ : e = .returned (.pointer (some ⟨w.heap.size, offL l, none⟩)) ∧ Below W.heap.size W w'))
      have hz := get_fits HX.out l
      have HWD := Lib.hid (show x.word l = fieldW l (x.get (offL l)) from rfl)
      obtain ⟨o, ho⟩ : ∃ o, o = offL l := ⟨_, rfl⟩
      rw [← ho] at HF hol HWD hz
      obtain ⟨z, hze⟩ : ∃ z, z = x.get o := ⟨_, rfl⟩
      rw [← hze] at HWD hz
      have hcv : wr.cell? ⟨w.heap.size, o, none⟩ = some (.int .i64 z) := by
        rw [cell_of_row wr _ _ _ 43 (0, 0) hbb, hze]
        have := get_at x o hol
        rw [← this]
        have h6 : o = 1 ∨ o = 2 ∨ o = 3 ∨ o = 4 ∨ o = 5 := by omega
        rcases h6 with rfl | rfl | rfl | rfl | rfl <;> rfl
      have hfl := fieldW_len l z hz
      have HSW := Lib.hid (fun (W : World) (h : Below wr.heap.size wr W) => show_any l z hz W (HT.out.ext (HB.out.trans (h.mono HB.out.size))))
      have hl1 := HLL.out k
      rw [List.length_take] at hl1
      have hs1 : 1 + (tx (fieldW l z)).size ≤ 9223372036854775807 := by rw [tx_size]; omega
      have hs2 : (tx (lineLs x (ls.take k))).size + (1 + (tx (fieldW l z)).size) ≤ 9223372036854775807 := by rw [tx_size, tx_size]; omega
      have HEND := Lib.hid (show tx (lineLs x (ls.take k)) ++ ({ data := #[32] } ++ tx (fieldW l z)) = tx (lineLs x (ls.take (k + 1))) by
        rw [HTK.out, HWD.out, ← tx_append, ← tx_append]; rfl)
      obtain ⟨a, ha⟩ : ∃ a, a = tx (lineLs x (ls.take k)) := ⟨_, rfl⟩
      obtain ⟨b, hb'⟩ : ∃ b, b = tx (fieldW l z) := ⟨_, rfl⟩
      rw [← ha] at hs2 HEND ⊢
      rw [← hb'] at hs1 hs2 HEND HSW
      have hs3 : ¬ 9223372036854775807 < 1 + b.size := by omega
      have hs4 : ¬ 9223372036854775807 < a.size + (1 + b.size) := by omega
      have HXX := Lib.hid (show ∀ w' : World, Below wr.heap.size wr w' → w'.cell? ⟨w.heap.size, o, none⟩ = some (.int .i64 z) ∧ Below wr.heap.size wr w' from fun w' h => ⟨(h.cell (p := ⟨w.heap.size, o, none⟩) (World.block_lt_of_cell? _ _ hcv)).trans hcv, h⟩)
      clear hb hbb hl1 hfl ha hb' hze ho hol hcv hz
      go_wp2_with fail
      go_region_held3 (fun w' => w'.cell? ⟨w.heap.size, o, none⟩ = some (.int .i64 z) ∧ Below wr.heap.size wr w')
        (first | exact HXX.out _ (Below.refl _ wr).drew | (go_split_ands; exact HXX.out _ (Below.trans (by assumption) (hbK.mono (Below.size (by assumption))))))
        (first | (go_at_call 82; go_split_ands; (with_reducible refine Calls.mono (HF.out _) ?_); rintro e w6 ⟨rfl, hbK⟩) | (go_at_call 81; go_split_ands; (with_reducible refine Calls.mono (HSW.out _ (by assumption)) ?_); rintro e w6 ⟨rfl, hbK⟩))
      all_goals
        rename_i hHeld
        have HHB := Lib.hid hHeld.2
        clear hHeld
        go_wp2_with fail
        go_roundw
        case rel => exact ⟨k + 1, by go_num, by omega, by rw [HEND.out], HB.out.trans (HHB.out.mono HB.out.size), box_later HBB.out HHB.out⟩
        case measure => simp [intOf]; omega
    · obtain rfl : k = m := by omega
      have HE := Lib.hid (show lineL x = lineLs x (ls.take k) by rw [HLINE.out, HM.out, List.take_length])
      go_wp2_with fail
      go_ret
      exact ⟨ret_str (by rw [HE.out]), HB.out⟩
end Go.Proofs.YtkeckjgihjpfbaaDoor

/- Layer 7: the document's line. -/
namespace Go.Proofs.YtkeckjgihjpfbaaDoor
set_option maxRecDepth 100000
open Go.RowKit
attribute [local go_sem ↓] Go.wp_at_zero Go.wp_at_succ

theorem sz_le (l : List UInt8) (h : l.length ≤ 100000) : (tx l).size ≤ 100000 := by rw [tx_size]; exact h
set_option maxHeartbeats 16000000 in
theorem refline_any (x : Ins) (hx : x.Ok) (w : World) : Calls Tryd.prog 36 #[x.val] w fun e w' => e = .returned (.string (tx (lineL x))) ∧ Below w.heap.size w w' := by
  obtain ⟨ls, hls⟩ : ∃ ls, ls = shapeL x.op := ⟨_, rfl⟩
  have HSM := Lib.hid (show ∀ y ∈ ls, y < 256 by rw [hls]; exact shapeL_small _)
  have hlen : ls.length ≤ 5 := by rw [hls]; exact shapeL_len _
  have HLINE := Lib.hid (show lineL x = lineLs x ls by unfold lineL; rw [← hls])
  have HLL := Lib.hid (fun k => lineLs_len hx (ls.take k))
  have HTAKE := Lib.hid (lineLs_take x ls)
  have hbx := (Below.refl w.heap.size w).alloc (Nat.le_refl _) (.cells #[.int .i64 x.op, .int .i64 x.a, .int .i64 x.b, .int .i64 x.c, .int .i64 x.t, .int .i64 x.n] 43)
  have HW := Lib.hid (refword_any x.op (w.alloc (.cells #[.int .i64 x.op, .int .i64 x.a, .int .i64 x.b, .int .i64 x.c, .int .i64 x.t, .int .i64 x.n] 43)))
  have hsh := fun w => refshape_any x.op w
  rw [← hls] at hsh
  obtain ⟨s, hs⟩ : ∃ s, s = strN ls := ⟨_, rfl⟩
  obtain ⟨m, hm⟩ : ∃ m, m = ls.length := ⟨_, rfl⟩
  have hsz : s.size = m := by rw [hs, strN_size, hm]
  have HIX := Lib.hid (fun k (hk : k < ls.length) w => (by rw [hs]; exact idx_str ls HSM.out k hk w : (Instr.index 9 (.string s) (.int .i64 (k : Int))).run Tryd.prog w = .ok (.int .u8 ((ls[k] : Nat) : Int)) w))
  rw [← hs] at hsh
  have HSH := Lib.hid hsh
  have HM := Lib.hid hm
  rw [← hm] at hlen
  have HBX := Lib.hid hbx
  have HNEW := Lib.hid (heap_alloc_new w (.cells #[.int .i64 x.op, .int .i64 x.a, .int .i64 x.b, .int .i64 x.c, .int .i64 x.t, .int .i64 x.n] 43))
  have HX := Lib.hid hx
  have HL0 := Lib.hid (show wordL x.op = lineLs x (ls.take 0) by unfold lineLs; simp)
  have HVAL := Lib.hid (fun (l : Nat) (W : World) => (by have h := rvalue_any x l W; unfold Ins.val at h; exact h : Calls Tryd.prog 62 #[.agg #[.int .i64 x.op, .int .i64 x.a, .int .i64 x.b, .int .i64 x.c, .int .i64 x.t, .int .i64 x.n], .int .u8 (l : Int)] W fun e w' => e = .returned (.int .i64 (x.get (offL l))) ∧ Below W.heap.size W w'))
  unfold Ins.val
  clear hx hsh hls hs hm hbx
  go_enter Tryd.func36, Tryd.ntmps36
  go_wp2_with fail
  refine Calls.mono HW.out ?_
  rintro e w1 ⟨rfl, hb1⟩
  have HB1 := Lib.hid (HBX.out.trans (hb1.mono HBX.out.size))
  have HN1 := Lib.hid (box_later HNEW.out hb1)
  have g0 : w1.cell? ⟨w.heap.size, 0, none⟩ = some (.int .i64 x.op) := cell_of_row w1 _ 0 _ 43 (0, 0) HN1.out
  clear hb1
  go_wp2_with fail
  refine Calls.mono (HSH.out _) ?_
  rintro e w2 ⟨rfl, rfl⟩
  go_wp2_with fail
  clear g0
  go_loopw [3, 5] (fun t i wr => ∃ k : Nat, i = .int .i64 (k : Int) ∧ k ≤ m ∧ t = .string (tx (lineLs x (ls.take k))) ∧ Below w.heap.size w wr ∧ wr.heap[w.heap.size]? = some (.cells #[.int .i64 x.op, .int .i64 x.a, .int .i64 x.b, .int .i64 x.c, .int .i64 x.t, .int .i64 x.n] 43 (0, 0))) (fun _ i _ => m - (intOf i).toNat)
  case atStart => exact ⟨0, rfl, by omega, by rw [HL0.out], HB1.out, HN1.out⟩
  case round =>
    obtain ⟨k, rfl, hk, rfl, hb, hbb⟩ := hrel
    have HB := Lib.hid hb
    have HBB := Lib.hid hbb
    by_cases hlt : k < m
    · have hkl : k < ls.length := by rw [← HM.out]; exact hlt
      have hix := HIX.out k hkl
      have HTK := Lib.hid (HTAKE.out k hkl)
      obtain ⟨l, hl⟩ : ∃ l, l = ls[k] := ⟨_, rfl⟩
      rw [← hl] at hix HTK
      clear hl
      have HV := Lib.hid (HVAL.out l)
      have hz := get_fits HX.out l
      have HWD := Lib.hid (show x.word l = fieldW l (x.get (offL l)) from rfl)
      obtain ⟨z, hze⟩ : ∃ z, z = x.get (offL l) := ⟨_, rfl⟩
      rw [← hze] at HWD hz HV
      have hl1 := HLL.out k
      rw [List.length_take] at hl1
      have hsa : (tx (lineLs x (ls.take k))).size ≤ 120 := by rw [tx_size]; omega
      have hsb : (tx (Lib.itoa z)).size ≤ 21 := by rw [tx_size]; exact itoa_len z hz
      have HFG := Lib.hid (figures_any z hz)
      have HSG := Lib.hid (sign_any z)
      have HTX := Lib.hid (fun (b : List UInt8) (h : fieldW l z = b) => (by rw [HTK.out, HWD.out, h, ← tx_append, ← tx_append, ByteArray.append_assoc]; rfl : tx (lineLs x (ls.take (k + 1))) = tx (lineLs x (ls.take k)) ++ { data := #[32] } ++ tx b))
      have hss := sz_le (signL z) (by have := sign_len z; omega)
      obtain ⟨a, ha⟩ : ∃ a, a = tx (lineLs x (ls.take k)) := ⟨_, rfl⟩
      obtain ⟨b, hb'⟩ : ∃ b, b = tx (Lib.itoa z) := ⟨_, rfl⟩
      obtain ⟨sg, hsg⟩ : ∃ b, b = tx (signL z) := ⟨_, rfl⟩
      have HBE := Lib.hid hb'
      have HSE := Lib.hid hsg
      rw [← ha] at hsa HTX ⊢
      rw [← hb'] at hsb HFG
      rw [← hsg] at hss HSG
      have hs1 : a.size + 1 ≤ 9223372036854775807 := by omega
      have hs2 : a.size + 1 + 1 ≤ 9223372036854775807 := by omega
      have hs3 : a.size + 1 + 1 + b.size ≤ 9223372036854775807 := by omega
      have hs4 : a.size + 1 + b.size ≤ 9223372036854775807 := by omega
      have hs5 : a.size + 1 + sg.size ≤ 9223372036854775807 := by omega
      have HXX := Lib.hid (show ∀ w' : World, Below wr.heap.size wr w' → w'.cell? ⟨w.heap.size, 0, none⟩ = some (.int .i64 x.op) ∧ w'.cell? ⟨w.heap.size, 1, none⟩ = some (.int .i64 x.a) ∧ w'.cell? ⟨w.heap.size, 2, none⟩ = some (.int .i64 x.b) ∧ w'.cell? ⟨w.heap.size, 3, none⟩ = some (.int .i64 x.c) ∧ w'.cell? ⟨w.heap.size, 4, none⟩ = some (.int .i64 x.t) ∧ w'.cell? ⟨w.heap.size, 5, none⟩ = some (.int .i64 x.n) ∧ Below wr.heap.size wr w' from fun w' h =>
        ⟨cell_of_row w' _ 0 _ 43 (0, 0) (box_later HBB.out h), cell_of_row w' _ 1 _ 43 (0, 0) (box_later HBB.out h), cell_of_row w' _ 2 _ 43 (0, 0) (box_later HBB.out h), cell_of_row w' _ 3 _ 43 (0, 0) (box_later HBB.out h), cell_of_row w' _ 4 _ 43 (0, 0) (box_later HBB.out h), cell_of_row w' _ 5 _ 43 (0, 0) (box_later HBB.out h), h⟩)
      clear hb hbb hl1 ha hb' hsg hze hz hsa hsb hss
      go_wp2_with fail
      go_region_held3 (fun w' => w'.cell? ⟨w.heap.size, 0, none⟩ = some (.int .i64 x.op) ∧ w'.cell? ⟨w.heap.size, 1, none⟩ = some (.int .i64 x.a) ∧ w'.cell? ⟨w.heap.size, 2, none⟩ = some (.int .i64 x.b) ∧ w'.cell? ⟨w.heap.size, 3, none⟩ = some (.int .i64 x.c) ∧ w'.cell? ⟨w.heap.size, 4, none⟩ = some (.int .i64 x.t) ∧ w'.cell? ⟨w.heap.size, 5, none⟩ = some (.int .i64 x.n) ∧ Below wr.heap.size wr w')
        (first | exact HXX.out _ (Below.refl _ wr).drew | (go_split_ands; exact HXX.out _ (Below.trans (by assumption) (hbK.mono (Below.size (by assumption))))))
        (first | (go_at_call 62; go_split_ands; (with_reducible refine Calls.mono (HV.out _) ?_); rintro e w6 ⟨rfl, hbK⟩))
      all_goals
        rename_i hHeld
        have HHB := Lib.hid hHeld.2.2.2.2.2.2
        clear hHeld
        clear hbK
        rename World => w7
        by_cases h1 : l = 97 ∨ l = 98 ∨ l = 99
        · have HE := Lib.hid (show fieldW l z = [114] ++ Lib.itoa z by unfold fieldW markL; rw [if_neg (by omega), if_pos h1])
          rcases h1 with rfl | rfl | rfl
          all_goals
            go_wp2_with fail
            refine Calls.mono (HFG.out _) ?_
            rintro e w8 ⟨rfl, rfl⟩
            go_wp2_with fail
            go_roundw
            case rel => exact ⟨k + 1, by go_num, by omega, by rw [HTX.out _ HE.out, ← tx_append, ← HBE.out, ← ByteArray.append_assoc]; rfl, HB.out.trans (HHB.out.mono HB.out.size), box_later HBB.out HHB.out⟩
            case measure => simp [intOf]; omega
        · have d1 : ((l : Int) == 97) = false := by rw [beq_eq_false_iff_ne]; omega
          have d2 : ((l : Int) == 98) = false := by rw [beq_eq_false_iff_ne]; omega
          have d3 : ((l : Int) == 99) = false := by rw [beq_eq_false_iff_ne]; omega
          by_cases h2 : l = 116
          · have HE := Lib.hid (show fieldW l z = [116] ++ Lib.itoa z by unfold fieldW markL; rw [if_neg (by omega), if_neg h1, if_pos h2])
            subst h2
            clear h1
            go_wp2_with fail
            refine Calls.mono (HFG.out _) ?_
            rintro e w8 ⟨rfl, rfl⟩
            go_wp2_with fail
            go_roundw
            case rel => exact ⟨k + 1, by go_num, by omega, by rw [HTX.out _ HE.out, ← tx_append, ← HBE.out, ← ByteArray.append_assoc]; rfl, HB.out.trans (HHB.out.mono HB.out.size), box_later HBB.out HHB.out⟩
            case measure => simp [intOf]; omega
          · have d4 : ((l : Int) == 116) = false := by rw [beq_eq_false_iff_ne]; omega
            by_cases h3 : l = 106
            · have HE := Lib.hid (show fieldW l z = signL z by unfold fieldW; rw [if_pos h3])
              subst h3
              clear h1 h2
              go_wp2_with fail
              refine Calls.mono (HSG.out _) ?_
              rintro e w8 ⟨rfl, rfl⟩
              go_wp2_with fail
              go_roundw
              case rel => exact ⟨k + 1, by go_num, by omega, by rw [HTX.out _ HE.out, ← HSE.out], HB.out.trans (HHB.out.mono HB.out.size), box_later HBB.out HHB.out⟩
              case measure => simp [intOf]; omega
            · have d5 : ((l : Int) == 106) = false := by rw [beq_eq_false_iff_ne]; omega
              have HE := Lib.hid (show fieldW l z = Lib.itoa z by unfold fieldW markL; rw [if_neg h3, if_neg h1, if_neg h2]; rfl)
              clear h1 h2 h3
              go_wp2_with fail
              refine Calls.mono (HFG.out _) ?_
              rintro e w8 ⟨rfl, rfl⟩
              go_wp2_with fail
              go_roundw
              case rel => exact ⟨k + 1, by go_num, by omega, by rw [HTX.out _ HE.out, ← HBE.out], HB.out.trans (HHB.out.mono HB.out.size), box_later HBB.out HHB.out⟩
              case measure => simp [intOf]; omega
    · obtain rfl : k = m := by omega
      have HE := Lib.hid (show lineL x = lineLs x (ls.take k) by rw [HLINE.out, HM.out, List.take_length])
      go_wp2_with fail
      go_ret
      exact ⟨ret_str (by rw [HE.out]), HB.out⟩
end Go.Proofs.YtkeckjgihjpfbaaDoor

/- Layer 7: a program's text, and the document's. -/
namespace Go.Proofs.YtkeckjgihjpfbaaDoor
set_option maxRecDepth 100000
open Go.RowKit
attribute [local go_sem ↓] Go.wp_at_zero Go.wp_at_succ

def headL (f : Int) : List UInt8 := [102, 117, 101, 108, 32] ++ Lib.itoa f ++ [10]
def printLs (f : Int) (l : List Ins) : List UInt8 := headL f ++ l.flatMap fun x => lineL x ++ [10]
theorem printLs_take (f : Int) (l : List Ins) (k : Nat) (hk : k < l.length) : printLs f (l.take (k + 1)) = printLs f (l.take k) ++ (lineL l[k] ++ [10]) := by
  unfold printLs
  rw [List.take_succ_eq_append_getElem hk, List.flatMap_append, List.flatMap_singleton, List.append_assoc]
theorem lineL_len {x : Ins} (h : x.Ok) : (lineL x).length ≤ 120 := by
  have h1 := lineLs_len h (shapeL x.op)
  have h2 := shapeL_len x.op
  unfold lineL
  omega
theorem printLs_len {f : Int} (hf : Fits f) (l : List Ins) (h : ∀ x ∈ l, x.Ok) : (printLs f l).length ≤ 27 + l.length * 121 := by
  unfold printLs headL
  have h1 := itoa_len f hf
  have h2 : (l.flatMap fun x => lineL x ++ [10]).length ≤ l.length * 121 := by
    induction l with
    | nil => simp
    | cons x l ih =>
      have h3 := lineL_len (h x (List.mem_cons_self ..))
      have h4 := ih fun y hy => h y (List.mem_cons_of_mem _ hy)
      simp only [List.flatMap_cons, List.length_append, List.length_cons, List.length_nil]
      omega
  simp only [List.length_append]
  show 5 + _ + 1 + _ ≤ _
  omega
def PrintE (f : Int) (l : List Ins) (w w' : World) (e : Ending) : Prop :=
  (chk f l = -2 ∧ e = .returned (.tuple #[.string (tx (printLs f l)), .nilIface])) ∨
  (chk f l ≠ -2 ∧ ∃ b, e = .returned (.tuple #[.string { data := #[] }, .iface 72 (.pointer (some ⟨b, 0, none⟩))]) ∧ w.heap.size ≤ b ∧ FaultAt w' b (chk f l))
theorem ret_two {a b : ByteArray} {v : Value} (h : a = b) : Ending.returned (.tuple #[.string a, v]) = Ending.returned (.tuple #[.string b, v]) := by rw [h]
set_option maxHeartbeats 8000000 in
theorem print_any (f : Int) (hf : Fits f) (A : Option Addr) (n c : Nat) (l : List Ins) (w : World) (hT : AT w) (hC : Codes w A n l) (hn : n ≤ 9223372036854775807) (hok : ∀ x ∈ l, x.Ok) :
    Calls Tryd.prog 29 #[.agg #[.int .i64 f, .slice A n c]] w fun e w' => PrintE f l w w' e ∧ Below w.heap.size w w' := by
  have hb1 := (Below.refl w.heap.size w).alloc (Nat.le_refl _) (.cells #[.int .i64 f, .slice A n c] 24)
  have HB1 := Lib.hid hb1
  have HN1 := Lib.hid (one_new w (.cells #[.int .i64 f, .slice A n c] 24))
  have HT := Lib.hid hT
  have HC := Lib.hid hC
  have HL := Lib.hid hC.len
  have HOK := Lib.hid hok
  have HF := Lib.hid hf
  have HCK := Lib.hid (check_any f A n c l _ (hT.ext hb1).shapes (hC.ext (stays_b hb1)) hn)
  clear hb1 hT hC hok hf
  go_enter Tryd.func29, Tryd.ntmps29
  go_wp2_with fail
  refine Calls.mono HCK.out ?_
  rintro e w2 ⟨he, hb2⟩
  have HB2 := Lib.hid (HB1.out.trans (hb2.mono HB1.out.size))
  have HBX2 := Lib.hid (box_later HN1.out hb2)
  have hz1 := hb2.size
  rw [World.size_alloc] at hz1
  clear hb2
  rcases he with ⟨hck, rfl⟩ | ⟨hck, b, rfl, hbl, hfa⟩
  · have HCK2 := Lib.hid hck
    have hn32 : n ≤ 32 := by have := HL.out; have := chk_good hck; omega
    have g0 : w2.cell? ⟨w.heap.size, 0, none⟩ = some (.int .i64 f) := cell_of_row w2 _ 0 _ 24 (0, 0) HBX2.out
    have HI := Lib.hid (Tryd.strconv_Itoa f HF.out.1 HF.out.2 w2 (HT.out.ext HB2.out).pow)
    have hs1 : (tx (Lib.itoa f)).size ≤ 21 := by rw [tx_size]; exact itoa_len f HF.out
    have HHD := Lib.hid (show { data := #[102, 117, 101, 108, 32] } ++ tx (Lib.itoa f) ++ { data := #[10] } = tx (printLs f (l.take 0)) by
      unfold printLs headL
      rw [show (l.take 0).flatMap (fun x => lineL x ++ [10]) = [] from rfl, List.append_nil, ← tx_append, ← tx_append]; rfl)
    change Hid (Calls _ _ _ _ fun e w' => e = .returned (.string (tx (Lib.itoa f))) ∧ _) at HI
    obtain ⟨s, hs⟩ : ∃ s, s = tx (Lib.itoa f) := ⟨_, rfl⟩
    rw [← hs] at HI hs1 HHD
    have hs2 : 5 + s.size ≤ 9223372036854775807 := by omega
    have hs3 : 5 + s.size + 1 ≤ 9223372036854775807 := by omega
    clear hck hs
    go_wp2_with fail
    refine Calls.mono HI.out ?_
    rintro e w3 ⟨rfl, kk, os, hw3⟩
    have hb3 : Below w2.heap.size w2 w3 := hw3 ▸ below_grow kk os
    have HB3 := Lib.hid (HB2.out.trans (hb3.mono HB2.out.size))
    have HBX3 := Lib.hid (box_later HBX2.out hb3)
    have g1 : w3.cell? ⟨w.heap.size, 1, none⟩ = some (.slice A n c) := cell_of_row w3 _ 1 _ 24 (0, 0) HBX3.out
    clear hb3 hw3 g0
    go_wp2_with fail
    clear g1
    go_loopw [5, 21] (fun t i wr => ∃ k : Nat, i = .int .i64 (k : Int) ∧ k ≤ n ∧ t = .string (tx (printLs f (l.take k))) ∧ Below w.heap.size w wr) (fun _ i _ => n - (intOf i).toNat)
    case atStart => exact ⟨0, rfl, by omega, by rw [← HHD.out], HB3.out⟩
    case round =>
      obtain ⟨k, rfl, hk, rfl, hb⟩ := hrel
      have HB := Lib.hid hb
      clear hb
      by_cases hlt : k < n
      · have hkl : k < l.length := by rw [HL.out]; exact hlt
        obtain ⟨b, off, rfl, hc⟩ := (HC.out.ext (stays_b HB.out)).cells (by omega)
        obtain ⟨p0, p1, p2, p3, p4, p5⟩ := hc k hkl
        have HTK := Lib.hid (printLs_take f l k hkl)
        have hxo := HOK.out _ (List.getElem_mem hkl)
        obtain ⟨x, hx⟩ : ∃ x, x = l[k] := ⟨_, rfl⟩
        rw [← hx] at p0 p1 p2 p3 p4 p5 HTK hxo
        have hbx := (Below.refl wr.heap.size wr).alloc (Nat.le_refl _) (.cells #[.int .i64 x.op, .int .i64 x.a, .int .i64 x.b, .int .i64 x.c, .int .i64 x.t, .int .i64 x.n] 43)
        have HBX := Lib.hid (HB.out.trans (hbx.mono HB.out.size))
        have HLN := line_any x hxo _ (HT.out.ext HBX.out)
        unfold Ins.val at HLN
        have hl1 := printLs_len HF.out (l.take k) (fun y hy => HOK.out y (List.mem_of_mem_take hy))
        rw [List.length_take] at hl1
        have hl2 := lineL_len hxo
        have hsa : (tx (printLs f (l.take k))).size ≤ 100000 := by rw [tx_size]; omega
        have hsb : (tx (lineL x)).size ≤ 120 := by rw [tx_size]; omega
        have HEND := Lib.hid (show tx (printLs f (l.take k)) ++ (tx (lineL x) ++ { data := #[10] }) = tx (printLs f (l.take (k + 1))) by rw [HTK.out, ← tx_append, ← tx_append]; rfl)
        obtain ⟨a, ha⟩ : ∃ a, a = tx (printLs f (l.take k)) := ⟨_, rfl⟩
        obtain ⟨q, hq⟩ : ∃ q, q = tx (lineL x) := ⟨_, rfl⟩
        rw [← ha] at hsa HEND ⊢
        rw [← hq] at hsb HEND HLN
        have HLN := Lib.hid HLN
        have hs4 : q.size + 1 ≤ 9223372036854775807 := by omega
        have hs5 : a.size + (q.size + 1) ≤ 9223372036854775807 := by omega
        clear hc hx hxo hbx ha hq hl1 hl2 hsa hsb
        go_wp2_with fail
        refine Calls.mono HLN.out ?_
        rintro e w4 ⟨rfl, hb4⟩
        have HB4 := Lib.hid (HBX.out.trans (hb4.mono HBX.out.size))
        clear hb4
        go_wp2_with fail
        go_roundw
        case rel => exact ⟨k + 1, by go_num, by omega, by rw [HEND.out], HB4.out⟩
        case measure => simp [intOf]; omega
      · obtain rfl : k = n := by omega
        have HE := Lib.hid (show printLs f l = printLs f (l.take k) by rw [← HL.out, List.take_length])
        go_wp2_with fail
        go_ret2
        exact ⟨.inl ⟨HCK2.out, ret_two (by rw [HE.out])⟩, HB.out⟩
  · have HCK2 := Lib.hid hck
    have HFA := Lib.hid hfa
    clear hck hfa
    go_wp2_with fail
    go_ret2
    exact ⟨.inr ⟨HCK2.out, b, rfl, by rw [World.size_alloc] at hbl; omega, HFA.out⟩, HB2.out⟩
set_option maxHeartbeats 8000000 in
theorem refprint_any (f : Int) (hf : Fits f) (A : Option Addr) (n c : Nat) (l : List Ins) (w : World) (hC : Codes w A n l) (hn : n ≤ 100) (hok : ∀ x ∈ l, x.Ok) :
    Calls Tryd.prog 31 #[.agg #[.int .i64 f, .slice A n c]] w fun e w' => e = .returned (.string (tx (printLs f l))) ∧ Below w.heap.size w w' := by
  have HB1 := Lib.hid ((Below.refl w.heap.size w).alloc (Nat.le_refl _) (.cells #[.int .i64 f, .slice A n c] 24))
  have HN1 := Lib.hid (one_new w (.cells #[.int .i64 f, .slice A n c] 24))
  have HC := Lib.hid hC
  have HL := Lib.hid hC.len
  have HOK := Lib.hid hok
  have HF := Lib.hid hf
  have HI := Lib.hid (figures_any f hf)
  have hs1 : (tx (Lib.itoa f)).size ≤ 21 := by rw [tx_size]; exact itoa_len f hf
  have HHD := Lib.hid (show { data := #[102, 117, 101, 108, 32] } ++ tx (Lib.itoa f) ++ { data := #[10] } = tx (printLs f (l.take 0)) by
    unfold printLs headL
    rw [show (l.take 0).flatMap (fun x => lineL x ++ [10]) = [] from rfl, List.append_nil, ← tx_append, ← tx_append]; rfl)
  obtain ⟨s, hs⟩ : ∃ s, s = tx (Lib.itoa f) := ⟨_, rfl⟩
  rw [← hs] at HI hs1 HHD
  have hs2 : 5 + s.size ≤ 9223372036854775807 := by omega
  have hs3 : 5 + s.size + 1 ≤ 9223372036854775807 := by omega
  clear hC hok hf hs
  go_enter Tryd.func31, Tryd.ntmps31
  go_wp2_with fail
  refine Calls.mono (HI.out _) ?_
  rintro e w2 ⟨rfl, rfl⟩
  go_wp2_with fail
  go_loopw [3, 4] (fun t i wr => ∃ k : Nat, i = .int .i64 (k : Int) ∧ k ≤ n ∧ t = .string (tx (printLs f (l.take k))) ∧ Below w.heap.size w wr ∧ wr.heap[w.heap.size]? = some (.cells #[.int .i64 f, .slice A n c] 24 (0, 0))) (fun _ i _ => n - (intOf i).toNat)
  case atStart => exact ⟨0, rfl, by omega, by rw [← HHD.out], HB1.out, HN1.out⟩
  case round =>
    obtain ⟨k, rfl, hk, rfl, hb, hbb⟩ := hrel
    have HB := Lib.hid hb
    have HBB := Lib.hid hbb
    have g1 : wr.cell? ⟨w.heap.size, 1, none⟩ = some (.slice A n c) := cell_of_row wr _ 1 _ 24 (0, 0) hbb
    clear hb hbb
    by_cases hlt : k < n
    · have hkl : k < l.length := by rw [HL.out]; exact hlt
      obtain ⟨b, off, rfl, hc⟩ := (HC.out.ext (stays_b HB.out)).cells (by omega)
      obtain ⟨p0, p1, p2, p3, p4, p5⟩ := hc k hkl
      have HTK := Lib.hid (printLs_take f l k hkl)
      have hxo := HOK.out _ (List.getElem_mem hkl)
      obtain ⟨x, hx⟩ : ∃ x, x = l[k] := ⟨_, rfl⟩
      rw [← hx] at p0 p1 p2 p3 p4 p5 HTK hxo
      have HLN := fun W => refline_any x hxo W
      unfold Ins.val at HLN
      have hl1 := printLs_len HF.out (l.take k) (fun y hy => HOK.out y (List.mem_of_mem_take hy))
      rw [List.length_take] at hl1
      have hl2 := lineL_len hxo
      have hsa : (tx (printLs f (l.take k))).size ≤ 100000 := by rw [tx_size]; omega
      have hsb : (tx (lineL x)).size ≤ 120 := by rw [tx_size]; omega
      have HEND := Lib.hid (show tx (printLs f (l.take k)) ++ tx (lineL x) ++ { data := #[10] } = tx (printLs f (l.take (k + 1))) by rw [HTK.out, ← tx_append, ← tx_append, ByteArray.append_assoc]; rfl)
      obtain ⟨a, ha⟩ : ∃ a, a = tx (printLs f (l.take k)) := ⟨_, rfl⟩
      obtain ⟨q, hq⟩ : ∃ q, q = tx (lineL x) := ⟨_, rfl⟩
      rw [← ha] at hsa HEND ⊢
      rw [← hq] at hsb HEND HLN
      have HLN := Lib.hid HLN
      have hs4 : a.size + q.size ≤ 9223372036854775807 := by omega
      have hs5 : a.size + q.size + 1 ≤ 9223372036854775807 := by omega
      clear hc hx hxo ha hq hl1 hl2 hsa hsb
      go_wp2_with fail
      refine Calls.mono (HLN.out _) ?_
      rintro e w4 ⟨rfl, hb4⟩
      have HB4 := Lib.hid (HB.out.trans (hb4.mono HB.out.size))
      have HBB4 := Lib.hid (box_later HBB.out hb4)
      clear hb4 g1
      go_wp2_with fail
      go_roundw
      case rel => exact ⟨k + 1, by go_num, by omega, by rw [HEND.out], HB4.out, HBB4.out⟩
      case measure => simp [intOf]; omega
    · obtain rfl : k = n := by omega
      have HE := Lib.hid (show printLs f l = printLs f (l.take k) by rw [← HL.out, List.take_length])
      go_wp2_with fail
      go_ret
      exact ⟨ret_str (by rw [HE.out]), HB.out⟩
end Go.Proofs.YtkeckjgihjpfbaaDoor

/- Layer 7, of no program: texts of unlike programs are unlike; how many lines there are. -/
namespace Go.Proofs.YtkeckjgihjpfbaaDoor
set_option maxRecDepth 100000

theorem split_inj {c : UInt8} : ∀ (a b s t : List UInt8), c ∉ a → c ∉ b → a ++ c :: s = b ++ c :: t → a = b ∧ s = t
  | [], [], s, t, _, _, h => by simpa using h
  | [], y :: b, s, t, _, hb, h => by simp at h; exact absurd h.1 (fun e => hb (by simp [e]))
  | x :: a, [], s, t, ha, _, h => by simp at h; exact absurd h.1 (fun e => ha (by simp [e]))
  | x :: a, y :: b, s, t, ha, hb, h => by
    simp only [List.cons_append, List.cons.injEq] at h
    have h2 := split_inj a b s t (fun m => ha (List.mem_cons_of_mem _ m)) (fun m => hb (List.mem_cons_of_mem _ m)) h.2
    exact ⟨by rw [h.1, h2.1], h2.2⟩
theorem seps_inj {c : UInt8} : ∀ (ws vs : List (List UInt8)) (a b : List UInt8), c ∉ a → c ∉ b → (∀ w ∈ ws, c ∉ w) → (∀ v ∈ vs, c ∉ v) → a ++ ws.flatMap (fun w => c :: w) = b ++ vs.flatMap (fun w => c :: w) → a = b ∧ ws = vs
  | [], [], a, b, _, _, _, _, h => by simpa using h
  | [], v :: vs, a, b, ha, _, _, _, h => by
    simp only [List.flatMap_nil, List.append_nil, List.flatMap_cons, List.cons_append] at h
    exact absurd (by rw [h]; simp) ha
  | w :: ws, [], a, b, _, hb, _, _, h => by
    simp only [List.flatMap_nil, List.append_nil, List.flatMap_cons, List.cons_append] at h
    exact absurd (by rw [← h]; simp) hb
  | w :: ws, v :: vs, a, b, ha, hb, hw, hv, h => by
    simp only [List.flatMap_cons, List.cons_append] at h
    obtain ⟨h1, h2⟩ := split_inj a b _ _ ha hb h
    obtain ⟨h3, h4⟩ := seps_inj ws vs w v (hw w (List.mem_cons_self ..)) (hv v (List.mem_cons_self ..)) (fun x m => hw x (List.mem_cons_of_mem _ m)) (fun x m => hv x (List.mem_cons_of_mem _ m)) h2
    exact ⟨h1, by rw [h3, h4]⟩
theorem terms_inj {c : UInt8} : ∀ (ws vs : List (List UInt8)), (∀ w ∈ ws, c ∉ w) → (∀ v ∈ vs, c ∉ v) → ws.flatMap (fun w => w ++ [c]) = vs.flatMap (fun w => w ++ [c]) → ws = vs
  | [], [], _, _, _ => rfl
  | [], v :: vs, _, _, h => by simp at h
  | w :: ws, [], _, _, h => by simp at h
  | w :: ws, v :: vs, hw, hv, h => by
    simp only [List.flatMap_cons, List.append_assoc, List.singleton_append] at h
    obtain ⟨h1, h2⟩ := split_inj w v _ _ (hw w (List.mem_cons_self ..)) (hv v (List.mem_cons_self ..)) h
    rw [h1, terms_inj ws vs (fun x m => hw x (List.mem_cons_of_mem _ m)) (fun x m => hv x (List.mem_cons_of_mem _ m)) h2]

/-- What figures are worth. -/
def valD (l : List UInt8) : Nat := l.foldl (fun a b => 10 * a + (b.toNat - 48)) 0
theorem digit_nat (d : Nat) (h : d < 10) : (UInt8.ofNat (48 + d)).toNat = 48 + d := by rw [UInt8.toNat_ofNat']; omega
theorem valD_dec (u : Nat) : valD (Lib.decDigits u) = u := by
  induction u using Nat.strongRecOn with
  | ind u ih =>
    by_cases h : u < 10
    · rw [digit_one u h]
      unfold valD
      simp only [List.foldl_cons, List.foldl_nil, digit_nat u h]
      omega
    · rw [Lib.decDigits, dif_neg h]
      have h2 := ih (u / 10) (by omega)
      unfold valD at h2 ⊢
      rw [List.foldl_append, h2]
      simp only [List.foldl_cons, List.foldl_nil, digit_nat (u % 10) (Nat.mod_lt _ (by omega))]
      omega
theorem dec_mem (u : Nat) : ∀ b ∈ Lib.decDigits u, 48 ≤ b.toNat ∧ b.toNat ≤ 57 := by
  induction u using Nat.strongRecOn with
  | ind u ih =>
    intro b hb
    by_cases h : u < 10
    · rw [digit_one u h, List.mem_singleton] at hb
      rw [hb, digit_nat u h]; omega
    · rw [Lib.decDigits, dif_neg h] at hb
      rcases List.mem_append.1 hb with hb | hb
      · exact ih (u / 10) (by omega) b hb
      · rw [List.mem_singleton.1 hb, digit_nat (u % 10) (Nat.mod_lt _ (by omega))]; omega
theorem itoa_mem (z : Int) : ∀ b ∈ Lib.itoa z, b.toNat = 45 ∨ 48 ≤ b.toNat ∧ b.toNat ≤ 57 := by
  intro b hb
  unfold Lib.itoa at hb
  split at hb
  · rcases List.mem_cons.1 hb with rfl | hb
    · exact .inl rfl
    · exact .inr (dec_mem _ b hb)
  · exact .inr (dec_mem _ b hb)
theorem itoa_inj {z y : Int} (h : Lib.itoa z = Lib.itoa y) : z = y := by
  unfold Lib.itoa at h
  have hm : ∀ u v : Nat, 45 :: Lib.decDigits u ≠ Lib.decDigits v := fun u v e => by
    have := dec_mem v 45 (by rw [← e]; simp)
    have e : (45 : UInt8).toNat = 45 := rfl
    omega
  split at h
  · split at h
    · simp only [List.cons.injEq, true_and] at h
      have := congrArg valD h
      rw [valD_dec, valD_dec] at this
      omega
    · exact absurd h (hm _ _)
  · split at h
    · exact absurd h.symm (hm _ _)
    · have := congrArg valD h
      rw [valD_dec, valD_dec] at this
      omega
theorem mem_not {l : List UInt8} {c : UInt8} (h : ∀ b ∈ l, b.toNat ≠ c.toNat) : c ∉ l := fun m => h c m rfl
theorem mark_mem (l : Nat) : ∀ b ∈ markL l, b.toNat = 114 ∨ b.toNat = 116 := by
  intro b hb
  unfold markL at hb
  split at hb
  · rw [List.mem_singleton.1 hb]; exact .inl rfl
  · split at hb
    · rw [List.mem_singleton.1 hb]; exact .inr rfl
    · cases hb
theorem sign_mem (z : Int) : ∀ b ∈ signL z, 60 ≤ b.toNat ∧ b.toNat ≤ 63 := by
  intro b hb
  unfold signL at hb
  split at hb
  · rw [List.mem_singleton.1 hb]; decide
  · split at hb
    · rw [List.mem_singleton.1 hb]; decide
    · split at hb
      · rw [List.mem_singleton.1 hb]; decide
      · split at hb
        · simp only [List.mem_cons, List.not_mem_nil, or_false] at hb
          rcases hb with rfl | rfl <;> decide
        · rw [List.mem_singleton.1 hb]; decide
/-- No blank and no line's end in a field's word. -/
theorem fieldW_mem (l : Nat) (z : Int) : ∀ b ∈ fieldW l z, 33 ≤ b.toNat := by
  intro b hb
  unfold fieldW at hb
  split at hb
  · have := sign_mem z b hb; omega
  · rcases List.mem_append.1 hb with hb | hb
    · have := mark_mem l b hb; omega
    · have := itoa_mem z b hb; omega
theorem word_mem (op : Int) : ∀ b ∈ wordL op, 33 ≤ b.toNat := by
  intro b hb
  have hall : wordsS.all (fun w => w.all fun b => decide (33 ≤ b.toNat)) = true := by decide +kernel
  unfold wordL at hb
  split at hb
  · cases hg : wordsS[op.toNat]? with
    | none => rw [hg] at hb; cases hb
    | some w =>
      rw [hg] at hb
      have h1 := List.all_eq_true.1 hall w (List.mem_of_getElem? hg)
      exact of_decide_eq_true (List.all_eq_true.1 h1 b hb)
  · cases hb
theorem line_mem (x : Ins) : ∀ b ∈ lineL x, 32 ≤ b.toNat := by
  intro b hb
  unfold lineL lineLs at hb
  rcases List.mem_append.1 hb with hb | hb
  · have := word_mem _ b hb; omega
  · obtain ⟨l, _, hb⟩ := List.mem_flatMap.1 hb
    rcases List.mem_cons.1 hb with rfl | hb
    · decide
    · have := fieldW_mem l _ b hb
      omega
theorem sign_inj {z y : Int} (hz : 0 ≤ z ∧ z ≤ 3) (hy : 0 ≤ y ∧ y ≤ 3) (h : signL z = signL y) : z = y := by
  have h1 : z = 0 ∨ z = 1 ∨ z = 2 ∨ z = 3 := by omega
  have h2 : y = 0 ∨ y = 1 ∨ y = 2 ∨ y = 3 := by omega
  rcases h1 with rfl | rfl | rfl | rfl <;> rcases h2 with rfl | rfl | rfl | rfl <;> first | rfl | (exact absurd h (by decide))
theorem wordL_inj {a b : Int} (ha : 0 ≤ a ∧ a < 16) (hb : 0 ≤ b ∧ b < 16) (h : wordL a = wordL b) : a = b := by
  obtain ⟨k, rfl⟩ := Int.eq_ofNat_of_zero_le ha.1
  obtain ⟨j, rfl⟩ := Int.eq_ofNat_of_zero_le hb.1
  have hall : ∀ k : Nat, k < 16 → ∀ j : Nat, j < 16 → wordL (k : Int) = wordL (j : Int) → k = j := by decide +kernel
  have := hall k (by omega) j (by omega) h
  omega
/-- A good program's instruction. -/
structure Ins.Good (x : Ins) : Prop where
  op : 0 ≤ x.op ∧ x.op < 16
  used : usedL x (shapeL x.op) = x
  sign : 106 ∈ shapeL x.op → 0 ≤ x.get (offL 106) ∧ x.get (offL 106) ≤ 3
theorem good_of_chk {f : Int} {l : List Ins} (h : chk f l = -2) : ∀ x ∈ l, x.Good := by
  obtain ⟨hh, hall⟩ := chk_good h
  intro x hx
  obtain ⟨k, hk, rfl⟩ := List.getElem_of_mem hx
  have h1 := hall k hk
  unfold goodAt goodI at h1
  rw [List.getD_eq_getElem?_getD, List.getElem?_eq_getElem hk] at h1
  simp only [Option.getD_some, Bool.and_eq_true, List.all_eq_true, decide_eq_true_iff] at h1
  refine ⟨of_decide_eq_true h1.1, h1.2.2, fun hm => ?_⟩
  have h3 := h1.2.1 106 hm
  unfold inB at h3
  rw [decide_eq_false (by decide), Bool.false_or, decide_eq_true_iff] at h3
  exact h3
theorem used_congr' (x y : Ins) : ∀ (ls : List Nat) (u : Ins), (∀ l ∈ ls, x.get (offL l) = y.get (offL l)) → ls.foldl (fun u l => u.set (offL l) (x.get (offL l))) u = ls.foldl (fun u l => u.set (offL l) (y.get (offL l))) u
  | [], _, _ => rfl
  | l :: ls, u, h => by
    rw [List.foldl_cons, List.foldl_cons, h l (List.mem_cons_self ..)]
    exact used_congr' x y ls _ fun q hq => h q (List.mem_cons_of_mem _ hq)
theorem used_congr (x y : Ins) (ho : x.op = y.op) (ls : List Nat) (h : ∀ l ∈ ls, x.get (offL l) = y.get (offL l)) : usedL x ls = usedL y ls := by
  unfold usedL
  rw [ho]
  exact used_congr' x y ls _ h
theorem line_inj {x y : Ins} (hx : x.Good) (hy : y.Good) (h : lineL x = lineL y) : x = y := by
  unfold lineL lineLs at h
  have e : ∀ (x : Ins) (ls : List Nat), (ls.flatMap fun l => 32 :: x.word l) = (ls.map x.word).flatMap fun w => 32 :: w := fun x ls => by rw [List.flatMap_map]
  rw [e, e] at h
  have hw : ∀ (x : Ins) (ls : List Nat), ∀ w ∈ ls.map x.word, (32 : UInt8) ∉ w := fun x ls w hw => by
    obtain ⟨l, _, rfl⟩ := List.mem_map.1 hw
    exact mem_not fun b hb => by have := fieldW_mem l _ b hb; have e : (32 : UInt8).toNat = 32 := rfl; omega
  have ha : ∀ op, (32 : UInt8) ∉ wordL op := fun op => mem_not fun b hb => by have := word_mem op b hb; have e : (32 : UInt8).toNat = 32 := rfl; omega
  obtain ⟨h1, h2⟩ := seps_inj _ _ _ _ (ha _) (ha _) (hw x _) (hw y _) h
  have ho := wordL_inj hx.op hy.op h1
  rw [← ho] at h2
  have hg : ∀ l ∈ shapeL x.op, x.get (offL l) = y.get (offL l) := by
    intro l hl
    have h3 : x.word l = y.word l := List.map_inj_left.1 h2 l hl
    unfold Ins.word fieldW at h3
    by_cases hj : l = 106
    · subst hj
      rw [if_pos rfl, if_pos rfl] at h3
      exact sign_inj (hx.sign hl) (hy.sign (ho ▸ hl)) h3
    · rw [if_neg hj, if_neg hj] at h3
      exact itoa_inj (List.append_cancel_left h3)
  have h4 := used_congr x y ho _ hg
  rw [hx.used] at h4
  rw [h4, ho, hy.used]
def linesOf (f : Int) (l : List Ins) : List (List UInt8) := ([102, 117, 101, 108, 32] ++ Lib.itoa f) :: l.map lineL
theorem print_lines (f : Int) (l : List Ins) : printLs f l = (linesOf f l).flatMap fun w => w ++ [10] := by
  unfold printLs headL linesOf
  rw [List.flatMap_cons, List.flatMap_map]
theorem lines_mem (f : Int) (l : List Ins) : ∀ w ∈ linesOf f l, (10 : UInt8) ∉ w := by
  intro w hw
  refine mem_not fun b hb => ?_
  have e : (10 : UInt8).toNat = 10 := rfl
  unfold linesOf at hw
  rcases List.mem_cons.1 hw with rfl | hw
  · rcases List.mem_append.1 hb with hb | hb
    · simp only [List.mem_cons, List.not_mem_nil, or_false] at hb
      rcases hb with rfl | rfl | rfl | rfl | rfl <;> decide
    · have := itoa_mem f b hb; omega
  · obtain ⟨x, _, rfl⟩ := List.mem_map.1 hw
    have := line_mem x b hb; omega
theorem map_line_inj : ∀ (l m : List Ins), (∀ x ∈ l, x.Good) → (∀ x ∈ m, x.Good) → l.map lineL = m.map lineL → l = m
  | [], [], _, _, _ => rfl
  | [], _ :: _, _, _, h => by cases h
  | _ :: _, [], _, _, h => by cases h
  | x :: l, y :: m, hl, hm, h => by
    simp only [List.map_cons, List.cons.injEq] at h
    rw [line_inj (hl x (List.mem_cons_self ..)) (hm y (List.mem_cons_self ..)) h.1, map_line_inj l m (fun z hz => hl z (List.mem_cons_of_mem _ hz)) (fun z hz => hm z (List.mem_cons_of_mem _ hz)) h.2]
theorem print_inj {f g : Int} {l m : List Ins} (h1 : chk f l = -2) (h2 : chk g m = -2) (h : printLs f l = printLs g m) : f = g ∧ l = m := by
  rw [print_lines, print_lines] at h
  have h3 := terms_inj _ _ (lines_mem f l) (lines_mem g m) h
  unfold linesOf at h3
  simp only [List.cons.injEq] at h3
  exact ⟨itoa_inj (List.append_cancel_left h3.1), map_line_inj l m (good_of_chk h1) (good_of_chk h2) h3.2⟩
theorem terms_count : ∀ ws : List (List UInt8), (∀ w ∈ ws, (10 : UInt8) ∉ w) → (ws.flatMap fun w => w ++ [10]).count 10 = ws.length
  | [], _ => rfl
  | w :: ws, h => by
    rw [List.flatMap_cons, List.count_append, List.count_append, terms_count ws (fun x m => h x (List.mem_cons_of_mem _ m)), List.count_eq_zero_of_not_mem (h w (List.mem_cons_self ..))]
    simp; omega
theorem print_count (f : Int) (l : List Ins) : (printLs f l).count 10 = 1 + l.length := by
  rw [print_lines, terms_count _ (lines_mem f l)]
  simp [linesOf]; omega
theorem terms_last : ∀ (w : List UInt8) (ws : List (List UInt8)), ((w :: ws).flatMap fun w => w ++ [10]).getLast? = some 10
  | w, [] => by simp
  | w, v :: ws => by
    rw [List.flatMap_cons, List.getLast?_append, terms_last v ws]; rfl
theorem print_last (f : Int) (l : List Ins) : (printLs f l)[(printLs f l).length - 1]? = some 10 := by
  rw [← List.getLast?_eq_getElem?, print_lines]
  exact terms_last _ _
end Go.Proofs.YtkeckjgihjpfbaaDoor

/- Layer 7, of no program: figures, fields' words and lines that are read. -/
namespace Go.Proofs.YtkeckjgihjpfbaaDoor
set_option maxRecDepth 100000

theorem parse_app : ∀ (a b : List UInt8) (acc v : Nat), Lib.parseUint10 acc a = .ok v → Lib.parseUint10 acc (a ++ b) = Lib.parseUint10 v b
  | [], b, acc, v, h => by
    simp only [Lib.parseUint10, Lib.NumEnd.ok.injEq] at h
    rw [h]; rfl
  | c :: a, b, acc, v, h => by
    simp only [List.cons_append, Lib.parseUint10] at h ⊢
    split at h
    · rename_i h1
      rw [if_pos h1]
      split at h
      · cases h
      · rename_i h2
        rw [if_neg h2]
        split at h
        · cases h
        · rename_i h3
          rw [if_neg h3]
          exact parse_app a b _ v h
    · cases h
theorem parse_dec (u : Nat) : u < 18446744073709551616 → Lib.parseUint10 0 (Lib.decDigits u) = .ok u := by
  induction u using Nat.strongRecOn with
  | ind u ih =>
    intro hu
    have one : ∀ (acc d : Nat), d < 10 → acc < 1844674407370955162 → acc * 10 + d < 18446744073709551616 → Lib.parseUint10 acc [UInt8.ofNat (48 + d)] = .ok (acc * 10 + d) := fun acc d hd ha hs => by
      simp only [Lib.parseUint10, digit_nat d hd]
      rw [if_pos (by omega), if_neg (by omega), if_neg (by omega)]
      congr 1; omega
    by_cases h : u < 10
    · rw [digit_one u h, one 0 u h (by omega) (by omega)]; congr 1; omega
    · rw [Lib.decDigits, dif_neg h, parse_app _ _ _ _ (ih (u / 10) (by omega) (by omega)), one (u / 10) (u % 10) (Nat.mod_lt _ (by omega)) (by omega) (by omega)]
      congr 1; omega
theorem dec_cons (u : Nat) : ∃ c r, Lib.decDigits u = c :: r ∧ 48 ≤ c.toNat ∧ c.toNat ≤ 57 := by
  cases hd : Lib.decDigits u with
  | nil =>
    have h1 := Lib.decDigits_length u
    rw [hd] at h1
    have h2 := Lib.nDigits_pos u
    have : (0 : Nat) = Lib.nDigits u := h1
    omega
  | cons c r => exact ⟨c, r, rfl, dec_mem u c (by rw [hd]; simp)⟩
theorem atoi_itoa (z : Int) (hz : Fits z) : Lib.atoiAll (Lib.itoa z) = .ok z := by
  unfold Fits at hz
  unfold Lib.itoa
  split
  · rename_i hn
    obtain ⟨c, r, e, _⟩ := dec_cons z.natAbs
    have hp := parse_dec z.natAbs (by omega)
    rw [Lib.atoiAll_minus]
    unfold Lib.parseMag
    rw [if_neg (by rw [e]; simp), hp]
    unfold Lib.signed
    simp only []
    rw [if_neg (by omega)]
    congr 1; omega
  · rename_i hn
    obtain ⟨c, r, e, hc⟩ := dec_cons z.toNat
    have hp := parse_dec z.toNat (by omega)
    rw [e] at hp ⊢
    rw [Lib.atoiAll_plain c r (by omega) (by omega)]
    unfold Lib.parseMag
    rw [if_neg (by simp), hp]
    unfold Lib.signless
    simp only []
    rw [if_neg (by omega)]
    congr 1; omega
/-- The number of the shortest figures. -/
def numO (s : List UInt8) : Option Int := match Lib.atoiAll s with
  | .ok v => if Lib.itoa v = s then some v else none
  | _ => none
theorem numO_iff (s : List UInt8) (z : Int) : numO s = some z ↔ Fits z ∧ Lib.itoa z = s := by
  unfold numO
  constructor
  · intro h
    split at h
    · rename_i v hv
      split at h
      · cases h
        exact ⟨Lib.atoiAll_bounds hv, by assumption⟩
      · cases h
    · cases h
  · rintro ⟨hz, rfl⟩
    rw [atoi_itoa z hz]
    simp
/-- Which operation a word means. -/
def opOf (w : List UInt8) : Int := match wordsS.findIdx? (fun v => v = w) with
  | some k => (k : Int)
  | none => -1
theorem words_get (k j : Nat) (hk : k < 16) (hj : j < 16) (h : wordsS[k]? = wordsS[j]?) : k = j := by
  have hall : ∀ k : Nat, k < 16 → ∀ j : Nat, j < 16 → wordsS[k]? = wordsS[j]? → k = j := by decide +kernel
  exact hall k hk j hj h
theorem opOf_at (k : Nat) (hk : k < 16) : opOf (wordL (k : Int)) = k := by
  have hall : ∀ k : Nat, k < 16 → opOf (wordL (k : Int)) = (k : Int) := by decide +kernel
  exact hall k hk
theorem opOf_ways (w : List UInt8) : (opOf w = -1 ∧ ∀ op : Int, 0 ≤ op ∧ op < 16 → wordL op ≠ w) ∨ ((0 ≤ opOf w ∧ opOf w < 16) ∧ wordL (opOf w) = w) := by
  unfold opOf
  cases h : wordsS.findIdx? (fun v => v = w) with
  | none =>
    refine .inl ⟨rfl, fun op ho e => ?_⟩
    obtain ⟨k, rfl⟩ := Int.eq_ofNat_of_zero_le ho.1
    have h2 := opOf_at k (by omega)
    rw [e] at h2
    unfold opOf at h2
    rw [h] at h2
    simp only [] at h2
    omega
  | some k =>
    have h1 := List.findIdx?_eq_some_iff_getElem.1 h
    obtain ⟨hk, h2, _⟩ := h1
    have hk16 : k < 16 := hk
    refine .inr (show (0 ≤ (k : Int) ∧ (k : Int) < 16) ∧ wordL (k : Int) = w from ⟨by omega, ?_⟩)
    unfold wordL
    rw [if_pos (by omega), Int.toNat_natCast, List.getElem?_eq_getElem hk]
    simpa using h2
/-- What a field's word says. -/
def valO (l : Nat) (w : List UInt8) : Option Int :=
  if l = 106 then (relsS.findIdx? (fun v => v = w)).map fun (k : Nat) => (k : Int)
  else if Lib.hasPrefix w (markL l) then numO (w.drop (markL l).length) else none
theorem valO_iff (l : Nat) (w : List UInt8) (z : Int) : valO l w = some z ↔ (Fits z ∧ (l = 106 → 0 ≤ z ∧ z ≤ 3)) ∧ fieldW l z = w := by
  unfold valO fieldW
  by_cases hj : l = 106
  · rw [if_pos hj, if_pos hj]
    constructor
    · intro h
      obtain ⟨k, hk, rfl⟩ := Option.map_eq_some_iff.1 h
      obtain ⟨hk4, h2, _⟩ := List.findIdx?_eq_some_iff_getElem.1 hk
      have hk4' : k < 4 := hk4
      refine ⟨⟨by unfold Fits; omega, fun _ => by omega⟩, ?_⟩
      have h3 : k = 0 ∨ k = 1 ∨ k = 2 ∨ k = 3 := by omega
      rcases h3 with rfl | rfl | rfl | rfl <;> exact of_decide_eq_true h2
    · rintro ⟨⟨_, h⟩, rfl⟩
      have h := h hj
      have h3 : z = 0 ∨ z = 1 ∨ z = 2 ∨ z = 3 := by omega
      rcases h3 with rfl | rfl | rfl | rfl <;> decide
  · rw [if_neg hj, if_neg hj]
    constructor
    · intro h
      split at h
      · rename_i hp
        have h1 := (numO_iff _ _).1 h
        refine ⟨⟨h1.1, fun e => absurd e hj⟩, ?_⟩
        rw [h1.2]
        obtain ⟨t, rfl⟩ := List.isPrefixOf_iff_prefix.1 hp
        simp
      · cases h
    · rintro ⟨⟨hz, _⟩, rfl⟩
      rw [show Lib.hasPrefix (markL l ++ Lib.itoa z) (markL l) = true from List.isPrefixOf_iff_prefix.2 ⟨_, rfl⟩, if_pos rfl, List.drop_left, (numO_iff _ _).2 ⟨hz, rfl⟩]
/-- A text parted at a byte. -/
def splitC (c : UInt8) : List UInt8 → List (List UInt8)
  | [] => [[]]
  | b :: r => if b = c then [] :: splitC c r else match splitC c r with
    | [] => [[b]]
    | w :: ws => (b :: w) :: ws
theorem splitC_join (c : UInt8) (s : List UInt8) : ∃ a ws, splitC c s = a :: ws ∧ s = a ++ ws.flatMap (fun w => c :: w) ∧ c ∉ a ∧ ∀ w ∈ ws, c ∉ w := by
  induction s with
  | nil => exact ⟨[], [], rfl, rfl, by simp, by simp⟩
  | cons b r ih =>
    obtain ⟨a, ws, h1, h2, h3, h4⟩ := ih
    unfold splitC
    by_cases hb : b = c
    · rw [if_pos hb]
      refine ⟨[], splitC c r, rfl, ?_, by simp, ?_⟩
      · rw [h1, List.flatMap_cons, List.nil_append, List.cons_append, ← h2, hb]
      · rw [h1]
        intro w hw
        rcases List.mem_cons.1 hw with rfl | hw
        · exact h3
        · exact h4 w hw
    · rw [if_neg hb, h1]
      refine ⟨b :: a, ws, rfl, by rw [h2]; rfl, ?_, h4⟩
      intro m
      rcases List.mem_cons.1 m with e | m
      · exact hb e.symm
      · exact h3 m
theorem splitC_of (c : UInt8) (a : List UInt8) (ws : List (List UInt8)) (ha : c ∉ a) (hw : ∀ w ∈ ws, c ∉ w) : splitC c (a ++ ws.flatMap fun w => c :: w) = a :: ws := by
  obtain ⟨b, vs, h1, h2, h3, h4⟩ := splitC_join c (a ++ ws.flatMap fun w => c :: w)
  obtain ⟨rfl, rfl⟩ := seps_inj ws vs a b ha h3 hw h4 h2
  exact h1
theorem field_blank (l : Nat) (z : Int) : (32 : UInt8) ∉ fieldW l z := mem_not fun b hb => by have := fieldW_mem l z b hb; have e : (32 : UInt8).toNat = 32 := rfl; omega
theorem word_blank (op : Int) : (32 : UInt8) ∉ wordL op := mem_not fun b hb => by have := word_mem op b hb; have e : (32 : UInt8).toNat = 32 := rfl; omega
theorem line_words (x : Ins) : splitC 32 (lineL x) = wordL x.op :: (shapeL x.op).map x.word := by
  unfold lineL lineLs
  rw [show ((shapeL x.op).flatMap fun l => 32 :: x.word l) = ((shapeL x.op).map x.word).flatMap fun w => 32 :: w by rw [List.flatMap_map]]
  exact splitC_of 32 _ _ (word_blank _) fun w hw => by
    obtain ⟨l, _, rfl⟩ := List.mem_map.1 hw
    exact field_blank l _
/-- The instruction of a line. -/
noncomputable def insOf (row : List UInt8) : Option Ins := by
  classical exact if h : ∃ x : Ins, (x.Good ∧ x.Ok) ∧ lineL x = row then some h.choose else none
theorem insOf_some {row : List UInt8} {x : Ins} (h1 : x.Good) (h2 : x.Ok) (h3 : lineL x = row) : insOf row = some x := by
  unfold insOf
  have h : ∃ x : Ins, (x.Good ∧ x.Ok) ∧ lineL x = row := ⟨x, ⟨h1, h2⟩, h3⟩
  rw [dif_pos h]
  obtain ⟨h4, h5⟩ := h.choose_spec
  rw [line_inj h4.1 h1 (h5.trans h3.symm)]
theorem insOf_none {row : List UInt8} (h : ∀ x : Ins, x.Good → x.Ok → lineL x ≠ row) : insOf row = none := by
  unfold insOf
  rw [dif_neg]
  rintro ⟨x, h1, h2⟩
  exact h x h1.1 h1.2 h2
/-- Fields put one behind the other. -/
def setAll (op : Int) (ls : List Nat) (zs : List Int) : Ins := (ls.zip zs).foldl (fun u p => u.set (offL p.1) p.2) { Ins.zero with op := op }
theorem setAll_snoc (op : Int) (ls : List Nat) (zs : List Int) (k : Nat) (hk : k < ls.length) (hz : zs.length = k) (z : Int) : setAll op (ls.take (k + 1)) (zs ++ [z]) = (setAll op (ls.take k) zs).set (offL ls[k]) z := by
  unfold setAll
  rw [List.take_succ_eq_append_getElem hk, List.zip_append (by rw [List.length_take]; omega), List.foldl_append]
  rfl
theorem setAll_full (op : Int) (ho : 0 ≤ op ∧ op < 16) (zs : List Int) (hz : zs.length = (shapeL op).length) : (setAll op (shapeL op) zs).op = op ∧ usedL (setAll op (shapeL op) zs) (shapeL op) = setAll op (shapeL op) zs ∧ (shapeL op).map (fun l => (setAll op (shapeL op) zs).get (offL l)) = zs := by
  have h16 : op = 0 ∨ op = 1 ∨ op = 2 ∨ op = 3 ∨ op = 4 ∨ op = 5 ∨ op = 6 ∨ op = 7 ∨ op = 8 ∨ op = 9 ∨ op = 10 ∨ op = 11 ∨ op = 12 ∨ op = 13 ∨ op = 14 ∨ op = 15 := by omega
  rcases h16 with rfl | rfl | rfl | rfl | rfl | rfl | rfl | rfl | rfl | rfl | rfl | rfl | rfl | rfl | rfl | rfl
  all_goals
    first
    | (match zs, hz with | [a], _ => exact ⟨rfl, rfl, rfl⟩)
    | (match zs, hz with | [a, b], _ => exact ⟨rfl, rfl, rfl⟩)
    | (match zs, hz with | [a, b, c], _ => exact ⟨rfl, rfl, rfl⟩)
    | (match zs, hz with | [a, b, c, d], _ => exact ⟨rfl, rfl, rfl⟩)
    | (match zs, hz with | [a, b, c, d, e], _ => exact ⟨rfl, rfl, rfl⟩)
end Go.Proofs.YtkeckjgihjpfbaaDoor

/- Layer 7: alive; asm.Line; AsmLines answers true of whatever instruction and operation. -/
namespace Go.Proofs.YtkeckjgihjpfbaaDoor
set_option maxRecDepth 100000
open Go.RowKit
attribute [local go_sem ↓] Go.wp_at_zero Go.wp_at_succ

theorem itoa_digit (k : Nat) (h : k < 10) : Lib.itoa (k : Int) = [UInt8.ofNat (48 + k)] := by
  unfold Lib.itoa
  rw [if_neg (by omega), Int.toNat_natCast, digit_one k h]
theorem alive_text : printLs 5 [out1] = [102, 117, 101, 108, 32, 53, 10, 111, 117, 116, 32, 114, 49, 10] := by
  have h5 := itoa_digit 5 (by omega)
  have h1 := itoa_digit 1 (by omega)
  have h5' : Lib.itoa 5 = [53] := h5
  have h1' : Lib.itoa 1 = [49] := h1
  have e : lineL out1 = [111, 117, 116, 32, 114, 49] := by
    show wordL 15 ++ (shapeL 15).flatMap (fun l => 32 :: out1.word l) = _
    rw [show shapeL 15 = [97] from rfl]
    show wordL 15 ++ ((32 :: ([114] ++ Lib.itoa 1)) ++ []) = _
    rw [h1']
    rfl
  unfold printLs headL
  rw [h5', List.flatMap_cons, e]
  rfl
theorem out1_ok : ∀ x ∈ [out1], x.Ok := fun x hx => by
  rw [List.mem_singleton.1 hx]
  exact ⟨by unfold Fits out1; decide, by unfold Fits out1; decide, by unfold Fits out1; decide, by unfold Fits out1; decide, by unfold Fits out1; decide, by unfold Fits out1; decide⟩
set_option maxHeartbeats 2000000 in
theorem asm_alive (w : World) (hT : AT w) : Calls Tryd.prog 28 #[] w fun e w' => e = .returned (.bool true) ∧ Below w.heap.size w w' := by
  have hb1 := (Below.refl w.heap.size w).alloc (Nat.le_refl _) (.cells #[.int .i64 15, .int .i64 1, .int .i64 0, .int .i64 0, .int .i64 0, .int .i64 0] 43)
  have HB1 := Lib.hid hb1
  have HE := print_any 5 (by unfold Fits; decide) (some ⟨w.heap.size, 0, none⟩) 1 1 [out1] _ (hT.ext hb1) (alive_codes w) (by omega) out1_ok
  have HP := Lib.hid (show ∀ w1 w' e, PrintE 5 [out1] w1 w' e → e = .returned (.tuple #[.string { data := #[102, 117, 101, 108, 32, 53, 10, 111, 117, 116, 32, 114, 49, 10] }, .nilIface]) from fun w1 w' e h => by
    rcases h with ⟨_, h⟩ | ⟨h, _⟩
    · rw [h, alive_text]; rfl
    · exact absurd alive_chk h)
  have HE := Lib.hid HE
  clear hT hb1
  go_enter Tryd.func28, Tryd.ntmps28
  go_wp2_with fail
  refine Calls.mono HE.out ?_
  rintro e w2 ⟨he, hb2⟩
  have HB2 := Lib.hid (HB1.out.trans (hb2.mono HB1.out.size))
  obtain rfl := HP.out _ _ _ he
  clear hb2 he
  go_wp2_with fail
  go_ret
  exact ⟨rfl, HB2.out⟩
def LineE (x : Ins) (w w' : World) (e : Ending) : Prop :=
  (okOp x.op = true ∧ e = .returned (.tuple #[.string (tx (lineL x)), .nilIface])) ∨
  (okOp x.op = false ∧ ∃ b, e = .returned (.tuple #[.string { data := #[] }, .iface 72 (.pointer (some ⟨b, 0, none⟩))]) ∧ w.heap.size ≤ b ∧ FaultAt w' b 0)
set_option maxHeartbeats 2000000 in
theorem asmline_any (x : Ins) (hx : x.Ok) (w : World) (hT : AT w) : Calls Tryd.prog 33 #[x.val] w fun e w' => LineE x w w' e ∧ Below w.heap.size w w' := by
  have hbx := (Below.refl w.heap.size w).alloc (Nat.le_refl _) (.cells #[.int .i64 x.op, .int .i64 x.a, .int .i64 x.b, .int .i64 x.c, .int .i64 x.t, .int .i64 x.n] 43)
  have HBX := Lib.hid hbx
  have HW := Lib.hid (word_any x.op _ (hT.ext hbx))
  have HLN := line_any x hx _ (hT.ext hbx)
  unfold Ins.val at HLN ⊢
  have HLN := Lib.hid HLN
  clear hbx hT hx
  cases hok : okOp x.op with
  | true =>
    rw [hok] at HW
    have HOK := Lib.hid hok
    clear hok
    go_enter Tryd.func33, Tryd.ntmps33
    go_wp2_with fail
    refine Calls.mono HW.out ?_
    rintro e w2 ⟨rfl, rfl⟩
    go_wp2_with fail
    refine Calls.mono HLN.out ?_
    rintro e w3 ⟨rfl, hb3⟩
    have HB3 := Lib.hid (HBX.out.trans (hb3.mono HBX.out.size))
    clear hb3
    go_wp2_with fail
    go_ret2
    exact ⟨.inl ⟨HOK.out, rfl⟩, HB3.out⟩
  | false =>
    rw [hok] at HW
    have HOK := Lib.hid hok
    clear hok
    go_enter Tryd.func33, Tryd.ntmps33
    go_wp2_with fail
    refine Calls.mono HW.out ?_
    rintro e w2 ⟨rfl, rfl⟩
    go_wp2_with fail
    go_ret2
    exact ⟨.inr ⟨HOK.out, w.heap.size + 1, rfl, by omega, by
      have h := heap_alloc_new (w.alloc (.cells #[.int .i64 x.op, .int .i64 x.a, .int .i64 x.b, .int .i64 x.c, .int .i64 x.t, .int .i64 x.n] 43)) (.cells #[.int .i64 0, .iface 36 (.int .i64 5)] 75)
      rw [World.size_alloc] at h
      exact h⟩, HBX.out.alloc HBX.out.size _⟩
theorem tx_toList (l : List UInt8) : (tx l).toList = l := by rw [ByteArray.toList_eq]; simp [tx]
theorem word_empty (op : Int) : (tx (wordL op)).toList.isEmpty = !okOp op := by
  rw [tx_toList]
  by_cases h : 0 ≤ op ∧ op < 16
  · have h16 : op = 0 ∨ op = 1 ∨ op = 2 ∨ op = 3 ∨ op = 4 ∨ op = 5 ∨ op = 6 ∨ op = 7 ∨ op = 8 ∨ op = 9 ∨ op = 10 ∨ op = 11 ∨ op = 12 ∨ op = 13 ∨ op = 14 ∨ op = 15 := by omega
    rcases h16 with rfl | rfl | rfl | rfl | rfl | rfl | rfl | rfl | rfl | rfl | rfl | rfl | rfl | rfl | rfl | rfl <;> rfl
  · rw [wordL_none op (by omega), show okOp op = false from decide_eq_false h]
    rfl
set_option maxHeartbeats 4000000 in
theorem lines_law (x : Ins) (hx : x.Ok) (op : Int) (w : World) (hT : AT w) : Calls Tryd.prog 9 #[x.val, .int .i64 op] w fun e w' => e = .returned (.bool true) ∧ Below w.heap.size w w' := by
  have hbx := (Below.refl w.heap.size w).alloc (Nat.le_refl _) (.cells #[.int .i64 x.op, .int .i64 x.a, .int .i64 x.b, .int .i64 x.c, .int .i64 x.t, .int .i64 x.n] 43)
  have HN := Lib.hid (one_new w (.cells #[.int .i64 x.op, .int .i64 x.a, .int .i64 x.b, .int .i64 x.c, .int .i64 x.t, .int .i64 x.n] 43))
  have HBX := Lib.hid hbx
  have HAL := Lib.hid (asm_alive _ (hT.ext hbx))
  have HT := Lib.hid hT
  have HX := Lib.hid hx
  have HV := Lib.hid (show x.val = .agg #[.int .i64 x.op, .int .i64 x.a, .int .i64 x.b, .int .i64 x.c, .int .i64 x.t, .int .i64 x.n] from rfl)
  unfold Ins.val
  clear hbx hT hx
  go_enter Tryd.func9, Tryd.ntmps9
  go_wp2_with fail
  refine Calls.mono HAL.out ?_
  rintro e w1 ⟨rfl, hb1⟩
  have HB1 := Lib.hid (HBX.out.trans (hb1.mono HBX.out.size))
  have HN1 := Lib.hid (box_later HN.out hb1)
  have c0 : w1.cell? ⟨w.heap.size, 0, none⟩ = some (.int .i64 x.op) := cell_of_row w1 _ 0 _ 43 (0, 0) HN1.out
  have c1 : w1.cell? ⟨w.heap.size, 1, none⟩ = some (.int .i64 x.a) := cell_of_row w1 _ 1 _ 43 (0, 0) HN1.out
  have c2 : w1.cell? ⟨w.heap.size, 2, none⟩ = some (.int .i64 x.b) := cell_of_row w1 _ 2 _ 43 (0, 0) HN1.out
  have c3 : w1.cell? ⟨w.heap.size, 3, none⟩ = some (.int .i64 x.c) := cell_of_row w1 _ 3 _ 43 (0, 0) HN1.out
  have c4 : w1.cell? ⟨w.heap.size, 4, none⟩ = some (.int .i64 x.t) := cell_of_row w1 _ 4 _ 43 (0, 0) HN1.out
  have c5 : w1.cell? ⟨w.heap.size, 5, none⟩ = some (.int .i64 x.n) := cell_of_row w1 _ 5 _ 43 (0, 0) HN1.out
  have HLN := asmline_any x HX.out w1 (HT.out.ext HB1.out)
  rw [HV.out] at HLN
  have HLN := Lib.hid HLN
  clear hb1
  go_wp2_with fail
  refine Calls.mono HLN.out ?_
  rintro e w2 ⟨he, hb2⟩
  have HB2 := Lib.hid (HB1.out.trans (hb2.mono HB1.out.size))
  have HN2 := Lib.hid (box_later HN1.out hb2)
  clear c0 c1 c2 c3 c4 c5 hb2
  have HW2 := Lib.hid (word_any op w2 (HT.out.ext HB2.out))
  have HRW := Lib.hid (refword_any op w2)
  have HROP := Lib.hid (fun w => refword_any x.op w)
  have hwe := word_empty op
  have hwx := word_empty x.op
  obtain ⟨s, hs⟩ : ∃ s, s = tx (wordL op) := ⟨_, rfl⟩
  obtain ⟨sx, hsx⟩ : ∃ s, s = tx (wordL x.op) := ⟨_, rfl⟩
  obtain ⟨ok, hok⟩ : ∃ ok, ok = okOp op := ⟨_, rfl⟩
  rw [← hs] at HW2 HRW hwe
  rw [← hsx] at HROP hwx
  rw [← hok] at HW2 hwe
  have hne : (s.toList != s.toList) = false := by simp
  have hnn : (ok == !s.toList.isEmpty) = true := by rw [hwe]; cases ok <;> rfl
  clear hs hsx hok hwe
  rcases he with ⟨hokx, rfl⟩ | ⟨hokx, b, rfl, hbl, hfa⟩
  · rw [hokx] at hwx
    have HRL := fun w => refline_any x HX.out w
    rw [HV.out] at HRL
    have HRL := Lib.hid HRL
    have hll : ((tx (lineL x)).toList == (tx (lineL x)).toList) = true := by simp
    obtain ⟨q, hq⟩ : ∃ q, q = tx (lineL x) := ⟨_, rfl⟩
    rw [← hq] at hll HRL ⊢
    clear hq hokx
    go_wp2_with fail
    refine Calls.mono HW2.out ?_
    rintro e w3 ⟨rfl, rfl⟩
    go_wp2_with fail
    refine Calls.mono HRW.out ?_
    rintro e w3 ⟨rfl, hb3⟩
    have HB3 := Lib.hid (HB2.out.trans (hb3.mono HB2.out.size))
    have HN3 := Lib.hid (box_later HN2.out hb3)
    clear hb3
    have c0 : w3.cell? ⟨w.heap.size, 0, none⟩ = some (.int .i64 x.op) := cell_of_row w3 _ 0 _ 43 (0, 0) HN3.out
    go_wp2_with fail
    refine Calls.mono (HROP.out _) ?_
    rintro e w4 ⟨rfl, hb4⟩
    have HB4 := Lib.hid (HB3.out.trans (hb4.mono HB3.out.size))
    have HN4 := Lib.hid (box_later HN3.out hb4)
    clear hb4 c0
    have c0 : w4.cell? ⟨w.heap.size, 0, none⟩ = some (.int .i64 x.op) := cell_of_row w4 _ 0 _ 43 (0, 0) HN4.out
    have c1 : w4.cell? ⟨w.heap.size, 1, none⟩ = some (.int .i64 x.a) := cell_of_row w4 _ 1 _ 43 (0, 0) HN4.out
    have c2 : w4.cell? ⟨w.heap.size, 2, none⟩ = some (.int .i64 x.b) := cell_of_row w4 _ 2 _ 43 (0, 0) HN4.out
    have c3 : w4.cell? ⟨w.heap.size, 3, none⟩ = some (.int .i64 x.c) := cell_of_row w4 _ 3 _ 43 (0, 0) HN4.out
    have c4 : w4.cell? ⟨w.heap.size, 4, none⟩ = some (.int .i64 x.t) := cell_of_row w4 _ 4 _ 43 (0, 0) HN4.out
    have c5 : w4.cell? ⟨w.heap.size, 5, none⟩ = some (.int .i64 x.n) := cell_of_row w4 _ 5 _ 43 (0, 0) HN4.out
    go_wp2_with fail
    refine Calls.mono (HRL.out _) ?_
    rintro e w5 ⟨rfl, hb5⟩
    have HB5 := Lib.hid (HB4.out.trans (hb5.mono HB4.out.size))
    clear hb5 c0 c1 c2 c3 c4 c5
    go_wp2_with fail
    go_ret
    exact ⟨rfl, HB5.out⟩
  · rw [hokx] at hwx
    have HFA := Lib.hid hfa
    clear hokx hfa
    go_wp2_with fail
    refine Calls.mono HW2.out ?_
    rintro e w3 ⟨rfl, rfl⟩
    go_wp2_with fail
    refine Calls.mono HRW.out ?_
    rintro e w3 ⟨rfl, hb3⟩
    have HB3 := Lib.hid (HB2.out.trans (hb3.mono HB2.out.size))
    have HN3 := Lib.hid (box_later HN2.out hb3)
    have HFA3 := Lib.hid (show FaultAt w3 b 0 from box_later HFA.out hb3)
    clear hb3
    have c0 : w3.cell? ⟨w.heap.size, 0, none⟩ = some (.int .i64 x.op) := cell_of_row w3 _ 0 _ 43 (0, 0) HN3.out
    go_wp2_with fail
    refine Calls.mono (HROP.out _) ?_
    rintro e w4 ⟨rfl, hb4⟩
    have HB4 := Lib.hid (HB3.out.trans (hb4.mono HB3.out.size))
    have HI := Lib.hid (is_fault b 0 w4 (box_later HFA3.out hb4))
    have HA := Lib.hid (at_fault b 0 w4 (box_later HFA3.out hb4))
    clear hb4 c0
    go_wp2_with fail
    refine Calls.mono HI.out ?_
    rintro e w5 ⟨rfl, rfl⟩
    go_wp2_with fail
    refine Calls.mono HA.out ?_
    rintro e w5 ⟨rfl, rfl⟩
    go_wp2_with fail
    go_ret
    exact ⟨rfl, HB4.out⟩
end Go.Proofs.YtkeckjgihjpfbaaDoor

/- strconv.Atoi, strings.Cut, Split, CutPrefix at this seat, off the library's shelf. -/
namespace Go.Proofs
open Go.Shelf
def Tryd.lays103_ren : Go.Shelf.Ren := ⟨fun | 103 => 110 | 210 => 122 | 206 => 131 | n => n, fun | 9 => 9 | 4 => 4 | 24 => 48 | 3 => 3 | n => n, fun | n => n⟩
theorem Tryd.lays103 : Go.Proofs.Lays.n103 Tryd.prog Tryd.lays103_ren := {
  mixed := by kernel_rfl
  f103 := Tryd.func110.trans (congrArg some (by kernel_rfl))
  f206 := Tryd.func131.trans (congrArg some (by kernel_rfl))
  f210 := Tryd.func122.trans (congrArg some (by kernel_rfl))
  t3 := Tryd.underlying3
  a3 := Tryd.isAgg3
  z3 := Tryd.sizeOf3
  v3 := Tryd.zeroValue3
  t4 := Tryd.underlying4
  a4 := Tryd.isAgg4
  z4 := Tryd.sizeOf4
  v4 := Tryd.zeroValue4
  t9 := Tryd.underlying9
  a9 := Tryd.isAgg9
  z9 := Tryd.sizeOf9
  v9 := Tryd.zeroValue9
  t24 := Tryd.underlying48
  a24 := Tryd.isAgg48
  z24 := Tryd.sizeOf48
  v24 := Tryd.zeroValue48 }
open Go.RowKit in
theorem Tryd.strings_CutPrefix (s p : ByteArray) (w : World) :
    Calls Tryd.prog 110 #[.string s, .string p] w fun e w' => e = .returned (.tuple #[.string ⟨(Lib.trimPrefix s.data.toList p.data.toList).toArray⟩, .bool (Lib.hasPrefix s.data.toList p.data.toList)]) ∧ w' = w := Any.strings_CutPrefix Tryd.lays103 s p w
def Tryd.laysC172_ren : Go.Shelf.Ren := ⟨fun | 172 => 98 | 244 => 111 | 245 => 112 | 247 => 123 | 279 => 124 | 280 => 125 | 281 => 126 | 282 => 127 | 287 => 132 | 316 => 133 | 171 => 55 | 205 => 134 | 321 => 135 | 322 => 136 | 243 => 80 | 246 => 92 | 283 => 99 | 284 => 100 | 285 => 101 | 286 => 102 | 129 => 90 | 317 => 113 | 318 => 114 | 319 => 115 | 320 => 116 | 337 => 128 | 338 => 129 | n => n, fun | 9 => 9 | 3 => 3 | 75 => 30 | 76 => 128 | 4 => 4 | 5 => 5 | 167 => 149 | 37 => 28 | 0 => 0 | 85 => 150 | 2 => 2 | 168 => 152 | 53 => 68 | 175 => 157 | 46 => 52 | 210 => 161 | 127 => 170 | 145 => 173 | 143 => 171 | 21 => 21 | 171 => 130 | 173 => 132 | 212 => 140 | 51 => 141 | 20 => 20 | 213 => 142 | 232 => 163 | 233 => 164 | 80 => 174 | n => n, fun | 15 => 5 | 16 => 6 | 17 => 4 | 18 => 7 | 19 => 8 | n => n⟩
theorem Tryd.laysC172 : Go.Proofs.LaysC.n172 Tryd.prog Tryd.laysC172_ren := {
  mixed := by kernel_rfl
  f129 := Tryd.func90.trans (congrArg some (by kernel_rfl))
  f171 := Tryd.func55.trans (congrArg some (by kernel_rfl))
  f172 := Tryd.func98.trans (congrArg some (by kernel_rfl))
  f205 := Tryd.func134.trans (congrArg some (by kernel_rfl))
  f243 := Tryd.func80.trans (congrArg some (by kernel_rfl))
  f244 := Tryd.func111.trans (congrArg some (by kernel_rfl))
  f245 := Tryd.func112.trans (congrArg some (by kernel_rfl))
  f246 := Tryd.func92.trans (congrArg some (by kernel_rfl))
  f247 := Tryd.func123.trans (congrArg some (by kernel_rfl))
  f279 := Tryd.func124.trans (congrArg some (by kernel_rfl))
  f280 := Tryd.func125.trans (congrArg some (by kernel_rfl))
  f281 := Tryd.func126.trans (congrArg some (by kernel_rfl))
  f282 := Tryd.func127.trans (congrArg some (by kernel_rfl))
  f283 := Tryd.func99.trans (congrArg some (by kernel_rfl))
  f284 := Tryd.func100.trans (congrArg some (by kernel_rfl))
  f285 := Tryd.func101.trans (congrArg some (by kernel_rfl))
  f286 := Tryd.func102.trans (congrArg some (by kernel_rfl))
  f287 := Tryd.func132.trans (congrArg some (by kernel_rfl))
  f316 := Tryd.func133.trans (congrArg some (by kernel_rfl))
  f317 := Tryd.func113.trans (congrArg some (by kernel_rfl))
  f318 := Tryd.func114.trans (congrArg some (by kernel_rfl))
  f319 := Tryd.func115.trans (congrArg some (by kernel_rfl))
  f320 := Tryd.func116.trans (congrArg some (by kernel_rfl))
  f321 := Tryd.func135.trans (congrArg some (by kernel_rfl))
  f322 := Tryd.func136.trans (congrArg some (by kernel_rfl))
  f337 := Tryd.func128.trans (congrArg some (by kernel_rfl))
  f338 := Tryd.func129.trans (congrArg some (by kernel_rfl))
  t0 := Tryd.underlying0
  a0 := Tryd.isAgg0
  z0 := Tryd.sizeOf0
  v0 := Tryd.zeroValue0
  t2 := Tryd.underlying2
  a2 := Tryd.isAgg2
  z2 := Tryd.sizeOf2
  v2 := Tryd.zeroValue2
  t3 := Tryd.underlying3
  a3 := Tryd.isAgg3
  z3 := Tryd.sizeOf3
  v3 := Tryd.zeroValue3
  t4 := Tryd.underlying4
  a4 := Tryd.isAgg4
  z4 := Tryd.sizeOf4
  v4 := Tryd.zeroValue4
  t5 := Tryd.underlying5
  a5 := Tryd.isAgg5
  z5 := Tryd.sizeOf5
  v5 := Tryd.zeroValue5
  t9 := Tryd.underlying9
  a9 := Tryd.isAgg9
  z9 := Tryd.sizeOf9
  v9 := Tryd.zeroValue9
  t20 := Tryd.underlying20
  a20 := Tryd.isAgg20
  z20 := Tryd.sizeOf20
  v20 := Tryd.zeroValue20
  t21 := Tryd.underlying21
  a21 := Tryd.isAgg21
  z21 := Tryd.sizeOf21
  v21 := Tryd.zeroValue21
  t37 := Tryd.underlying28
  a37 := Tryd.isAgg28
  z37 := Tryd.sizeOf28
  v37 := Tryd.zeroValue28
  t46 := Tryd.underlying52
  a46 := Tryd.isAgg52
  z46 := Tryd.sizeOf52
  v46 := Tryd.zeroValue52
  t51 := Tryd.underlying141
  a51 := Tryd.isAgg141
  z51 := Tryd.sizeOf141
  v51 := Tryd.zeroValue141
  t53 := Tryd.underlying68
  a53 := Tryd.isAgg68
  z53 := Tryd.sizeOf68
  v53 := Tryd.zeroValue68
  t75 := Tryd.underlying30
  a75 := Tryd.isAgg30
  z75 := Tryd.sizeOf30
  v75 := Tryd.zeroValue30
  t76 := Tryd.underlying128
  a76 := Tryd.isAgg128
  z76 := Tryd.sizeOf128
  v76 := Tryd.zeroValue128
  t85 := Tryd.underlying150
  a85 := Tryd.isAgg150
  z85 := Tryd.sizeOf150
  v85 := Tryd.zeroValue150
  t127 := Tryd.underlying170
  a127 := Tryd.isAgg170
  z127 := Tryd.sizeOf170
  v127 := Tryd.zeroValue170
  t143 := Tryd.underlying171
  a143 := Tryd.isAgg171
  z143 := Tryd.sizeOf171
  v143 := Tryd.zeroValue171
  t145 := Tryd.underlying173
  a145 := Tryd.isAgg173
  z145 := Tryd.sizeOf173
  v145 := Tryd.zeroValue173
  t167 := Tryd.underlying149
  a167 := Tryd.isAgg149
  z167 := Tryd.sizeOf149
  v167 := Tryd.zeroValue149
  t168 := Tryd.underlying152
  a168 := Tryd.isAgg152
  z168 := Tryd.sizeOf152
  v168 := Tryd.zeroValue152
  t171 := Tryd.underlying130
  a171 := Tryd.isAgg130
  z171 := Tryd.sizeOf130
  v171 := Tryd.zeroValue130
  t173 := Tryd.underlying132
  a173 := Tryd.isAgg132
  z173 := Tryd.sizeOf132
  v173 := Tryd.zeroValue132
  t175 := Tryd.underlying157
  a175 := Tryd.isAgg157
  z175 := Tryd.sizeOf157
  v175 := Tryd.zeroValue157
  t210 := Tryd.underlying161
  a210 := Tryd.isAgg161
  z210 := Tryd.sizeOf161
  v210 := Tryd.zeroValue161
  t212 := Tryd.underlying140
  a212 := Tryd.isAgg140
  z212 := Tryd.sizeOf140
  v212 := Tryd.zeroValue140
  t213 := Tryd.underlying142
  a213 := Tryd.isAgg142
  z213 := Tryd.sizeOf142
  t232 := Tryd.underlying163
  a232 := Tryd.isAgg163
  z232 := Tryd.sizeOf163
  v232 := Tryd.zeroValue163
  t233 := Tryd.underlying164
  a233 := Tryd.isAgg164
  z233 := Tryd.sizeOf164
  v233 := Tryd.zeroValue164
  g15 := by kernel_rfl
  g16 := by kernel_rfl
  g17 := by kernel_rfl
  g18 := by kernel_rfl
  g19 := by kernel_rfl
  t80 := Tryd.underlying174
  a80 := Tryd.isAgg174
  z80 := Tryd.sizeOf174
  v80 := Tryd.zeroValue174
  i0 := by kernel_rfl
  i2 := by kernel_rfl
  i3 := by kernel_rfl
  i4 := by kernel_rfl
  i5 := by kernel_rfl
  i9 := by kernel_rfl
  i20 := by kernel_rfl
  i21 := by kernel_rfl
  i37 := by kernel_rfl
  i46 := by kernel_rfl
  i51 := by kernel_rfl
  i53 := by kernel_rfl
  i75 := by kernel_rfl
  i76 := by kernel_rfl
  i80 := by kernel_rfl
  i85 := by kernel_rfl
  i127 := by kernel_rfl
  i143 := by kernel_rfl
  i145 := by kernel_rfl
  i167 := by kernel_rfl
  i168 := by kernel_rfl
  i171 := by kernel_rfl
  i173 := by kernel_rfl
  i175 := by kernel_rfl
  i210 := by kernel_rfl
  i212 := by kernel_rfl
  i232 := by kernel_rfl
  i233 := by kernel_rfl
  m15 := by kernel_rfl
  m16 := by kernel_rfl
  m17 := by kernel_rfl
  m18 := by kernel_rfl
  m19 := by kernel_rfl
  c0 := by kernel_rfl
  c2 := by kernel_rfl
  c3 := by kernel_rfl
  c4 := by kernel_rfl
  c5 := by kernel_rfl
  c9 := by kernel_rfl
  c20 := by kernel_rfl
  c21 := by kernel_rfl
  c37 := by kernel_rfl
  c46 := by kernel_rfl
  c51 := by kernel_rfl
  c53 := by kernel_rfl
  c75 := by kernel_rfl
  c76 := by kernel_rfl
  c80 := by kernel_rfl
  c85 := by kernel_rfl
  c127 := by kernel_rfl
  c143 := by kernel_rfl
  c145 := by kernel_rfl
  c167 := by kernel_rfl
  c168 := by kernel_rfl
  c171 := by kernel_rfl
  c173 := by kernel_rfl
  c175 := by kernel_rfl
  c210 := by kernel_rfl
  c212 := by kernel_rfl
  c213 := by kernel_rfl
  c232 := by kernel_rfl
  c233 := by kernel_rfl }
open Go.RowKit in
theorem Tryd.strconv_Atoi_ok (s : ByteArray) (hmax : s.size ≤ 9223372036854775806) (v : Int) (h : Lib.atoiAll s.data.toList = .ok v) (w : World) :
    Calls Tryd.prog 98 #[.string s] w fun e w' => e = .returned (.tuple #[.int .i64 v, .nilIface]) ∧ (w' = w ∨ ∃ t, w' = Lib.bytesWorld w 5 t) := Any.strconv_Atoi_ok Tryd.laysC172 s hmax v h w
open Go.RowKit in
theorem Tryd.strconv_Atoi_syntax (s : ByteArray) (hlim : s.size ≤ 281474976710656) (h : Lib.atoiAll s.data.toList = Lib.atoiAll []) (ev : Value) (w : World) (hv : w.cell? ⟨5, 0, none⟩ = some ev) (hev : ev = .nilIface ∨ ∃ te pe, ev = .iface te pe) :
    Calls Tryd.prog 98 #[.string s] w fun e w' => ∃ N, e = .returned (.tuple #[.int .i64 (0), .iface 152 (.pointer (some ⟨N, 0, none⟩))]) ∧ w.heap.size ≤ N ∧ w'.heap[N]? = some (.cells #[.string ⟨#[65, 116, 111, 105]⟩, .string s, ev] 161 (0, 0)) ∧ Below w.heap.size w w' := Any.strconv_Atoi_syntax Tryd.laysC172 s hlim h ev w hv hev
open Go.RowKit in
theorem Tryd.strconv_Atoi_range (s : ByteArray) (hlim : s.size ≤ 281474976710656) (h : Lib.atoiAll s.data.toList = .range) (ev : Value) (w : World) (hv : w.cell? ⟨6, 0, none⟩ = some ev) (hev : ev = .nilIface ∨ ∃ te pe, ev = .iface te pe) :
    Calls Tryd.prog 98 #[.string s] w fun e w' => ∃ N, e = .returned (.tuple #[.int .i64 (Lib.atoiSat s.data.toList), .iface 152 (.pointer (some ⟨N, 0, none⟩))]) ∧ w.heap.size ≤ N ∧ w'.heap[N]? = some (.cells #[.string ⟨#[65, 116, 111, 105]⟩, .string s, ev] 161 (0, 0)) ∧ Below w.heap.size w w' := Any.strconv_Atoi_range Tryd.laysC172 s hlim h ev w hv hev
def Tryd.lays145_ren : Go.Shelf.Ren := ⟨fun | 145 => 57 | 220 => 83 | 219 => 94 | 217 => 103 | 225 => 104 | 224 => 105 | 267 => 106 | 266 => 117 | 314 => 118 | n => n, fun | 9 => 9 | 4 => 4 | 59 => 92 | 3 => 3 | 5 => 5 | 46 => 52 | 146 => 145 | 51 => 141 | n => n, fun | 1 => 3 | n => n⟩
theorem Tryd.lays145 : Go.Proofs.Lays.n145 Tryd.prog Tryd.lays145_ren := {
  mixed := by kernel_rfl
  f145 := Tryd.func57.trans (congrArg some (by kernel_rfl))
  f217 := Tryd.func103.trans (congrArg some (by kernel_rfl))
  f219 := Tryd.func94.trans (congrArg some (by kernel_rfl))
  f220 := Tryd.func83.trans (congrArg some (by kernel_rfl))
  f224 := Tryd.func105.trans (congrArg some (by kernel_rfl))
  f225 := Tryd.func104.trans (congrArg some (by kernel_rfl))
  f266 := Tryd.func117.trans (congrArg some (by kernel_rfl))
  f267 := Tryd.func106.trans (congrArg some (by kernel_rfl))
  f314 := Tryd.func118.trans (congrArg some (by kernel_rfl))
  t3 := Tryd.underlying3
  a3 := Tryd.isAgg3
  z3 := Tryd.sizeOf3
  v3 := Tryd.zeroValue3
  t4 := Tryd.underlying4
  a4 := Tryd.isAgg4
  z4 := Tryd.sizeOf4
  v4 := Tryd.zeroValue4
  t5 := Tryd.underlying5
  a5 := Tryd.isAgg5
  z5 := Tryd.sizeOf5
  v5 := Tryd.zeroValue5
  t9 := Tryd.underlying9
  a9 := Tryd.isAgg9
  z9 := Tryd.sizeOf9
  v9 := Tryd.zeroValue9
  t46 := Tryd.underlying52
  a46 := Tryd.isAgg52
  z46 := Tryd.sizeOf52
  v46 := Tryd.zeroValue52
  t51 := Tryd.underlying141
  a51 := Tryd.isAgg141
  z51 := Tryd.sizeOf141
  v51 := Tryd.zeroValue141
  t59 := Tryd.underlying92
  a59 := Tryd.isAgg92
  z59 := Tryd.sizeOf92
  v59 := Tryd.zeroValue92
  t146 := Tryd.underlying145
  a146 := Tryd.isAgg145
  z146 := Tryd.sizeOf145
  v146 := Tryd.zeroValue145
  g1 := by kernel_rfl }
open Go.RowKit Go.Lib in
theorem Tryd.strings_Cut (s sep : ByteArray) (m : Int) (w : World) (hs : s.size < 4294967281) (hm : w.cell? ⟨3, 0, none⟩ = some (.int .i64 m)) :
    Calls Tryd.prog 57 #[.string s, .string sep] w fun e w' => e = .returned (.tuple #[.string ⟨(Lib.cut s.data.toList sep.data.toList).1.toArray⟩, .string ⟨(Lib.cut s.data.toList sep.data.toList).2.1.toArray⟩, .bool (Lib.cut s.data.toList sep.data.toList).2.2]) ∧ ∃ n, w' = w.drewN n := Any.strings_Cut Tryd.lays145 s sep m w hs hm
def Tryd.lays146_ren : Go.Shelf.Ren := ⟨fun | 146 => 84 | 221 => 95 | 268 => 107 | 138 => 108 | 143 => 109 | 195 => 119 | 197 => 120 | 218 => 121 | 219 => 94 | 260 => 130 | 217 => 103 | 225 => 104 | 224 => 105 | 267 => 106 | 266 => 117 | 314 => 118 | n => n, fun | 9 => 9 | 31 => 100 | 3 => 3 | 4 => 4 | 0 => 0 | 105 => 147 | 21 => 21 | 5 => 5 | 46 => 52 | 119 => 165 | 139 => 168 | 138 => 167 | 146 => 145 | 51 => 141 | n => n, fun | 1 => 3 | 3 => 9 | 4 => 10 | n => n⟩
theorem Tryd.lays146 : Go.Proofs.Lays.n146 Tryd.prog Tryd.lays146_ren := {
  mixed := by kernel_rfl
  f138 := Tryd.func108.trans (congrArg some (by kernel_rfl))
  f143 := Tryd.func109.trans (congrArg some (by kernel_rfl))
  f146 := Tryd.func84.trans (congrArg some (by kernel_rfl))
  f195 := Tryd.func119.trans (congrArg some (by kernel_rfl))
  f197 := Tryd.func120.trans (congrArg some (by kernel_rfl))
  f217 := Tryd.func103.trans (congrArg some (by kernel_rfl))
  f218 := Tryd.func121.trans (congrArg some (by kernel_rfl))
  f219 := Tryd.func94.trans (congrArg some (by kernel_rfl))
  f221 := Tryd.func95.trans (congrArg some (by kernel_rfl))
  f224 := Tryd.func105.trans (congrArg some (by kernel_rfl))
  f225 := Tryd.func104.trans (congrArg some (by kernel_rfl))
  f260 := Tryd.func130.trans (congrArg some (by kernel_rfl))
  f266 := Tryd.func117.trans (congrArg some (by kernel_rfl))
  f267 := Tryd.func106.trans (congrArg some (by kernel_rfl))
  f268 := Tryd.func107.trans (congrArg some (by kernel_rfl))
  f314 := Tryd.func118.trans (congrArg some (by kernel_rfl))
  t0 := Tryd.underlying0
  a0 := Tryd.isAgg0
  z0 := Tryd.sizeOf0
  v0 := Tryd.zeroValue0
  t3 := Tryd.underlying3
  a3 := Tryd.isAgg3
  z3 := Tryd.sizeOf3
  v3 := Tryd.zeroValue3
  t4 := Tryd.underlying4
  a4 := Tryd.isAgg4
  z4 := Tryd.sizeOf4
  v4 := Tryd.zeroValue4
  t5 := Tryd.underlying5
  a5 := Tryd.isAgg5
  z5 := Tryd.sizeOf5
  v5 := Tryd.zeroValue5
  t9 := Tryd.underlying9
  a9 := Tryd.isAgg9
  z9 := Tryd.sizeOf9
  v9 := Tryd.zeroValue9
  t21 := Tryd.underlying21
  a21 := Tryd.isAgg21
  z21 := Tryd.sizeOf21
  v21 := Tryd.zeroValue21
  t31 := Tryd.underlying100
  a31 := Tryd.isAgg100
  z31 := Tryd.sizeOf100
  v31 := Tryd.zeroValue100
  t46 := Tryd.underlying52
  a46 := Tryd.isAgg52
  z46 := Tryd.sizeOf52
  v46 := Tryd.zeroValue52
  t51 := Tryd.underlying141
  a51 := Tryd.isAgg141
  z51 := Tryd.sizeOf141
  v51 := Tryd.zeroValue141
  t105 := Tryd.underlying147
  a105 := Tryd.isAgg147
  z105 := Tryd.sizeOf147
  v105 := Tryd.zeroValue147
  t119 := Tryd.underlying165
  a119 := Tryd.isAgg165
  z119 := Tryd.sizeOf165
  t138 := Tryd.underlying167
  a138 := Tryd.isAgg167
  z138 := Tryd.sizeOf167
  v138 := Tryd.zeroValue167
  t139 := Tryd.underlying168
  a139 := Tryd.isAgg168
  z139 := Tryd.sizeOf168
  v139 := Tryd.zeroValue168
  t146 := Tryd.underlying145
  a146 := Tryd.isAgg145
  z146 := Tryd.sizeOf145
  v146 := Tryd.zeroValue145
  g1 := by kernel_rfl
  g3 := by kernel_rfl
  g4 := by kernel_rfl }
open Go.RowKit Go.Lib in
theorem Tryd.strings_Split (s sep : ByteArray) (m : Int) (w : World) (hs : s.size < 4294967281) (hm : w.cell? ⟨3, 0, none⟩ = some (.int .i64 m)) (h1 : 1 ≤ sep.size) :
    Calls Tryd.prog 84 #[.string s, .string sep] w fun e w' =>
      e = .returned (.slice (some ⟨w.heap.size, 0, none⟩) (Lib.countB s sep + 1) (Lib.countB s sep + 1)) ∧ w' = w.alloc (.cells ((Lib.splitB sep 0 (Lib.countB s sep) s).map Value.string).toArray 9) := Any.strings_Split Tryd.lays146 (by kernel_rfl) s sep m w hs hm h1
end Go.Proofs

/- Layer 7: asm's number, operation, value. -/
namespace Go.Proofs.YtkeckjgihjpfbaaDoor
set_option maxRecDepth 100000
open Go.RowKit
attribute [local go_sem ↓] Go.wp_at_zero Go.wp_at_succ

/-- The tables, and what the library's own variables hold. -/
structure AU (w : World) : Prop where
  at_ : AT w
  syn : ∃ t p, w.cell? ⟨5, 0, none⟩ = some (.iface t p)
  rng : ∃ t p, w.cell? ⟨6, 0, none⟩ = some (.iface t p)
  max : ∃ m, w.cell? ⟨3, 0, none⟩ = some (.int .i64 m)
theorem AU.ext {w w' : World} (h : AU w) (hb : Below w.heap.size w w') : AU w' := by
  obtain ⟨h1, ⟨t, p, h2⟩, ⟨t2, p2, h3⟩, ⟨m, h4⟩⟩ := h
  exact ⟨h1.ext hb, ⟨t, p, (hb.cell (p := ⟨5, 0, none⟩) (World.block_lt_of_cell? w ⟨5, 0, none⟩ h2)).trans h2⟩, ⟨t2, p2, (hb.cell (p := ⟨6, 0, none⟩) (World.block_lt_of_cell? w ⟨6, 0, none⟩ h3)).trans h3⟩, ⟨m, (hb.cell (p := ⟨3, 0, none⟩) (World.block_lt_of_cell? w ⟨3, 0, none⟩ h4)).trans h4⟩⟩
theorem tx_data (s : List UInt8) : (tx s).data.toList = s := by simp [tx]
def optV (o : Option Int) : Value := .tuple #[.int .i64 (o.getD 0), .bool o.isSome]
theorem optV_some (z : Int) : optV (some z) = .tuple #[.int .i64 z, .bool true] := rfl
theorem optV_none : optV none = .tuple #[.int .i64 0, .bool false] := rfl
set_option maxHeartbeats 2000000 in
theorem number_any (s : List UInt8) (hs : s.length ≤ 100000) (w : World) (hA : AU w) : Calls Tryd.prog 86 #[.string (tx s)] w fun e w' => e = .returned (optV (numO s)) ∧ Below w.heap.size w w' := by
  have hsz := tx_size s
  have hdt := tx_data s
  obtain ⟨hT, ⟨t5, p5, h5⟩, ⟨t6, p6, h6⟩, _⟩ := hA
  cases ha : Lib.atoiAll s with
  | ok v =>
    have HAT := Lib.hid (Tryd.strconv_Atoi_ok (tx s) (by omega) v (by rw [hdt]; exact ha) w)
    have hb := Lib.atoiAll_bounds ha
    have HIT := Lib.hid (fun (W : World) (h : Below w.heap.size w W) => Tryd.strconv_Itoa v hb.1 hb.2 W (hT.ext h).pow)
    have hte : ((tx (Lib.itoa v)).toList == (tx s).toList) = decide (Lib.itoa v = s) := by
      rw [tx_toList, tx_toList]
      by_cases h : Lib.itoa v = s
      · rw [h]; simp
      · rw [decide_eq_false h]; exact beq_eq_false_iff_ne.2 h
    have hnum : numO s = if Lib.itoa v = s then some v else none := by unfold numO; rw [ha]
    change Hid (∀ W, _ → Calls _ _ _ W fun e w' => e = .returned (.string (tx (Lib.itoa v))) ∧ _) at HIT
    obtain ⟨q, hq⟩ : ∃ q, q = tx (Lib.itoa v) := ⟨_, rfl⟩
    rw [← hq] at HIT hte
    by_cases hv : Lib.itoa v = s
    · rw [decide_eq_true hv] at hte
      rw [if_pos hv] at hnum
      rw [hnum, optV_some]
      have hne : (q.toList != (tx s).toList) = false := by rw [bne, hte]; rfl
      obtain ⟨S, hS⟩ : ∃ S, S = tx s := ⟨_, rfl⟩
      rw [← hS] at HAT hte hne ⊢
      clear hS hq hv hnum ha hdt hsz h5 h6 hT hb hs
      go_enter Tryd.func86, Tryd.ntmps86
      go_wp2_with fail
      refine Calls.mono HAT.out ?_
      rintro e w1 ⟨rfl, hw1⟩
      have hb1 : Below w.heap.size w w1 := by
        rcases hw1 with h | ⟨t, h⟩
        · rw [h]; exact Below.refl _ _
        · rw [h]; exact Go.Joins.below_bytesWorld _ w _ _ (Nat.le_refl _)
      have HB1 := Lib.hid hb1
      have HI := Lib.hid (HIT.out w1 hb1)
      clear hw1 hb1
      go_wp2_with fail
      refine Calls.mono HI.out ?_
      rintro e w2 ⟨rfl, k, os, hw2⟩
      have HB2 := Lib.hid (HB1.out.trans ((show Below w1.heap.size w1 w2 from hw2 ▸ below_grow k os).mono HB1.out.size))
      clear hw2
      go_wp2_with fail
      go_ret2
      exact ⟨rfl, HB2.out⟩
    · rw [decide_eq_false hv] at hte
      rw [if_neg hv] at hnum
      rw [hnum, optV_none]
      have hne : (q.toList != (tx s).toList) = true := by rw [bne, hte]; rfl
      obtain ⟨S, hS⟩ : ∃ S, S = tx s := ⟨_, rfl⟩
      rw [← hS] at HAT hte hne ⊢
      clear hS hq hv hnum ha hdt hsz h5 h6 hT hb hs
      go_enter Tryd.func86, Tryd.ntmps86
      go_wp2_with fail
      refine Calls.mono HAT.out ?_
      rintro e w1 ⟨rfl, hw1⟩
      have hb1 : Below w.heap.size w w1 := by
        rcases hw1 with h | ⟨t, h⟩
        · rw [h]; exact Below.refl _ _
        · rw [h]; exact Go.Joins.below_bytesWorld _ w _ _ (Nat.le_refl _)
      have HB1 := Lib.hid hb1
      have HI := Lib.hid (HIT.out w1 hb1)
      clear hw1 hb1
      go_wp2_with fail
      refine Calls.mono HI.out ?_
      rintro e w2 ⟨rfl, k, os, hw2⟩
      have HB2 := Lib.hid (HB1.out.trans ((show Below w1.heap.size w1 w2 from hw2 ▸ below_grow k os).mono HB1.out.size))
      clear hw2
      go_wp2_with fail
      go_ret2
      exact ⟨rfl, HB2.out⟩
  | range =>
    have HAT := Lib.hid (Tryd.strconv_Atoi_range (tx s) (by omega) (by rw [hdt]; exact ha) _ w h6 (.inr ⟨t6, p6, rfl⟩))
    rw [show numO s = none by unfold numO; rw [ha], optV_none]
    obtain ⟨S, hS⟩ : ∃ S, S = tx s := ⟨_, rfl⟩
    obtain ⟨z, hz⟩ : ∃ z, z = Lib.atoiSat (tx s).data.toList := ⟨_, rfl⟩
    rw [← hz, ← hS] at HAT
    rw [← hS]
    clear hS hz ha hdt hsz h5 h6 hT hs
    go_enter Tryd.func86, Tryd.ntmps86
    go_wp2_with fail
    refine Calls.mono HAT.out ?_
    rintro e w1 ⟨N, rfl, _, _, hb1⟩
    have HB1 := Lib.hid hb1
    clear hb1
    go_wp2_with fail
    go_ret2
    exact ⟨rfl, HB1.out⟩
  | _ =>
    have HAT := Lib.hid (Tryd.strconv_Atoi_syntax (tx s) (by omega) (by rw [hdt]; exact ha) _ w h5 (.inr ⟨t5, p5, rfl⟩))
    rw [show numO s = none by unfold numO; rw [ha], optV_none]
    obtain ⟨S, hS⟩ : ∃ S, S = tx s := ⟨_, rfl⟩
    rw [← hS] at HAT ⊢
    clear hS ha hdt hsz h5 h6 hT hs
    go_enter Tryd.func86, Tryd.ntmps86
    go_wp2_with fail
    refine Calls.mono HAT.out ?_
    rintro e w1 ⟨N, rfl, _, _, hb1⟩
    have HB1 := Lib.hid hb1
    clear hb1
    go_wp2_with fail
    go_ret2
    exact ⟨rfl, HB1.out⟩
end Go.Proofs.YtkeckjgihjpfbaaDoor

/- Layer 7: asm's operation and value. -/
namespace Go.Proofs.YtkeckjgihjpfbaaDoor
set_option maxRecDepth 100000
open Go.RowKit
attribute [local go_sem ↓] Go.wp_at_zero Go.wp_at_succ

def sixteen (S : Nat → ByteArray) : Array Value := #[.string (S 0), .string (S 1), .string (S 2), .string (S 3), .string (S 4), .string (S 5), .string (S 6), .string (S 7), .string (S 8), .string (S 9), .string (S 10), .string (S 11), .string (S 12), .string (S 13), .string (S 14), .string (S 15)]
theorem idx16 (S : Nat → ByteArray) (k : Nat) (hk : k < 16) (W : World) : (Instr.index 90 (.agg (sixteen S)) (.int .i64 (k : Int))).run Tryd.prog W = .ok (.string (S k)) W := by
  have h16 : k = 0 ∨ k = 1 ∨ k = 2 ∨ k = 3 ∨ k = 4 ∨ k = 5 ∨ k = 6 ∨ k = 7 ∨ k = 8 ∨ k = 9 ∨ k = 10 ∨ k = 11 ∨ k = 12 ∨ k = 13 ∨ k = 14 ∨ k = 15 := by omega
  rcases h16 with rfl | rfl | rfl | rfl | rfl | rfl | rfl | rfl | rfl | rfl | rfl | rfl | rfl | rfl | rfl | rfl <;> rfl
def four (S : Nat → ByteArray) : Array Value := #[.string (S 0), .string (S 1), .string (S 2), .string (S 3)]
theorem idx4 (S : Nat → ByteArray) (k : Nat) (hk : k < 4) (W : World) : (Instr.index 123 (.agg (four S)) (.int .i64 (k : Int))).run Tryd.prog W = .ok (.string (S k)) W := by
  have h16 : k = 0 ∨ k = 1 ∨ k = 2 ∨ k = 3 := by omega
  rcases h16 with rfl | rfl | rfl | rfl <;> rfl
theorem opOf_no {s : List UInt8} (h : ∀ j, j < 16 → (wordsS[j]?).getD [] ≠ s) : opOf s = -1 := by
  rcases opOf_ways s with ⟨h1, _⟩ | ⟨h1, h2⟩
  · exact h1
  · obtain ⟨k, hk⟩ := Int.eq_ofNat_of_zero_le h1.1
    rw [hk] at h2
    unfold wordL at h2
    rw [if_pos (by omega), Int.toNat_natCast] at h2
    exact absurd h2 (h k (by omega))
theorem opOf_yes {s : List UInt8} {k : Nat} (hk : k < 16) (h : (wordsS[k]?).getD [] = s) : opOf s = k := by
  have h2 := opOf_at k hk
  unfold wordL at h2
  rw [if_pos (by omega), Int.toNat_natCast, h] at h2
  exact h2
set_option maxHeartbeats 4000000 in
theorem operation_any (s : List UInt8) (w : World) (hT : AT w) : Calls Tryd.prog 96 #[.string (tx s)] w fun e w' => e = .returned (.int .i64 (opOf s)) ∧ w = w' := by
  have HNO := Lib.hid (opOf_no (s := s))
  have HYES := Lib.hid (fun k hk h => opOf_yes (s := s) (k := k) hk h)
  obtain ⟨S, hS⟩ : ∃ S : Nat → ByteArray, S = fun i => tx ((wordsS[i]?).getD []) := ⟨_, rfl⟩
  have hc : ∀ i : Nat, i < 16 → w.cell? ⟨1, i, none⟩ = some (.string (S i)) := fun i hi => by rw [hS]; exact hT.words i hi
  have HEQ := Lib.hid (show ∀ k, ((S k).toList == (tx s).toList) = decide ((wordsS[k]?).getD [] = s) from fun k => by
    rw [hS]; simp only []; rw [tx_toList, tx_toList]
    by_cases h : (wordsS[k]?).getD [] = s
    · rw [h]; simp
    · rw [decide_eq_false h]; exact beq_eq_false_iff_ne.2 h)
  have c0 := hc 0 (by omega); have c1 := hc 1 (by omega); have c2 := hc 2 (by omega); have c3 := hc 3 (by omega)
  have c4 := hc 4 (by omega); have c5 := hc 5 (by omega); have c6 := hc 6 (by omega); have c7 := hc 7 (by omega)
  have c8 := hc 8 (by omega); have c9 := hc 9 (by omega); have c10 := hc 10 (by omega); have c11 := hc 11 (by omega)
  have c12 := hc 12 (by omega); have c13 := hc 13 (by omega); have c14 := hc 14 (by omega); have c15 := hc 15 (by omega)
  have HIX := Lib.hid (fun k hk => idx16 S k hk w)
  obtain ⟨T, hTT⟩ : ∃ T, T = tx s := ⟨_, rfl⟩
  rw [← hTT] at HEQ ⊢
  clear hc hS hTT hT
  go_enter Tryd.func96, Tryd.ntmps96
  go_wp2_with fail
  clear c0 c1 c2 c3 c4 c5 c6 c7 c8 c9 c10 c11 c12 c13 c14 c15
  go_loop [6] (fun i => ∃ k : Nat, i = .int .i64 (k : Int) ∧ k ≤ 16 ∧ ∀ j, j < k → (wordsS[j]?).getD [] ≠ s) (fun i => 16 - (intOf i).toNat)
  case atStart => exact ⟨0, rfl, by omega, fun j hj => absurd hj (by omega)⟩
  case round =>
    obtain ⟨k, rfl, hk, hno⟩ := hrel
    have HN := Lib.hid hno
    clear hno
    by_cases hlt : k < 16
    · have hix := HIX.out k hlt
      unfold sixteen at hix
      have heq := HEQ.out k
      obtain ⟨Sk, hSk⟩ : ∃ q, q = S k := ⟨_, rfl⟩
      rw [← hSk] at hix heq
      clear hSk
      by_cases hw : (wordsS[k]?).getD [] = s
      · rw [decide_eq_true hw] at heq
        have HO := Lib.hid (HYES.out k hlt hw)
        clear hw
        go_wp2_with fail
        go_ret
        exact ⟨by rw [HO.out]; rfl, rfl⟩
      · rw [decide_eq_false hw] at heq
        have HW := Lib.hid hw
        clear hw
        go_wp2_with fail
        go_round
        case rel => exact ⟨k + 1, by go_num, by omega, fun j hj => by
          rcases Nat.lt_or_ge j k with h | h
          · exact HN.out j h
          · obtain rfl : j = k := by omega
            exact HW.out⟩
        case measure => simp [intOf]; omega
    · have HO := Lib.hid (HNO.out (fun j hj => HN.out j (by omega)))
      go_wp2_with fail
      go_ret
      exact ⟨by rw [HO.out]; rfl, rfl⟩
end Go.Proofs.YtkeckjgihjpfbaaDoor

/- Layer 7: asm's value. -/
namespace Go.Proofs.YtkeckjgihjpfbaaDoor
set_option maxRecDepth 100000
open Go.RowKit
attribute [local go_sem ↓] Go.wp_at_zero Go.wp_at_succ

theorem sgn_no {s : List UInt8} (h : ∀ j, j < 4 → (relsS[j]?).getD [] ≠ s) : valO 106 s = none := by
  unfold valO
  rw [if_pos rfl]
  cases hf : relsS.findIdx? (fun v => v = s) with
  | none => rfl
  | some k =>
    obtain ⟨hk, h2, _⟩ := List.findIdx?_eq_some_iff_getElem.1 hf
    have := h k hk
    rw [List.getElem?_eq_getElem hk] at this
    exact absurd (of_decide_eq_true h2) this
theorem sgn_yes {s : List UInt8} {k : Nat} (hk : k < 4) (h : (relsS[k]?).getD [] = s) : valO 106 s = some (k : Int) := by
  refine (valO_iff 106 s k).2 ⟨⟨by unfold Fits; omega, fun _ => by omega⟩, ?_⟩
  rw [← h]
  have h3 : k = 0 ∨ k = 1 ∨ k = 2 ∨ k = 3 := by omega
  rcases h3 with rfl | rfl | rfl | rfl <;> rfl
theorem trim_cut {w : List UInt8} {l : Nat} (h : Lib.hasPrefix w (markL l) = true) : Lib.trimPrefix w (markL l) = w.drop (markL l).length := by unfold Lib.trimPrefix; rw [if_pos h]
set_option maxHeartbeats 4000000 in
theorem avalue_any (l : Nat) (s : List UInt8) (hs : s.length ≤ 100000) (w : World) (hA : AU w) : Calls Tryd.prog 97 #[.int .u8 (l : Int), .string (tx s)] w fun e w' => e = .returned (optV (valO l s)) ∧ Below w.heap.size w w' := by
  by_cases hj : l = 106
  · subst hj
    have HNO := Lib.hid (sgn_no (s := s))
    have HYES := Lib.hid (fun k hk h => sgn_yes (s := s) (k := k) hk h)
    obtain ⟨S, hS⟩ : ∃ S : Nat → ByteArray, S = fun i => tx ((relsS[i]?).getD []) := ⟨_, rfl⟩
    have hc : ∀ i : Nat, i < 4 → w.cell? ⟨2, i, none⟩ = some (.string (S i)) := fun i hi => by rw [hS]; exact hA.at_.rels i hi
    have HEQ := Lib.hid (show ∀ k, ((S k).toList == (tx s).toList) = decide ((relsS[k]?).getD [] = s) from fun k => by
      rw [hS]; simp only []; rw [tx_toList, tx_toList]
      by_cases h : (relsS[k]?).getD [] = s
      · rw [h]; simp
      · rw [decide_eq_false h]; exact beq_eq_false_iff_ne.2 h)
    have c0 := hc 0 (by omega); have c1 := hc 1 (by omega); have c2 := hc 2 (by omega); have c3 := hc 3 (by omega)
    have HIX := Lib.hid (fun k hk => idx4 S k hk w)
    obtain ⟨T, hTT⟩ : ∃ T, T = tx s := ⟨_, rfl⟩
    rw [← hTT] at HEQ ⊢
    obtain ⟨V, hV⟩ : ∃ V, V = valO 106 s := ⟨_, rfl⟩
    rw [← hV] at HNO HYES ⊢
    clear hc hS hTT hA hs hV
    go_enter Tryd.func97, Tryd.ntmps97
    go_wp2_with fail
    clear c0 c1 c2 c3
    go_loop [26] (fun i => ∃ k : Nat, i = .int .i64 (k : Int) ∧ k ≤ 4 ∧ ∀ j, j < k → (relsS[j]?).getD [] ≠ s) (fun i => 4 - (intOf i).toNat)
    case atStart => exact ⟨0, rfl, by omega, fun j hj => absurd hj (by omega)⟩
    case round =>
      obtain ⟨k, rfl, hk, hno⟩ := hrel
      have HN := Lib.hid hno
      clear hno
      by_cases hlt : k < 4
      · have hix := HIX.out k hlt
        unfold four at hix
        have heq := HEQ.out k
        obtain ⟨Sk, hSk⟩ : ∃ q, q = S k := ⟨_, rfl⟩
        rw [← hSk] at hix heq
        clear hSk
        by_cases hw : (relsS[k]?).getD [] = s
        · rw [decide_eq_true hw] at heq
          have HO := Lib.hid (HYES.out k hlt hw)
          clear hw
          go_wp2_with fail
          go_ret2
          exact ⟨by rw [HO.out]; rfl, Below.refl _ _⟩
        · rw [decide_eq_false hw] at heq
          have HW := Lib.hid hw
          clear hw
          go_wp2_with fail
          go_round
          case rel => exact ⟨k + 1, by go_num, by omega, fun j hj => by
            rcases Nat.lt_or_ge j k with h | h
            · exact HN.out j h
            · obtain rfl : j = k := by omega
              exact HW.out⟩
          case measure => simp [intOf]; omega
      · have HO := Lib.hid (HNO.out (fun j hj => HN.out j (by omega)))
        go_wp2_with fail
        go_ret2
        exact ⟨by rw [HO.out]; rfl, Below.refl _ _⟩
  · have d1 : ((l : Int) != 106) = true := by rw [bne_iff_ne]; omega
    have HM := Lib.hid (mark_any l w)
    have HCP := Tryd.strings_CutPrefix (tx s) (tx (markL l)) w
    rw [tx_data, tx_data] at HCP
    cases hp : Lib.hasPrefix s (markL l) with
    | true =>
      have HV := Lib.hid (show valO l s = numO (s.drop (markL l).length) by unfold valO; rw [if_neg hj, if_pos hp])
      rw [hp, trim_cut hp] at HCP
      have HN := Lib.hid (number_any (s.drop (markL l).length) (by rw [List.length_drop]; omega) w hA)
      change Calls _ _ _ w fun e w' => e = .returned (.tuple #[.string (tx (s.drop (markL l).length)), .bool true]) ∧ _ at HCP
      obtain ⟨q, hq⟩ : ∃ q, q = tx (s.drop (markL l).length) := ⟨_, rfl⟩
      rw [← hq] at HN HCP
      obtain ⟨O, hO⟩ : ∃ O, O = numO (s.drop (markL l).length) := ⟨_, rfl⟩
      rw [← hO] at HN HV
      rw [HV.out]
      obtain ⟨T, hTT⟩ : ∃ T, T = tx s := ⟨_, rfl⟩
      obtain ⟨M, hM⟩ : ∃ M, M = tx (markL l) := ⟨_, rfl⟩
      rw [← hTT] at HCP ⊢
      rw [← hM] at HCP HM
      have HCP := Lib.hid HCP
      unfold optV at HN ⊢
      clear hq hO hTT hM hp hA hj hs
      go_enter Tryd.func97, Tryd.ntmps97
      go_wp2_with fail
      refine Calls.mono HM.out ?_
      rintro e w' ⟨rfl, rfl⟩
      go_wp2_with fail
      refine Calls.mono HCP.out ?_
      rintro e w' ⟨rfl, rfl⟩
      go_wp2_with fail
      refine Calls.mono HN.out ?_
      rintro e w1 ⟨rfl, hb1⟩
      have HB1 := Lib.hid hb1
      clear hb1
      go_wp2_with fail
      go_ret2
      exact ⟨rfl, HB1.out⟩
    | false =>
      have HV := Lib.hid (show valO l s = none by unfold valO; rw [if_neg hj, if_neg (by rw [hp]; decide)])
      rw [hp] at HCP
      rw [HV.out]
      obtain ⟨q, hq⟩ : ∃ q, q = Lib.trimPrefix s (markL l) := ⟨_, rfl⟩
      rw [← hq] at HCP
      obtain ⟨T, hTT⟩ : ∃ T, T = tx s := ⟨_, rfl⟩
      obtain ⟨M, hM⟩ : ∃ M, M = tx (markL l) := ⟨_, rfl⟩
      rw [← hTT] at HCP ⊢
      rw [← hM] at HCP HM
      have HCP := Lib.hid HCP
      clear hq hTT hM hp hA hj hs
      go_enter Tryd.func97, Tryd.ntmps97
      go_wp2_with fail
      refine Calls.mono HM.out ?_
      rintro e w' ⟨rfl, rfl⟩
      go_wp2_with fail
      refine Calls.mono HCP.out ?_
      rintro e w' ⟨rfl, rfl⟩
      go_wp2_with fail
      go_ret2
      exact ⟨rfl, Below.refl _ _⟩
end Go.Proofs.YtkeckjgihjpfbaaDoor

/- Layer 7, of no program: what a line's words come to. -/
namespace Go.Proofs.YtkeckjgihjpfbaaDoor
set_option maxRecDepth 100000

theorem set_ok {x : Ins} (h : x.Ok) (o : Nat) {z : Int} (hz : Fits z) : (x.set o z).Ok := by
  unfold Ins.set
  split
  · exact ⟨h.op, hz, h.b, h.c, h.t, h.n⟩
  · split
    · exact ⟨h.op, h.a, hz, h.c, h.t, h.n⟩
    · split
      · exact ⟨h.op, h.a, h.b, hz, h.t, h.n⟩
      · split
        · exact ⟨h.op, h.a, h.b, h.c, hz, h.n⟩
        · exact ⟨h.op, h.a, h.b, h.c, h.t, hz⟩
theorem fold_ok : ∀ (ps : List (Nat × Int)) (u : Ins), u.Ok → (∀ p ∈ ps, Fits p.2) → (ps.foldl (fun u p => u.set (offL p.1) p.2) u).Ok
  | [], _, h, _ => h
  | p :: ps, _, h, hz => fold_ok ps _ (set_ok h _ (hz p (List.mem_cons_self ..))) fun q hq => hz q (List.mem_cons_of_mem _ hq)
theorem setAll_ok {op : Int} (ho : Fits op) (ls : List Nat) (zs : List Int) (hz : ∀ z ∈ zs, Fits z) : (setAll op ls zs).Ok := by
  have f0 : Fits 0 := by unfold Fits; decide
  exact fold_ok _ _ ⟨ho, f0, f0, f0, f0, f0⟩ fun p hp => hz _ (List.of_mem_zip hp).2
theorem line_none {row w0 : List UInt8} {ws : List (List UInt8)} (hw : splitC 32 row = w0 :: ws) (h : okOp (opOf w0) = false ∨ ws.length ≠ (shapeL (opOf w0)).length ∨ ∃ (i : Nat) (h1 : i < ws.length) (h2 : i < (shapeL (opOf w0)).length), valO (shapeL (opOf w0))[i] ws[i] = none) : insOf row = none := by
  refine insOf_none fun x hg hk hx => ?_
  have h1 := line_words x
  rw [hx, hw] at h1
  simp only [List.cons.injEq] at h1
  obtain ⟨rfl, rfl⟩ := h1
  obtain ⟨k, hop⟩ := Int.eq_ofNat_of_zero_le hg.op.1
  have hk16 : k < 16 := by have := hg.op; omega
  have ho : opOf (wordL x.op) = x.op := by rw [hop]; exact opOf_at k hk16
  rw [ho] at h
  rcases h with h | h | ⟨i, h1, h2, h3⟩
  · have h4 : okOp x.op = true := decide_eq_true hg.op
    rw [h4] at h; cases h
  · simp at h
  · have h5 : valO (shapeL x.op)[i] (x.word (shapeL x.op)[i]) = some (x.get (offL (shapeL x.op)[i])) := by
      refine (valO_iff _ _ _).2 ⟨⟨get_fits hk _, fun hj => ?_⟩, rfl⟩
      have hm : (106 : Nat) ∈ shapeL x.op := by rw [← hj]; exact List.getElem_mem h2
      rw [hj]
      exact hg.sign hm
    rw [List.getElem_map, h5] at h3
    cases h3
theorem line_some {row w0 : List UInt8} {ws : List (List UInt8)} (hw : splitC 32 row = w0 :: ws) (ho : 0 ≤ opOf w0 ∧ opOf w0 < 16) (zs : List Int) (h1 : zs.length = (shapeL (opOf w0)).length) (h2 : ws.length = (shapeL (opOf w0)).length)
    (hv : ∀ (i : Nat) (ha : i < (shapeL (opOf w0)).length) (hb : i < ws.length) (hc : i < zs.length), valO (shapeL (opOf w0))[i] ws[i] = some zs[i]) : insOf row = some (setAll (opOf w0) (shapeL (opOf w0)) zs) := by
  obtain ⟨op, hop⟩ : ∃ op, op = opOf w0 := ⟨_, rfl⟩
  have hwo : wordL op = w0 := by
    rcases opOf_ways w0 with ⟨h, _⟩ | ⟨_, h⟩
    · omega
    · rw [hop]; exact h
  rw [← hop] at ho h1 h2 hv ⊢
  obtain ⟨e1, e2, e3⟩ := setAll_full op ho zs h1
  have hvi : ∀ (i : Nat) (ha : i < (shapeL op).length), (Fits (zs[i]'(by omega)) ∧ ((shapeL op)[i] = 106 → 0 ≤ zs[i]'(by omega) ∧ zs[i]'(by omega) ≤ 3)) ∧ fieldW (shapeL op)[i] (zs[i]'(by omega)) = ws[i]'(by omega) := fun i ha => (valO_iff _ _ _).1 (hv i ha (by omega) (by omega))
  have hget : ∀ (i : Nat) (ha : i < (shapeL op).length), (setAll op (shapeL op) zs).get (offL (shapeL op)[i]) = zs[i]'(by omega) := fun i ha => by
    have h3 := congrArg (fun l : List Int => l[i]?) e3
    simp only [List.getElem?_map, List.getElem?_eq_getElem ha, List.getElem?_eq_getElem (show i < zs.length by omega), Option.map_some, Option.some.injEq] at h3
    exact h3
  obtain ⟨x, hx⟩ : ∃ x, x = setAll op (shapeL op) zs := ⟨_, rfl⟩
  have hok : x.Ok := by
    rw [hx]
    refine setAll_ok (by unfold Fits; omega) _ _ fun z hz => ?_
    obtain ⟨i, hi, rfl⟩ := List.getElem_of_mem hz
    exact (hvi i (by omega)).1.1
  rw [← hx] at e1 e2 hget ⊢
  refine insOf_some ⟨by rw [e1]; exact ho, by rw [e1]; exact e2, fun hm => ?_⟩ hok ?_
  · rw [e1] at hm
    obtain ⟨i, hi, hi2⟩ := List.getElem_of_mem hm
    have := (hvi i hi).1.2 hi2
    rw [← hget i hi, hi2] at this
    exact this
  · obtain ⟨a, vs, h3, h4, _⟩ := splitC_join 32 row
    rw [hw] at h3
    simp only [List.cons.injEq] at h3
    obtain ⟨rfl, rfl⟩ := h3
    rw [h4]
    unfold lineL lineLs
    rw [e1, hwo]
    congr 1
    rw [show ((shapeL op).flatMap fun l => 32 :: x.word l) = ((shapeL op).map x.word).flatMap fun w => 32 :: w by rw [List.flatMap_map]]
    congr 1
    apply List.ext_getElem
    · rw [List.length_map, h2]
    · intro i ha hb
      rw [List.getElem_map]
      have hi : i < (shapeL op).length := by simpa using ha
      show fieldW _ (x.get _) = _
      rw [hget i hi]
      exact (hvi i hi).2
end Go.Proofs.YtkeckjgihjpfbaaDoor

/- Layer 7: the instruction of a line's words. -/
namespace Go.Proofs.YtkeckjgihjpfbaaDoor
set_option maxRecDepth 100000
open Go.RowKit
attribute [local go_sem ↓] Go.wp_at_zero Go.wp_at_succ

def txs (ws : List (List UInt8)) : List Value := ws.map fun s => .string (tx s)
theorem results85 (w : World) (g : Nat) (x : Ins) (v : Value) (h : w.heap[g]? = some (.cells x.vals.toArray 43 (0, 0))) (tmps : Array Value) (h2 : tmps.getD 2 undef = .pointer (some ⟨g, 0, none⟩)) (h3 : tmps.getD 3 undef = v) :
    (results Tryd.f85 tmps).run Tryd.prog w = .ok (.tuple #[x.val, v]) w := by
  have h2' : tmps[2]?.getD undef = .pointer (some ⟨g, 0, none⟩) := by simpa using h2
  have h3' : tmps[3]?.getD undef = v := by simpa using h3
  have c0 : w.cell? ⟨g, 0, none⟩ = some (.int .i64 x.op) := cell_of_row w g 0 _ 43 (0, 0) h
  have c1 : w.cell? ⟨g, 1, none⟩ = some (.int .i64 x.a) := cell_of_row w g 1 _ 43 (0, 0) h
  have c2 : w.cell? ⟨g, 2, none⟩ = some (.int .i64 x.b) := cell_of_row w g 2 _ 43 (0, 0) h
  have c3 : w.cell? ⟨g, 3, none⟩ = some (.int .i64 x.c) := cell_of_row w g 3 _ 43 (0, 0) h
  have c4 : w.cell? ⟨g, 4, none⟩ = some (.int .i64 x.t) := cell_of_row w g 4 _ 43 (0, 0) h
  have c5 : w.cell? ⟨g, 5, none⟩ = some (.int .i64 x.n) := cell_of_row w g 5 _ 43 (0, 0) h
  have e : Tryd.f85.results = #[.cell 2 43, .tmp 3] := Tryd.results85
  have hl : (loadVar 43 ⟨g, 0, none⟩).run Tryd.prog w = .ok x.val w := by unfold Ins.val; simp [go_sem, c0, c1, c2, c3, c4, c5]
  simp only [results, e]
  simp [asAddr, h2', hl, h3']
theorem set6_below {B : Nat} {w w1 : World} (h : Below B w w1) (g : Nat) (x : Ins) (hg : B ≤ g) : Below B w (set6 w1 g x) :=
  (((((h.setCell (p := ⟨g, 0, none⟩) hg _).setCell (p := ⟨g, 1, none⟩) hg _).setCell (p := ⟨g, 2, none⟩) hg _).setCell (p := ⟨g, 3, none⟩) hg _).setCell (p := ⟨g, 4, none⟩) hg _).setCell (p := ⟨g, 5, none⟩) hg _
def CodeE (row : List UInt8) (w w' : World) (e : Ending) : Prop :=
  ∃ (x : Ins) (b : Bool), e = .returned (.tuple #[x.val, .bool b]) ∧ insOf row = (if b then some x else none) ∧ Below w.heap.size w w'
theorem words_cell {w : World} {A : Option Addr} {n : Nat} {ws : List (List UInt8)} (h : Rdv w A n 1 (txs ws)) (k : Nat) (hk : k < ws.length) : ∃ b off, A = some ⟨b, off, none⟩ ∧ ∀ k (hk : k < ws.length), w.cell? ⟨b, off + k, none⟩ = some (.string (tx ws[k])) := by
  have hl := h.1
  rw [txs, List.length_map] at hl
  obtain ⟨b, off, e, hc⟩ := h.2 (by omega)
  exact ⟨b, off, e, fun j hj => hc j _ (by simp [txs, hj])⟩
def startC (w : World) (op : Int) : World := (w.alloc (.cells #[.int .i64 0, .int .i64 0, .int .i64 0, .int .i64 0, .int .i64 0, .int .i64 0] 43)).alloc (.cells #[.int .i64 op, .int .i64 0, .int .i64 0, .int .i64 0, .int .i64 0, .int .i64 0] 43)
theorem startC_facts (w : World) (op : Int) : Below w.heap.size w (startC w op) ∧ (startC w op).heap[w.heap.size]? = some (.cells Ins.zero.vals.toArray 43 (0, 0)) ∧ (startC w op).heap[w.heap.size + 1]? = some (.cells (setAll op [] []).vals.toArray 43 (0, 0)) := by
  unfold startC
  refine ⟨((Below.refl _ w).alloc (Nat.le_refl _) _).alloc (by simp) _, (heap_alloc_old _ _ (by simp)).trans (heap_alloc_new w _), ?_⟩
  have h := heap_alloc_new (w.alloc (.cells #[.int .i64 0, .int .i64 0, .int .i64 0, .int .i64 0, .int .i64 0, .int .i64 0] 43)) (.cells #[.int .i64 op, .int .i64 0, .int .i64 0, .int .i64 0, .int .i64 0, .int .i64 0] 43)
  rw [World.size_alloc] at h
  exact h
set_option maxHeartbeats 16000000 in
theorem code_any (row : List UInt8) (w0 : List UInt8) (ws : List (List UInt8)) (hsp : splitC 32 row = w0 :: ws) (_ : row.length ≤ 100000) (A : Option Addr) (n c : Nat) (w : World) (hA : AU w) (hr : Rdv w A n 1 (txs (w0 :: ws))) (hwl : ∀ v ∈ ws, v.length ≤ 100000) :
    Calls Tryd.prog 85 #[.slice A n c] w fun e w' => CodeE row w w' e := by
  have hl := hr.1
  rw [txs, List.length_map, List.length_cons] at hl
  obtain ⟨bb, off, rfl, hc⟩ := words_cell hr 0 (by simp)
  have hbl : bb < w.heap.size := World.block_lt_of_cell? w ⟨bb, off + 0, none⟩ (hc 0 (by simp))
  obtain ⟨op, hop⟩ : ∃ op, op = opOf w0 := ⟨_, rfl⟩
  obtain ⟨hs1, hs2, hs3⟩ := startC_facts w op
  have HB0 := Lib.hid hs1
  have HOU0 := Lib.hid hs2
  have HCU0 := Lib.hid hs3
  have HOP := Lib.hid (fun W h => operation_any w0 W (hA.at_.ext h))
  have hw1 := (Below.refl w.heap.size w).alloc (Nat.le_refl _) (.cells #[.int .i64 0, .int .i64 0, .int .i64 0, .int .i64 0, .int .i64 0, .int .i64 0] 43)
  have HO1 := HOP.out _ hw1
  rw [← hop] at HO1
  have HO1 := Lib.hid HO1
  have hc0 : (w.alloc (.cells #[.int .i64 0, .int .i64 0, .int .i64 0, .int .i64 0, .int .i64 0, .int .i64 0] 43)).cell? ⟨bb, off, none⟩ = some (.string (tx w0)) := (hw1.cell (p := ⟨bb, off, none⟩) hbl).trans (hc 0 (by simp))
  have HC := Lib.hid (show ∀ k (hk : k < ws.length) (W : World), Below w.heap.size w W → W.cell? ⟨bb, off + (1 + k), none⟩ = some (.string (tx ws[k])) from fun k hk W h => (h.cell (p := ⟨bb, off + (1 + k), none⟩) hbl).trans (by
    have h1 := hc (1 + k) (by simp; omega)
    rw [h1]; congr 3; rw [List.getElem_cons, dif_neg (by omega)]; congr 1; omega))
  have hsh : ∀ W, Below w.heap.size w W → Calls Tryd.prog 25 #[.int .i64 op] W fun e w' => e = .returned (.tuple #[.string (strN (shapeL op)), .bool (okOp op)]) ∧ W = w' := fun W h => shape_any op W (hA.at_.ext h).shapes
  have HOK := Lib.hid (show okOp op = true → 0 ≤ op ∧ op < 16 from fun h => of_decide_eq_true h)
  obtain ⟨ls, hls⟩ : ∃ ls, ls = shapeL op := ⟨_, rfl⟩
  have HSM := Lib.hid (show ∀ y ∈ ls, y < 256 by rw [hls]; exact shapeL_small _)
  have hlen : ls.length ≤ 5 := by rw [hls]; exact shapeL_len _
  rw [← hls] at hsh
  have HNONE := Lib.hid (show okOp op = false ∨ ws.length ≠ ls.length ∨ (∃ (i : Nat) (h1 : i < ws.length) (h2 : i < ls.length), valO ls[i] ws[i] = none) → insOf row = none by
    subst hls
    intro h
    exact line_none hsp (by rw [← hop]; exact h))
  have HSOME := Lib.hid (show (0 ≤ op ∧ op < 16) → ∀ zs : List Int, zs.length = ls.length → ws.length = ls.length → (∀ (i : Nat) (ha : i < ls.length) (hb : i < ws.length) (hc : i < zs.length), valO ls[i] ws[i] = some zs[i]) → insOf row = some (setAll op ls zs) by
    subst hls hop
    intro h zs h1 h2 h3
    exact line_some hsp h zs h1 h2 h3)
  obtain ⟨s, hs⟩ : ∃ s, s = strN ls := ⟨_, rfl⟩
  obtain ⟨m, hm⟩ : ∃ m, m = ls.length := ⟨_, rfl⟩
  have hsz : s.size = m := by rw [hs, strN_size, hm]
  have HIX := Lib.hid (fun k (hk : k < ls.length) w => (by rw [hs]; exact idx_str ls HSM.out k hk w : (Instr.index 9 (.string s) (.int .i64 (k : Int))).run Tryd.prog w = .ok (.int .u8 ((ls[k] : Nat) : Int)) w))
  rw [← hs] at hsh
  have HM := Lib.hid hm
  rw [← hm] at hlen
  have HAU := Lib.hid hA
  have HWL := Lib.hid hwl
  have HSET0 := Lib.hid (show setAll op [] [] = setAll op (ls.take 0) [] from rfl)
  have HSN := Lib.hid (setAll_snoc op ls)
  have HLW := Lib.hid (show n = ws.length + 1 by omega)
  have hn1 : 1 ≤ n := by omega
  have hn5 : (n : Int) = (ws.length : Int) + 1 := by omega
  have HN5 := Lib.hid hn5
  obtain ⟨T0, hT0⟩ : ∃ T, T = tx w0 := ⟨_, rfl⟩
  rw [← hT0] at HO1 hc0
  obtain ⟨ok, hok⟩ : ∃ b, b = okOp op := ⟨_, rfl⟩
  rw [← hok] at HNONE HOK
  have HSH := Lib.hid (show ∀ W, Below w.heap.size w W → Calls Tryd.prog 25 #[.int .i64 op] W fun e w' => e = .returned (.tuple #[.string s, .bool ok]) ∧ W = w' by rw [hok]; exact hsh)
  clear hs1 hs2 hs3 hc hsp hop hls hs hm hsh hA hr hwl hw1 hn5 hT0 hok hl HOP
  go_enter Tryd.func85, Tryd.ntmps85
  go_wp2_with fail
  refine Calls.mono HO1.out ?_
  rintro e w1 ⟨rfl, rfl⟩
  go_upto_region 2 with fail
  change Code.wp _ _ _ _ (startC w op)
  obtain ⟨W, hW⟩ : ∃ W, W = startC w op := ⟨_, rfl⟩
  rw [← hW] at HB0 HOU0 HCU0 ⊢
  clear hc0 hW
  have g0 : W.cell? ⟨w.heap.size + 1, 0, none⟩ = some (.int .i64 op) := cell_of_row W _ 0 _ 43 (0, 0) HCU0.out
  rw [HSET0.out] at HCU0
  go_wp2_with fail
  refine Calls.mono (HSH.out _ HB0.out) ?_
  rintro e w2 ⟨rfl, rfl⟩
  clear g0
  have HCU := HCU0
  have HOU := HOU0
  have HB := HB0
  obtain ⟨x, hx⟩ : ∃ x, x = setAll op (ls.take 0) [] := ⟨_, rfl⟩
  rw [← hx] at HCU
  by_cases hok : ok = true
  · subst hok
    by_cases hmm : ws.length = m
    · have d1 : ((n : Int) != 1 + (m : Int)) = false := by
        have := HN5.out
        rw [bne_eq_false_iff_eq]; omega
      clear HCU HOU HB hx
      clear x
      have HMM := Lib.hid hmm
      clear hmm
      go_wp2_with fail
      clear d1
      go_loopw [34] (fun i wr => ∃ (k : Nat) (zs : List Int), i = .int .i64 (k : Int) ∧ k ≤ m ∧ zs.length = k ∧ (∀ (j : Nat) (ha : j < ls.length) (hb : j < ws.length) (hc : j < zs.length), valO ls[j] ws[j] = some zs[j]) ∧ Below w.heap.size w wr ∧ wr.heap[w.heap.size]? = some (.cells Ins.zero.vals.toArray 43 (0, 0)) ∧ wr.heap[w.heap.size + 1]? = some (.cells (setAll op (ls.take k) zs).vals.toArray 43 (0, 0))) (fun i _ => m - (intOf i).toNat)
      case atStart => exact ⟨0, [], rfl, by omega, rfl, fun j _ _ hc => absurd hc (by simp), HB0.out, HOU0.out, HCU0.out⟩
      case round =>
        obtain ⟨k, zs, rfl, hk, hzl, hzs, hb, hou, hcu⟩ := hrel
        obtain ⟨x, hx⟩ : ∃ x, x = setAll op (ls.take k) zs := ⟨_, rfl⟩
        rw [← hx] at hcu
        have HX := Lib.hid hx
        have HZL := Lib.hid hzl
        have HZS := Lib.hid hzs
        have HB := Lib.hid hb
        have HOU := Lib.hid hou
        have HCU := Lib.hid hcu
        clear hx hzl hzs hb hou hcu
        by_cases hlt : k < m
        · have hkl : k < ls.length := by rw [← HM.out]; exact hlt
          have hkw : k < ws.length := by rw [HMM.out]; exact hlt
          have hix := HIX.out k hkl
          have hcell := HC.out k hkw wr HB.out
          have hltw := HWL.out _ (List.getElem_mem hkw)
          have HSK := Lib.hid (HSN.out zs k hkl HZL.out)
          have HVN := Lib.hid (show valO ls[k] ws[k] = none → insOf row = none from fun h => HNONE.out (.inr (.inr ⟨k, hkw, hkl, h⟩)))
          have HVS := Lib.hid (show ∀ z, valO ls[k] ws[k] = some z → ∀ (j : Nat) (ha : j < ls.length) (hb : j < ws.length) (hc : j < (zs ++ [z]).length), valO ls[j] ws[j] = some (zs ++ [z])[j] from fun z hz j ha hb hc => by
            rcases Nat.lt_or_ge j k with h | h
            · rw [List.getElem_append_left (by rw [HZL.out]; exact h)]
              exact HZS.out j ha hb (by rw [HZL.out]; exact h)
            · have hjk : j = k := by rw [List.length_append, HZL.out] at hc; simp at hc; omega
              subst hjk
              rw [List.getElem_append_right (by rw [HZL.out]; exact Nat.le_refl _)]
              simpa using hz)
          obtain ⟨l, hl⟩ : ∃ l, l = ls[k] := ⟨_, rfl⟩
          obtain ⟨v, hv⟩ : ∃ v, v = ws[k] := ⟨_, rfl⟩
          rw [← hl] at hix HSK HVN HVS
          rw [← hv] at hcell hltw HVN HVS
          have HVA := Lib.hid (fun (W : World) (h : Below wr.heap.size wr W) => avalue_any l v hltw W (HAU.out.ext (HB.out.trans (h.mono HB.out.size))))
          obtain ⟨O, hO⟩ : ∃ O, O = valO l v := ⟨_, rfl⟩
          obtain ⟨T, hT⟩ : ∃ T, T = tx v := ⟨_, rfl⟩
          rw [← hO] at HVA HVN HVS
          rw [← hT] at HVA hcell
          unfold optV at HVA
          have hol := offL_le l
          have HF := Lib.hid (fun W => afield_any (w.heap.size + 1) l W)
          obtain ⟨o, ho⟩ : ∃ o, o = offL l := ⟨_, rfl⟩
          rw [← ho] at hol HF HSK
          have HOL := Lib.hid hol
          clear hol
          have hk64 : k + 1 < (n : Int) := by have := HN5.out; have := HMM.out; omega
          have e1 : IntKind.i64.wrap (1 + (k : Int)) = 1 + (k : Int) := IntWalk.i64_in _ (by omega)
          have e2 : (0 : Int) ≤ 1 + (k : Int) := by omega
          have e3 : (1 + (k : Int)).toNat = 1 + k := by omega
          have e4 : 1 + (k : Int) < (n : Int) := by omega
          have HXX := Lib.hid (show ∀ w' : World, Below wr.heap.size wr w' → w'.cell? ⟨bb, off + (1 + k), none⟩ = some (.string T) ∧ Below wr.heap.size wr w' from fun w' h => ⟨(h.cell (p := ⟨bb, off + (1 + k), none⟩) (World.block_lt_of_cell? _ _ hcell)).trans hcell, h⟩)
          clear hl hv hO hT ho hcell hltw hk64
          go_wp2_with fail
          go_region_held3 (fun w' => w'.cell? ⟨bb, off + (1 + k), none⟩ = some (.string T) ∧ Below wr.heap.size wr w')
            (first | exact HXX.out _ (Below.refl _ wr).drew | (go_split_ands; exact HXX.out _ (Below.trans (by assumption) (hbK.mono (Below.size (by assumption))))))
            (first | (go_at_call 97; go_split_ands; (with_reducible refine Calls.mono (HVA.out _ (by assumption)) ?_); rintro e w6 ⟨rfl, hbK⟩))
          all_goals
            rename_i hHeld
            have HHB := Lib.hid hHeld.2
            have HB := Lib.hid (HB.out.trans (HHB.out.mono HB.out.size))
            have HOU := Lib.hid (box_later HOU.out HHB.out)
            have HCU := Lib.hid (box_later HCU.out HHB.out)
            clear hHeld
            rename World => w7
            clear e1 e2 e3 e4 hbK
            rcases O with _ | z
            · have HI := Lib.hid (HVN.out rfl)
              have hcu := HCU.out
              have hou := HOU.out
              have g0 : w7.cell? ⟨w.heap.size + 1, 0, none⟩ = some (.int .i64 x.op) := cell_of_row w7 _ 0 _ 43 (0, 0) hcu
              have g1 : w7.cell? ⟨w.heap.size + 1, 1, none⟩ = some (.int .i64 x.a) := cell_of_row w7 _ 1 _ 43 (0, 0) hcu
              have g2 : w7.cell? ⟨w.heap.size + 1, 2, none⟩ = some (.int .i64 x.b) := cell_of_row w7 _ 2 _ 43 (0, 0) hcu
              have g3 : w7.cell? ⟨w.heap.size + 1, 3, none⟩ = some (.int .i64 x.c) := cell_of_row w7 _ 3 _ 43 (0, 0) hcu
              have g4 : w7.cell? ⟨w.heap.size + 1, 4, none⟩ = some (.int .i64 x.t) := cell_of_row w7 _ 4 _ 43 (0, 0) hcu
              have g5 : w7.cell? ⟨w.heap.size + 1, 5, none⟩ = some (.int .i64 x.n) := cell_of_row w7 _ 5 _ 43 (0, 0) hcu
              have z0 : w7.cell? ⟨w.heap.size, 0, none⟩ = some (.int .i64 0) := cell_of_row w7 _ 0 _ 43 (0, 0) hou
              have z1 : w7.cell? ⟨w.heap.size, 1, none⟩ = some (.int .i64 0) := cell_of_row w7 _ 1 _ 43 (0, 0) hou
              have z2 : w7.cell? ⟨w.heap.size, 2, none⟩ = some (.int .i64 0) := cell_of_row w7 _ 2 _ 43 (0, 0) hou
              have z3 : w7.cell? ⟨w.heap.size, 3, none⟩ = some (.int .i64 0) := cell_of_row w7 _ 3 _ 43 (0, 0) hou
              have z4 : w7.cell? ⟨w.heap.size, 4, none⟩ = some (.int .i64 0) := cell_of_row w7 _ 4 _ 43 (0, 0) hou
              have z5 : w7.cell? ⟨w.heap.size, 5, none⟩ = some (.int .i64 0) := cell_of_row w7 _ 5 _ 43 (0, 0) hou
              have fz : ∀ o, w7.frozen? ⟨w.heap.size, o, none⟩ = false := fun o => by simp [World.frozen?, hou]
              have f0 := fz 0
              have f1 := fz 1
              have f2 := fz 2
              have f3 := fz 3
              have f4 := fz 4
              have f5 := fz 5
              clear hcu hou fz
              go_wp2_with fail
              refine bodyPost_ret (results85 _ w.heap.size x (.bool false) (set6_at (y := Ins.zero) HOU.out x) _ rfl rfl) rfl ⟨x, false, rfl, HI.out, set6_below HB.out _ _ (Nat.le_refl _)⟩
            · have hfr : w7.frozen? ⟨w.heap.size + 1, o, none⟩ = false := by simp [World.frozen?, HCU.out]
              have hce : w7.cell? ⟨w.heap.size + 1, o, none⟩ = some (.int .i64 (x.get o)) := by rw [cell_of_row w7 _ _ _ 43 (0, 0) HCU.out]; exact get_at x o HOL.out
              go_wp2_with fail
              refine Calls.mono (HF.out _) ?_
              rintro e w8 ⟨rfl, rfl⟩
              go_wp2_with fail
              go_roundw
              case rel => exact ⟨k + 1, zs ++ [z], by go_num, by omega, by rw [List.length_append, HZL.out]; rfl, HVS.out z rfl, HB.out.setCell (by show w.heap.size ≤ w.heap.size + 1; omega) _, (Deep.blk_setCell_other _ _ _ _ (by show w.heap.size ≠ w.heap.size + 1; omega)).trans HOU.out, by rw [HSK.out, ← HX.out]; exact heap_set HCU.out HOL.out z⟩
              case measure => simp [intOf]; omega
        · obtain rfl : k = m := by omega
          have HI := Lib.hid (show insOf row = some x by
            rw [HX.out]
            have h := HSOME.out (HOK.out (by trivial)) zs (by rw [HZL.out, HM.out]) (by rw [HMM.out, HM.out]) HZS.out
            rw [HM.out, List.take_length]
            exact h)
          have hcu := HCU.out
          have hou := HOU.out
          have g0 : wr.cell? ⟨w.heap.size + 1, 0, none⟩ = some (.int .i64 x.op) := cell_of_row wr _ 0 _ 43 (0, 0) hcu
          have g1 : wr.cell? ⟨w.heap.size + 1, 1, none⟩ = some (.int .i64 x.a) := cell_of_row wr _ 1 _ 43 (0, 0) hcu
          have g2 : wr.cell? ⟨w.heap.size + 1, 2, none⟩ = some (.int .i64 x.b) := cell_of_row wr _ 2 _ 43 (0, 0) hcu
          have g3 : wr.cell? ⟨w.heap.size + 1, 3, none⟩ = some (.int .i64 x.c) := cell_of_row wr _ 3 _ 43 (0, 0) hcu
          have g4 : wr.cell? ⟨w.heap.size + 1, 4, none⟩ = some (.int .i64 x.t) := cell_of_row wr _ 4 _ 43 (0, 0) hcu
          have g5 : wr.cell? ⟨w.heap.size + 1, 5, none⟩ = some (.int .i64 x.n) := cell_of_row wr _ 5 _ 43 (0, 0) hcu
          have z0 : wr.cell? ⟨w.heap.size, 0, none⟩ = some (.int .i64 0) := cell_of_row wr _ 0 _ 43 (0, 0) hou
          have z1 : wr.cell? ⟨w.heap.size, 1, none⟩ = some (.int .i64 0) := cell_of_row wr _ 1 _ 43 (0, 0) hou
          have z2 : wr.cell? ⟨w.heap.size, 2, none⟩ = some (.int .i64 0) := cell_of_row wr _ 2 _ 43 (0, 0) hou
          have z3 : wr.cell? ⟨w.heap.size, 3, none⟩ = some (.int .i64 0) := cell_of_row wr _ 3 _ 43 (0, 0) hou
          have z4 : wr.cell? ⟨w.heap.size, 4, none⟩ = some (.int .i64 0) := cell_of_row wr _ 4 _ 43 (0, 0) hou
          have z5 : wr.cell? ⟨w.heap.size, 5, none⟩ = some (.int .i64 0) := cell_of_row wr _ 5 _ 43 (0, 0) hou
          have fz : ∀ o, wr.frozen? ⟨w.heap.size, o, none⟩ = false := fun o => by simp [World.frozen?, hou]
          have f0 := fz 0
          have f1 := fz 1
          have f2 := fz 2
          have f3 := fz 3
          have f4 := fz 4
          have f5 := fz 5
          clear hcu hou fz
          go_wp2_with fail
          refine bodyPost_ret (results85 _ w.heap.size x (.bool true) (set6_at (y := Ins.zero) HOU.out x) _ rfl rfl) rfl ⟨x, true, rfl, HI.out, set6_below HB.out _ _ (Nat.le_refl _)⟩
    · have d1 : ((n : Int) != 1 + (m : Int)) = true := by
        have := HN5.out
        rw [bne_iff_ne]; omega
      have HI := Lib.hid (HNONE.out (.inr (.inl (by rw [← HM.out]; exact hmm))))
      clear hx hmm
      have hcu := HCU.out
      have hou := HOU.out
      have g0 : W.cell? ⟨w.heap.size + 1, 0, none⟩ = some (.int .i64 x.op) := cell_of_row W _ 0 _ 43 (0, 0) hcu
      have g1 : W.cell? ⟨w.heap.size + 1, 1, none⟩ = some (.int .i64 x.a) := cell_of_row W _ 1 _ 43 (0, 0) hcu
      have g2 : W.cell? ⟨w.heap.size + 1, 2, none⟩ = some (.int .i64 x.b) := cell_of_row W _ 2 _ 43 (0, 0) hcu
      have g3 : W.cell? ⟨w.heap.size + 1, 3, none⟩ = some (.int .i64 x.c) := cell_of_row W _ 3 _ 43 (0, 0) hcu
      have g4 : W.cell? ⟨w.heap.size + 1, 4, none⟩ = some (.int .i64 x.t) := cell_of_row W _ 4 _ 43 (0, 0) hcu
      have g5 : W.cell? ⟨w.heap.size + 1, 5, none⟩ = some (.int .i64 x.n) := cell_of_row W _ 5 _ 43 (0, 0) hcu
      have z0 : W.cell? ⟨w.heap.size, 0, none⟩ = some (.int .i64 0) := cell_of_row W _ 0 _ 43 (0, 0) hou
      have z1 : W.cell? ⟨w.heap.size, 1, none⟩ = some (.int .i64 0) := cell_of_row W _ 1 _ 43 (0, 0) hou
      have z2 : W.cell? ⟨w.heap.size, 2, none⟩ = some (.int .i64 0) := cell_of_row W _ 2 _ 43 (0, 0) hou
      have z3 : W.cell? ⟨w.heap.size, 3, none⟩ = some (.int .i64 0) := cell_of_row W _ 3 _ 43 (0, 0) hou
      have z4 : W.cell? ⟨w.heap.size, 4, none⟩ = some (.int .i64 0) := cell_of_row W _ 4 _ 43 (0, 0) hou
      have z5 : W.cell? ⟨w.heap.size, 5, none⟩ = some (.int .i64 0) := cell_of_row W _ 5 _ 43 (0, 0) hou
      have fz : ∀ o, W.frozen? ⟨w.heap.size, o, none⟩ = false := fun o => by simp [World.frozen?, hou]
      have f0 := fz 0
      have f1 := fz 1
      have f2 := fz 2
      have f3 := fz 3
      have f4 := fz 4
      have f5 := fz 5
      clear hcu hou fz
      go_wp2_with fail
      refine bodyPost_ret (results85 _ w.heap.size x (.bool false) (set6_at (y := Ins.zero) HOU.out x) _ rfl rfl) rfl ⟨x, false, rfl, HI.out, set6_below HB.out _ _ (Nat.le_refl _)⟩
  · have hokf : ok = false := by cases ok <;> simp_all
    subst hokf
    have HI := Lib.hid (HNONE.out (.inl rfl))
    clear hx hok
    have hcu := HCU.out
    have hou := HOU.out
    have g0 : W.cell? ⟨w.heap.size + 1, 0, none⟩ = some (.int .i64 x.op) := cell_of_row W _ 0 _ 43 (0, 0) hcu
    have g1 : W.cell? ⟨w.heap.size + 1, 1, none⟩ = some (.int .i64 x.a) := cell_of_row W _ 1 _ 43 (0, 0) hcu
    have g2 : W.cell? ⟨w.heap.size + 1, 2, none⟩ = some (.int .i64 x.b) := cell_of_row W _ 2 _ 43 (0, 0) hcu
    have g3 : W.cell? ⟨w.heap.size + 1, 3, none⟩ = some (.int .i64 x.c) := cell_of_row W _ 3 _ 43 (0, 0) hcu
    have g4 : W.cell? ⟨w.heap.size + 1, 4, none⟩ = some (.int .i64 x.t) := cell_of_row W _ 4 _ 43 (0, 0) hcu
    have g5 : W.cell? ⟨w.heap.size + 1, 5, none⟩ = some (.int .i64 x.n) := cell_of_row W _ 5 _ 43 (0, 0) hcu
    have z0 : W.cell? ⟨w.heap.size, 0, none⟩ = some (.int .i64 0) := cell_of_row W _ 0 _ 43 (0, 0) hou
    have z1 : W.cell? ⟨w.heap.size, 1, none⟩ = some (.int .i64 0) := cell_of_row W _ 1 _ 43 (0, 0) hou
    have z2 : W.cell? ⟨w.heap.size, 2, none⟩ = some (.int .i64 0) := cell_of_row W _ 2 _ 43 (0, 0) hou
    have z3 : W.cell? ⟨w.heap.size, 3, none⟩ = some (.int .i64 0) := cell_of_row W _ 3 _ 43 (0, 0) hou
    have z4 : W.cell? ⟨w.heap.size, 4, none⟩ = some (.int .i64 0) := cell_of_row W _ 4 _ 43 (0, 0) hou
    have z5 : W.cell? ⟨w.heap.size, 5, none⟩ = some (.int .i64 0) := cell_of_row W _ 5 _ 43 (0, 0) hou
    have fz : ∀ o, W.frozen? ⟨w.heap.size, o, none⟩ = false := fun o => by simp [World.frozen?, hou]
    have f0 := fz 0
    have f1 := fz 1
    have f2 := fz 2
    have f3 := fz 3
    have f4 := fz 4
    have f5 := fz 5
    clear hcu hou fz
    go_wp2_with fail
    refine bodyPost_ret (results85 _ w.heap.size x (.bool false) (set6_at (y := Ins.zero) HOU.out x) _ rfl rfl) rfl ⟨x, false, rfl, HI.out, set6_below HB.out _ _ (Nat.le_refl _)⟩
end Go.Proofs.YtkeckjgihjpfbaaDoor
