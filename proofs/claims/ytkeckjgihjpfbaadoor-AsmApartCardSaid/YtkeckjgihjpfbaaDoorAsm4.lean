/- Layer 7: an instruction's line. -/
import Derived.Test.YtkeckjgihjpfbaaDoorAsm3
import Derived.Test.YtkeckjgihjpfbaaDoorEncodesLaw
import Derived.Deep.RegionHeld3
namespace Go.Proofs.YtkeckjgihjpfbaaDoor
set_option maxRecDepth 100000
open Go.RowKit
attribute [local go_sem ↓] Go.wp_at_zero Go.wp_at_succ

def Ins.word (x : Ins) (l : Nat) : List UInt8 := fieldW l (x.get (offL l))
def lineLs (x : Ins) (ls : List Nat) : List UInt8 := wordL x.op ++ ls.flatMap fun l => 32 :: x.word l
/-- An instruction's line. -/
def lineL (x : Ins) : List UInt8 := lineLs x (shapeL x.op)
theorem lineLs_take (x : Ins) (ls : List Nat) (k : Nat) (hk : k < ls.length) : lineLs x (ls.take (k + 1)) = lineLs x (ls.take k) ++ ([32] ++ x.word ls[k]) := by
  unfold lineLs
  rw [List.take_succ_eq_append_getElem hk, List.flatMap_append, List.flatMap_singleton, List.append_assoc]
  rfl
theorem word_len (op : Int) : (wordL op).length ≤ 5 := by
  by_cases h : 0 ≤ op ∧ op < 16
  · have h16 : op = 0 ∨ op = 1 ∨ op = 2 ∨ op = 3 ∨ op = 4 ∨ op = 5 ∨ op = 6 ∨ op = 7 ∨ op = 8 ∨ op = 9 ∨ op = 10 ∨ op = 11 ∨ op = 12 ∨ op = 13 ∨ op = 14 ∨ op = 15 := by omega
    rcases h16 with rfl | rfl | rfl | rfl | rfl | rfl | rfl | rfl | rfl | rfl | rfl | rfl | rfl | rfl | rfl | rfl <;> decide
  · rw [wordL_none op (by omega)]; decide
theorem sign_len (z : Int) : (signL z).length ≤ 2 := by
  unfold signL
  split
  · decide
  · split
    · decide
    · split
      · decide
      · split <;> decide
theorem get_fits {x : Ins} (h : x.Ok) (l : Nat) : Fits (x.get (offL l)) := by
  unfold offL
  split
  · exact h.a
  · split
    · exact h.b
    · split
      · exact h.c
      · split
        · exact h.t
        · exact h.n
theorem fieldW_len (l : Nat) (z : Int) (hz : Fits z) : (fieldW l z).length ≤ 22 := by
  unfold fieldW
  split
  · have := sign_len z; omega
  · have h1 := mark_len l
    have h2 := itoa_len z hz
    rw [List.length_append]; omega
theorem lineLs_len {x : Ins} (h : x.Ok) (ls : List Nat) : (lineLs x ls).length ≤ 5 + ls.length * 23 := by
  unfold lineLs
  rw [List.length_append]
  have h1 := word_len x.op
  have h2 : (ls.flatMap fun l => 32 :: x.word l).length ≤ ls.length * 23 := by
    induction ls with
    | nil => simp
    | cons l ls ih =>
      have := fieldW_len l _ (get_fits h l)
      rw [List.flatMap_cons, List.length_append, List.length_cons, List.length_cons]
      unfold Ins.word at *
      omega
  omega
set_option maxHeartbeats 8000000 in
theorem line_any (x : Ins) (hx : x.Ok) (w : World) (hT : AT w) : Calls Tryd.prog 56 #[x.val] w fun e w' => e = .returned (.string (tx (lineL x))) ∧ Below w.heap.size w w' := by
  obtain ⟨ls, hls⟩ : ∃ ls, ls = shapeL x.op := ⟨_, rfl⟩
  have HSM := Lib.hid (show ∀ y ∈ ls, y < 256 by rw [hls]; exact shapeL_small _)
  have hlen : ls.length ≤ 5 := by rw [hls]; exact shapeL_len _
  have HLINE := Lib.hid (show lineL x = lineLs x ls by unfold lineL; rw [← hls])
  have HLL := Lib.hid (fun k => lineLs_len hx (ls.take k))
  have HTAKE := Lib.hid (lineLs_take x ls)
  have hbx := (Below.refl w.heap.size w).alloc (Nat.le_refl _) (.cells #[.int .i64 x.op, .int .i64 x.a, .int .i64 x.b, .int .i64 x.c, .int .i64 x.t, .int .i64 x.n] 43)
  have HW := Lib.hid (word_any x.op _ (hT.ext hbx))
  have hsh := shape_any x.op _ (hT.ext hbx).shapes
  rw [← hls] at hsh
  obtain ⟨s, hs⟩ : ∃ s, s = strN ls := ⟨_, rfl⟩
  obtain ⟨m, hm⟩ : ∃ m, m = ls.length := ⟨_, rfl⟩
  have hsz : s.size = m := by rw [hs, strN_size, hm]
  have HIX := Lib.hid (fun k (hk : k < ls.length) w => (by rw [hs]; exact idx_str ls HSM.out k hk w : (Instr.index 9 (.string s) (.int .i64 (k : Int))).run Tryd.prog w = .ok (.int .u8 ((ls[k] : Nat) : Int)) w))
  rw [← hs] at hsh
  have HSH := Lib.hid hsh
  have HM := Lib.hid hm
  rw [← hm] at hlen
  have HBX := Lib.hid hbx
  have HNEW := Lib.hid (heap_alloc_new w (.cells #[.int .i64 x.op, .int .i64 x.a, .int .i64 x.b, .int .i64 x.c, .int .i64 x.t, .int .i64 x.n] 43))
  have HT := Lib.hid hT
  have HX := Lib.hid hx
  have HL0 := Lib.hid (show wordL x.op = lineLs x (ls.take 0) by unfold lineLs; simp)
  unfold Ins.val
  clear hx hT hsh hls hs hm hbx
  go_enter Tryd.func56, Tryd.ntmps56
  go_wp2_with fail
  refine Calls.mono HW.out ?_
  rintro e w1 ⟨rfl, rfl⟩
  go_wp2_with fail
  refine Calls.mono HSH.out ?_
  rintro e w1 ⟨rfl, rfl⟩
  go_wp2_with fail
  go_loopw [3, 22] (fun t i wr => ∃ k : Nat, i = .int .i64 (k : Int) ∧ k ≤ m ∧ t = .string (tx (lineLs x (ls.take k))) ∧ Below w.heap.size w wr ∧ wr.heap[w.heap.size]? = some (.cells #[.int .i64 x.op, .int .i64 x.a, .int .i64 x.b, .int .i64 x.c, .int .i64 x.t, .int .i64 x.n] 43 (0, 0))) (fun _ i _ => m - (intOf i).toNat)
  case atStart => exact ⟨0, rfl, by omega, by rw [HL0.out], HBX.out, HNEW.out⟩
  case round =>
    obtain ⟨k, rfl, hk, rfl, hb, hbb⟩ := hrel
    have HB := Lib.hid hb
    have HBB := Lib.hid hbb
    by_cases hlt : k < m
    · have hkl : k < ls.length := by rw [← HM.out]; exact hlt
      have hix := HIX.out k hkl
      have HTK := Lib.hid (HTAKE.out k hkl)
      obtain ⟨l, hl⟩ : ∃ l, l = ls[k] := ⟨_, rfl⟩
      rw [← hl] at hix HTK
      clear hl
      have hol := offL_le l
      have HF := Lib.hid (fun (W : World) => (afield_any w.heap.size l W).mono fun e w' h => (⟨h.1, by rw [← h.2]; exact Below.refl _ _⟩ : e = .returned (.pointer (some ⟨w.heap.size, offL l, none⟩)) ∧ Below W.heap.size W w'))
      have hz := get_fits HX.out l
      have HWD := Lib.hid (show x.word l = fieldW l (x.get (offL l)) from rfl)
      obtain ⟨o, ho⟩ : ∃ o, o = offL l := ⟨_, rfl⟩
      rw [← ho] at HF hol HWD hz
      obtain ⟨z, hze⟩ : ∃ z, z = x.get o := ⟨_, rfl⟩
      rw [← hze] at HWD hz
      have hcv : wr.cell? ⟨w.heap.size, o, none⟩ = some (.int .i64 z) := by
        rw [cell_of_row wr _ _ _ 43 (0, 0) hbb, hze]
        have := get_at x o hol
        rw [← this]
        have h6 : o = 1 ∨ o = 2 ∨ o = 3 ∨ o = 4 ∨ o = 5 := by omega
        rcases h6 with rfl | rfl | rfl | rfl | rfl <;> rfl
      have hfl := fieldW_len l z hz
      have HSW := Lib.hid (fun (W : World) (h : Below wr.heap.size wr W) => show_any l z hz W (HT.out.ext (HB.out.trans (h.mono HB.out.size))))
      have hl1 := HLL.out k
      rw [List.length_take] at hl1
      have hs1 : 1 + (tx (fieldW l z)).size ≤ 9223372036854775807 := by rw [tx_size]; omega
      have hs2 : (tx (lineLs x (ls.take k))).size + (1 + (tx (fieldW l z)).size) ≤ 9223372036854775807 := by rw [tx_size, tx_size]; omega
      have HEND := Lib.hid (show tx (lineLs x (ls.take k)) ++ ({ data := #[32] } ++ tx (fieldW l z)) = tx (lineLs x (ls.take (k + 1))) by
        rw [HTK.out, HWD.out, ← tx_append, ← tx_append]; rfl)
      obtain ⟨a, ha⟩ : ∃ a, a = tx (lineLs x (ls.take k)) := ⟨_, rfl⟩
      obtain ⟨b, hb'⟩ : ∃ b, b = tx (fieldW l z) := ⟨_, rfl⟩
      rw [← ha] at hs2 HEND ⊢
      rw [← hb'] at hs1 hs2 HEND HSW
      have hs3 : ¬ 9223372036854775807 < 1 + b.size := by omega
      have hs4 : ¬ 9223372036854775807 < a.size + (1 + b.size) := by omega
      have HXX := Lib.hid (show ∀ w' : World, Below wr.heap.size wr w' → w'.cell? ⟨w.heap.size, o, none⟩ = some (.int .i64 z) ∧ Below wr.heap.size wr w' from fun w' h => ⟨(h.cell (p := ⟨w.heap.size, o, none⟩) (World.block_lt_of_cell? _ _ hcv)).trans hcv, h⟩)
      clear hb hbb hl1 hfl ha hb' hze ho hol hcv hz
      go_wp2_with fail
      go_region_held3 (fun w' => w'.cell? ⟨w.heap.size, o, none⟩ = some (.int .i64 z) ∧ Below wr.heap.size wr w')
        (first | exact HXX.out _ (Below.refl _ wr).drew | (go_split_ands; exact HXX.out _ (Below.trans (by assumption) (hbK.mono (Below.size (by assumption))))))
        (first | (go_at_call 82; go_split_ands; (with_reducible refine Calls.mono (HF.out _) ?_); rintro e w6 ⟨rfl, hbK⟩) | (go_at_call 81; go_split_ands; (with_reducible refine Calls.mono (HSW.out _ (by assumption)) ?_); rintro e w6 ⟨rfl, hbK⟩))
      all_goals
        rename_i hHeld
        have HHB := Lib.hid hHeld.2
        clear hHeld
        go_wp2_with fail
        go_roundw
        case rel => exact ⟨k + 1, by go_num, by omega, by rw [HEND.out], HB.out.trans (HHB.out.mono HB.out.size), box_later HBB.out HHB.out⟩
        case measure => simp [intOf]; omega
    · obtain rfl : k = m := by omega
      have HE := Lib.hid (show lineL x = lineLs x (ls.take k) by rw [HLINE.out, HM.out, List.take_length])
      go_wp2_with fail
      go_ret
      exact ⟨ret_str (by rw [HE.out]), HB.out⟩
end Go.Proofs.YtkeckjgihjpfbaaDoor
