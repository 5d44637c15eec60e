/- Layer 7: the document's line. -/
import Derived.Test.YtkeckjgihjpfbaaDoorAsm4
namespace Go.Proofs.YtkeckjgihjpfbaaDoor
set_option maxRecDepth 100000
open Go.RowKit
attribute [local go_sem ↓] Go.wp_at_zero Go.wp_at_succ

theorem sz_le (l : List UInt8) (h : l.length ≤ 100000) : (tx l).size ≤ 100000 := by rw [tx_size]; exact h
set_option maxHeartbeats 16000000 in
theorem refline_any (x : Ins) (hx : x.Ok) (w : World) : Calls Tryd.prog 36 #[x.val] w fun e w' => e = .returned (.string (tx (lineL x))) ∧ Below w.heap.size w w' := by
  obtain ⟨ls, hls⟩ : ∃ ls, ls = shapeL x.op := ⟨_, rfl⟩
  have HSM := Lib.hid (show ∀ y ∈ ls, y < 256 by rw [hls]; exact shapeL_small _)
  have hlen : ls.length ≤ 5 := by rw [hls]; exact shapeL_len _
  have HLINE := Lib.hid (show lineL x = lineLs x ls by unfold lineL; rw [← hls])
  have HLL := Lib.hid (fun k => lineLs_len hx (ls.take k))
  have HTAKE := Lib.hid (lineLs_take x ls)
  have hbx := (Below.refl w.heap.size w).alloc (Nat.le_refl _) (.cells #[.int .i64 x.op, .int .i64 x.a, .int .i64 x.b, .int .i64 x.c, .int .i64 x.t, .int .i64 x.n] 43)
  have HW := Lib.hid (refword_any x.op (w.alloc (.cells #[.int .i64 x.op, .int .i64 x.a, .int .i64 x.b, .int .i64 x.c, .int .i64 x.t, .int .i64 x.n] 43)))
  have hsh := fun w => refshape_any x.op w
  rw [← hls] at hsh
  obtain ⟨s, hs⟩ : ∃ s, s = strN ls := ⟨_, rfl⟩
  obtain ⟨m, hm⟩ : ∃ m, m = ls.length := ⟨_, rfl⟩
  have hsz : s.size = m := by rw [hs, strN_size, hm]
  have HIX := Lib.hid (fun k (hk : k < ls.length) w => (by rw [hs]; exact idx_str ls HSM.out k hk w : (Instr.index 9 (.string s) (.int .i64 (k : Int))).run Tryd.prog w = .ok (.int .u8 ((ls[k] : Nat) : Int)) w))
  rw [← hs] at hsh
  have HSH := Lib.hid hsh
  have HM := Lib.hid hm
  rw [← hm] at hlen
  have HBX := Lib.hid hbx
  have HNEW := Lib.hid (heap_alloc_new w (.cells #[.int .i64 x.op, .int .i64 x.a, .int .i64 x.b, .int .i64 x.c, .int .i64 x.t, .int .i64 x.n] 43))
  have HX := Lib.hid hx
  have HL0 := Lib.hid (show wordL x.op = lineLs x (ls.take 0) by unfold lineLs; simp)
  have HVAL := Lib.hid (fun (l : Nat) (W : World) => (by have h := rvalue_any x l W; unfold Ins.val at h; exact h : Calls Tryd.prog 62 #[.agg #[.int .i64 x.op, .int .i64 x.a, .int .i64 x.b, .int .i64 x.c, .int .i64 x.t, .int .i64 x.n], .int .u8 (l : Int)] W fun e w' => e = .returned (.int .i64 (x.get (offL l))) ∧ Below W.heap.size W w'))
  unfold Ins.val
  clear hx hsh hls hs hm hbx
  go_enter Tryd.func36, Tryd.ntmps36
  go_wp2_with fail
  refine Calls.mono HW.out ?_
  rintro e w1 ⟨rfl, hb1⟩
  have HB1 := Lib.hid (HBX.out.trans (hb1.mono HBX.out.size))
  have HN1 := Lib.hid (box_later HNEW.out hb1)
  have g0 : w1.cell? ⟨w.heap.size, 0, none⟩ = some (.int .i64 x.op) := cell_of_row w1 _ 0 _ 43 (0, 0) HN1.out
  clear hb1
  go_wp2_with fail
  refine Calls.mono (HSH.out _) ?_
  rintro e w2 ⟨rfl, rfl⟩
  go_wp2_with fail
  clear g0
  go_loopw [3, 5] (fun t i wr => ∃ k : Nat, i = .int .i64 (k : Int) ∧ k ≤ m ∧ t = .string (tx (lineLs x (ls.take k))) ∧ Below w.heap.size w wr ∧ wr.heap[w.heap.size]? = some (.cells #[.int .i64 x.op, .int .i64 x.a, .int .i64 x.b, .int .i64 x.c, .int .i64 x.t, .int .i64 x.n] 43 (0, 0))) (fun _ i _ => m - (intOf i).toNat)
  case atStart => exact ⟨0, rfl, by omega, by rw [HL0.out], HB1.out, HN1.out⟩
  case round =>
    obtain ⟨k, rfl, hk, rfl, hb, hbb⟩ := hrel
    have HB := Lib.hid hb
    have HBB := Lib.hid hbb
    by_cases hlt : k < m
    · have hkl : k < ls.length := by rw [← HM.out]; exact hlt
      have hix := HIX.out k hkl
      have HTK := Lib.hid (HTAKE.out k hkl)
      obtain ⟨l, hl⟩ : ∃ l, l = ls[k] := ⟨_, rfl⟩
      rw [← hl] at hix HTK
      clear hl
      have HV := Lib.hid (HVAL.out l)
      have hz := get_fits HX.out l
      have HWD := Lib.hid (show x.word l = fieldW l (x.get (offL l)) from rfl)
      obtain ⟨z, hze⟩ : ∃ z, z = x.get (offL l) := ⟨_, rfl⟩
      rw [← hze] at HWD hz HV
      have hl1 := HLL.out k
      rw [List.length_take] at hl1
      have hsa : (tx (lineLs x (ls.take k))).size ≤ 120 := by rw [tx_size]; omega
      have hsb : (tx (Lib.itoa z)).size ≤ 21 := by rw [tx_size]; exact itoa_len z hz
      have HFG := Lib.hid (figures_any z hz)
      have HSG := Lib.hid (sign_any z)
      have HTX := Lib.hid (fun (b : List UInt8) (h : fieldW l z = b) => (by rw [HTK.out, HWD.out, h, ← tx_append, ← tx_append, ByteArray.append_assoc]; rfl : tx (lineLs x (ls.take (k + 1))) = tx (lineLs x (ls.take k)) ++ { data := #[32] } ++ tx b))
      have hss := sz_le (signL z) (by have := sign_len z; omega)
      obtain ⟨a, ha⟩ : ∃ a, a = tx (lineLs x (ls.take k)) := ⟨_, rfl⟩
      obtain ⟨b, hb'⟩ : ∃ b, b = tx (Lib.itoa z) := ⟨_, rfl⟩
      obtain ⟨sg, hsg⟩ : ∃ b, b = tx (signL z) := ⟨_, rfl⟩
      have HBE := Lib.hid hb'
      have HSE := Lib.hid hsg
      rw [← ha] at hsa HTX ⊢
      rw [← hb'] at hsb HFG
      rw [← hsg] at hss HSG
      have hs1 : a.size + 1 ≤ 9223372036854775807 := by omega
      have hs2 : a.size + 1 + 1 ≤ 9223372036854775807 := by omega
      have hs3 : a.size + 1 + 1 + b.size ≤ 9223372036854775807 := by omega
      have hs4 : a.size + 1 + b.size ≤ 9223372036854775807 := by omega
      have hs5 : a.size + 1 + sg.size ≤ 9223372036854775807 := by omega
      have HXX := Lib.hid (show ∀ w' : World, Below wr.heap.size wr w' → w'.cell? ⟨w.heap.size, 0, none⟩ = some (.int .i64 x.op) ∧ w'.cell? ⟨w.heap.size, 1, none⟩ = some (.int .i64 x.a) ∧ w'.cell? ⟨w.heap.size, 2, none⟩ = some (.int .i64 x.b) ∧ w'.cell? ⟨w.heap.size, 3, none⟩ = some (.int .i64 x.c) ∧ w'.cell? ⟨w.heap.size, 4, none⟩ = some (.int .i64 x.t) ∧ w'.cell? ⟨w.heap.size, 5, none⟩ = some (.int .i64 x.n) ∧ Below wr.heap.size wr w' from fun w' h =>
        ⟨cell_of_row w' _ 0 _ 43 (0, 0) (box_later HBB.out h), cell_of_row w' _ 1 _ 43 (0, 0) (box_later HBB.out h), cell_of_row w' _ 2 _ 43 (0, 0) (box_later HBB.out h), cell_of_row w' _ 3 _ 43 (0, 0) (box_later HBB.out h), cell_of_row w' _ 4 _ 43 (0, 0) (box_later HBB.out h), cell_of_row w' _ 5 _ 43 (0, 0) (box_later HBB.out h), h⟩)
      clear hb hbb hl1 ha hb' hsg hze hz hsa hsb hss
      go_wp2_with fail
      go_region_held3 (fun w' => w'.cell? ⟨w.heap.size, 0, none⟩ = some (.int .i64 x.op) ∧ w'.cell? ⟨w.heap.size, 1, none⟩ = some (.int .i64 x.a) ∧ w'.cell? ⟨w.heap.size, 2, none⟩ = some (.int .i64 x.b) ∧ w'.cell? ⟨w.heap.size, 3, none⟩ = some (.int .i64 x.c) ∧ w'.cell? ⟨w.heap.size, 4, none⟩ = some (.int .i64 x.t) ∧ w'.cell? ⟨w.heap.size, 5, none⟩ = some (.int .i64 x.n) ∧ Below wr.heap.size wr w')
        (first | exact HXX.out _ (Below.refl _ wr).drew | (go_split_ands; exact HXX.out _ (Below.trans (by assumption) (hbK.mono (Below.size (by assumption))))))
        (first | (go_at_call 62; go_split_ands; (with_reducible refine Calls.mono (HV.out _) ?_); rintro e w6 ⟨rfl, hbK⟩))
      all_goals
        rename_i hHeld
        have HHB := Lib.hid hHeld.2.2.2.2.2.2
        clear hHeld
        clear hbK
        rename World => w7
        by_cases h1 : l = 97 ∨ l = 98 ∨ l = 99
        · have HE := Lib.hid (show fieldW l z = [114] ++ Lib.itoa z by unfold fieldW markL; rw [if_neg (by omega), if_pos h1])
          rcases h1 with rfl | rfl | rfl
          all_goals
            go_wp2_with fail
            refine Calls.mono (HFG.out _) ?_
            rintro e w8 ⟨rfl, rfl⟩
            go_wp2_with fail
            go_roundw
            case rel => exact ⟨k + 1, by go_num, by omega, by rw [HTX.out _ HE.out, ← tx_append, ← HBE.out, ← ByteArray.append_assoc]; rfl, HB.out.trans (HHB.out.mono HB.out.size), box_later HBB.out HHB.out⟩
            case measure => simp [intOf]; omega
        · have d1 : ((l : Int) == 97) = false := by rw [beq_eq_false_iff_ne]; omega
          have d2 : ((l : Int) == 98) = false := by rw [beq_eq_false_iff_ne]; omega
          have d3 : ((l : Int) == 99) = false := by rw [beq_eq_false_iff_ne]; omega
          by_cases h2 : l = 116
          · have HE := Lib.hid (show fieldW l z = [116] ++ Lib.itoa z by unfold fieldW markL; rw [if_neg (by omega), if_neg h1, if_pos h2])
            subst h2
            clear h1
            go_wp2_with fail
            refine Calls.mono (HFG.out _) ?_
            rintro e w8 ⟨rfl, rfl⟩
            go_wp2_with fail
            go_roundw
            case rel => exact ⟨k + 1, by go_num, by omega, by rw [HTX.out _ HE.out, ← tx_append, ← HBE.out, ← ByteArray.append_assoc]; rfl, HB.out.trans (HHB.out.mono HB.out.size), box_later HBB.out HHB.out⟩
            case measure => simp [intOf]; omega
          · have d4 : ((l : Int) == 116) = false := by rw [beq_eq_false_iff_ne]; omega
            by_cases h3 : l = 106
            · have HE := Lib.hid (show fieldW l z = signL z by unfold fieldW; rw [if_pos h3])
              subst h3
              clear h1 h2
              go_wp2_with fail
              refine Calls.mono (HSG.out _) ?_
              rintro e w8 ⟨rfl, rfl⟩
              go_wp2_with fail
              go_roundw
              case rel => exact ⟨k + 1, by go_num, by omega, by rw [HTX.out _ HE.out, ← HSE.out], HB.out.trans (HHB.out.mono HB.out.size), box_later HBB.out HHB.out⟩
              case measure => simp [intOf]; omega
            · have d5 : ((l : Int) == 106) = false := by rw [beq_eq_false_iff_ne]; omega
              have HE := Lib.hid (show fieldW l z = Lib.itoa z by unfold fieldW markL; rw [if_neg h3, if_neg h1, if_neg h2]; rfl)
              clear h1 h2 h3
              go_wp2_with fail
              refine Calls.mono (HFG.out _) ?_
              rintro e w8 ⟨rfl, rfl⟩
              go_wp2_with fail
              go_roundw
              case rel => exact ⟨k + 1, by go_num, by omega, by rw [HTX.out _ HE.out, ← HBE.out], HB.out.trans (HHB.out.mono HB.out.size), box_later HBB.out HHB.out⟩
              case measure => simp [intOf]; omega
    · obtain rfl : k = m := by omega
      have HE := Lib.hid (show lineL x = lineLs x (ls.take k) by rw [HLINE.out, HM.out, List.take_length])
      go_wp2_with fail
      go_ret
      exact ⟨ret_str (by rw [HE.out]), HB.out⟩
end Go.Proofs.YtkeckjgihjpfbaaDoor
