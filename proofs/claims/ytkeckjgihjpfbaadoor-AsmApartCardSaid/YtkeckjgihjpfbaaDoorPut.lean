/- The contract of prog.put: an instruction's bytes. -/
import Derived.Test.YtkeckjgihjpfbaaDoorCheck
import Derived.Test.YtkeckjgihjpfbaaDoorNum
import Derived.Test.YtkeckjgihjpfbaaDoorChunk
namespace Go.Proofs.YtkeckjgihjpfbaaDoor
set_option maxRecDepth 100000
open Go.RowKit

def encL (x : Ins) (l : Nat) : List Nat := if l = 110 then cntN (foldN x.n) else cntN (x.get (offL l)).toNat
def encLs (x : Ins) (ls : List Nat) : List Nat := ls.flatMap (encL x)
/-- An instruction's bytes. -/
def encI (x : Ins) : List Nat := x.op.toNat :: encLs x (shapeL x.op)
/-- What the walk of put wants of an instruction. -/
structure Ins.Enc (x : Ins) : Prop where
  op : 0 ≤ x.op ∧ x.op < 16
  flds : ∀ l ∈ shapeL x.op, l ≠ 110 → 0 ≤ x.get (offL l) ∧ x.get (offL l) ≤ 9223372036854775807
  n : Fits x.n
theorem sizeN_le (n : Nat) (h : n < 18446744073709551616) : sizeN n ≤ 10 := by
  have := size_mono h (show 18446744073709551615 < 18446744073709551616 by decide) (by omega)
  have e : sizeN 18446744073709551615 = 10 := by decide +kernel
  omega
theorem cntN_len (n : Nat) (h : n < 18446744073709551616) : (cntN n).length ≤ 10 := by
  have h1 := sizeN_le n h
  unfold cntN
  rw [List.length_append, preN_length]
  show sizeN n - 1 + 1 ≤ 10
  omega
theorem encL_len {x : Ins} (h : x.Enc) (l : Nat) (hl : l ∈ shapeL x.op) : (encL x l).length ≤ 10 := by
  unfold encL
  split
  · exact cntN_len _ (foldN_lt h.n)
  · have := h.flds l hl (by assumption)
    exact cntN_len _ (by omega)
theorem encLs_len {x : Ins} (h : x.Enc) : ∀ ls : List Nat, (∀ l ∈ ls, l ∈ shapeL x.op) → (encLs x ls).length ≤ ls.length * 10
  | [], _ => by simp [encLs]
  | l :: ls, hm => by
    have h1 := encL_len h l (hm l (List.mem_cons_self ..))
    have h2 := encLs_len h ls (fun q hq => hm q (List.mem_cons_of_mem _ hq))
    unfold encLs at h2 ⊢
    rw [List.flatMap_cons, List.length_append, List.length_cons]
    omega
theorem encLs_take (x : Ins) (ls : List Nat) (k : Nat) (hk : k < ls.length) : encLs x (ls.take (k + 1)) = encLs x (ls.take k) ++ encL x ls[k] := by
  unfold encLs
  rw [List.take_succ_eq_append_getElem hk, List.flatMap_append, List.flatMap_singleton]
theorem encI_len {x : Ins} (h : x.Enc) : (encI x).length ≤ 51 := by
  have h1 := encLs_len h (shapeL x.op) (fun _ h => h)
  have h2 := shapeL_len x.op
  unfold encI
  rw [List.length_cons]
  omega
theorem get_or (x : Ins) (l : Nat) (k : Nat) (h : offL l = k) : x.get (offL l) = x.get k := by rw [h]
/-- The box stands behind what was written. -/
theorem wtr_own_lt {w : World} {B g : Nat} {v : Value} {xs : List Nat} (h : Wtr w B g v xs) : v.ownBlock ≠ some w.heap.size := fun e => by
  have := (h.own.lt _ e).2
  omega
theorem wrote_box {w wr : World} {B g : Nat} {v v' : Value} {xs ys : List Nat} {o : Obj} (h0 : Wtr w B g v ys) (h : Wrote (w.alloc o) wr B g v v' xs) : wr.heap[w.heap.size]? = some o :=
  (h.touch.block _ (by rw [World.size_alloc]; omega) (by have := h0.lt; omega) (wtr_own_lt h0)).trans (heap_alloc_new w o)
theorem Tab.cell1 {w w' : World} (h : Tab w) {g B : Nat} {v v' : Value} {xs ys : List Nat} (hB : 1 ≤ B) (hw : Wtr w B g v ys) (k : Wrote w w' B g v v' xs) : Tab w' := fun i hi => by
  rw [← h i hi]
  exact World.cell?_of_block (k.touch.block 0 (tab_size h) (by have := hw.low; omega) (fun e => by have := (hw.own.lt _ e).1; omega))
set_option maxHeartbeats 4000000 in
theorem putI_any (x : Ins) (hx : x.Enc) (B g : Nat) (v : Value) (xs : List Nat) (w : World) (hT : Tab w) (hB : 1 ≤ B) (hw : Wtr w B g v xs) (hmx : xs.length ≤ 4398046511104) :
    Calls Tryd.prog 39 #[.pointer (some ⟨g, 0, none⟩), x.val] w fun e w' => e = .returned (.tuple #[]) ∧ ∃ v', Wrote w w' B g v v' (xs ++ encI x) := by
  obtain ⟨hop, hfl, hnf⟩ := hx
  obtain ⟨op, hopn⟩ := Int.eq_ofNat_of_zero_le hop.1
  have HX := Lib.hid (show x.Enc from ⟨hop, hfl, hnf⟩)
  have HFL := Lib.hid hfl
  have HNF := Lib.hid hnf
  have hop16 : op < 16 := by omega
  obtain ⟨ls, hls⟩ : ∃ ls, ls = shapeL x.op := ⟨_, rfl⟩
  have HSM := Lib.hid (show ∀ y ∈ ls, y < 256 by rw [hls]; exact shapeL_small _)
  have hlen : ls.length ≤ 5 := by rw [hls]; exact shapeL_len _
  rw [← hls] at HFL
  have HENC := Lib.hid (show encI x = op :: encLs x ls by unfold encI; rw [← hls, hopn, Int.toNat_natCast])
  have HLEN := Lib.hid (fun k => (encLs_len HX.out (ls.take k) (fun l hl => by rw [← hls]; exact List.mem_of_mem_take hl) : (encLs x (ls.take k)).length ≤ (ls.take k).length * 10))
  have HSH := Lib.hid (fun (W : World) (h : Tab W) => (by have h1 := shape_yes op hop16 W h; rw [← hopn, ← hls] at h1; rw [← hopn]; exact h1 : Calls Tryd.prog 25 #[.int .i64 (op : Int)] W fun e w' => e = .returned (.tuple #[.string (strN ls), .bool true]) ∧ W = w'))
  obtain ⟨s, hs⟩ : ∃ s, s = strN ls := ⟨_, rfl⟩
  obtain ⟨m, hm⟩ : ∃ m, m = ls.length := ⟨_, rfl⟩
  have hsz : s.size = m := by rw [hs, strN_size, hm]
  have HIX := Lib.hid (fun k (hk : k < ls.length) w => (by rw [hs]; exact idx_str ls HSM.out k hk w : (Instr.index 9 (.string s) (.int .i64 (k : Int))).run Tryd.prog w = .ok (.int .u8 ((ls[k] : Nat) : Int)) w))
  rw [← hs] at HSH
  have HM := Lib.hid hm
  rw [← hm] at hlen
  have hbx := (Below.refl w.heap.size w).alloc (Nat.le_refl _) (.cells #[.int .i64 x.op, .int .i64 x.a, .int .i64 x.b, .int .i64 x.c, .int .i64 x.t, .int .i64 x.n] 43)
  have HT1 := Lib.hid (hT.ext hbx)
  have HW := Lib.hid hw
  have HW1 := Lib.hid (hw.alloc (.cells #[.int .i64 x.op, .int .i64 x.a, .int .i64 x.b, .int .i64 x.c, .int .i64 x.t, .int .i64 x.n] 43))
  have eop : IntKind.u8.wrap (op : Int) = ((op : Nat) : Int) := by rw [IntKind.wrap_u8]; omega
  unfold Ins.val
  rw [hopn]
  rw [hopn] at HW1 HT1 hbx
  have HBX := Lib.hid hbx
  have HY := Lib.hid (byte_any B g v xs op _ HW1.out (by omega))
  have hlw := hw.lt
  have hxl := hmx
  clear hbx hw hm hs hls hT hfl hnf hop hmx
  have HOPN := Lib.hid hopn
  clear hopn
  go_enter Tryd.func39, Tryd.ntmps39
  go_wp2_with fail
  refine Calls.mono HY.out ?_
  rintro e w1 ⟨rfl, v1, h1⟩
  have H1 := Lib.hid h1
  have hbb := wrote_box HW.out h1
  have HBB := Lib.hid hbb
  have g0 : w1.cell? ⟨w.heap.size, 0, none⟩ = some (.int .i64 (op : Int)) := cell_of_row w1 _ 0 _ 43 (0, 0) hbb
  have HTB := Lib.hid (HT1.out.cell1 hB HW1.out h1)
  clear h1 hbb
  go_wp2_with fail
  refine Calls.mono (HSH.out _ HTB.out) ?_
  rintro e w2 ⟨rfl, rfl⟩
  go_wp2_with fail
  clear g0
  go_loopw [20] (fun i wr => ∃ (k : Nat) (v' : Value), i = .int .i64 (k : Int) ∧ k ≤ m ∧ Wrote (w.alloc (.cells #[.int .i64 (op : Int), .int .i64 x.a, .int .i64 x.b, .int .i64 x.c, .int .i64 x.t, .int .i64 x.n] 43)) wr B g v v' (xs ++ [op] ++ encLs x (ls.take k))) (fun i _ => m - (intOf i).toNat)
  case atStart => exact ⟨0, v1, rfl, by omega, by have := H1.out; rw [show encLs x (ls.take 0) = [] from rfl, List.append_nil]; exact this⟩
  case round =>
    obtain ⟨k, v', rfl, hk, hwr⟩ := hrel
    have HWR := Lib.hid hwr
    have hbb := wrote_box HW.out hwr
    have HBB := Lib.hid hbb
    have hll := HLEN.out k
    rw [List.length_take] at hll
    have hxl2 : (xs ++ [op] ++ encLs x (ls.take k)).length ≤ 8796093022208 := by
      rw [List.length_append, List.length_append]
      show xs.length + 1 + _ ≤ _
      omega
    clear hwr
    by_cases hlt : k < m
    · have hkl : k < ls.length := by rw [← HM.out]; exact hlt
      have hix := HIX.out k hkl
      obtain ⟨l, hl⟩ : ∃ l, l = ls[k] := ⟨_, rfl⟩
      have HTK := Lib.hid (encLs_take x ls k hkl)
      rw [← hl] at hix HTK
      have hl256 : l < 256 := by rw [hl]; exact HSM.out _ (List.getElem_mem hkl)
      have hmem : l ∈ ls := by rw [hl]; exact List.getElem_mem hkl
      clear hl
      by_cases h110 : l = 110
      · have d1 : ((l : Int) == 110) = true := by rw [beq_iff_eq]; omega
        have HEL := Lib.hid (show encL x l = cntN (foldN x.n) from if_pos h110)
        have g5 : wr.cell? ⟨w.heap.size, 5, none⟩ = some (.int .i64 x.n) := cell_of_row wr _ 5 _ 43 (0, 0) hbb
        have HN := Lib.hid (num_any B g v' _ x.n HNF.out wr HWR.out.wtr hxl2)
        clear h110 hbb hmem hxl2
        go_wp2_with fail
        refine Calls.mono HN.out ?_
        rintro e w2 ⟨rfl, v2, h2⟩
        have H2 := Lib.hid (HWR.out.trans h2)
        clear h2
        go_wp2_with fail
        go_roundw
        case rel => exact ⟨k + 1, v2, by go_num, by omega, by rw [HTK.out, ← List.append_assoc, HEL.out]; exact H2.out⟩
        case measure => simp [intOf]; omega
      · have d1 : ((l : Int) == 110) = false := by rw [beq_eq_false_iff_ne]; omega
        have hv := HFL.out l hmem h110
        obtain ⟨o, ho⟩ : ∃ o, o = offL l := ⟨_, rfl⟩
        have hol := offL_le l
        obtain ⟨z, hz⟩ : ∃ z, z = x.get o := ⟨_, rfl⟩
        have HEL := Lib.hid (show encL x l = cntN z.toNat by rw [hz, ho]; exact if_neg h110)
        have HF := Lib.hid (field_any w.heap.size l wr)
        rw [← ho] at HF hol hv
        rw [← hz] at hv
        have hcv : wr.cell? ⟨w.heap.size, o, none⟩ = some (.int .i64 z) := by
          rw [cell_of_row wr _ _ _ 43 (0, 0) hbb, hz]
          have := get_at x o hol
          rw [← this]
          have h6 : o = 1 ∨ o = 2 ∨ o = 3 ∨ o = 4 ∨ o = 5 := by omega
          rcases h6 with rfl | rfl | rfl | rfl | rfl <;> rfl
        obtain ⟨u, rfl⟩ := Int.eq_ofNat_of_zero_le hv.1
        have hu : u < 18446744073709551616 := by omega
        have eu : IntKind.u64.wrap (u : Int) = ((u : Nat) : Int) := by rw [IntKind.wrap_u64]; omega
        have HN := Lib.hid (count_any B g v' _ u hu wr HWR.out.wtr hxl2)
        clear h110 hbb hmem hxl2 hv ho hz hol hu
        go_wp2_with fail
        refine Calls.mono HF.out ?_
        rintro e w2 ⟨rfl, rfl⟩
        go_wp2_with fail
        refine Calls.mono HN.out ?_
        rintro e w2 ⟨rfl, v2, h2⟩
        have H2 := Lib.hid (HWR.out.trans h2)
        clear h2
        go_wp2_with fail
        go_roundw
        case rel => exact ⟨k + 1, v2, by go_num, by omega, by rw [HTK.out, ← List.append_assoc, HEL.out]; exact H2.out⟩
        case measure => simp [intOf]; omega
    · obtain rfl : k = m := by omega
      go_wp2_with fail
      refine bodyPost_end (v := .tuple #[]) (by simp [results, Tryd.results39, go_sem]) rfl ⟨rfl, v', ?_⟩
      have h := HWR.out.after_alloc
      rw [HENC.out, show op :: encLs x ls = [op] ++ encLs x ls from rfl, ← List.append_assoc]
      rw [HM.out, List.take_length] at h
      exact h
end Go.Proofs.YtkeckjgihjpfbaaDoor
