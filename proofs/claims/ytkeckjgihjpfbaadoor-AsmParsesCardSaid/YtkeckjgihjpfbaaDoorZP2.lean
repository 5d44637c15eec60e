/- YtkeckjgihjpfbaaDoorGood, YtkeckjgihjpfbaaDoorCheck, YtkeckjgihjpfbaaDoorPut, YtkeckjgihjpfbaaDoorEnc, YtkeckjgihjpfbaaDoorFault, YtkeckjgihjpfbaaDoorAlive, YtkeckjgihjpfbaaDoorAsm1, YtkeckjgihjpfbaaDoorAsm2, YtkeckjgihjpfbaaDoorRGood, YtkeckjgihjpfbaaDoorRGood2, YtkeckjgihjpfbaaDoorRCheck, YtkeckjgihjpfbaaDoorValue, YtkeckjgihjpfbaaDoorAsm3: put together. -/
import Derived.Test.YtkeckjgihjpfbaaDoorZP1
import Derived.Deep.Heap
import Derived.Lib.ItoaLen
import Derived.Deep.Cut
import Derived.Deep.RegionHeld3
import Derived.Deep.DrawnRows
/- The contract of prog.good. -/
namespace Go.Proofs.YtkeckjgihjpfbaaDoor
set_option maxRecDepth 100000
open Go.RowKit

theorem idx_str (ls : List Nat) (hs : ∀ x ∈ ls, x < 256) (k : Nat) (hk : k < ls.length) (w : World) : (Instr.index 9 (.string (strN ls)) (.int .i64 (k : Int))).run Tryd.prog w = .ok (.int .u8 ((ls[k] : Nat) : Int)) w := by
  rw [run_index_string w 9 _ _ _ Tryd.underlying9, dif_pos ⟨by omega, by rw [strN_size]; omega⟩]
  congr 2
  have e := strN_data ls
  have h2 : (strN ls).data.toList[k]? = some (UInt8.ofNat ls[k]) := by rw [e]; simp [hk]
  have h3 : k < (strN ls).data.size := by have := strN_size ls; show k < (strN ls).size; omega
  have h4 : (strN ls).data[k]'h3 = UInt8.ofNat ls[k] := by
    rw [Array.getElem?_toList, Array.getElem?_eq_getElem h3] at h2
    injection h2
  have h5 : ((strN ls)[(k : Int).toNat]'(by rw [strN_size]; omega)) = UInt8.ofNat ls[k] := h4
  rw [h5, UInt8.toNat_ofNat']
  have := hs ls[k] (List.getElem_mem hk)
  omega
theorem field_q (g l : Nat) (w : World) : Calls Tryd.prog 69 #[.pointer (some ⟨g, 0, none⟩), .int .u8 (l : Int)] w fun e w' => e = .returned (.pointer (some ⟨g, offL l, none⟩)) ∧ w' = w := (field_any g l w).mono fun _ _ h => ⟨h.1, h.2.symm⟩
def Ins.get (x : Ins) (k : Nat) : Int := if k = 1 then x.a else if k = 2 then x.b else if k = 3 then x.c else if k = 4 then x.t else x.n
def Ins.set (x : Ins) (k : Nat) (v : Int) : Ins := if k = 1 then { x with a := v } else if k = 2 then { x with b := v } else if k = 3 then { x with c := v } else if k = 4 then { x with t := v } else { x with n := v }
theorem offL_le (l : Nat) : 1 ≤ offL l ∧ offL l ≤ 5 := by
  unfold offL
  split
  · decide
  split
  · decide
  split
  · decide
  split <;> decide
theorem get_at (x : Ins) (k : Nat) (h : 1 ≤ k ∧ k ≤ 5) : x.vals.toArray[k]? = some (.int .i64 (x.get k)) := by
  have : k = 1 ∨ k = 2 ∨ k = 3 ∨ k = 4 ∨ k = 5 := by omega
  rcases this with rfl | rfl | rfl | rfl | rfl <;> rfl
theorem set_at (x : Ins) (k : Nat) (h : 1 ≤ k ∧ k ≤ 5) (v : Int) : x.vals.toArray.setIfInBounds k (.int .i64 v) = (x.set k v).vals.toArray := by
  have : k = 1 ∨ k = 2 ∨ k = 3 ∨ k = 4 ∨ k = 5 := by omega
  rcases this with rfl | rfl | rfl | rfl | rfl <;> rfl
/-- What used is behind some letters. -/
def usedL (x : Ins) (ls : List Nat) : Ins := ls.foldl (fun u l => u.set (offL l) (x.get (offL l))) { Ins.zero with op := x.op }
theorem usedL_snoc (x : Ins) (ls : List Nat) (l : Nat) : usedL x (ls ++ [l]) = (usedL x ls).set (offL l) (x.get (offL l)) := by simp [usedL]
def inB (x : Ins) (z : Int) (l : Nat) : Bool := decide (l = 110) || decide (loL l ≤ x.get (offL l) ∧ x.get (offL l) ≤ hiL l z)
def goodI (x : Ins) (z : Int) : Bool := okOp x.op && ((shapeL x.op).all (inB x z) && decide (usedL x (shapeL x.op) = x))
theorem goodI_no (x : Ins) (z : Int) (h : okOp x.op = false) : goodI x z = false := by simp [goodI, h]
theorem goodI_out (x : Ins) (z : Int) (k : Nat) (hk : k < (shapeL x.op).length) (h : inB x z (shapeL x.op)[k] = false) : goodI x z = false := by
  have : (shapeL x.op).all (inB x z) = false := by
    rw [List.all_eq_false]
    exact ⟨_, List.getElem_mem hk, by simp [h]⟩
  simp [goodI, this]
theorem goodI_end (x : Ins) (z : Int) (h : okOp x.op = true) (ha : ∀ j (h : j < (shapeL x.op).length), inB x z (shapeL x.op)[j] = true) : goodI x z = decide (usedL x (shapeL x.op) = x) := by
  have : (shapeL x.op).all (inB x z) = true := by
    rw [List.all_eq_true]
    intro l hl
    obtain ⟨j, hj, rfl⟩ := List.getElem_of_mem hl
    exact ha j hj
  simp [goodI, this, h]
theorem shapeL_small (op : Int) : ∀ x ∈ shapeL op, x < 256 := by
  unfold shapeL
  repeat' split
  all_goals (intro x hx; simp at hx <;> omega)
theorem shapeL_len (op : Int) : (shapeL op).length ≤ 5 := by
  unfold shapeL
  repeat' split
  all_goals decide
theorem insArr (x : Ins) : #[Value.int .i64 x.op, .int .i64 x.a, .int .i64 x.b, .int .i64 x.c, .int .i64 x.t, .int .i64 x.n] = x.vals.toArray := rfl
theorem heap_set {w : World} {g k : Nat} {x : Ins} {t : TypeId} (h : w.heap[g]? = some (.cells x.vals.toArray t (0, 0))) (hk : 1 ≤ k ∧ k ≤ 5) (v : Int) : (w.setCell ⟨g, k, none⟩ (.int .i64 v)).heap[g]? = some (.cells (x.set k v).vals.toArray t (0, 0)) := by
  rw [← set_at x k hk v]
  simp [World.setCell, Array.getElem?_modify, h]
theorem good_new (w : World) (x : Ins) : Below w.heap.size w ((w.alloc (.cells #[.int .i64 x.op, .int .i64 x.a, .int .i64 x.b, .int .i64 x.c, .int .i64 x.t, .int .i64 x.n] 43)).alloc (.cells #[.int .i64 x.op, .int .i64 0, .int .i64 0, .int .i64 0, .int .i64 0, .int .i64 0] 43)) ∧
    ((w.alloc (.cells #[.int .i64 x.op, .int .i64 x.a, .int .i64 x.b, .int .i64 x.c, .int .i64 x.t, .int .i64 x.n] 43)).alloc (.cells #[.int .i64 x.op, .int .i64 0, .int .i64 0, .int .i64 0, .int .i64 0, .int .i64 0] 43)).heap[w.heap.size]? = some (.cells x.vals.toArray 43 (0, 0)) ∧
    ((w.alloc (.cells #[.int .i64 x.op, .int .i64 x.a, .int .i64 x.b, .int .i64 x.c, .int .i64 x.t, .int .i64 x.n] 43)).alloc (.cells #[.int .i64 x.op, .int .i64 0, .int .i64 0, .int .i64 0, .int .i64 0, .int .i64 0] 43)).heap[w.heap.size + 1]? = some (.cells (usedL x []).vals.toArray 43 (0, 0)) :=
  ⟨((Below.refl _ w).alloc (Nat.le_refl _) _).alloc (by simp) _, (heap_alloc_old _ _ (by simp)).trans (heap_alloc_new w _), by
    have h := heap_alloc_new (w.alloc (.cells #[.int .i64 x.op, .int .i64 x.a, .int .i64 x.b, .int .i64 x.c, .int .i64 x.t, .int .i64 x.n] 43)) (.cells #[.int .i64 x.op, .int .i64 0, .int .i64 0, .int .i64 0, .int .i64 0, .int .i64 0] 43)
    rw [World.size_alloc] at h
    exact h⟩
theorem good_rel (x : Ins) (z : Int) (w : World) {wr : World} (ls : List Nat) (k m : Nat) (v : Int) (l o : Nat) (hkl : k < ls.length) (hl : l = ls[k]) (ho : o = offL l) (hv : v = x.get o) (hin : inB x z l = true) (hlt : k < m)
    (hb : Below w.heap.size w wr) (hg : wr.heap[w.heap.size]? = some (.cells x.vals.toArray 43 (0, 0))) (hu : wr.heap[w.heap.size + 1]? = some (.cells (usedL x (ls.take k)).vals.toArray 43 (0, 0))) (hall : ∀ j (h : j < ls.length), j < k → inB x z ls[j] = true) :
    ∃ k' : Nat, Value.int .i64 ((k : Int) + 1) = .int .i64 (k' : Int) ∧ k' ≤ m ∧ Below w.heap.size w (wr.setCell ⟨w.heap.size + 1, o, none⟩ (.int .i64 v)) ∧ (wr.setCell ⟨w.heap.size + 1, o, none⟩ (.int .i64 v)).heap[w.heap.size]? = some (.cells x.vals.toArray 43 (0, 0)) ∧
      (wr.setCell ⟨w.heap.size + 1, o, none⟩ (.int .i64 v)).heap[w.heap.size + 1]? = some (.cells (usedL x (ls.take k')).vals.toArray 43 (0, 0)) ∧ (∀ j (h : j < ls.length), j < k' → inB x z ls[j] = true) := by
  refine ⟨k + 1, by go_num, by omega, hb.setCell (by show w.heap.size ≤ w.heap.size + 1; omega) _, (Deep.blk_setCell_other wr _ _ _ (by show w.heap.size ≠ w.heap.size + 1; omega)).trans hg, ?_, fun j hj hjk => ?_⟩
  · rw [List.take_succ_eq_append_getElem hkl, usedL_snoc, ← hl, ← ho, ← hv]
    exact heap_set hu (by rw [ho]; exact offL_le l) v
  · rcases Nat.lt_or_ge j k with h | h
    · exact hall j hj h
    · obtain rfl : j = k := by omega
      rw [← hl]; exact hin
set_option maxHeartbeats 4000000 in
theorem good_any (x : Ins) (z : Int) (w : World) (hT : Tab w) : Calls Tryd.prog 64 #[x.val, .int .i64 z] w fun e w' => e = .returned (.bool (goodI x z)) ∧ Below w.heap.size w w' := by
  have hbA := (Below.refl w.heap.size w).alloc (Nat.le_refl _) (.cells #[.int .i64 x.op, .int .i64 x.a, .int .i64 x.b, .int .i64 x.c, .int .i64 x.t, .int .i64 x.n] 43)
  have HS := Lib.hid (shape_any x.op (w.alloc (.cells #[.int .i64 x.op, .int .i64 x.a, .int .i64 x.b, .int .i64 x.c, .int .i64 x.t, .int .i64 x.n] 43)) (hT.ext hbA))
  have HBA := Lib.hid hbA
  have HNEWA := Lib.hid (heap_alloc_new w (.cells #[.int .i64 x.op, .int .i64 x.a, .int .i64 x.b, .int .i64 x.c, .int .i64 x.t, .int .i64 x.n] 43))
  clear hbA hT
  cases hok : okOp x.op with
  | false =>
    rw [goodI_no x z hok]
    rw [hok] at HS
    clear hok
    unfold Ins.val
    go_enter Tryd.func64, Tryd.ntmps64
    go_wp2_with fail
    refine Calls.mono HS.out ?_
    rintro e w1 ⟨rfl, rfl⟩
    go_wp2_with fail
    go_ret
    exact ⟨rfl, HBA.out⟩
  | true =>
    rw [hok] at HS
    obtain ⟨ls, hls⟩ : ∃ ls, ls = shapeL x.op := ⟨_, rfl⟩
    obtain ⟨R, hR⟩ : ∃ R, R = goodI x z := ⟨_, rfl⟩
    have HOUT := Lib.hid (fun k (hk : k < ls.length) (h : inB x z ls[k] = false) => (by subst hls; rw [hR]; exact goodI_out x z k hk h : R = false))
    have HEND := Lib.hid (fun (h : ∀ j (h : j < ls.length), inB x z ls[j] = true) => (by subst hls; rw [hR]; exact goodI_end x z hok h : R = decide (usedL x ls = x)))
    have HSM := Lib.hid (show ∀ y ∈ ls, y < 256 by rw [hls]; exact shapeL_small _)
    have hlen : ls.length ≤ 5 := by rw [hls]; exact shapeL_len _
    rw [← hR]
    rw [← hls] at HS
    obtain ⟨s, hs⟩ : ∃ s, s = strN ls := ⟨_, rfl⟩
    obtain ⟨m, hm⟩ : ∃ m, m = ls.length := ⟨_, rfl⟩
    have hsz : s.size = m := by rw [hs, strN_size, hm]
    have HIX := Lib.hid (fun k (hk : k < ls.length) w => (by rw [hs]; exact idx_str ls HSM.out k hk w : (Instr.index 9 (.string s) (.int .i64 (k : Int))).run Tryd.prog w = .ok (.int .u8 ((ls[k] : Nat) : Int)) w))
    rw [← hs] at HS
    have HM := Lib.hid hm
    clear hok hls hR hs
    rw [← hm] at hlen
    clear hm
    unfold Ins.val
    go_enter Tryd.func64, Tryd.ntmps64
    go_wp2_with fail
    refine Calls.mono HS.out ?_
    rintro e w1 ⟨rfl, rfl⟩
    go_wp2_with fail
    obtain ⟨hB2, hG, hU⟩ := good_new w x
    have HB2 := Lib.hid hB2
    have HG := Lib.hid hG
    have HU := Lib.hid hU
    clear hB2 hG hU
    go_loopw [26] (fun i wr => ∃ k : Nat, i = .int .i64 (k : Int) ∧ k ≤ m ∧ Below w.heap.size w wr ∧ wr.heap[w.heap.size]? = some (.cells x.vals.toArray 43 (0, 0)) ∧ wr.heap[w.heap.size + 1]? = some (.cells (usedL x (ls.take k)).vals.toArray 43 (0, 0)) ∧ (∀ j (h : j < ls.length), j < k → inB x z ls[j] = true)) (fun i _ => m - (intOf i).toNat)
    case atStart => exact ⟨0, rfl, by omega, HB2.out, HG.out, HU.out, fun j _ h => absurd h (by omega)⟩
    case round =>
      obtain ⟨k, rfl, hk, hb, hg, hu, hall⟩ := hrel
      have HBR := Lib.hid hb
      have HGR := Lib.hid hg
      have HUR := Lib.hid hu
      have HALL := Lib.hid hall
      have hsz2 := hb.size
      clear hb hg hu hall
      by_cases hlt : k < m
      · have hkl : k < ls.length := by rw [← HM.out]; exact hlt
        obtain ⟨l, hl⟩ : ∃ l, l = ls[k] := ⟨_, rfl⟩
        have hix := HIX.out k hkl
        rw [← hl] at hix
        have hl256 : l < 256 := by rw [hl]; exact HSM.out _ (List.getElem_mem hkl)
        obtain ⟨o, ho⟩ : ∃ o, o = offL l := ⟨_, rfl⟩
        have hol := offL_le l
        obtain ⟨v, hv⟩ : ∃ v, v = x.get o := ⟨_, rfl⟩
        have HF := Lib.hid (fun g w => field_q g l w)
        have HBD := Lib.hid (fun w => bounds_any l z w)
        rw [← ho] at HF hol
        have hcv : wr.cell? ⟨w.heap.size, o, none⟩ = some (.int .i64 v) := by
          rw [cell_of_row wr _ _ _ 43 (0, 0) HGR.out, get_at x o hol, hv]
        obtain ⟨q, hq⟩ : ∃ q, (usedL x (ls.take k)).vals.toArray[o]? = some (.int .i64 q) := ⟨_, get_at _ o hol⟩
        have hcu : wr.cell? ⟨w.heap.size + 1, o, none⟩ = some (.int .i64 q) := by
          rw [cell_of_row wr _ _ _ 43 (0, 0) HUR.out, hq]
        have hfu : wr.frozen? ⟨w.heap.size + 1, o, none⟩ = false := by simp [World.frozen?, HUR.out]
        have HV := Lib.hid hv
        have HO := Lib.hid ho
        have HL := Lib.hid hl
        clear hv ho hl hq
        go_wp2_with fail
        go_quiet ((go_at_call 69; exact Calls.quiet_of_same (HF.out _ _)))
        go_wp2_with fail
        refine Calls.mono (HBD.out _) ?_
        rintro e w2 ⟨rfl, rfl⟩
        obtain ⟨a, ha⟩ : ∃ a, a = loL l := ⟨_, rfl⟩
        obtain ⟨b, hb⟩ : ∃ b, b = hiL l z := ⟨_, rfl⟩
        rw [← ha, ← hb]
        have HINB := Lib.hid (show inB x z l = (decide (l = 110) || decide (a ≤ v ∧ v ≤ b)) by rw [ha, hb, HV.out, HO.out]; rfl)
        have HBN : Hid (Below w.heap.size w (wr.drewN nq)) := Lib.hid ⟨HBR.out.os, HBR.out.tape, HBR.out.output, HBR.out.size, HBR.out.block⟩
        have HGN : Hid ((wr.drewN nq).heap[w.heap.size]? = some (.cells x.vals.toArray 43 (0, 0))) := HGR
        have HUN : Hid ((wr.drewN nq).heap[w.heap.size + 1]? = some (.cells (usedL x (ls.take k)).vals.toArray 43 (0, 0))) := HUR
        clear ha hb hol
        by_cases h110 : l = 110
        · have d1 : ((l : Int) != 110) = false := by subst h110; rfl
          have hin : inB x z l = true := by rw [HINB.out, decide_eq_true h110]; rfl
          have HIN := Lib.hid hin
          clear hin h110 HINB
          go_wp2_with fail
          go_roundw
          case rel => exact good_rel x z w ls k m v l o hkl HL.out HO.out HV.out HIN.out hlt HBN.out HGN.out HUN.out HALL.out
          case measure => simp [intOf]; omega
        · have d1 : ((l : Int) != 110) = true := by rw [bne_iff_ne]; omega
          by_cases h1 : v < a
          · have d2 : decide (v < a) = true := decide_eq_true h1
            have hin : inB x z l = false := by rw [HINB.out, decide_eq_false h110, decide_eq_false (by omega)]; rfl
            have HR := Lib.hid (HOUT.out k hkl (by rw [← HL.out]; exact hin))
            clear hin h110 HINB h1
            go_wp2_with fail
            go_ret
            exact ⟨ret_bool' HR.out.symm, HBN.out⟩
          · have d2 : decide (v < a) = false := decide_eq_false h1
            by_cases h2 : b < v
            · have d3 : decide (b < v) = true := decide_eq_true h2
              have hin : inB x z l = false := by rw [HINB.out, decide_eq_false h110, decide_eq_false (by omega)]; rfl
              have HR := Lib.hid (HOUT.out k hkl (by rw [← HL.out]; exact hin))
              clear hin h110 HINB h1 h2
              go_wp2_with fail
              go_ret
              exact ⟨ret_bool' HR.out.symm, HBN.out⟩
            · have d3 : decide (b < v) = false := decide_eq_false h2
              have hin : inB x z l = true := by rw [HINB.out, decide_eq_true (show a ≤ v ∧ v ≤ b by omega)]; simp
              have HIN := Lib.hid hin
              clear hin h110 HINB h1 h2
              go_wp2_with fail
              go_roundw
              case rel => exact good_rel x z w ls k m v l o hkl HL.out HO.out HV.out HIN.out hlt HBN.out HGN.out HUN.out HALL.out
              case measure => simp [intOf]; omega
      · obtain rfl : k = m := by omega
        have hres := HEND.out (fun j hj => HALL.out j hj (by rw [HM.out]; exact hj))
        have hu := HUR.out
        rw [HM.out, List.take_length] at hu
        obtain ⟨u, hud⟩ : ∃ u, u = usedL x ls := ⟨_, rfl⟩
        rw [← hud] at hu hres
        have HRES := Lib.hid hres
        have hq := fun w => eql_ins w u x
        unfold Ins.val at hq
        have g := fun j => cell_of_row wr w.heap.size j _ 43 (0, 0) HGR.out
        have gu := fun j => cell_of_row wr (w.heap.size + 1) j _ 43 (0, 0) hu
        have g0 : wr.cell? ⟨w.heap.size, 0, none⟩ = some (.int .i64 x.op) := g 0
        have g1 : wr.cell? ⟨w.heap.size, 1, none⟩ = some (.int .i64 x.a) := g 1
        have g2 : wr.cell? ⟨w.heap.size, 2, none⟩ = some (.int .i64 x.b) := g 2
        have g3 : wr.cell? ⟨w.heap.size, 3, none⟩ = some (.int .i64 x.c) := g 3
        have g4 : wr.cell? ⟨w.heap.size, 4, none⟩ = some (.int .i64 x.t) := g 4
        have g5 : wr.cell? ⟨w.heap.size, 5, none⟩ = some (.int .i64 x.n) := g 5
        have u0 : wr.cell? ⟨w.heap.size + 1, 0, none⟩ = some (.int .i64 u.op) := gu 0
        have u1 : wr.cell? ⟨w.heap.size + 1, 1, none⟩ = some (.int .i64 u.a) := gu 1
        have u2 : wr.cell? ⟨w.heap.size + 1, 2, none⟩ = some (.int .i64 u.b) := gu 2
        have u3 : wr.cell? ⟨w.heap.size + 1, 3, none⟩ = some (.int .i64 u.c) := gu 3
        have u4 : wr.cell? ⟨w.heap.size + 1, 4, none⟩ = some (.int .i64 u.t) := gu 4
        have u5 : wr.cell? ⟨w.heap.size + 1, 5, none⟩ = some (.int .i64 u.n) := gu 5
        clear g gu hu hres hud
        go_wp2_with fail
        go_ret
        exact ⟨ret_bool' HRES.out.symm, HBR.out⟩
end Go.Proofs.YtkeckjgihjpfbaaDoor

/- The contract of prog.Check. -/
namespace Go.Proofs.YtkeckjgihjpfbaaDoor
set_option maxRecDepth 100000
open Go.RowKit

def goodAt (l : List Ins) (i : Nat) : Bool := goodI (l.getD i Ins.zero) ((l.length : Int) - 1 - (i : Int))
def firstBad (l : List Ins) : Option Nat := (List.range l.length).find? fun i => !goodAt l i
/-- Where a program isn't good. -/
def chk (f : Int) (l : List Ins) : Int := if f < 1 ∨ 1000 < f ∨ l.length < 1 ∨ 32 < l.length then -1 else match firstBad l with
  | some i => (i : Int)
  | none => -2
theorem chk_head {f : Int} {l : List Ins} (h : f < 1 ∨ 1000 < f ∨ l.length < 1 ∨ 32 < l.length) : chk f l = -1 := if_pos h
theorem chk_at {f : Int} {l : List Ins} (h : ¬ (f < 1 ∨ 1000 < f ∨ l.length < 1 ∨ 32 < l.length)) (k : Nat) (hk : k < l.length) (hall : ∀ j, j < k → goodAt l j = true) (hb : goodAt l k = false) : chk f l = (k : Int) := by
  unfold chk
  rw [if_neg h]
  have : firstBad l = some k := by
    unfold firstBad
    rw [List.find?_range_eq_some]
    exact ⟨by simp [hb], List.mem_range.2 hk, fun j hj => by simp [hall j hj]⟩
  rw [this]
theorem chk_all {f : Int} {l : List Ins} (h : ¬ (f < 1 ∨ 1000 < f ∨ l.length < 1 ∨ 32 < l.length)) (hall : ∀ j, j < l.length → goodAt l j = true) : chk f l = -2 := by
  unfold chk
  rw [if_neg h]
  have : firstBad l = none := by
    unfold firstBad
    rw [List.find?_eq_none]
    intro j hj
    simp [hall j (List.mem_range.1 hj)]
  rw [this]
theorem chk_good {f : Int} {l : List Ins} (h : chk f l = -2) : (1 ≤ f ∧ f ≤ 1000 ∧ 1 ≤ l.length ∧ l.length ≤ 32) ∧ ∀ j, j < l.length → goodAt l j = true := by
  unfold chk at h
  by_cases hh : f < 1 ∨ 1000 < f ∨ l.length < 1 ∨ 32 < l.length
  · rw [if_pos hh] at h; omega
  · rw [if_neg hh] at h
    refine ⟨by omega, fun j hj => ?_⟩
    cases hb : firstBad l with
    | some i => rw [hb] at h; have : ((i : Nat) : Int) = -2 := h; omega
    | none =>
      unfold firstBad at hb
      rw [List.find?_eq_none] at hb
      have := hb j (List.mem_range.2 hj)
      simpa using this
/-- A fault in memory. -/
def FaultAt (w : World) (b : Nat) (v : Int) : Prop := w.heap[b]? = some (.cells #[.int .i64 v, .iface 36 (.int .i64 5)] 75 (0, 0))
def ChkE (v : Int) (w0 w' : World) (e : Ending) : Prop := (v = -2 ∧ e = .returned .nilIface) ∨ (v ≠ -2 ∧ ∃ b, e = .returned (.iface 72 (.pointer (some ⟨b, 0, none⟩))) ∧ w0.heap.size ≤ b ∧ FaultAt w' b v)
theorem chk_ne (f : Int) (l : List Ins) (v : Int) (h : -1 ≤ v) (e : chk f l = v) : chk f l ≠ -2 := by omega
theorem one_new (w : World) (o : Obj) : (w.alloc o).heap[w.heap.size]? = some o := heap_alloc_new w o
set_option maxHeartbeats 4000000 in
theorem check_any (f : Int) (A : Option Addr) (n c : Nat) (l : List Ins) (w : World) (hT : Tab w) (hC : Codes w A n l) (hn : n ≤ 9223372036854775807) :
    Calls Tryd.prog 37 #[.agg #[.int .i64 f, .slice A n c]] w fun e w' => ChkE (chk f l) w w' e ∧ Below w.heap.size w w' := by
  have hln := hC.len
  have HT := Lib.hid hT
  have HC := Lib.hid hC
  have HL := Lib.hid hln
  have HB1 := Lib.hid ((Below.refl w.heap.size w).alloc (Nat.le_refl _) (.cells #[.int .i64 f, .slice A n c] 24))
  have HN1 := Lib.hid (one_new w (.cells #[.int .i64 f, .slice A n c] 24))
  clear hT hC
  by_cases hh : f < 1 ∨ 1000 < f ∨ l.length < 1 ∨ 32 < l.length
  · have HE := Lib.hid (chk_head hh)
    have hw : decide (f < 1) = true ∨ (decide (f < 1) = false ∧ decide ((1000 : Int) < f) = true) ∨ (decide (f < 1) = false ∧ decide ((1000 : Int) < f) = false ∧ decide ((n : Int) < 1) = true) ∨ (decide (f < 1) = false ∧ decide ((1000 : Int) < f) = false ∧ decide ((n : Int) < 1) = false ∧ decide ((32 : Int) < (n : Int)) = true) := by
      simp only [decide_eq_true_eq, decide_eq_false_iff_not]
      omega
    clear hh hln
    have fin : ∀ W : World, Below w.heap.size w W → ChkE (chk f l) w (W.alloc (.cells #[.int .i64 (-1), .iface 36 (.int .i64 5)] 75)) (.returned (.iface 72 (.pointer (some ⟨W.heap.size, 0, none⟩)))) ∧ Below w.heap.size w (W.alloc (.cells #[.int .i64 (-1), .iface 36 (.int .i64 5)] 75)) := fun W hb =>
      ⟨.inr ⟨by rw [HE.out]; decide, _, rfl, hb.size, by rw [HE.out]; exact one_new W _⟩, hb.alloc hb.size _⟩
    have hfin := fin _ HB1.out
    rw [World.size_alloc] at hfin
    have FIN := Lib.hid hfin
    clear fin hfin
    rcases hw with d1 | ⟨d1, d2⟩ | ⟨d1, d2, d3⟩ | ⟨d1, d2, d3, d4⟩
    all_goals
      go_enter Tryd.func37, Tryd.ntmps37
      go_wp2_with fail
      go_ret
      exact FIN.out
  · have d1 : decide (f < 1) = false := decide_eq_false (by omega)
    have d2 : decide ((1000 : Int) < f) = false := decide_eq_false (by omega)
    have d3 : decide ((n : Int) < 1) = false := decide_eq_false (by omega)
    have d4 : decide ((32 : Int) < (n : Int)) = false := decide_eq_false (by omega)
    have hn32 : n ≤ 32 := by omega
    have HH := Lib.hid hh
    clear hh hln
    go_enter Tryd.func37, Tryd.ntmps37
    go_wp2_with fail
    clear d1 d2 d3 d4
    go_loopw [32] (fun i wr => ∃ k : Nat, i = .int .i64 (k : Int) ∧ k ≤ n ∧ Below w.heap.size w wr ∧ wr.heap[w.heap.size]? = some (.cells #[.int .i64 f, .slice A n c] 24 (0, 0)) ∧ (∀ j, j < k → goodAt l j = true)) (fun i _ => n - (intOf i).toNat)
    case atStart => exact ⟨0, rfl, by omega, HB1.out, HN1.out, fun j h => absurd h (by omega)⟩
    case round =>
      obtain ⟨k, rfl, hk, hb, hg, hall⟩ := hrel
      have HBR := Lib.hid hb
      have HGR := Lib.hid hg
      have HALL := Lib.hid hall
      have hsz2 := hb.size
      have g0 : wr.cell? ⟨w.heap.size, 0, none⟩ = some (.int .i64 f) := cell_of_row wr _ 0 _ 24 (0, 0) hg
      have g1 : wr.cell? ⟨w.heap.size, 1, none⟩ = some (.slice A n c) := cell_of_row wr _ 1 _ 24 (0, 0) hg
      have hgl := (Array.getElem?_eq_some_iff.1 hg).1
      clear hb hg hall
      by_cases hlt : k < n
      · have hkl : k < l.length := by rw [HL.out]; exact hlt
        obtain ⟨b, off, rfl, hc⟩ := (HC.out.ext (stays_b HBR.out)).cells (by omega)
        obtain ⟨c0, c1, c2, c3, c4, c5⟩ := hc k hkl
        obtain ⟨x, hx⟩ : ∃ x, x = l[k] := ⟨_, rfl⟩
        rw [← hx] at c0 c1 c2 c3 c4 c5
        have HGA := Lib.hid (show goodAt l k = goodI x ((n : Int) - 1 - (k : Int)) by unfold goodAt; rw [HL.out, List.getD_eq_getElem?_getD, List.getElem?_eq_getElem hkl, hx]; rfl)
        have hbw : Below w.heap.size w (wr.alloc (.cells #[.int .i64 x.op, .int .i64 x.a, .int .i64 x.b, .int .i64 x.c, .int .i64 x.t, .int .i64 x.n] 43)) := HBR.out.alloc hsz2 _
        have HBW := Lib.hid hbw
        have hgd := good_any x ((n : Int) - 1 - (k : Int)) (wr.alloc (.cells #[.int .i64 x.op, .int .i64 x.a, .int .i64 x.b, .int .i64 x.c, .int .i64 x.t, .int .i64 x.n] 43)) (HT.out.ext hbw)
        unfold Ins.val at hgd
        have HGD := Lib.hid hgd
        have HGR2 := Lib.hid ((heap_alloc_old wr (.cells #[.int .i64 x.op, .int .i64 x.a, .int .i64 x.b, .int .i64 x.c, .int .i64 x.t, .int .i64 x.n] 43) hgl).trans HGR.out)
        clear hc hx hbw hgd
        go_wp2_with fail
        refine Calls.mono HGD.out ?_
        rintro e w2 ⟨rfl, hb2⟩
        have HB2 := Lib.hid (HBW.out.trans (hb2.mono HBW.out.size))
        have HG2 := Lib.hid ((hb2.block _ (by rw [World.size_alloc]; omega)).trans HGR2.out)
        clear hb2
        obtain ⟨r, hr⟩ : ∃ r, r = goodI x ((n : Int) - 1 - (k : Int)) := ⟨_, rfl⟩
        rw [← hr] at HGA ⊢
        clear hr
        cases r with
        | true =>
          go_wp2_with fail
          go_roundw
          case rel => exact ⟨k + 1, by go_num, by omega, HB2.out, HG2.out, fun j hj => by
            rcases Nat.lt_or_ge j k with h | h
            · exact HALL.out j h
            · obtain rfl : j = k := by omega
              exact HGA.out⟩
          case measure => simp [intOf]; omega
        | false =>
          have HE := Lib.hid (chk_at HH.out k hkl HALL.out HGA.out)
          go_wp2_with fail
          go_ret
          exact ⟨.inr ⟨by rw [HE.out]; omega, _, rfl, HB2.out.size, by rw [HE.out]; exact one_new w2 _⟩, HB2.out.alloc HB2.out.size _⟩
      · obtain rfl : k = n := by omega
        have HE := Lib.hid (chk_all HH.out (fun j hj => HALL.out j (by rw [← HL.out]; exact hj)))
        go_wp2_with fail
        go_ret
        exact ⟨.inl ⟨HE.out, rfl⟩, HBR.out⟩
end Go.Proofs.YtkeckjgihjpfbaaDoor

/- The contract of prog.put: an instruction's bytes. -/
namespace Go.Proofs.YtkeckjgihjpfbaaDoor
set_option maxRecDepth 100000
open Go.RowKit

def encL (x : Ins) (l : Nat) : List Nat := if l = 110 then cntN (foldN x.n) else cntN (x.get (offL l)).toNat
def encLs (x : Ins) (ls : List Nat) : List Nat := ls.flatMap (encL x)
/-- An instruction's bytes. -/
def encI (x : Ins) : List Nat := x.op.toNat :: encLs x (shapeL x.op)
/-- What the walk of put wants of an instruction. -/
structure Ins.Enc (x : Ins) : Prop where
  op : 0 ≤ x.op ∧ x.op < 16
  flds : ∀ l ∈ shapeL x.op, l ≠ 110 → 0 ≤ x.get (offL l) ∧ x.get (offL l) ≤ 9223372036854775807
  n : Fits x.n
theorem sizeN_le (n : Nat) (h : n < 18446744073709551616) : sizeN n ≤ 10 := by
  have := size_mono h (show 18446744073709551615 < 18446744073709551616 by decide) (by omega)
  have e : sizeN 18446744073709551615 = 10 := by decide +kernel
  omega
theorem cntN_len (n : Nat) (h : n < 18446744073709551616) : (cntN n).length ≤ 10 := by
  have h1 := sizeN_le n h
  unfold cntN
  rw [List.length_append, preN_length]
  show sizeN n - 1 + 1 ≤ 10
  omega
theorem encL_len {x : Ins} (h : x.Enc) (l : Nat) (hl : l ∈ shapeL x.op) : (encL x l).length ≤ 10 := by
  unfold encL
  split
  · exact cntN_len _ (foldN_lt h.n)
  · have := h.flds l hl (by assumption)
    exact cntN_len _ (by omega)
theorem encLs_len {x : Ins} (h : x.Enc) : ∀ ls : List Nat, (∀ l ∈ ls, l ∈ shapeL x.op) → (encLs x ls).length ≤ ls.length * 10
  | [], _ => by simp [encLs]
  | l :: ls, hm => by
    have h1 := encL_len h l (hm l (List.mem_cons_self ..))
    have h2 := encLs_len h ls (fun q hq => hm q (List.mem_cons_of_mem _ hq))
    unfold encLs at h2 ⊢
    rw [List.flatMap_cons, List.length_append, List.length_cons]
    omega
theorem encLs_take (x : Ins) (ls : List Nat) (k : Nat) (hk : k < ls.length) : encLs x (ls.take (k + 1)) = encLs x (ls.take k) ++ encL x ls[k] := by
  unfold encLs
  rw [List.take_succ_eq_append_getElem hk, List.flatMap_append, List.flatMap_singleton]
theorem encI_len {x : Ins} (h : x.Enc) : (encI x).length ≤ 51 := by
  have h1 := encLs_len h (shapeL x.op) (fun _ h => h)
  have h2 := shapeL_len x.op
  unfold encI
  rw [List.length_cons]
  omega
theorem get_or (x : Ins) (l : Nat) (k : Nat) (h : offL l = k) : x.get (offL l) = x.get k := by rw [h]
/-- The box stands behind what was written. -/
theorem wtr_own_lt {w : World} {B g : Nat} {v : Value} {xs : List Nat} (h : Wtr w B g v xs) : v.ownBlock ≠ some w.heap.size := fun e => by
  have := (h.own.lt _ e).2
  omega
theorem wrote_box {w wr : World} {B g : Nat} {v v' : Value} {xs ys : List Nat} {o : Obj} (h0 : Wtr w B g v ys) (h : Wrote (w.alloc o) wr B g v v' xs) : wr.heap[w.heap.size]? = some o :=
  (h.touch.block _ (by rw [World.size_alloc]; omega) (by have := h0.lt; omega) (wtr_own_lt h0)).trans (heap_alloc_new w o)
theorem Tab.cell1 {w w' : World} (h : Tab w) {g B : Nat} {v v' : Value} {xs ys : List Nat} (hB : 1 ≤ B) (hw : Wtr w B g v ys) (k : Wrote w w' B g v v' xs) : Tab w' := fun i hi => by
  rw [← h i hi]
  exact World.cell?_of_block (k.touch.block 0 (tab_size h) (by have := hw.low; omega) (fun e => by have := (hw.own.lt _ e).1; omega))
set_option maxHeartbeats 4000000 in
theorem putI_any (x : Ins) (hx : x.Enc) (B g : Nat) (v : Value) (xs : List Nat) (w : World) (hT : Tab w) (hB : 1 ≤ B) (hw : Wtr w B g v xs) (hmx : xs.length ≤ 4398046511104) :
    Calls Tryd.prog 39 #[.pointer (some ⟨g, 0, none⟩), x.val] w fun e w' => e = .returned (.tuple #[]) ∧ ∃ v', Wrote w w' B g v v' (xs ++ encI x) := by
  obtain ⟨hop, hfl, hnf⟩ := hx
  obtain ⟨op, hopn⟩ := Int.eq_ofNat_of_zero_le hop.1
  have HX := Lib.hid (show x.Enc from ⟨hop, hfl, hnf⟩)
  have HFL := Lib.hid hfl
  have HNF := Lib.hid hnf
  have hop16 : op < 16 := by omega
  obtain ⟨ls, hls⟩ : ∃ ls, ls = shapeL x.op := ⟨_, rfl⟩
  have HSM := Lib.hid (show ∀ y ∈ ls, y < 256 by rw [hls]; exact shapeL_small _)
  have hlen : ls.length ≤ 5 := by rw [hls]; exact shapeL_len _
  rw [← hls] at HFL
  have HENC := Lib.hid (show encI x = op :: encLs x ls by unfold encI; rw [← hls, hopn, Int.toNat_natCast])
  have HLEN := Lib.hid (fun k => (encLs_len HX.out (ls.take k) (fun l hl => by rw [← hls]; exact List.mem_of_mem_take hl) : (encLs x (ls.take k)).length ≤ (ls.take k).length * 10))
  have HSH := Lib.hid (fun (W : World) (h : Tab W) => (by have h1 := shape_yes op hop16 W h; rw [← hopn, ← hls] at h1; rw [← hopn]; exact h1 : Calls Tryd.prog 25 #[.int .i64 (op : Int)] W fun e w' => e = .returned (.tuple #[.string (strN ls), .bool true]) ∧ W = w'))
  obtain ⟨s, hs⟩ : ∃ s, s = strN ls := ⟨_, rfl⟩
  obtain ⟨m, hm⟩ : ∃ m, m = ls.length := ⟨_, rfl⟩
  have hsz : s.size = m := by rw [hs, strN_size, hm]
  have HIX := Lib.hid (fun k (hk : k < ls.length) w => (by rw [hs]; exact idx_str ls HSM.out k hk w : (Instr.index 9 (.string s) (.int .i64 (k : Int))).run Tryd.prog w = .ok (.int .u8 ((ls[k] : Nat) : Int)) w))
  rw [← hs] at HSH
  have HM := Lib.hid hm
  rw [← hm] at hlen
  have hbx := (Below.refl w.heap.size w).alloc (Nat.le_refl _) (.cells #[.int .i64 x.op, .int .i64 x.a, .int .i64 x.b, .int .i64 x.c, .int .i64 x.t, .int .i64 x.n] 43)
  have HT1 := Lib.hid (hT.ext hbx)
  have HW := Lib.hid hw
  have HW1 := Lib.hid (hw.alloc (.cells #[.int .i64 x.op, .int .i64 x.a, .int .i64 x.b, .int .i64 x.c, .int .i64 x.t, .int .i64 x.n] 43))
  have eop : IntKind.u8.wrap (op : Int) = ((op : Nat) : Int) := by rw [IntKind.wrap_u8]; omega
  unfold Ins.val
  rw [hopn]
  rw [hopn] at HW1 HT1 hbx
  have HBX := Lib.hid hbx
  have HY := Lib.hid (byte_any B g v xs op _ HW1.out (by omega))
  have hlw := hw.lt
  have hxl := hmx
  clear hbx hw hm hs hls hT hfl hnf hop hmx
  have HOPN := Lib.hid hopn
  clear hopn
  go_enter Tryd.func39, Tryd.ntmps39
  go_wp2_with fail
  refine Calls.mono HY.out ?_
  rintro e w1 ⟨rfl, v1, h1⟩
  have H1 := Lib.hid h1
  have hbb := wrote_box HW.out h1
  have HBB := Lib.hid hbb
  have g0 : w1.cell? ⟨w.heap.size, 0, none⟩ = some (.int .i64 (op : Int)) := cell_of_row w1 _ 0 _ 43 (0, 0) hbb
  have HTB := Lib.hid (HT1.out.cell1 hB HW1.out h1)
  clear h1 hbb
  go_wp2_with fail
  refine Calls.mono (HSH.out _ HTB.out) ?_
  rintro e w2 ⟨rfl, rfl⟩
  go_wp2_with fail
  clear g0
  go_loopw [20] (fun i wr => ∃ (k : Nat) (v' : Value), i = .int .i64 (k : Int) ∧ k ≤ m ∧ Wrote (w.alloc (.cells #[.int .i64 (op : Int), .int .i64 x.a, .int .i64 x.b, .int .i64 x.c, .int .i64 x.t, .int .i64 x.n] 43)) wr B g v v' (xs ++ [op] ++ encLs x (ls.take k))) (fun i _ => m - (intOf i).toNat)
  case atStart => exact ⟨0, v1, rfl, by omega, by have := H1.out; rw [show encLs x (ls.take 0) = [] from rfl, List.append_nil]; exact this⟩
  case round =>
    obtain ⟨k, v', rfl, hk, hwr⟩ := hrel
    have HWR := Lib.hid hwr
    have hbb := wrote_box HW.out hwr
    have HBB := Lib.hid hbb
    have hll := HLEN.out k
    rw [List.length_take] at hll
    have hxl2 : (xs ++ [op] ++ encLs x (ls.take k)).length ≤ 8796093022208 := by
      rw [List.length_append, List.length_append]
      show xs.length + 1 + _ ≤ _
      omega
    clear hwr
    by_cases hlt : k < m
    · have hkl : k < ls.length := by rw [← HM.out]; exact hlt
      have hix := HIX.out k hkl
      obtain ⟨l, hl⟩ : ∃ l, l = ls[k] := ⟨_, rfl⟩
      have HTK := Lib.hid (encLs_take x ls k hkl)
      rw [← hl] at hix HTK
      have hl256 : l < 256 := by rw [hl]; exact HSM.out _ (List.getElem_mem hkl)
      have hmem : l ∈ ls := by rw [hl]; exact List.getElem_mem hkl
      clear hl
      by_cases h110 : l = 110
      · have d1 : ((l : Int) == 110) = true := by rw [beq_iff_eq]; omega
        have HEL := Lib.hid (show encL x l = cntN (foldN x.n) from if_pos h110)
        have g5 : wr.cell? ⟨w.heap.size, 5, none⟩ = some (.int .i64 x.n) := cell_of_row wr _ 5 _ 43 (0, 0) hbb
        have HN := Lib.hid (num_any B g v' _ x.n HNF.out wr HWR.out.wtr hxl2)
        clear h110 hbb hmem hxl2
        go_wp2_with fail
        refine Calls.mono HN.out ?_
        rintro e w2 ⟨rfl, v2, h2⟩
        have H2 := Lib.hid (HWR.out.trans h2)
        clear h2
        go_wp2_with fail
        go_roundw
        case rel => exact ⟨k + 1, v2, by go_num, by omega, by rw [HTK.out, ← List.append_assoc, HEL.out]; exact H2.out⟩
        case measure => simp [intOf]; omega
      · have d1 : ((l : Int) == 110) = false := by rw [beq_eq_false_iff_ne]; omega
        have hv := HFL.out l hmem h110
        obtain ⟨o, ho⟩ : ∃ o, o = offL l := ⟨_, rfl⟩
        have hol := offL_le l
        obtain ⟨z, hz⟩ : ∃ z, z = x.get o := ⟨_, rfl⟩
        have HEL := Lib.hid (show encL x l = cntN z.toNat by rw [hz, ho]; exact if_neg h110)
        have HF := Lib.hid (field_any w.heap.size l wr)
        rw [← ho] at HF hol hv
        rw [← hz] at hv
        have hcv : wr.cell? ⟨w.heap.size, o, none⟩ = some (.int .i64 z) := by
          rw [cell_of_row wr _ _ _ 43 (0, 0) hbb, hz]
          have := get_at x o hol
          rw [← this]
          have h6 : o = 1 ∨ o = 2 ∨ o = 3 ∨ o = 4 ∨ o = 5 := by omega
          rcases h6 with rfl | rfl | rfl | rfl | rfl <;> rfl
        obtain ⟨u, rfl⟩ := Int.eq_ofNat_of_zero_le hv.1
        have hu : u < 18446744073709551616 := by omega
        have eu : IntKind.u64.wrap (u : Int) = ((u : Nat) : Int) := by rw [IntKind.wrap_u64]; omega
        have HN := Lib.hid (count_any B g v' _ u hu wr HWR.out.wtr hxl2)
        clear h110 hbb hmem hxl2 hv ho hz hol hu
        go_wp2_with fail
        refine Calls.mono HF.out ?_
        rintro e w2 ⟨rfl, rfl⟩
        go_wp2_with fail
        refine Calls.mono HN.out ?_
        rintro e w2 ⟨rfl, v2, h2⟩
        have H2 := Lib.hid (HWR.out.trans h2)
        clear h2
        go_wp2_with fail
        go_roundw
        case rel => exact ⟨k + 1, v2, by go_num, by omega, by rw [HTK.out, ← List.append_assoc, HEL.out]; exact H2.out⟩
        case measure => simp [intOf]; omega
    · obtain rfl : k = m := by omega
      go_wp2_with fail
      refine bodyPost_end (v := .tuple #[]) (by simp [results, Tryd.results39, go_sem]) rfl ⟨rfl, v', ?_⟩
      have h := HWR.out.after_alloc
      rw [HENC.out, show op :: encLs x ls = [op] ++ encLs x ls from rfl, ← List.append_assoc]
      rw [HM.out, List.take_length] at h
      exact h
end Go.Proofs.YtkeckjgihjpfbaaDoor

/- The contract of prog.Encode. -/
namespace Go.Proofs.YtkeckjgihjpfbaaDoor
set_option maxRecDepth 100000
open Go.RowKit

def encIs (l : List Ins) : List Nat := l.flatMap encI
/-- A program's bytes. -/
def encP (f : Nat) (l : List Ins) : List Nat := cntN f ++ cntN l.length ++ encIs l
theorem loL_ge (l : Nat) : 0 ≤ loL l := by unfold loL; split <;> decide
theorem hiL_le (l : Nat) (z : Int) (h : z ≤ 9223372036854775807) : hiL l z ≤ 9223372036854775807 := by
  unfold hiL
  split
  · decide
  split
  · decide
  split
  · exact h
  · decide
theorem enc_of_good {x : Ins} {z : Int} (h : goodI x z = true) (hz : z ≤ 9223372036854775807) (hn : Fits x.n) : x.Enc := by
  unfold goodI at h
  simp only [Bool.and_eq_true, List.all_eq_true, decide_eq_true_iff] at h
  obtain ⟨h1, h2, _⟩ := h
  refine ⟨of_decide_eq_true h1, fun l hl h110 => ?_, hn⟩
  have h3 := h2 l hl
  unfold inB at h3
  rw [decide_eq_false h110, Bool.false_or, decide_eq_true_iff] at h3
  have := loL_ge l
  have := hiL_le l z hz
  omega
theorem goodAt_enc {l : List Ins} {k : Nat} (hk : k < l.length) (hl : l.length ≤ 32) (h : goodAt l k = true) (hn : Fits (l[k]).n) : (l[k]).Enc := by
  unfold goodAt at h
  rw [List.getD_eq_getElem?_getD, List.getElem?_eq_getElem hk] at h
  exact enc_of_good h (by omega) hn
theorem encIs_take (l : List Ins) (k : Nat) (hk : k < l.length) : encIs (l.take (k + 1)) = encIs (l.take k) ++ encI l[k] := by
  unfold encIs
  rw [List.take_succ_eq_append_getElem hk, List.flatMap_append, List.flatMap_singleton]
theorem encIs_len : ∀ l : List Ins, (∀ x ∈ l, x.Enc) → (encIs l).length ≤ l.length * 51
  | [], _ => by simp [encIs]
  | x :: l, h => by
    have h1 := encI_len (h x (List.mem_cons_self ..))
    have h2 := encIs_len l (fun y hy => h y (List.mem_cons_of_mem _ hy))
    unfold encIs at h2 ⊢
    rw [List.flatMap_cons, List.length_append, List.length_cons]
    omega
theorem wtr_new (w : World) : Wtr (w.alloc (.cells #[.slice none 0 0] 66)) w.heap.size w.heap.size (.slice none 0 0) [] :=
  ⟨Nat.le_refl _, heap_alloc_new w _, ⟨rfl, .inl ⟨rfl, rfl⟩⟩⟩
theorem Wrote.below {w w' : World} {B g : Nat} {v v' : Value} {xs : List Nat} (h : Wrote w w' B g v v' xs) (hv : ∀ k, v.ownBlock = some k → B ≤ k) (hB : B ≤ w.heap.size) : Below B w w' := h.touch.below h.wtr.low hv hB
def EncE (f : Int) (l : List Ins) (w w' : World) (e : Ending) : Prop :=
  (chk f l = -2 ∧ ∃ A c, e = .returned (.tuple #[.slice A (encP f.toNat l).length c, .nilIface]) ∧ Rdv w' A (encP f.toNat l).length 1 (valsB (encP f.toNat l)) ∧ NewAt w w' A (encP f.toNat l).length c) ∨
  (chk f l ≠ -2 ∧ ∃ b, e = .returned (.tuple #[.slice none 0 0, .iface 72 (.pointer (some ⟨b, 0, none⟩))]) ∧ w.heap.size ≤ b ∧ FaultAt w' b (chk f l))
theorem NewAt.back {w w1 w' : World} {A : Option Addr} {n c : Nat} (h : NewAt w1 w' A n c) (hs : w.heap.size ≤ w1.heap.size) : NewAt w w' A n c := by
  rcases h with h | ⟨b, e, h1, h2, h3, h4⟩
  · exact .inl h
  · exact .inr ⟨b, e, by omega, h2, h3, h4⟩
set_option maxHeartbeats 4000000 in
theorem encode_any (f : Int) (A : Option Addr) (n c : Nat) (l : List Ins) (w : World) (hT : Tab w) (hC : Codes w A n l) (hn : n ≤ 9223372036854775807) (hok : ∀ x ∈ l, Fits x.n) :
    Calls Tryd.prog 14 #[.agg #[.int .i64 f, .slice A n c]] w fun e w' => EncE f l w w' e ∧ Below w.heap.size w w' := by
  have hb1 := (Below.refl w.heap.size w).alloc (Nat.le_refl _) (.cells #[.int .i64 f, .slice A n c] 24)
  have HB1 := Lib.hid hb1
  have HN1 := Lib.hid (one_new w (.cells #[.int .i64 f, .slice A n c] 24))
  have HT := Lib.hid hT
  have HC := Lib.hid hC
  have HL := Lib.hid hC.len
  have HOK := Lib.hid hok
  have HCK := Lib.hid (check_any f A n c l _ (hT.ext hb1) (hC.ext (stays_b hb1)) hn)
  have htz := tab_size hT
  clear hb1 hT hC hok
  go_enter Tryd.func14, Tryd.ntmps14
  go_wp2_with fail
  refine Calls.mono HCK.out ?_
  rintro e w2 ⟨he, hb2⟩
  have HB2 := Lib.hid (HB1.out.trans (hb2.mono HB1.out.size))
  have hs2 := hb2.size
  rw [World.size_alloc] at hs2
  have hbx2 : w2.heap[w.heap.size]? = some (.cells #[.int .i64 f, .slice A n c] 24 (0, 0)) := (hb2.block _ (by rw [World.size_alloc]; omega)).trans HN1.out
  have HBX2 := Lib.hid hbx2
  rcases he with ⟨hck, rfl⟩ | ⟨hck, b, rfl, hbl, hf⟩
  · have HCK2 := Lib.hid hck
    obtain ⟨hh, hall⟩ := chk_good hck
    obtain ⟨fn, rfl⟩ := Int.eq_ofNat_of_zero_le (show 0 ≤ f by omega)
    have hf1000 : fn ≤ 1000 := by omega
    have hn32 : n ≤ 32 := by have := HL.out; omega
    have HE := Lib.hid (fun k (hk : k < l.length) => goodAt_enc hk hh.2.2.2 (hall k hk) (HOK.out _ (List.getElem_mem hk)))
    have HES := Lib.hid (fun k => (encIs_len (l.take k) (fun x hx => by
      obtain ⟨j, hj, rfl⟩ := List.getElem_of_mem (List.mem_of_mem_take hx)
      exact HE.out j hj) : (encIs (l.take k)).length ≤ (l.take k).length * 51))
    have ef : IntKind.u64.wrap (fn : Int) = ((fn : Nat) : Int) := by rw [IntKind.wrap_u64]; omega
    have en : IntKind.u64.wrap (n : Int) = ((n : Nat) : Int) := by rw [IntKind.wrap_u64]; omega
    have g0 : w2.cell? ⟨w.heap.size, 0, none⟩ = some (.int .i64 (fn : Int)) := cell_of_row w2 _ 0 _ 24 (0, 0) hbx2
    have g1 : w2.cell? ⟨w.heap.size, 1, none⟩ = some (.slice A n c) := cell_of_row w2 _ 1 _ 24 (0, 0) hbx2
    have g0a : (w2.alloc (.cells #[.slice none 0 0] 66)).cell? ⟨w.heap.size, 0, none⟩ = some (.int .i64 (fn : Int)) := (World.cell?_alloc_lt w2 _ ⟨w.heap.size, 0, none⟩ (World.block_lt_of_cell? _ _ g0)).trans g0
    have HW0 := Lib.hid (wtr_new w2)
    have HC1 := Lib.hid (count_any w2.heap.size w2.heap.size _ _ fn (by omega) _ HW0.out (by decide))
    have hlc := cntN_len fn (by omega)
    have hlc2 := cntN_len n (by omega)
    clear hck hh hall hb2 hbx2
    go_wp2_with fail
    refine Calls.mono HC1.out ?_
    rintro e w3 ⟨rfl, v3, h3⟩
    have H3 := Lib.hid h3
    have hb3 := h3.below (fun k hk => by cases hk) (by rw [World.size_alloc]; omega)
    have hb3' : Below w2.heap.size w2 w3 := ((Below.refl _ w2).alloc (Nat.le_refl _) _).trans hb3
    have HB3 := Lib.hid hb3'
    have g0' : w3.cell? ⟨w.heap.size, 0, none⟩ = some (.int .i64 (fn : Int)) := (hb3'.cell (p := ⟨w.heap.size, 0, none⟩) (by show w.heap.size < w2.heap.size; omega)).trans g0
    have g1' : w3.cell? ⟨w.heap.size, 1, none⟩ = some (.slice A n c) := (hb3'.cell (p := ⟨w.heap.size, 1, none⟩) (by show w.heap.size < w2.heap.size; omega)).trans g1
    have HC2 := Lib.hid (count_any w2.heap.size w2.heap.size _ _ n (by omega) _ h3.wtr (by rw [List.nil_append]; omega))
    clear hb3 hb3' h3 g0a
    go_wp2_with fail
    refine Calls.mono HC2.out ?_
    rintro e w4 ⟨rfl, v4, h4⟩
    have h4t := H3.out.trans h4
    have H4 := Lib.hid h4t
    have hb4' : Below w2.heap.size w2 w4 := ((Below.refl _ w2).alloc (Nat.le_refl _) _).trans (h4t.below (fun k hk => by cases hk) (by rw [World.size_alloc]; omega))
    have g0'' : w4.cell? ⟨w.heap.size, 0, none⟩ = some (.int .i64 (fn : Int)) := (hb4'.cell (p := ⟨w.heap.size, 0, none⟩) (by show w.heap.size < w2.heap.size; omega)).trans g0
    have g1'' : w4.cell? ⟨w.heap.size, 1, none⟩ = some (.slice A n c) := (hb4'.cell (p := ⟨w.heap.size, 1, none⟩) (by show w.heap.size < w2.heap.size; omega)).trans g1
    clear h4 h4t g0' g1' hb4'
    go_wp2_with fail
    clear g0'' g1'' g0 g1
    go_loopw [25] (fun i wr => ∃ (k : Nat) (v' : Value), i = .int .i64 (k : Int) ∧ k ≤ n ∧ Wrote (w2.alloc (.cells #[.slice none 0 0] 66)) wr w2.heap.size w2.heap.size (.slice none 0 0) v' ([] ++ cntN fn ++ cntN n ++ encIs (l.take k))) (fun i _ => n - (intOf i).toNat)
    case atStart => exact ⟨0, v4, rfl, by omega, by have := H4.out; rw [show encIs (l.take 0) = [] from rfl, List.append_nil]; exact this⟩
    case round =>
      obtain ⟨k, v', rfl, hk, hwr⟩ := hrel
      have HWR := Lib.hid hwr
      have hb5 : Below w2.heap.size w2 wr := ((Below.refl _ w2).alloc (Nat.le_refl _) _).trans (hwr.below (fun k hk => by cases hk) (by rw [World.size_alloc]; omega))
      have HB5 := Lib.hid (HB2.out.trans (hb5.mono HB2.out.size))
      have hs5 := HB5.out.size
      have hll := HES.out k
      rw [List.length_take] at hll
      have hxl : ([] ++ cntN fn ++ cntN n ++ encIs (l.take k)).length ≤ 4398046511104 := by
        rw [List.length_append, List.length_append, List.nil_append]
        omega
      clear hwr hb5
      by_cases hlt : k < n
      · have hkl : k < l.length := by rw [HL.out]; exact hlt
        obtain ⟨b, off, rfl, hc⟩ := (HC.out.ext (stays_b HB5.out)).cells (by omega)
        obtain ⟨c0, c1, c2, c3, c4, c5⟩ := hc k hkl
        have HTK := Lib.hid (encIs_take l k hkl)
        have hxe := HE.out k hkl
        obtain ⟨x, hx⟩ : ∃ x, x = l[k] := ⟨_, rfl⟩
        rw [← hx] at c0 c1 c2 c3 c4 c5 HTK hxe
        have HP := Lib.hid (putI_any x hxe w2.heap.size w2.heap.size v' _ (wr.alloc (.cells #[.int .i64 x.op, .int .i64 x.a, .int .i64 x.b, .int .i64 x.c, .int .i64 x.t, .int .i64 x.n] 43)) (HT.out.ext (HB5.out.alloc hs5 _)) (by omega) (HWR.out.wtr.alloc _) hxl)
        unfold Ins.val at HP
        clear hc hx hxe hxl
        go_wp2_with fail
        refine Calls.mono HP.out ?_
        rintro e w6 ⟨rfl, v6, h6⟩
        have H6 := Lib.hid (HWR.out.trans h6.after_alloc)
        clear h6
        go_wp2_with fail
        go_roundw
        case rel => exact ⟨k + 1, v6, by go_num, by omega, by rw [HTK.out, ← List.append_assoc]; exact H6.out⟩
        case measure => simp [intOf]; omega
      · obtain rfl : k = n := by omega
        have HO := Lib.hid (out_any w2.heap.size w2.heap.size v' _ wr HWR.out.wtr (by omega))
        have HEQ := Lib.hid (show [] ++ cntN fn ++ cntN k ++ encIs (l.take k) = encP ((fn : Int).toNat) l by rw [Int.toNat_natCast, ← HL.out, List.take_length, List.nil_append]; rfl)
        rw [HEQ.out] at HO
        obtain ⟨L, hL⟩ : ∃ L, L = encP ((fn : Int).toNat) l := ⟨_, rfl⟩
        have HLL := Lib.hid hL
        rw [← hL] at HO
        clear hxl hL
        go_wp2_with fail
        refine Calls.mono HO.out ?_
        rintro e w6 ⟨v, rfl, A', c', rfl, hr, hna, hb6⟩
        have HR := Lib.hid hr
        have HNA := Lib.hid (hna.back (w := w) hs5)
        have HB6 := Lib.hid (HB5.out.trans (hb6.mono hs5))
        clear hr hna hb6
        go_wp2_with fail
        go_ret2
        exact ⟨.inl ⟨HCK2.out, A', c', by rw [← HLL.out]; rfl, by rw [← HLL.out]; exact HR.out, by rw [← HLL.out]; exact HNA.out⟩, HB6.out⟩
  · have HF := Lib.hid hf
    have HCK2 := Lib.hid hck
    have hbl2 := hbl
    rw [World.size_alloc] at hbl2
    clear hck hb2 hbx2 hf hbl
    go_wp2_with fail
    go_ret2
    exact ⟨.inr ⟨HCK2.out, b, rfl, by omega, HF.out⟩, HB2.out⟩
end Go.Proofs.YtkeckjgihjpfbaaDoor

/- The contracts of num.Num, num.Is and num.At. -/
namespace Go.Proofs.YtkeckjgihjpfbaaDoor
set_option maxRecDepth 100000
open Go.RowKit

theorem as36 (v : Value) (w : World) : (Instr.typeAssert (.iface 36 v) 30 36 true).run Tryd.prog w = .ok (.tuple #[v, .bool true]) w := by kernel_rfl
theorem as72n (v : Value) (w : World) : (Instr.typeAssert (.iface 72 v) 30 36 true).run Tryd.prog w = .ok (.tuple #[.int .i64 0, .bool false]) w := by kernel_rfl
theorem as72 (v : Value) (w : World) : (Instr.typeAssert (.iface 72 v) 30 72 true).run Tryd.prog w = .ok (.tuple #[v, .bool true]) w := by kernel_rfl
theorem as36n (v : Value) (w : World) : (Instr.typeAssert (.iface 36 v) 30 72 true).run Tryd.prog w = .ok (.tuple #[.pointer none, .bool false]) w := by kernel_rfl
theorem asniln (w : World) : (Instr.typeAssert .nilIface 30 72 true).run Tryd.prog w = .ok (.tuple #[.pointer none, .bool false]) w := by kernel_rfl
set_option maxHeartbeats 1000000 in
theorem num_errno (k : Int) (hk : k ≠ 0) (w : World) : Calls Tryd.prog 42 #[.iface 36 (.int .i64 k)] w fun e w' => e = .returned (.int .i64 k) ∧ w = w' := by
  have h1 := as36
  have h2 : (k != 0) = true := by rw [bne_iff_ne]; exact hk
  clear hk
  go_enter Tryd.func42, Tryd.ntmps42
  go_wp2
  refine wp_loop_rounds 1 ?_
  rw [rounds_succ]
  go_wp2
  go_ret
  exact ⟨rfl, rfl⟩
set_option maxHeartbeats 1000000 in
theorem num_nil (w : World) : Calls Tryd.prog 42 #[.nilIface] w fun e w' => e = .returned (.int .i64 0) ∧ w = w' := by
  go_enter Tryd.func42, Tryd.ntmps42
  go_wp2
  refine wp_loop_rounds 1 ?_
  rw [rounds_succ]
  go_wp2
  go_ret
  exact ⟨rfl, rfl⟩
set_option maxHeartbeats 1000000 in
theorem num_fault (b : Nat) (v : Int) (w : World) (hf : FaultAt w b v) : Calls Tryd.prog 42 #[.iface 72 (.pointer (some ⟨b, 0, none⟩))] w fun e w' => e = .returned (.int .i64 5) ∧ w = w' := by
  have h1 := as36
  have h2 := as72n
  have h3 := as72
  have h4 : ((5 : Int) != 0) = true := rfl
  have c1 : w.cell? ⟨b, 1, none⟩ = some (.iface 36 (.int .i64 5)) := cell_of_row w b 1 _ 75 (0, 0) hf
  clear hf
  go_enter Tryd.func42, Tryd.ntmps42
  go_wp2
  refine wp_loop_rounds 2 ?_
  rw [rounds_succ]
  go_wp2
  rw [rounds_succ]
  go_wp2
  go_ret
  exact ⟨rfl, rfl⟩
set_option maxHeartbeats 400000 in
theorem is_fault (b : Nat) (v : Int) (w : World) (hf : FaultAt w b v) : Calls Tryd.prog 17 #[.iface 72 (.pointer (some ⟨b, 0, none⟩)), .int .i64 5] w fun e w' => e = .returned (.bool true) ∧ w = w' := by
  have HC := Lib.hid (num_fault b v w hf)
  clear hf
  go_enter Tryd.func17, Tryd.ntmps17
  go_wp2_with fail
  refine Calls.mono HC.out ?_
  rintro e w' ⟨rfl, rfl⟩
  go_wp2_with fail
  go_ret
  exact ⟨rfl, rfl⟩
set_option maxHeartbeats 400000 in
theorem is_errno (k : Int) (hk : k ≠ 0) (w : World) : Calls Tryd.prog 17 #[.iface 36 (.int .i64 k), .int .i64 k] w fun e w' => e = .returned (.bool true) ∧ w = w' := by
  have HC := Lib.hid (num_errno k hk w)
  clear hk
  go_enter Tryd.func17, Tryd.ntmps17
  go_wp2_with fail
  refine Calls.mono HC.out ?_
  rintro e w' ⟨rfl, rfl⟩
  go_wp2_with fail
  go_ret
  exact ⟨ret_bool' (by simp), rfl⟩
set_option maxHeartbeats 1000000 in
theorem at_fault (b : Nat) (v : Int) (w : World) (hf : FaultAt w b v) : Calls Tryd.prog 18 #[.iface 72 (.pointer (some ⟨b, 0, none⟩))] w fun e w' => e = .returned (.int .i64 v) ∧ w = w' := by
  have h3 := as72
  have c0 : w.cell? ⟨b, 0, none⟩ = some (.int .i64 v) := cell_of_row w b 0 _ 75 (0, 0) hf
  clear hf
  go_enter Tryd.func18, Tryd.ntmps18
  go_wp2_with fail
  go_ret
  exact ⟨rfl, rfl⟩
end Go.Proofs.YtkeckjgihjpfbaaDoor

/- The contracts of the document's Shape and of layer 6's alive. -/
namespace Go.Proofs.YtkeckjgihjpfbaaDoor
set_option maxRecDepth 100000
open Go.RowKit

set_option maxHeartbeats 2000000 in
theorem refshape_any (op : Int) (w : World) : Calls Tryd.prog 26 #[.int .i64 op] w fun e w' => e = .returned (.string (strN (shapeL op))) ∧ w = w' := by
  by_cases h : 0 ≤ op ∧ op < 16
  · have h16 : op = 0 ∨ op = 1 ∨ op = 2 ∨ op = 3 ∨ op = 4 ∨ op = 5 ∨ op = 6 ∨ op = 7 ∨ op = 8 ∨ op = 9 ∨ op = 10 ∨ op = 11 ∨ op = 12 ∨ op = 13 ∨ op = 14 ∨ op = 15 := by omega
    clear h
    rcases h16 with rfl | rfl | rfl | rfl | rfl | rfl | rfl | rfl | rfl | rfl | rfl | rfl | rfl | rfl | rfl | rfl
    all_goals
      go_enter Tryd.func26, Tryd.ntmps26
      go_wp2_with fail
      go_ret
      exact ⟨rfl, rfl⟩
  · have h' : op < 0 ∨ 16 ≤ op := by omega
    rw [shapeL_none op h', strN_nil]
    have e : ∀ k : Int, 0 ≤ k → k < 16 → (op == k) = false := fun k h1 h2 => by rw [beq_eq_false_iff_ne]; omega
    have e0 := e 0 (by omega) (by omega)
    have e1 := e 1 (by omega) (by omega)
    have e7 := e 7 (by omega) (by omega)
    have e8 := e 8 (by omega) (by omega)
    have e9 := e 9 (by omega) (by omega)
    have e10 := e 10 (by omega) (by omega)
    have e11 := e 11 (by omega) (by omega)
    have e12 := e 12 (by omega) (by omega)
    have e13 := e 13 (by omega) (by omega)
    have e14 := e 14 (by omega) (by omega)
    have e15 := e 15 (by omega) (by omega)
    clear e h
    rcases h' with h | h
    · have d1 : decide ((2 : Int) ≤ op) = false := decide_eq_false (by omega)
      clear h
      go_enter Tryd.func26, Tryd.ntmps26
      go_wp2_with fail
      go_ret
      exact ⟨rfl, rfl⟩
    · have d1 : decide ((2 : Int) ≤ op) = true := decide_eq_true (by omega)
      have d2 : decide (op ≤ (6 : Int)) = false := decide_eq_false (by omega)
      clear h
      go_enter Tryd.func26, Tryd.ntmps26
      go_wp2_with fail
      go_ret
      exact ⟨rfl, rfl⟩
def out1 : Ins := ⟨15, 1, 0, 0, 0, 0⟩
theorem alive_chk : chk 5 [out1] = -2 := by decide +kernel
theorem alive_enc : encP 5 [out1] = [5, 1, 15, 1] := by decide +kernel
theorem alive_chk0 : chk 0 [] = -1 := by decide +kernel
theorem alive_str : strN [5, 1, 15, 1] = { data := #[5, 1, 15, 1] } := by rfl
theorem alive_codes (w : World) : Codes (w.alloc (.cells #[.int .i64 15, .int .i64 1, .int .i64 0, .int .i64 0, .int .i64 0, .int .i64 0] 43)) (some ⟨w.heap.size, 0, none⟩) 1 [out1] := by
  refine ⟨rfl, rfl, fun _ => ⟨_, _, rfl, fun j u hj => ?_⟩⟩
  rw [cell_of_row _ _ _ _ 43 (0, 0) (heap_alloc_new w _), Nat.zero_add]
  exact (show (#[Value.int .i64 15, .int .i64 1, .int .i64 0, .int .i64 0, .int .i64 0, .int .i64 0])[j]? = (insV [out1])[j]? by simp [insV, out1, Ins.vals]).trans hj
theorem codes_nil (w : World) : Codes w none 0 [] := ⟨rfl, rfl, fun h => absurd h (by omega)⟩
set_option maxHeartbeats 2000000 in
theorem alive_any (w : World) (hT : Tab w) : Calls Tryd.prog 11 #[] w fun e w' => e = .returned (.bool true) ∧ Below w.heap.size w w' := by
  have hb1 := (Below.refl w.heap.size w).alloc (Nat.le_refl _) (.cells #[.int .i64 15, .int .i64 1, .int .i64 0, .int .i64 0, .int .i64 0, .int .i64 0] 43)
  have HB1 := Lib.hid hb1
  have HT := Lib.hid hT
  have HE := Lib.hid (encode_any 5 (some ⟨w.heap.size, 0, none⟩) 1 1 [out1] _ (hT.ext hb1) (alive_codes w) (by omega) (fun x hx => by simp at hx; subst hx; unfold Fits out1; decide))
  clear hT hb1
  go_enter Tryd.func11, Tryd.ntmps11
  go_wp2_with fail
  refine Calls.mono HE.out ?_
  rintro e w2 ⟨he, hb2⟩
  have HB2 := Lib.hid (HB1.out.trans (hb2.mono HB1.out.size))
  clear hb2
  rcases he with ⟨_, A, c, rfl, hr, _⟩ | ⟨hne, _⟩
  · rw [show (5 : Int).toNat = 5 from rfl, alive_enc] at hr ⊢
    have es := run_str w2 A 4 c [5, 1, 15, 1] hr
    rw [alive_str] at es
    have HC := Lib.hid (check_any 0 none 0 0 [] w2 (HT.out.ext HB2.out) (codes_nil w2) (by omega))
    have HCC := Lib.hid alive_chk0
    clear hr
    go_wp2_with fail
    refine Calls.mono HC.out ?_
    rintro e w3 ⟨he, hb3⟩
    have HB3 := Lib.hid (HB2.out.trans (hb3.mono HB2.out.size))
    clear hb3
    rcases he with ⟨h, _⟩ | ⟨_, b, rfl, _, hf⟩
    · rw [HCC.out] at h; cases h
    · have HF := Lib.hid (is_fault b _ w3 hf)
      clear hf
      go_wp2_with fail
      refine Calls.mono HF.out ?_
      rintro e w4 ⟨rfl, rfl⟩
      go_wp2_with fail
      go_ret
      exact ⟨rfl, HB3.out⟩
  · exact absurd alive_chk hne
end Go.Proofs.YtkeckjgihjpfbaaDoor

/- Layer 7: tables of words, figures, the words of fields. -/
namespace Go.Proofs.YtkeckjgihjpfbaaDoor
set_option maxRecDepth 100000
open Go.RowKit

/-- A text of bytes. -/
def tx (l : List UInt8) : ByteArray := ⟨l.toArray⟩
theorem tx_append (a b : List UInt8) : tx a ++ tx b = tx (a ++ b) := by
  apply ByteArray.ext
  simp [tx, ByteArray.data_append]
theorem strN_tx (l : List Nat) : strN l = tx (l.map UInt8.ofNat) := by
  apply ByteArray.ext
  apply Array.toList_inj.1
  rw [strN_data]; simp [tx]
def wordsS : List (List UInt8) := [[115, 101, 116], [109, 111, 118, 101], [97, 100, 100], [115, 117, 98], [109, 117, 108], [100, 105, 118], [109, 111, 100], [103, 101, 116], [104, 97, 115], [112, 117, 116], [100, 101, 108], [115, 117, 109], [99, 111, 117, 110, 116], [115, 107, 105, 112], [97, 98, 111, 114, 116], [111, 117, 116]]
def relsS : List (List UInt8) := [[60], [61], [62], [60, 62]]
def wordL (op : Int) : List UInt8 := if 0 ≤ op then (wordsS[op.toNat]?).getD [] else []
theorem wordL_none (op : Int) (h : op < 0 ∨ 16 ≤ op) : wordL op = [] := by
  unfold wordL
  split
  · rw [List.getElem?_eq_none (by simp [wordsS]; omega)]; rfl
  · rfl
structure AT (w : World) : Prop where
  shapes : Tab w
  words : ∀ i : Nat, i < 16 → w.cell? ⟨1, i, none⟩ = some (.string (tx ((wordsS[i]?).getD [])))
  rels : ∀ i : Nat, i < 4 → w.cell? ⟨2, i, none⟩ = some (.string (tx ((relsS[i]?).getD [])))
  pow : Lib.TabIs Tryd.prog w "internal/strconv.uint64pow10" .u64 Lib.pow10Tab
set_option maxHeartbeats 400000 in
theorem word_yes (k : Nat) (hk : k < 16) (w : World) (hT : AT w) : Calls Tryd.prog 34 #[.int .i64 (k : Int)] w fun e w' => e = .returned (.tuple #[.string (tx (wordL k)), .bool true]) ∧ w = w' := by
  have hc := hT.words k hk
  rw [show wordL k = (wordsS[k]?).getD [] from by unfold wordL; rw [if_pos (by omega)]; rfl]
  obtain ⟨s, hs⟩ : ∃ s, s = tx ((wordsS[k]?).getD []) := ⟨_, rfl⟩
  rw [← hs] at hc ⊢
  clear hs hT
  have d1 : decide ((k : Int) < 0) = false := decide_eq_false (by omega)
  have d2 : decide ((16 : Int) ≤ (k : Int)) = false := decide_eq_false (by omega)
  go_enter Tryd.func34, Tryd.ntmps34
  go_wp2_with fail
  go_ret2
  exact ⟨rfl, rfl⟩
set_option maxHeartbeats 400000 in
theorem word_no (op : Int) (h : op < 0 ∨ 16 ≤ op) (w : World) : Calls Tryd.prog 34 #[.int .i64 op] w fun e w' => e = .returned (.tuple #[.string (tx (wordL op)), .bool false]) ∧ w = w' := by
  rw [wordL_none op h]
  by_cases h1 : op < 0
  · have d1 : decide (op < 0) = true := decide_eq_true h1
    clear h
    go_enter Tryd.func34, Tryd.ntmps34
    go_wp2_with fail
    go_ret2
    exact ⟨rfl, rfl⟩
  · have d1 : decide (op < 0) = false := decide_eq_false h1
    have d2 : decide ((16 : Int) ≤ op) = true := decide_eq_true (by omega)
    clear h
    go_enter Tryd.func34, Tryd.ntmps34
    go_wp2_with fail
    go_ret2
    exact ⟨rfl, rfl⟩
theorem word_any (op : Int) (w : World) (hT : AT w) : Calls Tryd.prog 34 #[.int .i64 op] w fun e w' => e = .returned (.tuple #[.string (tx (wordL op)), .bool (okOp op)]) ∧ w = w' := by
  by_cases h : 0 ≤ op ∧ op < 16
  · obtain ⟨k, rfl⟩ := Int.eq_ofNat_of_zero_le h.1
    have e : okOp k = true := decide_eq_true h
    rw [e]
    exact word_yes k (by omega) w hT
  · have e : okOp op = false := decide_eq_false h
    rw [e]
    exact word_no op (by omega) w
set_option maxHeartbeats 800000 in
theorem refword_any (op : Int) (w : World) : Calls Tryd.prog 35 #[.int .i64 op] w fun e w' => e = .returned (.string (tx (wordL op))) ∧ Below w.heap.size w w' := by
  by_cases h : 0 ≤ op ∧ op < 16
  · have h16 : op = 0 ∨ op = 1 ∨ op = 2 ∨ op = 3 ∨ op = 4 ∨ op = 5 ∨ op = 6 ∨ op = 7 ∨ op = 8 ∨ op = 9 ∨ op = 10 ∨ op = 11 ∨ op = 12 ∨ op = 13 ∨ op = 14 ∨ op = 15 := by omega
    clear h
    rcases h16 with rfl | rfl | rfl | rfl | rfl | rfl | rfl | rfl | rfl | rfl | rfl | rfl | rfl | rfl | rfl | rfl
    all_goals
      go_enter Tryd.func35, Tryd.ntmps35
      go_wp2_with fail
      go_ret
      exact ⟨rfl, (Below.refl _ _).alloc (Nat.le_refl _) _⟩
  · have h' : op < 0 ∨ 16 ≤ op := by omega
    rw [wordL_none op h']
    rcases h' with h | h
    · have d1 : decide (op < 0) = true := decide_eq_true h
      clear h
      go_enter Tryd.func35, Tryd.ntmps35
      go_wp2_with fail
      go_ret
      exact ⟨rfl, (Below.refl _ _).alloc (Nat.le_refl _) _⟩
    · have d1 : decide (op < 0) = false := decide_eq_false (by omega)
      have d2 : decide ((16 : Int) ≤ op) = true := decide_eq_true (by omega)
      clear h
      go_enter Tryd.func35, Tryd.ntmps35
      go_wp2_with fail
      go_ret
      exact ⟨rfl, (Below.refl _ _).alloc (Nat.le_refl _) _⟩
end Go.Proofs.YtkeckjgihjpfbaaDoor

/- Layer 7: figures; the words of fields. -/
namespace Go.Proofs.YtkeckjgihjpfbaaDoor
set_option maxRecDepth 100000
open Go.RowKit

theorem var_ext {P : Program} {name : String} {w w' : World} {k : IntKind} {zs : List Int} (h : Lib.TabIs P w name k zs) (hb : Below w.heap.size w w') : Lib.TabIs P w' name k zs := by
  unfold Lib.TabIs World.var? at *
  cases hg : P.globalNamed name with
  | none => rw [hg] at h; cases h
  | some g =>
    rw [hg] at h
    rw [← h]
    simp only [Option.bind_some] at h ⊢
    have hlt : g < w.heap.size := by
      rcases Nat.lt_or_ge g w.heap.size with h1 | h1
      · exact h1
      · rw [Array.getElem?_eq_none h1] at h; cases h
    rw [hb.block g hlt]
theorem AT.ext {w w' : World} (h : AT w) (hb : Below w.heap.size w w') : AT w' :=
  ⟨h.shapes.ext hb, fun i hi => (hb.cell (p := ⟨1, i, none⟩) (World.block_lt_of_cell? w ⟨1, i, none⟩ (h.words i hi))).trans (h.words i hi), fun i hi => (hb.cell (p := ⟨2, i, none⟩) (World.block_lt_of_cell? w ⟨2, i, none⟩ (h.rels i hi))).trans (h.rels i hi), var_ext h.pow hb⟩
theorem ret_str {a b : ByteArray} (h : a = b) : Ending.returned (.string a) = Ending.returned (.string b) := by rw [h]
theorem tx_size (l : List UInt8) : (tx l).size = l.length := by simp [tx, ByteArray.size]
theorem digits_len (u : Nat) (h : u < 18446744073709551616) : (Lib.decDigits u).length ≤ 20 := by
  rw [Lib.decDigits_length]
  exact Lib.nDigits_le20 u h
theorem digits_step (u : Nat) (h : 10 ≤ u) : Lib.decDigits u = Lib.decDigits (u / 10) ++ Lib.decDigits (u % 10) := by
  rw [Lib.decDigits, dif_neg (by omega)]
  congr 1
  rw [Lib.decDigits, dif_pos (Nat.mod_lt _ (by omega))]
theorem digit_one (u : Nat) (h : u < 10) : Lib.decDigits u = [UInt8.ofNat (48 + u)] := by rw [Lib.decDigits, dif_pos h]
set_option maxHeartbeats 400000 in
theorem unsigned_any (u : Nat) : ∀ (_ : u < 18446744073709551616) (w : World), Calls Tryd.prog 87 #[.int .u64 (u : Int)] w fun e w' => e = .returned (.string (tx (Lib.decDigits u))) ∧ w = w' := by
  induction u using Nat.strongRecOn with
  | ind u ih =>
    intro hu w
    by_cases h : u < 10
    · have hc : u = 0 ∨ u = 1 ∨ u = 2 ∨ u = 3 ∨ u = 4 ∨ u = 5 ∨ u = 6 ∨ u = 7 ∨ u = 8 ∨ u = 9 := by omega
      rw [digit_one u h]
      clear ih h hu
      rcases hc with rfl | rfl | rfl | rfl | rfl | rfl | rfl | rfl | rfl | rfl
      all_goals
        go_enter Tryd.func87, Tryd.ntmps87
        go_wp2_with fail
        go_ret
        exact ⟨rfl, rfl⟩
    · have H1 := ih (u / 10) (by omega) (by omega) w
      have H2 := ih (u % 10) (by omega) (by omega) w
      have HS := Lib.hid (digits_step u (by omega))
      have d1 : decide ((u : Int) < 10) = false := decide_eq_false (by omega)
      have hz : (tx (Lib.decDigits (u / 10))).size + (tx (Lib.decDigits (u % 10))).size ≤ 9223372036854775807 := by
        have h1 := digits_len (u / 10) (by omega)
        have h2 := digits_len (u % 10) (by omega)
        rw [tx_size, tx_size]; omega
      have HA := Lib.hid (tx_append (Lib.decDigits (u / 10)) (Lib.decDigits (u % 10)))
      obtain ⟨s1, hs1⟩ : ∃ s, s = tx (Lib.decDigits (u / 10)) := ⟨_, rfl⟩
      obtain ⟨s2, hs2⟩ : ∃ s, s = tx (Lib.decDigits (u % 10)) := ⟨_, rfl⟩
      rw [← hs1] at H1 hz HA
      rw [← hs2] at H2 hz HA
      have H1 := Lib.hid H1
      have H2 := Lib.hid H2
      clear ih h hs1 hs2
      go_enter Tryd.func87, Tryd.ntmps87
      go_wp2_with fail
      refine Calls.mono H1.out ?_
      rintro e w' ⟨rfl, rfl⟩
      go_wp2_with fail
      refine Calls.mono H2.out ?_
      rintro e w' ⟨rfl, rfl⟩
      go_wp2_with fail
      go_ret
      exact ⟨ret_str (by rw [HS.out, ← HA.out]), rfl⟩
set_option maxHeartbeats 400000 in
theorem figures_any (z : Int) (hz : Fits z) (w : World) : Calls Tryd.prog 59 #[.int .i64 z] w fun e w' => e = .returned (.string (tx (Lib.itoa z))) ∧ w = w' := by
  unfold Fits at hz
  by_cases h : z < 0
  · have d1 : decide (z < 0) = true := decide_eq_true h
    have HU := unsigned_any z.natAbs (by omega) w
    rw [show ((z.natAbs : Nat) : Int) = -(z + 1) + 1 by omega] at HU
    have HS := Lib.hid (show Lib.itoa z = [45] ++ Lib.decDigits z.natAbs by unfold Lib.itoa; rw [if_pos h]; rfl)
    have HA := Lib.hid (tx_append [45] (Lib.decDigits z.natAbs))
    have hl : 1 + (tx (Lib.decDigits z.natAbs)).size ≤ 9223372036854775807 := by
      have := digits_len z.natAbs (by omega)
      rw [tx_size]; omega
    obtain ⟨s1, hs1⟩ : ∃ s, s = tx (Lib.decDigits z.natAbs) := ⟨_, rfl⟩
    rw [← hs1] at HU HA hl
    have HU := Lib.hid HU
    have h1 : -9223372036854775808 ≤ z := hz.1
    clear hs1
    go_enter Tryd.func59, Tryd.ntmps59
    go_wp2_with fail
    refine Calls.mono HU.out ?_
    rintro e w' ⟨rfl, rfl⟩
    go_wp2_with fail
    go_ret
    exact ⟨ret_str (by rw [HS.out, ← HA.out]; rfl), rfl⟩
  · have d1 : decide (z < 0) = false := decide_eq_false h
    have HU := unsigned_any z.toNat (by omega) w
    rw [show ((z.toNat : Nat) : Int) = z by omega] at HU
    have HU := Lib.hid HU
    have h0 : 0 ≤ z := by omega
    have HS := Lib.hid (show Lib.itoa z = Lib.decDigits z.toNat by unfold Lib.itoa; rw [if_neg h])
    clear h
    go_enter Tryd.func59, Tryd.ntmps59
    go_wp2_with fail
    refine Calls.mono HU.out ?_
    rintro e w' ⟨rfl, rfl⟩
    go_wp2_with fail
    go_ret
    exact ⟨ret_str (by rw [HS.out]), rfl⟩
end Go.Proofs.YtkeckjgihjpfbaaDoor

/- The contracts of the document's uses, register, good and Check. -/
namespace Go.Proofs.YtkeckjgihjpfbaaDoor
set_option maxRecDepth 100000
open Go.RowKit

set_option maxHeartbeats 1000000 in
theorem uses_any (ls : List Nat) (hs : ∀ x ∈ ls, x < 256) (hl : ls.length ≤ 5) (q : Nat) (_ : q < 256) (w : World) :
    Calls Tryd.prog 72 #[.string (strN ls), .int .u8 (q : Int)] w fun e w' => e = .returned (.bool (decide (q ∈ ls))) ∧ w' = w := by
  obtain ⟨s, hss⟩ : ∃ s, s = strN ls := ⟨_, rfl⟩
  obtain ⟨m, hm⟩ : ∃ m, m = ls.length := ⟨_, rfl⟩
  have hsz : s.size = m := by rw [hss, strN_size, hm]
  have HIX := Lib.hid (fun k (hk : k < ls.length) w => (by rw [hss]; exact idx_str ls hs k hk w : (Instr.index 9 (.string s) (.int .i64 (k : Int))).run Tryd.prog w = .ok (.int .u8 ((ls[k] : Nat) : Int)) w))
  rw [← hss]
  rw [← hm] at hl
  have HM := Lib.hid hm
  clear hss hs hm
  go_enter Tryd.func72, Tryd.ntmps72
  go_wp2_with fail
  go_loop [5] (fun i => ∃ k : Nat, i = .int .i64 (k : Int) ∧ k ≤ m ∧ ∀ j (h : j < ls.length), j < k → ls[j] ≠ q) (fun i => m - (intOf i).toNat)
  case atStart => exact ⟨0, rfl, by omega, fun j _ h => absurd h (by omega)⟩
  case round =>
    obtain ⟨k, rfl, hk, hall⟩ := hrel
    have HALL := Lib.hid hall
    clear hall
    by_cases hlt : k < m
    · have hkl : k < ls.length := by rw [← HM.out]; exact hlt
      have hix := HIX.out k hkl
      obtain ⟨l, hl2⟩ : ∃ l, l = ls[k] := ⟨_, rfl⟩
      rw [← hl2] at hix
      have HL := Lib.hid hl2
      clear hl2
      by_cases he : l = q
      · have d1 : ((l : Int) == (q : Int)) = true := by rw [beq_iff_eq]; omega
        have HR := Lib.hid (show decide (q ∈ ls) = true from decide_eq_true (by rw [← he, HL.out]; exact List.getElem_mem hkl))
        clear he
        go_wp2_with fail
        go_ret
        exact ⟨ret_bool' HR.out.symm, rfl⟩
      · have d1 : ((l : Int) == (q : Int)) = false := by rw [beq_eq_false_iff_ne]; omega
        have HE := Lib.hid he
        clear he
        go_wp2_with fail
        go_round
        case rel => exact ⟨k + 1, by go_num, by omega, fun j h1 hj => by
          rcases Nat.lt_or_ge j k with h | h
          · exact HALL.out j h1 h
          · obtain rfl : j = k := by omega
            rw [← HL.out]; exact HE.out⟩
        case measure => simp [intOf]; omega
    · obtain rfl : k = m := by omega
      have HR := Lib.hid (show decide (q ∈ ls) = false from decide_eq_false (fun h => by
        obtain ⟨j, hj, he⟩ := List.getElem_of_mem h
        exact HALL.out j hj (by rw [HM.out]; exact hj) he))
      go_wp2_with fail
      go_ret
      exact ⟨ret_bool' HR.out.symm, rfl⟩
def regB (u : Bool) (n : Int) : Bool := if u then decide (0 ≤ n ∧ n ≤ 7) else decide (n = 0)
set_option maxHeartbeats 1000000 in
theorem register_any (u : Bool) (n : Int) (w : World) : Calls Tryd.prog 71 #[.bool u, .int .i64 n] w fun e w' => e = .returned (.bool (regB u n)) ∧ w' = w := by
  cases u with
  | true =>
    by_cases h1 : 0 ≤ n
    · have d1 : decide (0 ≤ n) = true := decide_eq_true h1
      by_cases h2 : n ≤ 7
      · have d2 : decide (n ≤ 7) = true := decide_eq_true h2
        have HR := Lib.hid (show regB true n = true from decide_eq_true ⟨h1, h2⟩)
        clear h1 h2
        go_enter Tryd.func71, Tryd.ntmps71
        go_wp2_with fail
        go_ret
        exact ⟨ret_bool' HR.out.symm, rfl⟩
      · have d2 : decide (n ≤ 7) = false := decide_eq_false h2
        have HR := Lib.hid (show regB true n = false from decide_eq_false (fun h => h2 h.2))
        clear h1 h2
        go_enter Tryd.func71, Tryd.ntmps71
        go_wp2_with fail
        go_ret
        exact ⟨ret_bool' HR.out.symm, rfl⟩
    · have d1 : decide (0 ≤ n) = false := decide_eq_false h1
      have HR := Lib.hid (show regB true n = false from decide_eq_false (fun h => h1 h.1))
      clear h1
      go_enter Tryd.func71, Tryd.ntmps71
      go_wp2_with fail
      go_ret
      exact ⟨ret_bool' HR.out.symm, rfl⟩
  | false =>
    by_cases h1 : n = 0
    · have d1 : (n == 0) = true := by rw [beq_iff_eq]; exact h1
      have HR := Lib.hid (show regB false n = true from decide_eq_true h1)
      clear h1
      go_enter Tryd.func71, Tryd.ntmps71
      go_wp2_with fail
      go_ret
      exact ⟨ret_bool' HR.out.symm, rfl⟩
    · have d1 : (n == 0) = false := by rw [beq_eq_false_iff_ne]; exact h1
      have HR := Lib.hid (show regB false n = false from decide_eq_false h1)
      clear h1
      go_enter Tryd.func71, Tryd.ntmps71
      go_wp2_with fail
      go_ret
      exact ⟨ret_bool' HR.out.symm, rfl⟩
/-- What the document's good says. -/
def rgood (x : Ins) (z : Int) : Bool :=
  okOp x.op && (regB (decide (98 ∈ shapeL x.op)) x.b && (regB (decide (99 ∈ shapeL x.op)) x.c && ((if x.op = 13 then decide (1 ≤ x.a ∧ x.a ≤ z) else regB (decide (97 ∈ shapeL x.op)) x.a) &&
    ((if 116 ∈ shapeL x.op then decide (0 ≤ x.t ∧ x.t ≤ 3) else decide (x.t = 0)) && (if 107 ∈ shapeL x.op then decide (1 ≤ x.n ∧ x.n ≤ 64) else if 106 ∈ shapeL x.op then decide (0 ≤ x.n ∧ x.n ≤ 3) else (decide (110 ∈ shapeL x.op) || decide (x.n = 0)))))))
theorem rgood_is (x : Ins) (z : Int) : rgood x z = goodI x z := by
  by_cases h : 0 ≤ x.op ∧ x.op < 16
  · obtain ⟨op, a, b, c, t, n⟩ := x
    have h16 : op = 0 ∨ op = 1 ∨ op = 2 ∨ op = 3 ∨ op = 4 ∨ op = 5 ∨ op = 6 ∨ op = 7 ∨ op = 8 ∨ op = 9 ∨ op = 10 ∨ op = 11 ∨ op = 12 ∨ op = 13 ∨ op = 14 ∨ op = 15 := by have : 0 ≤ op ∧ op < 16 := h; omega
    rcases h16 with rfl | rfl | rfl | rfl | rfl | rfl | rfl | rfl | rfl | rfl | rfl | rfl | rfl | rfl | rfl | rfl
    all_goals
      rw [Bool.eq_iff_iff]
      simp [rgood, goodI, okOp, shapeL, regB, inB, offL, loL, hiL, Ins.get, usedL, Ins.set, Ins.zero]
      try omega
  · have e : okOp x.op = false := decide_eq_false h
    simp [rgood, goodI, e]
end Go.Proofs.YtkeckjgihjpfbaaDoor

/- The contract of the document's good: the walk. -/
namespace Go.Proofs.YtkeckjgihjpfbaaDoor
set_option maxRecDepth 100000
open Go.RowKit

theorem below_drewN {B : Nat} {a w : World} (h : Below B a w) (n : Nat) : Below B a (w.drewN n) := ⟨h.os, h.tape, h.output, h.size, h.block⟩
theorem strN_isEmpty (ls : List Nat) : (strN ls).toList.isEmpty = ls.isEmpty := by rw [strN_toList]; cases ls <;> rfl
theorem shapeL_ok (op : Int) : (shapeL op).isEmpty = !okOp op := by
  by_cases h : 0 ≤ op ∧ op < 16
  · have h16 : op = 0 ∨ op = 1 ∨ op = 2 ∨ op = 3 ∨ op = 4 ∨ op = 5 ∨ op = 6 ∨ op = 7 ∨ op = 8 ∨ op = 9 ∨ op = 10 ∨ op = 11 ∨ op = 12 ∨ op = 13 ∨ op = 14 ∨ op = 15 := by omega
    rcases h16 with rfl | rfl | rfl | rfl | rfl | rfl | rfl | rfl | rfl | rfl | rfl | rfl | rfl | rfl | rfl | rfl <;> decide
  · rw [shapeL_none op (by omega), show okOp op = false from decide_eq_false h]
    rfl
theorem quiet_add {P : Program} {f : FuncId} {args : Array Value} {w : World} {a n : Nat} {v : Value}
    (h : Calls P f args (w.drewN (a + n)) fun e w' => e = .returned v ∧ ∃ m, w' = (w.drewN (a + n)).drewN m) :
    Calls P f args (w.drewN (a + n)) fun e w'' => e = .returned v ∧ ∃ m, w'' = w.drewN (a + m) :=
  h.mono fun _ _ ⟨he, m, hm⟩ => ⟨he, n + m, by rw [hm, World.drewN_drewN, Nat.add_assoc]⟩
theorem quiet_add_same {P : Program} {f : FuncId} {args : Array Value} {w : World} {a n : Nat} {v : Value}
    (h : Calls P f args (w.drewN (a + n)) fun e w' => e = .returned v ∧ w' = w.drewN (a + n)) :
    Calls P f args (w.drewN (a + n)) fun e w'' => e = .returned v ∧ ∃ m, w'' = w.drewN (a + m) :=
  h.mono fun _ _ ⟨he, hm⟩ => ⟨he, n, hm⟩
def pA (x : Ins) (z : Int) : Bool := if x.op = 13 then decide (1 ≤ x.a ∧ x.a ≤ z) else regB (decide (97 ∈ shapeL x.op)) x.a
def pT (x : Ins) : Bool := if 116 ∈ shapeL x.op then decide (0 ≤ x.t ∧ x.t ≤ 3) else decide (x.t = 0)
def pN (x : Ins) : Bool := if 107 ∈ shapeL x.op then decide (1 ≤ x.n ∧ x.n ≤ 64) else if 106 ∈ shapeL x.op then decide (0 ≤ x.n ∧ x.n ≤ 3) else (decide (110 ∈ shapeL x.op) || decide (x.n = 0))
set_option maxHeartbeats 16000000 in
theorem rgood_any (x : Ins) (z : Int) (w : World) : Calls Tryd.prog 41 #[x.val, .int .i64 z] w fun e w' => e = .returned (.bool (goodI x z)) ∧ Below w.heap.size w w' := by
  have HRG := Lib.hid (show goodI x z = (okOp x.op && (regB (decide (98 ∈ shapeL x.op)) x.b && (regB (decide (99 ∈ shapeL x.op)) x.c && (pA x z && (pT x && pN x))))) from (rgood_is x z).symm)
  have HBA := Lib.hid ((Below.refl w.heap.size w).alloc (Nat.le_refl _) (.cells #[.int .i64 x.op, .int .i64 x.a, .int .i64 x.b, .int .i64 x.c, .int .i64 x.t, .int .i64 x.n] 43))
  have HS := Lib.hid (refshape_any x.op (w.alloc (.cells #[.int .i64 x.op, .int .i64 x.a, .int .i64 x.b, .int .i64 x.c, .int .i64 x.t, .int .i64 x.n] 43)))
  have hse := strN_isEmpty (shapeL x.op)
  rw [shapeL_ok] at hse
  have U : ∀ q : Nat, q < 256 → ∀ W : World, Calls Tryd.prog 72 #[.string (strN (shapeL x.op)), .int .u8 (q : Int)] W fun e w' => e = .returned (.bool (decide (q ∈ shapeL x.op))) ∧ w' = W := fun q hq W => uses_any (shapeL x.op) (shapeL_small x.op) (shapeL_len x.op) q hq W
  have U97 := Lib.hid (show ∀ W : World, Calls Tryd.prog 72 #[.string (strN (shapeL x.op)), .int .u8 97] W fun e w' => e = .returned (.bool (decide (97 ∈ shapeL x.op))) ∧ w' = W from U 97 (by decide))
  have U98 := Lib.hid (show ∀ W : World, Calls Tryd.prog 72 #[.string (strN (shapeL x.op)), .int .u8 98] W fun e w' => e = .returned (.bool (decide (98 ∈ shapeL x.op))) ∧ w' = W from U 98 (by decide))
  have U99 := Lib.hid (show ∀ W : World, Calls Tryd.prog 72 #[.string (strN (shapeL x.op)), .int .u8 99] W fun e w' => e = .returned (.bool (decide (99 ∈ shapeL x.op))) ∧ w' = W from U 99 (by decide))
  have U106 := Lib.hid (show ∀ W : World, Calls Tryd.prog 72 #[.string (strN (shapeL x.op)), .int .u8 106] W fun e w' => e = .returned (.bool (decide (106 ∈ shapeL x.op))) ∧ w' = W from U 106 (by decide))
  have U107 := Lib.hid (show ∀ W : World, Calls Tryd.prog 72 #[.string (strN (shapeL x.op)), .int .u8 107] W fun e w' => e = .returned (.bool (decide (107 ∈ shapeL x.op))) ∧ w' = W from U 107 (by decide))
  have U110 := Lib.hid (show ∀ W : World, Calls Tryd.prog 72 #[.string (strN (shapeL x.op)), .int .u8 110] W fun e w' => e = .returned (.bool (decide (110 ∈ shapeL x.op))) ∧ w' = W from U 110 (by decide))
  have U116 := Lib.hid (show ∀ W : World, Calls Tryd.prog 72 #[.string (strN (shapeL x.op)), .int .u8 116] W fun e w' => e = .returned (.bool (decide (116 ∈ shapeL x.op))) ∧ w' = W from U 116 (by decide))
  clear U
  obtain ⟨s, hs⟩ : ∃ s, s = strN (shapeL x.op) := ⟨_, rfl⟩
  rw [← hs] at HS hse U97 U98 U99 U106 U107 U110 U116
  have HPA := Lib.hid (show pA x z = if x.op = 13 then decide (1 ≤ x.a ∧ x.a ≤ z) else regB (decide (97 ∈ shapeL x.op)) x.a from rfl)
  have HPT := Lib.hid (show pT x = if decide (116 ∈ shapeL x.op) = true then decide (0 ≤ x.t ∧ x.t ≤ 3) else decide (x.t = 0) by unfold pT; simp)
  have HPN := Lib.hid (show pN x = if decide (107 ∈ shapeL x.op) = true then decide (1 ≤ x.n ∧ x.n ≤ 64) else if decide (106 ∈ shapeL x.op) = true then decide (0 ≤ x.n ∧ x.n ≤ 3) else (decide (110 ∈ shapeL x.op) || decide (x.n = 0)) by unfold pN; simp)
  obtain ⟨ok, hok⟩ : ∃ b, b = okOp x.op := ⟨_, rfl⟩
  obtain ⟨u97, h97⟩ : ∃ b, b = decide (97 ∈ shapeL x.op) := ⟨_, rfl⟩
  obtain ⟨u98, h98⟩ : ∃ b, b = decide (98 ∈ shapeL x.op) := ⟨_, rfl⟩
  obtain ⟨u99, h99⟩ : ∃ b, b = decide (99 ∈ shapeL x.op) := ⟨_, rfl⟩
  obtain ⟨u106, h106⟩ : ∃ b, b = decide (106 ∈ shapeL x.op) := ⟨_, rfl⟩
  obtain ⟨u107, h107⟩ : ∃ b, b = decide (107 ∈ shapeL x.op) := ⟨_, rfl⟩
  obtain ⟨u110, h110⟩ : ∃ b, b = decide (110 ∈ shapeL x.op) := ⟨_, rfl⟩
  obtain ⟨u116, h116⟩ : ∃ b, b = decide (116 ∈ shapeL x.op) := ⟨_, rfl⟩
  rw [← h97] at U97 HPA
  rw [← h98] at U98 HRG
  rw [← h99] at U99 HRG
  rw [← h106] at U106 HPN
  rw [← h107] at U107 HPN
  rw [← h110] at U110 HPN
  rw [← h116] at U116 HPT
  rw [← hok] at HRG hse
  clear hs h97 h98 h99 h106 h107 h110 h116 hok
  have R98 := Lib.hid (register_any u98 x.b)
  have R99 := Lib.hid (register_any u99 x.c)
  have R97 := Lib.hid (register_any u97 x.a)
  obtain ⟨rb, hrb⟩ : ∃ b, b = regB u98 x.b := ⟨_, rfl⟩
  obtain ⟨rc, hrc⟩ : ∃ b, b = regB u99 x.c := ⟨_, rfl⟩
  obtain ⟨ra, hra⟩ : ∃ b, b = regB u97 x.a := ⟨_, rfl⟩
  obtain ⟨pa, hpa⟩ : ∃ b, b = pA x z := ⟨_, rfl⟩
  obtain ⟨pt, hpt⟩ : ∃ b, b = pT x := ⟨_, rfl⟩
  obtain ⟨pn, hpn⟩ : ∃ b, b = pN x := ⟨_, rfl⟩
  rw [← hrb] at R98 HRG
  rw [← hrc] at R99 HRG
  rw [← hra] at R97 HPA
  rw [← hpa] at HPA HRG
  rw [← hpt] at HPT HRG
  rw [← hpn] at HPN HRG
  obtain ⟨R, hR⟩ : ∃ b, b = goodI x z := ⟨_, rfl⟩
  rw [← hR] at HRG ⊢
  clear hrb hrc hra hpa hpt hpn hR
  unfold Ins.val
  cases ok with
  | false =>
    go_enter Tryd.func41, Tryd.ntmps41
    go_wp2_with fail
    refine Calls.mono HS.out ?_
    rintro e w1 ⟨rfl, rfl⟩
    go_wp2_with fail
    go_quiet (fail)
    go_wp2_with fail
    go_ret
    exact ⟨ret_bool' (by rw [HRG.out]; rfl), below_drewN HBA.out _⟩
  | true =>
    cases rb with
    | false =>
      go_enter Tryd.func41, Tryd.ntmps41
      go_wp2_with fail
      refine Calls.mono HS.out ?_
      rintro e w1 ⟨rfl, rfl⟩
      go_wp2_with fail
      go_quiet (first | (go_at_call 72; with_reducible exact Calls.quiet_of_same (U98.out _)) | (go_at_call 72; with_reducible exact Calls.quiet_of_same (U99.out _)) | (go_at_call 72; with_reducible exact Calls.quiet_of_same (U97.out _)) | (go_at_call 71; with_reducible exact Calls.quiet_of_same (R98.out _)) | (go_at_call 71; with_reducible exact Calls.quiet_of_same (R99.out _)) | (go_at_call 71; with_reducible exact Calls.quiet_of_same (R97.out _)))
      go_wp2_with fail
      go_ret
      exact ⟨ret_bool' (by rw [HRG.out]; rfl), below_drewN HBA.out _⟩
    | true =>
      cases rc with
      | false =>
        go_enter Tryd.func41, Tryd.ntmps41
        go_wp2_with fail
        refine Calls.mono HS.out ?_
        rintro e w1 ⟨rfl, rfl⟩
        go_wp2_with fail
        go_quiet (first | (go_at_call 72; with_reducible exact Calls.quiet_of_same (U98.out _)) | (go_at_call 72; with_reducible exact Calls.quiet_of_same (U99.out _)) | (go_at_call 72; with_reducible exact Calls.quiet_of_same (U97.out _)) | (go_at_call 71; with_reducible exact Calls.quiet_of_same (R98.out _)) | (go_at_call 71; with_reducible exact Calls.quiet_of_same (R99.out _)) | (go_at_call 71; with_reducible exact Calls.quiet_of_same (R97.out _)))
        go_wp2_with fail
        go_ret
        exact ⟨ret_bool' (by rw [HRG.out]; rfl), below_drewN HBA.out _⟩
      | true =>
        go_enter Tryd.func41, Tryd.ntmps41
        go_wp2_with fail
        refine Calls.mono HS.out ?_
        rintro e w1 ⟨rfl, rfl⟩
        go_wp2_with fail
        go_quiet (first | (go_at_call 72; with_reducible exact Calls.quiet_of_same (U98.out _)) | (go_at_call 72; with_reducible exact Calls.quiet_of_same (U99.out _)) | (go_at_call 72; with_reducible exact Calls.quiet_of_same (U97.out _)) | (go_at_call 71; with_reducible exact Calls.quiet_of_same (R98.out _)) | (go_at_call 71; with_reducible exact Calls.quiet_of_same (R99.out _)) | (go_at_call 71; with_reducible exact Calls.quiet_of_same (R97.out _)))
        by_cases h13 : x.op = 13
        · have d13 : (x.op == 13) = true := by rw [beq_iff_eq]; exact h13
          have HP := Lib.hid (show pa = decide (1 ≤ x.a ∧ x.a ≤ z) by rw [HPA.out, if_pos h13])
          clear h13
          by_cases ha1 : x.a < 1
          · have d1 : decide (x.a < 1) = true := decide_eq_true ha1
            have hA := Lib.hid (show pa = false by rw [HP.out]; simp; omega)
            clear ha1
            go_wp2_with fail
            go_ret
            exact ⟨ret_bool' (by rw [HRG.out, hA.out]; rfl), below_drewN HBA.out _⟩
          · have d1 : decide (x.a < 1) = false := decide_eq_false ha1
            by_cases ha2 : z < x.a
            · have d2 : decide (z < x.a) = true := decide_eq_true ha2
              have hA := Lib.hid (show pa = false by rw [HP.out]; simp; omega)
              clear ha1 ha2
              go_wp2_with fail
              go_ret
              exact ⟨ret_bool' (by rw [HRG.out, hA.out]; rfl), below_drewN HBA.out _⟩
            · have d2 : decide (z < x.a) = false := decide_eq_false ha2
              have hA := Lib.hid (show pa = true by rw [HP.out]; simp; omega)
              clear ha1 ha2
              go_wp2_with fail
              refine Calls.mono (U116.out _) ?_
              rintro e w2 ⟨rfl, rfl⟩
              cases u116 with
              | true =>
                by_cases t1 : x.t < 0
                · have d1 : decide (x.t < 0) = true := decide_eq_true t1
                  have hTT := Lib.hid (show pt = false by rw [HPT.out]; simp; omega)
                  clear t1
                  go_wp2_with fail
                  go_ret
                  exact ⟨ret_bool' (by rw [HRG.out, hA.out, hTT.out]; rfl), below_drewN HBA.out _⟩
                · have d1 : decide (x.t < 0) = false := decide_eq_false t1
                  by_cases t2 : 3 < x.t
                  · have d2 : decide (3 < x.t) = true := decide_eq_true t2
                    have hTT := Lib.hid (show pt = false by rw [HPT.out]; simp; omega)
                    clear t1 t2
                    go_wp2_with fail
                    go_ret
                    exact ⟨ret_bool' (by rw [HRG.out, hA.out, hTT.out]; rfl), below_drewN HBA.out _⟩
                  · have d2 : decide (3 < x.t) = false := decide_eq_false t2
                    have hTT := Lib.hid (show pt = true by rw [HPT.out]; simp; omega)
                    clear t1 t2
                    go_wp2_with fail
                    clear d1 d2
                    refine Calls.mono (U107.out _) ?_
                    rintro e w3 ⟨rfl, rfl⟩
                    cases u107 with
                    | true =>
                      by_cases n1 : 1 ≤ x.n
                      · have d1 : decide (1 ≤ x.n) = true := decide_eq_true n1
                        by_cases n2 : x.n ≤ 64
                        · have d2 : decide (x.n ≤ 64) = true := decide_eq_true n2
                          have hN := Lib.hid (show pn = true by rw [HPN.out]; simp [n1, n2])
                          clear n1 n2
                          go_wp2_with fail
                          go_ret
                          exact ⟨ret_bool' (by rw [HRG.out, hA.out, hTT.out, hN.out]; rfl), below_drewN HBA.out _⟩
                        · have d2 : decide (x.n ≤ 64) = false := decide_eq_false n2
                          have hN := Lib.hid (show pn = false by rw [HPN.out]; simp [n1, n2])
                          clear n1 n2
                          go_wp2_with fail
                          go_ret
                          exact ⟨ret_bool' (by rw [HRG.out, hA.out, hTT.out, hN.out]; rfl), below_drewN HBA.out _⟩
                      · have d1 : decide (1 ≤ x.n) = false := decide_eq_false n1
                        have hN := Lib.hid (show pn = false by rw [HPN.out]; simp [n1])
                        clear n1
                        go_wp2_with fail
                        go_ret
                        exact ⟨ret_bool' (by rw [HRG.out, hA.out, hTT.out, hN.out]; rfl), below_drewN HBA.out _⟩
                    | false =>
                      go_wp2_with fail
                      refine Calls.mono (U106.out _) ?_
                      rintro e w4 ⟨rfl, rfl⟩
                      cases u106 with
                      | true =>
                        by_cases n1 : 0 ≤ x.n
                        · have d1 : decide (0 ≤ x.n) = true := decide_eq_true n1
                          by_cases n2 : x.n ≤ 3
                          · have d2 : decide (x.n ≤ 3) = true := decide_eq_true n2
                            have hN := Lib.hid (show pn = true by rw [HPN.out]; simp [n1, n2])
                            clear n1 n2
                            go_wp2_with fail
                            go_ret
                            exact ⟨ret_bool' (by rw [HRG.out, hA.out, hTT.out, hN.out]; rfl), below_drewN HBA.out _⟩
                          · have d2 : decide (x.n ≤ 3) = false := decide_eq_false n2
                            have hN := Lib.hid (show pn = false by rw [HPN.out]; simp [n1, n2])
                            clear n1 n2
                            go_wp2_with fail
                            go_ret
                            exact ⟨ret_bool' (by rw [HRG.out, hA.out, hTT.out, hN.out]; rfl), below_drewN HBA.out _⟩
                        · have d1 : decide (0 ≤ x.n) = false := decide_eq_false n1
                          have hN := Lib.hid (show pn = false by rw [HPN.out]; simp [n1])
                          clear n1
                          go_wp2_with fail
                          go_ret
                          exact ⟨ret_bool' (by rw [HRG.out, hA.out, hTT.out, hN.out]; rfl), below_drewN HBA.out _⟩
                      | false =>
                        go_wp2_with fail
                        refine Calls.mono (U110.out _) ?_
                        rintro e w5 ⟨rfl, rfl⟩
                        cases u110 with
                        | true =>
                          have hN := Lib.hid (show pn = true by rw [HPN.out]; simp)
                          go_wp2_with fail
                          go_ret
                          exact ⟨ret_bool' (by rw [HRG.out, hA.out, hTT.out, hN.out]; rfl), below_drewN HBA.out _⟩
                        | false =>
                          by_cases n1 : x.n = 0
                          · have d1 : (x.n == 0) = true := by rw [beq_iff_eq]; exact n1
                            have hN := Lib.hid (show pn = true by rw [HPN.out]; simp [n1])
                            clear n1
                            go_wp2_with fail
                            go_ret
                            exact ⟨ret_bool' (by rw [HRG.out, hA.out, hTT.out, hN.out]; rfl), below_drewN HBA.out _⟩
                          · have d1 : (x.n == 0) = false := by rw [beq_eq_false_iff_ne]; exact n1
                            have hN := Lib.hid (show pn = false by rw [HPN.out]; simp [n1])
                            clear n1
                            go_wp2_with fail
                            go_ret
                            exact ⟨ret_bool' (by rw [HRG.out, hA.out, hTT.out, hN.out]; rfl), below_drewN HBA.out _⟩
              | false =>
                by_cases t1 : x.t = 0
                · have d1 : (x.t != 0) = false := by simp [t1]
                  have hTT := Lib.hid (show pt = true by rw [HPT.out]; simp [t1])
                  clear t1
                  go_wp2_with fail
                  clear d1
                  refine Calls.mono (U107.out _) ?_
                  rintro e w3 ⟨rfl, rfl⟩
                  cases u107 with
                  | true =>
                    by_cases n1 : 1 ≤ x.n
                    · have d1 : decide (1 ≤ x.n) = true := decide_eq_true n1
                      by_cases n2 : x.n ≤ 64
                      · have d2 : decide (x.n ≤ 64) = true := decide_eq_true n2
                        have hN := Lib.hid (show pn = true by rw [HPN.out]; simp [n1, n2])
                        clear n1 n2
                        go_wp2_with fail
                        go_ret
                        exact ⟨ret_bool' (by rw [HRG.out, hA.out, hTT.out, hN.out]; rfl), below_drewN HBA.out _⟩
                      · have d2 : decide (x.n ≤ 64) = false := decide_eq_false n2
                        have hN := Lib.hid (show pn = false by rw [HPN.out]; simp [n1, n2])
                        clear n1 n2
                        go_wp2_with fail
                        go_ret
                        exact ⟨ret_bool' (by rw [HRG.out, hA.out, hTT.out, hN.out]; rfl), below_drewN HBA.out _⟩
                    · have d1 : decide (1 ≤ x.n) = false := decide_eq_false n1
                      have hN := Lib.hid (show pn = false by rw [HPN.out]; simp [n1])
                      clear n1
                      go_wp2_with fail
                      go_ret
                      exact ⟨ret_bool' (by rw [HRG.out, hA.out, hTT.out, hN.out]; rfl), below_drewN HBA.out _⟩
                  | false =>
                    go_wp2_with fail
                    refine Calls.mono (U106.out _) ?_
                    rintro e w4 ⟨rfl, rfl⟩
                    cases u106 with
                    | true =>
                      by_cases n1 : 0 ≤ x.n
                      · have d1 : decide (0 ≤ x.n) = true := decide_eq_true n1
                        by_cases n2 : x.n ≤ 3
                        · have d2 : decide (x.n ≤ 3) = true := decide_eq_true n2
                          have hN := Lib.hid (show pn = true by rw [HPN.out]; simp [n1, n2])
                          clear n1 n2
                          go_wp2_with fail
                          go_ret
                          exact ⟨ret_bool' (by rw [HRG.out, hA.out, hTT.out, hN.out]; rfl), below_drewN HBA.out _⟩
                        · have d2 : decide (x.n ≤ 3) = false := decide_eq_false n2
                          have hN := Lib.hid (show pn = false by rw [HPN.out]; simp [n1, n2])
                          clear n1 n2
                          go_wp2_with fail
                          go_ret
                          exact ⟨ret_bool' (by rw [HRG.out, hA.out, hTT.out, hN.out]; rfl), below_drewN HBA.out _⟩
                      · have d1 : decide (0 ≤ x.n) = false := decide_eq_false n1
                        have hN := Lib.hid (show pn = false by rw [HPN.out]; simp [n1])
                        clear n1
                        go_wp2_with fail
                        go_ret
                        exact ⟨ret_bool' (by rw [HRG.out, hA.out, hTT.out, hN.out]; rfl), below_drewN HBA.out _⟩
                    | false =>
                      go_wp2_with fail
                      refine Calls.mono (U110.out _) ?_
                      rintro e w5 ⟨rfl, rfl⟩
                      cases u110 with
                      | true =>
                        have hN := Lib.hid (show pn = true by rw [HPN.out]; simp)
                        go_wp2_with fail
                        go_ret
                        exact ⟨ret_bool' (by rw [HRG.out, hA.out, hTT.out, hN.out]; rfl), below_drewN HBA.out _⟩
                      | false =>
                        by_cases n1 : x.n = 0
                        · have d1 : (x.n == 0) = true := by rw [beq_iff_eq]; exact n1
                          have hN := Lib.hid (show pn = true by rw [HPN.out]; simp [n1])
                          clear n1
                          go_wp2_with fail
                          go_ret
                          exact ⟨ret_bool' (by rw [HRG.out, hA.out, hTT.out, hN.out]; rfl), below_drewN HBA.out _⟩
                        · have d1 : (x.n == 0) = false := by rw [beq_eq_false_iff_ne]; exact n1
                          have hN := Lib.hid (show pn = false by rw [HPN.out]; simp [n1])
                          clear n1
                          go_wp2_with fail
                          go_ret
                          exact ⟨ret_bool' (by rw [HRG.out, hA.out, hTT.out, hN.out]; rfl), below_drewN HBA.out _⟩
                · have d1 : (x.t != 0) = true := by rw [bne_iff_ne]; exact t1
                  have hTT := Lib.hid (show pt = false by rw [HPT.out]; simp [t1])
                  clear t1
                  go_wp2_with fail
                  go_ret
                  exact ⟨ret_bool' (by rw [HRG.out, hA.out, hTT.out]; rfl), below_drewN HBA.out _⟩
        · have d13 : (x.op == 13) = false := by rw [beq_eq_false_iff_ne]; exact h13
          have hA := Lib.hid (show pa = ra by rw [HPA.out, if_neg h13])
          clear h13
          cases ra with
          | false =>
            go_wp2_with fail
            go_quiet (first | (go_at_call 72; with_reducible exact quiet_add_same (U97.out _)) | (go_at_call 71; with_reducible exact quiet_add_same (R97.out _)))
            go_wp2_with fail
            go_ret
            exact ⟨ret_bool' (by rw [HRG.out, hA.out]; rfl), below_drewN (below_drewN HBA.out _) _⟩
          | true =>
            go_wp2_with fail
            go_quiet (first | (go_at_call 72; with_reducible exact quiet_add_same (U97.out _)) | (go_at_call 71; with_reducible exact quiet_add_same (R97.out _)))
            go_wp2_with fail
            refine Calls.mono (U116.out _) ?_
            rintro e w2 ⟨rfl, rfl⟩
            cases u116 with
            | true =>
              by_cases t1 : x.t < 0
              · have d1 : decide (x.t < 0) = true := decide_eq_true t1
                have hTT := Lib.hid (show pt = false by rw [HPT.out]; simp; omega)
                clear t1
                go_wp2_with fail
                go_ret
                exact ⟨ret_bool' (by rw [HRG.out, hA.out, hTT.out]; rfl), below_drewN HBA.out _⟩
              · have d1 : decide (x.t < 0) = false := decide_eq_false t1
                by_cases t2 : 3 < x.t
                · have d2 : decide (3 < x.t) = true := decide_eq_true t2
                  have hTT := Lib.hid (show pt = false by rw [HPT.out]; simp; omega)
                  clear t1 t2
                  go_wp2_with fail
                  go_ret
                  exact ⟨ret_bool' (by rw [HRG.out, hA.out, hTT.out]; rfl), below_drewN HBA.out _⟩
                · have d2 : decide (3 < x.t) = false := decide_eq_false t2
                  have hTT := Lib.hid (show pt = true by rw [HPT.out]; simp; omega)
                  clear t1 t2
                  go_wp2_with fail
                  clear d1 d2
                  refine Calls.mono (U107.out _) ?_
                  rintro e w3 ⟨rfl, rfl⟩
                  cases u107 with
                  | true =>
                    by_cases n1 : 1 ≤ x.n
                    · have d1 : decide (1 ≤ x.n) = true := decide_eq_true n1
                      by_cases n2 : x.n ≤ 64
                      · have d2 : decide (x.n ≤ 64) = true := decide_eq_true n2
                        have hN := Lib.hid (show pn = true by rw [HPN.out]; simp [n1, n2])
                        clear n1 n2
                        go_wp2_with fail
                        go_ret
                        exact ⟨ret_bool' (by rw [HRG.out, hA.out, hTT.out, hN.out]; rfl), below_drewN HBA.out _⟩
                      · have d2 : decide (x.n ≤ 64) = false := decide_eq_false n2
                        have hN := Lib.hid (show pn = false by rw [HPN.out]; simp [n1, n2])
                        clear n1 n2
                        go_wp2_with fail
                        go_ret
                        exact ⟨ret_bool' (by rw [HRG.out, hA.out, hTT.out, hN.out]; rfl), below_drewN HBA.out _⟩
                    · have d1 : decide (1 ≤ x.n) = false := decide_eq_false n1
                      have hN := Lib.hid (show pn = false by rw [HPN.out]; simp [n1])
                      clear n1
                      go_wp2_with fail
                      go_ret
                      exact ⟨ret_bool' (by rw [HRG.out, hA.out, hTT.out, hN.out]; rfl), below_drewN HBA.out _⟩
                  | false =>
                    go_wp2_with fail
                    refine Calls.mono (U106.out _) ?_
                    rintro e w4 ⟨rfl, rfl⟩
                    cases u106 with
                    | true =>
                      by_cases n1 : 0 ≤ x.n
                      · have d1 : decide (0 ≤ x.n) = true := decide_eq_true n1
                        by_cases n2 : x.n ≤ 3
                        · have d2 : decide (x.n ≤ 3) = true := decide_eq_true n2
                          have hN := Lib.hid (show pn = true by rw [HPN.out]; simp [n1, n2])
                          clear n1 n2
                          go_wp2_with fail
                          go_ret
                          exact ⟨ret_bool' (by rw [HRG.out, hA.out, hTT.out, hN.out]; rfl), below_drewN HBA.out _⟩
                        · have d2 : decide (x.n ≤ 3) = false := decide_eq_false n2
                          have hN := Lib.hid (show pn = false by rw [HPN.out]; simp [n1, n2])
                          clear n1 n2
                          go_wp2_with fail
                          go_ret
                          exact ⟨ret_bool' (by rw [HRG.out, hA.out, hTT.out, hN.out]; rfl), below_drewN HBA.out _⟩
                      · have d1 : decide (0 ≤ x.n) = false := decide_eq_false n1
                        have hN := Lib.hid (show pn = false by rw [HPN.out]; simp [n1])
                        clear n1
                        go_wp2_with fail
                        go_ret
                        exact ⟨ret_bool' (by rw [HRG.out, hA.out, hTT.out, hN.out]; rfl), below_drewN HBA.out _⟩
                    | false =>
                      go_wp2_with fail
                      refine Calls.mono (U110.out _) ?_
                      rintro e w5 ⟨rfl, rfl⟩
                      cases u110 with
                      | true =>
                        have hN := Lib.hid (show pn = true by rw [HPN.out]; simp)
                        go_wp2_with fail
                        go_ret
                        exact ⟨ret_bool' (by rw [HRG.out, hA.out, hTT.out, hN.out]; rfl), below_drewN HBA.out _⟩
                      | false =>
                        by_cases n1 : x.n = 0
                        · have d1 : (x.n == 0) = true := by rw [beq_iff_eq]; exact n1
                          have hN := Lib.hid (show pn = true by rw [HPN.out]; simp [n1])
                          clear n1
                          go_wp2_with fail
                          go_ret
                          exact ⟨ret_bool' (by rw [HRG.out, hA.out, hTT.out, hN.out]; rfl), below_drewN HBA.out _⟩
                        · have d1 : (x.n == 0) = false := by rw [beq_eq_false_iff_ne]; exact n1
                          have hN := Lib.hid (show pn = false by rw [HPN.out]; simp [n1])
                          clear n1
                          go_wp2_with fail
                          go_ret
                          exact ⟨ret_bool' (by rw [HRG.out, hA.out, hTT.out, hN.out]; rfl), below_drewN HBA.out _⟩
            | false =>
              by_cases t1 : x.t = 0
              · have d1 : (x.t != 0) = false := by simp [t1]
                have hTT := Lib.hid (show pt = true by rw [HPT.out]; simp [t1])
                clear t1
                go_wp2_with fail
                clear d1
                refine Calls.mono (U107.out _) ?_
                rintro e w3 ⟨rfl, rfl⟩
                cases u107 with
                | true =>
                  by_cases n1 : 1 ≤ x.n
                  · have d1 : decide (1 ≤ x.n) = true := decide_eq_true n1
                    by_cases n2 : x.n ≤ 64
                    · have d2 : decide (x.n ≤ 64) = true := decide_eq_true n2
                      have hN := Lib.hid (show pn = true by rw [HPN.out]; simp [n1, n2])
                      clear n1 n2
                      go_wp2_with fail
                      go_ret
                      exact ⟨ret_bool' (by rw [HRG.out, hA.out, hTT.out, hN.out]; rfl), below_drewN HBA.out _⟩
                    · have d2 : decide (x.n ≤ 64) = false := decide_eq_false n2
                      have hN := Lib.hid (show pn = false by rw [HPN.out]; simp [n1, n2])
                      clear n1 n2
                      go_wp2_with fail
                      go_ret
                      exact ⟨ret_bool' (by rw [HRG.out, hA.out, hTT.out, hN.out]; rfl), below_drewN HBA.out _⟩
                  · have d1 : decide (1 ≤ x.n) = false := decide_eq_false n1
                    have hN := Lib.hid (show pn = false by rw [HPN.out]; simp [n1])
                    clear n1
                    go_wp2_with fail
                    go_ret
                    exact ⟨ret_bool' (by rw [HRG.out, hA.out, hTT.out, hN.out]; rfl), below_drewN HBA.out _⟩
                | false =>
                  go_wp2_with fail
                  refine Calls.mono (U106.out _) ?_
                  rintro e w4 ⟨rfl, rfl⟩
                  cases u106 with
                  | true =>
                    by_cases n1 : 0 ≤ x.n
                    · have d1 : decide (0 ≤ x.n) = true := decide_eq_true n1
                      by_cases n2 : x.n ≤ 3
                      · have d2 : decide (x.n ≤ 3) = true := decide_eq_true n2
                        have hN := Lib.hid (show pn = true by rw [HPN.out]; simp [n1, n2])
                        clear n1 n2
                        go_wp2_with fail
                        go_ret
                        exact ⟨ret_bool' (by rw [HRG.out, hA.out, hTT.out, hN.out]; rfl), below_drewN HBA.out _⟩
                      · have d2 : decide (x.n ≤ 3) = false := decide_eq_false n2
                        have hN := Lib.hid (show pn = false by rw [HPN.out]; simp [n1, n2])
                        clear n1 n2
                        go_wp2_with fail
                        go_ret
                        exact ⟨ret_bool' (by rw [HRG.out, hA.out, hTT.out, hN.out]; rfl), below_drewN HBA.out _⟩
                    · have d1 : decide (0 ≤ x.n) = false := decide_eq_false n1
                      have hN := Lib.hid (show pn = false by rw [HPN.out]; simp [n1])
                      clear n1
                      go_wp2_with fail
                      go_ret
                      exact ⟨ret_bool' (by rw [HRG.out, hA.out, hTT.out, hN.out]; rfl), below_drewN HBA.out _⟩
                  | false =>
                    go_wp2_with fail
                    refine Calls.mono (U110.out _) ?_
                    rintro e w5 ⟨rfl, rfl⟩
                    cases u110 with
                    | true =>
                      have hN := Lib.hid (show pn = true by rw [HPN.out]; simp)
                      go_wp2_with fail
                      go_ret
                      exact ⟨ret_bool' (by rw [HRG.out, hA.out, hTT.out, hN.out]; rfl), below_drewN HBA.out _⟩
                    | false =>
                      by_cases n1 : x.n = 0
                      · have d1 : (x.n == 0) = true := by rw [beq_iff_eq]; exact n1
                        have hN := Lib.hid (show pn = true by rw [HPN.out]; simp [n1])
                        clear n1
                        go_wp2_with fail
                        go_ret
                        exact ⟨ret_bool' (by rw [HRG.out, hA.out, hTT.out, hN.out]; rfl), below_drewN HBA.out _⟩
                      · have d1 : (x.n == 0) = false := by rw [beq_eq_false_iff_ne]; exact n1
                        have hN := Lib.hid (show pn = false by rw [HPN.out]; simp [n1])
                        clear n1
                        go_wp2_with fail
                        go_ret
                        exact ⟨ret_bool' (by rw [HRG.out, hA.out, hTT.out, hN.out]; rfl), below_drewN HBA.out _⟩
              · have d1 : (x.t != 0) = true := by rw [bne_iff_ne]; exact t1
                have hTT := Lib.hid (show pt = false by rw [HPT.out]; simp [t1])
                clear t1
                go_wp2_with fail
                go_ret
                exact ⟨ret_bool' (by rw [HRG.out, hA.out, hTT.out]; rfl), below_drewN HBA.out _⟩
end Go.Proofs.YtkeckjgihjpfbaaDoor

/- The contract of the document's Check. -/
namespace Go.Proofs.YtkeckjgihjpfbaaDoor
set_option maxRecDepth 100000
open Go.RowKit
attribute [local go_sem ↓] Go.wp_at_zero Go.wp_at_succ

set_option maxHeartbeats 4000000 in
theorem refcheck_any (f : Int) (A : Option Addr) (n c : Nat) (l : List Ins) (w : World) (hC : Codes w A n l) (hn : n ≤ 9223372036854775807) :
    Calls Tryd.prog 16 #[.agg #[.int .i64 f, .slice A n c]] w fun e w' => e = .returned (.int .i64 (chk f l)) ∧ Below w.heap.size w w' := by
  have hln := hC.len
  have HC := Lib.hid hC
  have HL := Lib.hid hln
  have HB1 := Lib.hid ((Below.refl w.heap.size w).alloc (Nat.le_refl _) (.cells #[.int .i64 f, .slice A n c] 24))
  have HN1 := Lib.hid (one_new w (.cells #[.int .i64 f, .slice A n c] 24))
  clear hC
  by_cases hh : f < 1 ∨ 1000 < f ∨ l.length < 1 ∨ 32 < l.length
  · have HE := Lib.hid (chk_head hh)
    have hw : decide (f < 1) = true ∨ (decide (f < 1) = false ∧ decide ((1000 : Int) < f) = true) ∨ (decide (f < 1) = false ∧ decide ((1000 : Int) < f) = false ∧ decide ((n : Int) < 1) = true) ∨ (decide (f < 1) = false ∧ decide ((1000 : Int) < f) = false ∧ decide ((n : Int) < 1) = false ∧ decide ((32 : Int) < (n : Int)) = true) := by
      simp only [decide_eq_true_eq, decide_eq_false_iff_not]
      omega
    clear hh hln
    rcases hw with d1 | ⟨d1, d2⟩ | ⟨d1, d2, d3⟩ | ⟨d1, d2, d3, d4⟩
    all_goals
      go_enter Tryd.func16, Tryd.ntmps16
      go_wp2_with fail
      go_ret
      exact ⟨by rw [HE.out]; rfl, HB1.out⟩
  · have d1 : decide (f < 1) = false := decide_eq_false (by omega)
    have d2 : decide ((1000 : Int) < f) = false := decide_eq_false (by omega)
    have d3 : decide ((n : Int) < 1) = false := decide_eq_false (by omega)
    have d4 : decide ((32 : Int) < (n : Int)) = false := decide_eq_false (by omega)
    have hn32 : n ≤ 32 := by omega
    have HH := Lib.hid hh
    clear hh hln
    go_enter Tryd.func16, Tryd.ntmps16
    go_wp2_with fail
    clear d1 d2 d3 d4
    go_loopw [3] (fun i wr => ∃ k : Nat, i = .int .i64 (k : Int) ∧ k ≤ n ∧ Below w.heap.size w wr ∧ wr.heap[w.heap.size]? = some (.cells #[.int .i64 f, .slice A n c] 24 (0, 0)) ∧ (∀ j, j < k → goodAt l j = true)) (fun i _ => n - (intOf i).toNat)
    case atStart => exact ⟨0, rfl, by omega, HB1.out, HN1.out, fun j h => absurd h (by omega)⟩
    case round =>
      obtain ⟨k, rfl, hk, hb, hg, hall⟩ := hrel
      have HBR := Lib.hid hb
      have HGR := Lib.hid hg
      have HALL := Lib.hid hall
      have hsz2 := hb.size
      have g1 : wr.cell? ⟨w.heap.size, 1, none⟩ = some (.slice A n c) := cell_of_row wr _ 1 _ 24 (0, 0) hg
      clear hb hg hall
      by_cases hlt : k < n
      · have hkl : k < l.length := by rw [HL.out]; exact hlt
        obtain ⟨b, off, rfl, hc⟩ := (HC.out.ext (stays_b HBR.out)).cells (by omega)
        obtain ⟨c0, c1, c2, c3, c4, c5⟩ := hc k hkl
        obtain ⟨x, hx⟩ : ∃ x, x = l[k] := ⟨_, rfl⟩
        rw [← hx] at c0 c1 c2 c3 c4 c5
        have HGA := Lib.hid (show goodAt l k = goodI x ((n : Int) - 1 - (k : Int)) by unfold goodAt; rw [HL.out, List.getD_eq_getElem?_getD, List.getElem?_eq_getElem hkl, hx]; rfl)
        have hgd := fun W => rgood_any x ((n : Int) - 1 - (k : Int)) W
        unfold Ins.val at hgd
        have HGD := Lib.hid hgd
        have HXK := Lib.hid (show ∀ w' : World, Below wr.heap.size wr w' → w'.cell? ⟨w.heap.size, 1, none⟩ = some (.slice (some ⟨b, off, none⟩) n c) ∧ w'.cell? ⟨b, off + k * 6, none⟩ = some (.int .i64 x.op) ∧ w'.cell? ⟨b, off + k * 6 + 1, none⟩ = some (.int .i64 x.a) ∧ w'.cell? ⟨b, off + k * 6 + 2, none⟩ = some (.int .i64 x.b) ∧ w'.cell? ⟨b, off + k * 6 + 3, none⟩ = some (.int .i64 x.c) ∧ w'.cell? ⟨b, off + k * 6 + 4, none⟩ = some (.int .i64 x.t) ∧ w'.cell? ⟨b, off + k * 6 + 5, none⟩ = some (.int .i64 x.n) ∧ Below wr.heap.size wr w' from fun w' hb =>
          ⟨(hb.cell (World.block_lt_of_cell? _ _ g1)).trans g1, (hb.cell (World.block_lt_of_cell? _ _ c0)).trans c0, (hb.cell (World.block_lt_of_cell? _ _ c1)).trans c1, (hb.cell (World.block_lt_of_cell? _ _ c2)).trans c2, (hb.cell (World.block_lt_of_cell? _ _ c3)).trans c3, (hb.cell (World.block_lt_of_cell? _ _ c4)).trans c4, (hb.cell (World.block_lt_of_cell? _ _ c5)).trans c5, hb⟩)
        obtain ⟨r, hr⟩ : ∃ r, r = goodI x ((n : Int) - 1 - (k : Int)) := ⟨_, rfl⟩
        rw [← hr] at HGA HGD
        have e1 : IntKind.i64.wrap ((n : Int) - 1) = (n : Int) - 1 := IntWalk.i64_in _ (by omega)
        have e2 : IntKind.i64.wrap ((n : Int) - 1 - (k : Int)) = (n : Int) - 1 - (k : Int) := IntWalk.i64_in _ (by omega)
        have i1 : (0 : Int) ≤ (k : Int) := by omega
        have i2 : (k : Int) < (n : Int) := by omega
        clear hc hx hgd hr c0 c1 c2 c3 c4 c5
        go_wp2_with fail
        go_region_held3 (fun w' => w'.cell? ⟨w.heap.size, 1, none⟩ = some (.slice (some ⟨b, off, none⟩) n c) ∧ w'.cell? ⟨b, off + k * 6, none⟩ = some (.int .i64 x.op) ∧ w'.cell? ⟨b, off + k * 6 + 1, none⟩ = some (.int .i64 x.a) ∧ w'.cell? ⟨b, off + k * 6 + 2, none⟩ = some (.int .i64 x.b) ∧ w'.cell? ⟨b, off + k * 6 + 3, none⟩ = some (.int .i64 x.c) ∧ w'.cell? ⟨b, off + k * 6 + 4, none⟩ = some (.int .i64 x.t) ∧ w'.cell? ⟨b, off + k * 6 + 5, none⟩ = some (.int .i64 x.n) ∧ Below wr.heap.size wr w')
          (first | exact HXK.out _ (Below.refl _ wr).drew | (go_split_ands; exact HXK.out _ (Below.trans (by assumption) (hbK.mono (Below.size (by assumption))))))
          ((go_at_call 41; (with_reducible refine Calls.mono (HGD.out _) ?_); rintro e w5 ⟨rfl, hbK⟩))
        rename_i hHeld
        have HHB := Lib.hid (HBR.out.trans (hHeld.2.2.2.2.2.2.2.mono HBR.out.size))
        have HGN := Lib.hid ((hHeld.2.2.2.2.2.2.2.block _ (World.block_lt_of_cell? _ _ g1)).trans HGR.out)
        clear hHeld hbK e1 e2 i1 i2
        cases r with
        | true =>
          go_wp2_with fail
          go_roundw
          case rel => exact ⟨k + 1, by go_num, by omega, HHB.out, HGN.out, fun j hj => by
            rcases Nat.lt_or_ge j k with h | h
            · exact HALL.out j h
            · obtain rfl : j = k := by omega
              exact HGA.out⟩
          case measure => simp [intOf]; omega
        | false =>
          have HE := Lib.hid (chk_at HH.out k hkl HALL.out HGA.out)
          go_wp2_with fail
          go_ret
          exact ⟨by rw [HE.out]; rfl, HHB.out⟩
      · obtain rfl : k = n := by omega
        have HE := Lib.hid (chk_all HH.out (fun j hj => HALL.out j (by rw [← HL.out]; exact hj)))
        go_wp2_with fail
        go_ret
        exact ⟨by rw [HE.out]; rfl, HBR.out⟩
end Go.Proofs.YtkeckjgihjpfbaaDoor

/- The contract of the document's value. -/
namespace Go.Proofs.YtkeckjgihjpfbaaDoor
set_option maxRecDepth 100000
open Go.RowKit

set_option maxHeartbeats 2000000 in
theorem value_any (x : Ins) (l : Nat) (w : World) : Calls Tryd.prog 49 #[x.val, .int .u8 (l : Int)] w fun e w' => e = .returned (.int .i64 (x.get (offL l))) ∧ Below w.heap.size w w' := by
  have HBA := Lib.hid ((Below.refl w.heap.size w).alloc (Nat.le_refl _) (.cells #[.int .i64 x.op, .int .i64 x.a, .int .i64 x.b, .int .i64 x.c, .int .i64 x.t, .int .i64 x.n] 43))
  unfold Ins.val
  by_cases h1 : l = 97
  · subst h1
    go_enter Tryd.func49, Tryd.ntmps49
    go_wp2_with fail
    go_ret
    exact ⟨rfl, HBA.out⟩
  by_cases h2 : l = 115
  · subst h2
    go_enter Tryd.func49, Tryd.ntmps49
    go_wp2_with fail
    go_ret
    exact ⟨rfl, HBA.out⟩
  by_cases h3 : l = 98
  · subst h3
    go_enter Tryd.func49, Tryd.ntmps49
    go_wp2_with fail
    go_ret
    exact ⟨rfl, HBA.out⟩
  by_cases h4 : l = 99
  · subst h4
    go_enter Tryd.func49, Tryd.ntmps49
    go_wp2_with fail
    go_ret
    exact ⟨rfl, HBA.out⟩
  by_cases h5 : l = 116
  · subst h5
    go_enter Tryd.func49, Tryd.ntmps49
    go_wp2_with fail
    go_ret
    exact ⟨rfl, HBA.out⟩
  have HE := Lib.hid (show x.get (offL l) = x.n by rw [show offL l = 5 by simp [offL, h1, h2, h3, h4, h5]]; rfl)
  have d1 : ((l : Int) == 97) = false := by rw [beq_eq_false_iff_ne]; omega
  have d2 : ((l : Int) == 115) = false := by rw [beq_eq_false_iff_ne]; omega
  have d3 : ((l : Int) == 98) = false := by rw [beq_eq_false_iff_ne]; omega
  have d4 : ((l : Int) == 99) = false := by rw [beq_eq_false_iff_ne]; omega
  have d5 : ((l : Int) == 116) = false := by rw [beq_eq_false_iff_ne]; omega
  clear h1 h2 h3 h4 h5
  go_enter Tryd.func49, Tryd.ntmps49
  go_wp2_with fail
  go_ret
  exact ⟨by rw [HE.out]; rfl, HBA.out⟩
end Go.Proofs.YtkeckjgihjpfbaaDoor

/- Layer 7: the words of fields. -/
namespace Go.Proofs.YtkeckjgihjpfbaaDoor
set_option maxRecDepth 100000
open Go.RowKit

set_option maxHeartbeats 1000000 in
theorem afield_any (g l : Nat) (w : World) : Calls Tryd.prog 82 #[.pointer (some ⟨g, 0, none⟩), .int .u8 (l : Int)] w fun e w' => e = .returned (.pointer (some ⟨g, offL l, none⟩)) ∧ w = w' := by
  by_cases h1 : l = 97
  · subst h1
    go_enter Tryd.func82, Tryd.ntmps82
    go_wp2_with fail
    go_ret
    exact ⟨rfl, rfl⟩
  by_cases h2 : l = 115
  · subst h2
    go_enter Tryd.func82, Tryd.ntmps82
    go_wp2_with fail
    go_ret
    exact ⟨rfl, rfl⟩
  by_cases h3 : l = 98
  · subst h3
    go_enter Tryd.func82, Tryd.ntmps82
    go_wp2_with fail
    go_ret
    exact ⟨rfl, rfl⟩
  by_cases h4 : l = 99
  · subst h4
    go_enter Tryd.func82, Tryd.ntmps82
    go_wp2_with fail
    go_ret
    exact ⟨rfl, rfl⟩
  by_cases h5 : l = 116
  · subst h5
    go_enter Tryd.func82, Tryd.ntmps82
    go_wp2_with fail
    go_ret
    exact ⟨rfl, rfl⟩
  have e : offL l = 5 := by simp [offL, h1, h2, h3, h4, h5]
  have d1 : ((l : Int) == 97) = false := by rw [beq_eq_false_iff_ne]; omega
  have d2 : ((l : Int) == 115) = false := by rw [beq_eq_false_iff_ne]; omega
  have d3 : ((l : Int) == 98) = false := by rw [beq_eq_false_iff_ne]; omega
  have d4 : ((l : Int) == 99) = false := by rw [beq_eq_false_iff_ne]; omega
  have d5 : ((l : Int) == 116) = false := by rw [beq_eq_false_iff_ne]; omega
  rw [e]
  clear e h1 h2 h3 h4 h5
  go_enter Tryd.func82, Tryd.ntmps82
  go_wp2_with fail
  go_ret
  exact ⟨rfl, rfl⟩
set_option maxHeartbeats 2000000 in
theorem rvalue_any (x : Ins) (l : Nat) (w : World) : Calls Tryd.prog 62 #[x.val, .int .u8 (l : Int)] w fun e w' => e = .returned (.int .i64 (x.get (offL l))) ∧ Below w.heap.size w w' := by
  have HBA := Lib.hid ((Below.refl w.heap.size w).alloc (Nat.le_refl _) (.cells #[.int .i64 x.op, .int .i64 x.a, .int .i64 x.b, .int .i64 x.c, .int .i64 x.t, .int .i64 x.n] 43))
  unfold Ins.val
  by_cases h1 : l = 97
  · subst h1
    go_enter Tryd.func62, Tryd.ntmps62
    go_wp2_with fail
    go_ret
    exact ⟨rfl, HBA.out⟩
  by_cases h2 : l = 115
  · subst h2
    go_enter Tryd.func62, Tryd.ntmps62
    go_wp2_with fail
    go_ret
    exact ⟨rfl, HBA.out⟩
  by_cases h3 : l = 98
  · subst h3
    go_enter Tryd.func62, Tryd.ntmps62
    go_wp2_with fail
    go_ret
    exact ⟨rfl, HBA.out⟩
  by_cases h4 : l = 99
  · subst h4
    go_enter Tryd.func62, Tryd.ntmps62
    go_wp2_with fail
    go_ret
    exact ⟨rfl, HBA.out⟩
  by_cases h5 : l = 116
  · subst h5
    go_enter Tryd.func62, Tryd.ntmps62
    go_wp2_with fail
    go_ret
    exact ⟨rfl, HBA.out⟩
  have HE := Lib.hid (show x.get (offL l) = x.n by rw [show offL l = 5 by simp [offL, h1, h2, h3, h4, h5]]; rfl)
  have d1 : ((l : Int) == 97) = false := by rw [beq_eq_false_iff_ne]; omega
  have d2 : ((l : Int) == 115) = false := by rw [beq_eq_false_iff_ne]; omega
  have d3 : ((l : Int) == 98) = false := by rw [beq_eq_false_iff_ne]; omega
  have d4 : ((l : Int) == 99) = false := by rw [beq_eq_false_iff_ne]; omega
  have d5 : ((l : Int) == 116) = false := by rw [beq_eq_false_iff_ne]; omega
  clear h1 h2 h3 h4 h5
  go_enter Tryd.func62, Tryd.ntmps62
  go_wp2_with fail
  go_ret
  exact ⟨by rw [HE.out]; rfl, HBA.out⟩
/-- The mark ahead of a field's figures; a relation's sign; a field's word. -/
def markL (l : Nat) : List UInt8 := if l = 97 ∨ l = 98 ∨ l = 99 then [114] else if l = 116 then [116] else []
def signL (z : Int) : List UInt8 := if z = 0 then [60] else if z = 1 then [61] else if z = 2 then [62] else if z = 3 then [60, 62] else [63]
def fieldW (l : Nat) (z : Int) : List UInt8 := if l = 106 then signL z else markL l ++ Lib.itoa z
set_option maxHeartbeats 1000000 in
theorem mark_any (l : Nat) (w : World) : Calls Tryd.prog 93 #[.int .u8 (l : Int)] w fun e w' => e = .returned (.string (tx (markL l))) ∧ w = w' := by
  by_cases h1 : l = 97
  · subst h1
    go_enter Tryd.func93, Tryd.ntmps93
    go_wp2_with fail
    go_ret
    exact ⟨rfl, rfl⟩
  by_cases h2 : l = 98
  · subst h2
    go_enter Tryd.func93, Tryd.ntmps93
    go_wp2_with fail
    go_ret
    exact ⟨rfl, rfl⟩
  by_cases h3 : l = 99
  · subst h3
    go_enter Tryd.func93, Tryd.ntmps93
    go_wp2_with fail
    go_ret
    exact ⟨rfl, rfl⟩
  by_cases h4 : l = 116
  · subst h4
    go_enter Tryd.func93, Tryd.ntmps93
    go_wp2_with fail
    go_ret
    exact ⟨rfl, rfl⟩
  have HE := Lib.hid (show markL l = [] by simp [markL, h1, h2, h3, h4])
  have d1 : ((l : Int) == 97) = false := by rw [beq_eq_false_iff_ne]; omega
  have d2 : ((l : Int) == 98) = false := by rw [beq_eq_false_iff_ne]; omega
  have d3 : ((l : Int) == 99) = false := by rw [beq_eq_false_iff_ne]; omega
  have d4 : ((l : Int) == 116) = false := by rw [beq_eq_false_iff_ne]; omega
  clear h1 h2 h3 h4
  go_enter Tryd.func93, Tryd.ntmps93
  go_wp2_with fail
  go_ret
  exact ⟨ret_str (by rw [HE.out]; rfl), rfl⟩
theorem below_grow {w : World} (k : Nat) (os : Array Obj) : Below w.heap.size w (Sort.grow (w.drewN k) os) := by
  refine ⟨rfl, rfl, rfl, ?_, fun b hb => ?_⟩
  · simp [Sort.grow]
  · show (w.heap ++ os)[b]? = _
    rw [Array.getElem?_append_left hb]
theorem itoa_len (z : Int) (hz : Fits z) : (Lib.itoa z).length ≤ 21 := Lib.itoa_length_le z hz.1 hz.2
theorem mark_len (l : Nat) : (markL l).length ≤ 1 := by
  unfold markL
  split
  · decide
  · split <;> decide
theorem sign_any (z : Int) (w : World) : Calls Tryd.prog 63 #[.int .i64 z] w fun e w' => e = .returned (.string (tx (signL z))) ∧ w = w' := by
  by_cases h : z = 0 ∨ z = 1 ∨ z = 2 ∨ z = 3
  · rcases h with rfl | rfl | rfl | rfl
    all_goals
      go_enter Tryd.func63, Tryd.ntmps63
      go_wp2_with fail
      go_ret
      exact ⟨rfl, rfl⟩
  · have HE := Lib.hid (show signL z = [63] by unfold signL; rw [if_neg (by omega), if_neg (by omega), if_neg (by omega), if_neg (by omega)])
    have d0 : (z == 0) = false := by rw [beq_eq_false_iff_ne]; omega
    have d1 : (z == 1) = false := by rw [beq_eq_false_iff_ne]; omega
    have d2 : (z == 2) = false := by rw [beq_eq_false_iff_ne]; omega
    have d3 : (z == 3) = false := by rw [beq_eq_false_iff_ne]; omega
    clear h
    go_enter Tryd.func63, Tryd.ntmps63
    go_wp2_with fail
    go_ret
    exact ⟨ret_str (by rw [HE.out]; rfl), rfl⟩
set_option maxHeartbeats 1000000 in
theorem show_any (l : Nat) (z : Int) (hz : Fits z) (w : World) (hT : AT w) : Calls Tryd.prog 81 #[.int .u8 (l : Int), .int .i64 z] w fun e w' => e = .returned (.string (tx (fieldW l z))) ∧ Below w.heap.size w w' := by
  by_cases hj : l = 106
  · subst hj
    have HE := Lib.hid (show fieldW 106 z = signL z from rfl)
    by_cases h : 0 ≤ z ∧ z < 4
    · obtain ⟨k, rfl⟩ := Int.eq_ofNat_of_zero_le h.1
      have hc := hT.rels k (by omega)
      have HS := Lib.hid (show signL (k : Int) = (relsS[k]?).getD [] by
        have hk : k = 0 ∨ k = 1 ∨ k = 2 ∨ k = 3 := by omega
        rcases hk with rfl | rfl | rfl | rfl <;> rfl)
      obtain ⟨s, hs⟩ : ∃ s, s = tx ((relsS[k]?).getD []) := ⟨_, rfl⟩
      rw [← hs] at hc
      have HSS := Lib.hid hs
      have d1 : decide ((k : Int) < 0) = false := decide_eq_false (by omega)
      have d2 : decide ((4 : Int) ≤ (k : Int)) = false := decide_eq_false (by omega)
      clear hT hs
      go_enter Tryd.func81, Tryd.ntmps81
      go_wp2_with fail
      go_ret
      exact ⟨ret_str (by rw [HE.out, HS.out, HSS.out]), Below.refl _ _⟩
    · have HS := Lib.hid (show signL z = [63] by unfold signL; rw [if_neg (by omega), if_neg (by omega), if_neg (by omega), if_neg (by omega)])
      by_cases h1 : z < 0
      · have d1 : decide (z < 0) = true := decide_eq_true h1
        clear hT h
        go_enter Tryd.func81, Tryd.ntmps81
        go_wp2_with fail
        go_ret
        exact ⟨ret_str (by rw [HE.out, HS.out]; rfl), Below.refl _ _⟩
      · have d1 : decide (z < 0) = false := decide_eq_false h1
        have d2 : decide ((4 : Int) ≤ z) = true := decide_eq_true (by omega)
        clear hT h
        go_enter Tryd.func81, Tryd.ntmps81
        go_wp2_with fail
        go_ret
        exact ⟨ret_str (by rw [HE.out, HS.out]; rfl), Below.refl _ _⟩
  · have HE := Lib.hid (show fieldW l z = markL l ++ Lib.itoa z from if_neg hj)
    have d1 : ((l : Int) != 106) = true := by rw [bne_iff_ne]; omega
    have HM := Lib.hid (mark_any l w)
    have HI := Lib.hid (Tryd.strconv_Itoa z hz.1 hz.2 w hT.pow)
    have hl : (tx (markL l)).size + (tx (Lib.itoa z)).size ≤ 9223372036854775807 := by
      have h1 := mark_len l
      have h2 := itoa_len z hz
      rw [tx_size, tx_size]; omega
    have HA := Lib.hid (tx_append (markL l) (Lib.itoa z))
    change Hid (Calls _ _ _ _ fun e w' => e = .returned (.string (tx (Lib.itoa z))) ∧ _) at HI
    obtain ⟨s1, hs1⟩ : ∃ s, s = tx (markL l) := ⟨_, rfl⟩
    obtain ⟨s2, hs2⟩ : ∃ s, s = tx (Lib.itoa z) := ⟨_, rfl⟩
    rw [← hs1] at HM hl HA
    rw [← hs2] at HI hl HA
    clear hj hT hs1 hs2
    go_enter Tryd.func81, Tryd.ntmps81
    go_wp2_with fail
    refine Calls.mono HM.out ?_
    rintro e w' ⟨rfl, rfl⟩
    go_wp2_with fail
    refine Calls.mono HI.out ?_
    rintro e w' ⟨rfl, k, os, rfl⟩
    go_wp2_with fail
    go_ret
    exact ⟨ret_str (by rw [HE.out, HA.out]), below_grow k os⟩
end Go.Proofs.YtkeckjgihjpfbaaDoor
