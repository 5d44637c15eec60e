/- The contract of prog.good. -/
import Derived.Test.YtkeckjgihjpfbaaDoorShape
import Derived.Deep.Heap
namespace Go.Proofs.YtkeckjgihjpfbaaDoor
set_option maxRecDepth 100000
open Go.RowKit

theorem idx_str (ls : List Nat) (hs : ∀ x ∈ ls, x < 256) (k : Nat) (hk : k < ls.length) (w : World) : (Instr.index 9 (.string (strN ls)) (.int .i64 (k : Int))).run Tryd.prog w = .ok (.int .u8 ((ls[k] : Nat) : Int)) w := by
  rw [run_index_string w 9 _ _ _ Tryd.underlying9, dif_pos ⟨by omega, by rw [strN_size]; omega⟩]
  congr 2
  have e := strN_data ls
  have h2 : (strN ls).data.toList[k]? = some (UInt8.ofNat ls[k]) := by rw [e]; simp [hk]
  have h3 : k < (strN ls).data.size := by have := strN_size ls; show k < (strN ls).size; omega
  have h4 : (strN ls).data[k]'h3 = UInt8.ofNat ls[k] := by
    rw [Array.getElem?_toList, Array.getElem?_eq_getElem h3] at h2
    injection h2
  have h5 : ((strN ls)[(k : Int).toNat]'(by rw [strN_size]; omega)) = UInt8.ofNat ls[k] := h4
  rw [h5, UInt8.toNat_ofNat']
  have := hs ls[k] (List.getElem_mem hk)
  omega
theorem field_q (g l : Nat) (w : World) : Calls Tryd.prog 69 #[.pointer (some ⟨g, 0, none⟩), .int .u8 (l : Int)] w fun e w' => e = .returned (.pointer (some ⟨g, offL l, none⟩)) ∧ w' = w := (field_any g l w).mono fun _ _ h => ⟨h.1, h.2.symm⟩
def Ins.get (x : Ins) (k : Nat) : Int := if k = 1 then x.a else if k = 2 then x.b else if k = 3 then x.c else if k = 4 then x.t else x.n
def Ins.set (x : Ins) (k : Nat) (v : Int) : Ins := if k = 1 then { x with a := v } else if k = 2 then { x with b := v } else if k = 3 then { x with c := v } else if k = 4 then { x with t := v } else { x with n := v }
theorem offL_le (l : Nat) : 1 ≤ offL l ∧ offL l ≤ 5 := by
  unfold offL
  split
  · decide
  split
  · decide
  split
  · decide
  split <;> decide
theorem get_at (x : Ins) (k : Nat) (h : 1 ≤ k ∧ k ≤ 5) : x.vals.toArray[k]? = some (.int .i64 (x.get k)) := by
  have : k = 1 ∨ k = 2 ∨ k = 3 ∨ k = 4 ∨ k = 5 := by omega
  rcases this with rfl | rfl | rfl | rfl | rfl <;> rfl
theorem set_at (x : Ins) (k : Nat) (h : 1 ≤ k ∧ k ≤ 5) (v : Int) : x.vals.toArray.setIfInBounds k (.int .i64 v) = (x.set k v).vals.toArray := by
  have : k = 1 ∨ k = 2 ∨ k = 3 ∨ k = 4 ∨ k = 5 := by omega
  rcases this with rfl | rfl | rfl | rfl | rfl <;> rfl
/-- What used is behind some letters. -/
def usedL (x : Ins) (ls : List Nat) : Ins := ls.foldl (fun u l => u.set (offL l) (x.get (offL l))) { Ins.zero with op := x.op }
theorem usedL_snoc (x : Ins) (ls : List Nat) (l : Nat) : usedL x (ls ++ [l]) = (usedL x ls).set (offL l) (x.get (offL l)) := by simp [usedL]
def inB (x : Ins) (z : Int) (l : Nat) : Bool := decide (l = 110) || decide (loL l ≤ x.get (offL l) ∧ x.get (offL l) ≤ hiL l z)
def goodI (x : Ins) (z : Int) : Bool := okOp x.op && ((shapeL x.op).all (inB x z) && decide (usedL x (shapeL x.op) = x))
theorem goodI_no (x : Ins) (z : Int) (h : okOp x.op = false) : goodI x z = false := by simp [goodI, h]
theorem goodI_out (x : Ins) (z : Int) (k : Nat) (hk : k < (shapeL x.op).length) (h : inB x z (shapeL x.op)[k] = false) : goodI x z = false := by
  have : (shapeL x.op).all (inB x z) = false := by
    rw [List.all_eq_false]
    exact ⟨_, List.getElem_mem hk, by simp [h]⟩
  simp [goodI, this]
theorem goodI_end (x : Ins) (z : Int) (h : okOp x.op = true) (ha : ∀ j (h : j < (shapeL x.op).length), inB x z (shapeL x.op)[j] = true) : goodI x z = decide (usedL x (shapeL x.op) = x) := by
  have : (shapeL x.op).all (inB x z) = true := by
    rw [List.all_eq_true]
    intro l hl
    obtain ⟨j, hj, rfl⟩ := List.getElem_of_mem hl
    exact ha j hj
  simp [goodI, this, h]
theorem shapeL_small (op : Int) : ∀ x ∈ shapeL op, x < 256 := by
  unfold shapeL
  repeat' split
  all_goals (intro x hx; simp at hx <;> omega)
theorem shapeL_len (op : Int) : (shapeL op).length ≤ 5 := by
  unfold shapeL
  repeat' split
  all_goals decide
theorem insArr (x : Ins) : #[Value.int .i64 x.op, .int .i64 x.a, .int .i64 x.b, .int .i64 x.c, .int .i64 x.t, .int .i64 x.n] = x.vals.toArray := rfl
theorem heap_set {w : World} {g k : Nat} {x : Ins} {t : TypeId} (h : w.heap[g]? = some (.cells x.vals.toArray t (0, 0))) (hk : 1 ≤ k ∧ k ≤ 5) (v : Int) : (w.setCell ⟨g, k, none⟩ (.int .i64 v)).heap[g]? = some (.cells (x.set k v).vals.toArray t (0, 0)) := by
  rw [← set_at x k hk v]
  simp [World.setCell, Array.getElem?_modify, h]
theorem good_new (w : World) (x : Ins) : Below w.heap.size w ((w.alloc (.cells #[.int .i64 x.op, .int .i64 x.a, .int .i64 x.b, .int .i64 x.c, .int .i64 x.t, .int .i64 x.n] 43)).alloc (.cells #[.int .i64 x.op, .int .i64 0, .int .i64 0, .int .i64 0, .int .i64 0, .int .i64 0] 43)) ∧
    ((w.alloc (.cells #[.int .i64 x.op, .int .i64 x.a, .int .i64 x.b, .int .i64 x.c, .int .i64 x.t, .int .i64 x.n] 43)).alloc (.cells #[.int .i64 x.op, .int .i64 0, .int .i64 0, .int .i64 0, .int .i64 0, .int .i64 0] 43)).heap[w.heap.size]? = some (.cells x.vals.toArray 43 (0, 0)) ∧
    ((w.alloc (.cells #[.int .i64 x.op, .int .i64 x.a, .int .i64 x.b, .int .i64 x.c, .int .i64 x.t, .int .i64 x.n] 43)).alloc (.cells #[.int .i64 x.op, .int .i64 0, .int .i64 0, .int .i64 0, .int .i64 0, .int .i64 0] 43)).heap[w.heap.size + 1]? = some (.cells (usedL x []).vals.toArray 43 (0, 0)) :=
  ⟨((Below.refl _ w).alloc (Nat.le_refl _) _).alloc (by simp) _, (heap_alloc_old _ _ (by simp)).trans (heap_alloc_new w _), by
    have h := heap_alloc_new (w.alloc (.cells #[.int .i64 x.op, .int .i64 x.a, .int .i64 x.b, .int .i64 x.c, .int .i64 x.t, .int .i64 x.n] 43)) (.cells #[.int .i64 x.op, .int .i64 0, .int .i64 0, .int .i64 0, .int .i64 0, .int .i64 0] 43)
    rw [World.size_alloc] at h
    exact h⟩
theorem good_rel (x : Ins) (z : Int) (w : World) {wr : World} (ls : List Nat) (k m : Nat) (v : Int) (l o : Nat) (hkl : k < ls.length) (hl : l = ls[k]) (ho : o = offL l) (hv : v = x.get o) (hin : inB x z l = true) (hlt : k < m)
    (hb : Below w.heap.size w wr) (hg : wr.heap[w.heap.size]? = some (.cells x.vals.toArray 43 (0, 0))) (hu : wr.heap[w.heap.size + 1]? = some (.cells (usedL x (ls.take k)).vals.toArray 43 (0, 0))) (hall : ∀ j (h : j < ls.length), j < k → inB x z ls[j] = true) :
    ∃ k' : Nat, Value.int .i64 ((k : Int) + 1) = .int .i64 (k' : Int) ∧ k' ≤ m ∧ Below w.heap.size w (wr.setCell ⟨w.heap.size + 1, o, none⟩ (.int .i64 v)) ∧ (wr.setCell ⟨w.heap.size + 1, o, none⟩ (.int .i64 v)).heap[w.heap.size]? = some (.cells x.vals.toArray 43 (0, 0)) ∧
      (wr.setCell ⟨w.heap.size + 1, o, none⟩ (.int .i64 v)).heap[w.heap.size + 1]? = some (.cells (usedL x (ls.take k')).vals.toArray 43 (0, 0)) ∧ (∀ j (h : j < ls.length), j < k' → inB x z ls[j] = true) := by
  refine ⟨k + 1, by go_num, by omega, hb.setCell (by show w.heap.size ≤ w.heap.size + 1; omega) _, (Deep.blk_setCell_other wr _ _ _ (by show w.heap.size ≠ w.heap.size + 1; omega)).trans hg, ?_, fun j hj hjk => ?_⟩
  · rw [List.take_succ_eq_append_getElem hkl, usedL_snoc, ← hl, ← ho, ← hv]
    exact heap_set hu (by rw [ho]; exact offL_le l) v
  · rcases Nat.lt_or_ge j k with h | h
    · exact hall j hj h
    · obtain rfl : j = k := by omega
      rw [← hl]; exact hin
set_option maxHeartbeats 4000000 in
theorem good_any (x : Ins) (z : Int) (w : World) (hT : Tab w) : Calls Tryd.prog 64 #[x.val, .int .i64 z] w fun e w' => e = .returned (.bool (goodI x z)) ∧ Below w.heap.size w w' := by
  have hbA := (Below.refl w.heap.size w).alloc (Nat.le_refl _) (.cells #[.int .i64 x.op, .int .i64 x.a, .int .i64 x.b, .int .i64 x.c, .int .i64 x.t, .int .i64 x.n] 43)
  have HS := Lib.hid (shape_any x.op (w.alloc (.cells #[.int .i64 x.op, .int .i64 x.a, .int .i64 x.b, .int .i64 x.c, .int .i64 x.t, .int .i64 x.n] 43)) (hT.ext hbA))
  have HBA := Lib.hid hbA
  have HNEWA := Lib.hid (heap_alloc_new w (.cells #[.int .i64 x.op, .int .i64 x.a, .int .i64 x.b, .int .i64 x.c, .int .i64 x.t, .int .i64 x.n] 43))
  clear hbA hT
  cases hok : okOp x.op with
  | false =>
    rw [goodI_no x z hok]
    rw [hok] at HS
    clear hok
    unfold Ins.val
    go_enter Tryd.func64, Tryd.ntmps64
    go_wp2_with fail
    refine Calls.mono HS.out ?_
    rintro e w1 ⟨rfl, rfl⟩
    go_wp2_with fail
    go_ret
    exact ⟨rfl, HBA.out⟩
  | true =>
    rw [hok] at HS
    obtain ⟨ls, hls⟩ : ∃ ls, ls = shapeL x.op := ⟨_, rfl⟩
    obtain ⟨R, hR⟩ : ∃ R, R = goodI x z := ⟨_, rfl⟩
    have HOUT := Lib.hid (fun k (hk : k < ls.length) (h : inB x z ls[k] = false) => (by subst hls; rw [hR]; exact goodI_out x z k hk h : R = false))
    have HEND := Lib.hid (fun (h : ∀ j (h : j < ls.length), inB x z ls[j] = true) => (by subst hls; rw [hR]; exact goodI_end x z hok h : R = decide (usedL x ls = x)))
    have HSM := Lib.hid (show ∀ y ∈ ls, y < 256 by rw [hls]; exact shapeL_small _)
    have hlen : ls.length ≤ 5 := by rw [hls]; exact shapeL_len _
    rw [← hR]
    rw [← hls] at HS
    obtain ⟨s, hs⟩ : ∃ s, s = strN ls := ⟨_, rfl⟩
    obtain ⟨m, hm⟩ : ∃ m, m = ls.length := ⟨_, rfl⟩
    have hsz : s.size = m := by rw [hs, strN_size, hm]
    have HIX := Lib.hid (fun k (hk : k < ls.length) w => (by rw [hs]; exact idx_str ls HSM.out k hk w : (Instr.index 9 (.string s) (.int .i64 (k : Int))).run Tryd.prog w = .ok (.int .u8 ((ls[k] : Nat) : Int)) w))
    rw [← hs] at HS
    have HM := Lib.hid hm
    clear hok hls hR hs
    rw [← hm] at hlen
    clear hm
    unfold Ins.val
    go_enter Tryd.func64, Tryd.ntmps64
    go_wp2_with fail
    refine Calls.mono HS.out ?_
    rintro e w1 ⟨rfl, rfl⟩
    go_wp2_with fail
    obtain ⟨hB2, hG, hU⟩ := good_new w x
    have HB2 := Lib.hid hB2
    have HG := Lib.hid hG
    have HU := Lib.hid hU
    clear hB2 hG hU
    go_loopw [26] (fun i wr => ∃ k : Nat, i = .int .i64 (k : Int) ∧ k ≤ m ∧ Below w.heap.size w wr ∧ wr.heap[w.heap.size]? = some (.cells x.vals.toArray 43 (0, 0)) ∧ wr.heap[w.heap.size + 1]? = some (.cells (usedL x (ls.take k)).vals.toArray 43 (0, 0)) ∧ (∀ j (h : j < ls.length), j < k → inB x z ls[j] = true)) (fun i _ => m - (intOf i).toNat)
    case atStart => exact ⟨0, rfl, by omega, HB2.out, HG.out, HU.out, fun j _ h => absurd h (by omega)⟩
    case round =>
      obtain ⟨k, rfl, hk, hb, hg, hu, hall⟩ := hrel
      have HBR := Lib.hid hb
      have HGR := Lib.hid hg
      have HUR := Lib.hid hu
      have HALL := Lib.hid hall
      have hsz2 := hb.size
      clear hb hg hu hall
      by_cases hlt : k < m
      · have hkl : k < ls.length := by rw [← HM.out]; exact hlt
        obtain ⟨l, hl⟩ : ∃ l, l = ls[k] := ⟨_, rfl⟩
        have hix := HIX.out k hkl
        rw [← hl] at hix
        have hl256 : l < 256 := by rw [hl]; exact HSM.out _ (List.getElem_mem hkl)
        obtain ⟨o, ho⟩ : ∃ o, o = offL l := ⟨_, rfl⟩
        have hol := offL_le l
        obtain ⟨v, hv⟩ : ∃ v, v = x.get o := ⟨_, rfl⟩
        have HF := Lib.hid (fun g w => field_q g l w)
        have HBD := Lib.hid (fun w => bounds_any l z w)
        rw [← ho] at HF hol
        have hcv : wr.cell? ⟨w.heap.size, o, none⟩ = some (.int .i64 v) := by
          rw [cell_of_row wr _ _ _ 43 (0, 0) HGR.out, get_at x o hol, hv]
        obtain ⟨q, hq⟩ : ∃ q, (usedL x (ls.take k)).vals.toArray[o]? = some (.int .i64 q) := ⟨_, get_at _ o hol⟩
        have hcu : wr.cell? ⟨w.heap.size + 1, o, none⟩ = some (.int .i64 q) := by
          rw [cell_of_row wr _ _ _ 43 (0, 0) HUR.out, hq]
        have hfu : wr.frozen? ⟨w.heap.size + 1, o, none⟩ = false := by simp [World.frozen?, HUR.out]
        have HV := Lib.hid hv
        have HO := Lib.hid ho
        have HL := Lib.hid hl
        clear hv ho hl hq
        go_wp2_with fail
        go_quiet ((go_at_call 69; exact Calls.quiet_of_same (HF.out _ _)))
        go_wp2_with fail
        refine Calls.mono (HBD.out _) ?_
        rintro e w2 ⟨rfl, rfl⟩
        obtain ⟨a, ha⟩ : ∃ a, a = loL l := ⟨_, rfl⟩
        obtain ⟨b, hb⟩ : ∃ b, b = hiL l z := ⟨_, rfl⟩
        rw [← ha, ← hb]
        have HINB := Lib.hid (show inB x z l = (decide (l = 110) || decide (a ≤ v ∧ v ≤ b)) by rw [ha, hb, HV.out, HO.out]; rfl)
        have HBN : Hid (Below w.heap.size w (wr.drewN nq)) := Lib.hid ⟨HBR.out.os, HBR.out.tape, HBR.out.output, HBR.out.size, HBR.out.block⟩
        have HGN : Hid ((wr.drewN nq).heap[w.heap.size]? = some (.cells x.vals.toArray 43 (0, 0))) := HGR
        have HUN : Hid ((wr.drewN nq).heap[w.heap.size + 1]? = some (.cells (usedL x (ls.take k)).vals.toArray 43 (0, 0))) := HUR
        clear ha hb hol
        by_cases h110 : l = 110
        · have d1 : ((l : Int) != 110) = false := by subst h110; rfl
          have hin : inB x z l = true := by rw [HINB.out, decide_eq_true h110]; rfl
          have HIN := Lib.hid hin
          clear hin h110 HINB
          go_wp2_with fail
          go_roundw
          case rel => exact good_rel x z w ls k m v l o hkl HL.out HO.out HV.out HIN.out hlt HBN.out HGN.out HUN.out HALL.out
          case measure => simp [intOf]; omega
        · have d1 : ((l : Int) != 110) = true := by rw [bne_iff_ne]; omega
          by_cases h1 : v < a
          · have d2 : decide (v < a) = true := decide_eq_true h1
            have hin : inB x z l = false := by rw [HINB.out, decide_eq_false h110, decide_eq_false (by omega)]; rfl
            have HR := Lib.hid (HOUT.out k hkl (by rw [← HL.out]; exact hin))
            clear hin h110 HINB h1
            go_wp2_with fail
            go_ret
            exact ⟨ret_bool' HR.out.symm, HBN.out⟩
          · have d2 : decide (v < a) = false := decide_eq_false h1
            by_cases h2 : b < v
            · have d3 : decide (b < v) = true := decide_eq_true h2
              have hin : inB x z l = false := by rw [HINB.out, decide_eq_false h110, decide_eq_false (by omega)]; rfl
              have HR := Lib.hid (HOUT.out k hkl (by rw [← HL.out]; exact hin))
              clear hin h110 HINB h1 h2
              go_wp2_with fail
              go_ret
              exact ⟨ret_bool' HR.out.symm, HBN.out⟩
            · have d3 : decide (b < v) = false := decide_eq_false h2
              have hin : inB x z l = true := by rw [HINB.out, decide_eq_true (show a ≤ v ∧ v ≤ b by omega)]; simp
              have HIN := Lib.hid hin
              clear hin h110 HINB h1 h2
              go_wp2_with fail
              go_roundw
              case rel => exact good_rel x z w ls k m v l o hkl HL.out HO.out HV.out HIN.out hlt HBN.out HGN.out HUN.out HALL.out
              case measure => simp [intOf]; omega
      · obtain rfl : k = m := by omega
        have hres := HEND.out (fun j hj => HALL.out j hj (by rw [HM.out]; exact hj))
        have hu := HUR.out
        rw [HM.out, List.take_length] at hu
        obtain ⟨u, hud⟩ : ∃ u, u = usedL x ls := ⟨_, rfl⟩
        rw [← hud] at hu hres
        have HRES := Lib.hid hres
        have hq := fun w => eql_ins w u x
        unfold Ins.val at hq
        have g := fun j => cell_of_row wr w.heap.size j _ 43 (0, 0) HGR.out
        have gu := fun j => cell_of_row wr (w.heap.size + 1) j _ 43 (0, 0) hu
        have g0 : wr.cell? ⟨w.heap.size, 0, none⟩ = some (.int .i64 x.op) := g 0
        have g1 : wr.cell? ⟨w.heap.size, 1, none⟩ = some (.int .i64 x.a) := g 1
        have g2 : wr.cell? ⟨w.heap.size, 2, none⟩ = some (.int .i64 x.b) := g 2
        have g3 : wr.cell? ⟨w.heap.size, 3, none⟩ = some (.int .i64 x.c) := g 3
        have g4 : wr.cell? ⟨w.heap.size, 4, none⟩ = some (.int .i64 x.t) := g 4
        have g5 : wr.cell? ⟨w.heap.size, 5, none⟩ = some (.int .i64 x.n) := g 5
        have u0 : wr.cell? ⟨w.heap.size + 1, 0, none⟩ = some (.int .i64 u.op) := gu 0
        have u1 : wr.cell? ⟨w.heap.size + 1, 1, none⟩ = some (.int .i64 u.a) := gu 1
        have u2 : wr.cell? ⟨w.heap.size + 1, 2, none⟩ = some (.int .i64 u.b) := gu 2
        have u3 : wr.cell? ⟨w.heap.size + 1, 3, none⟩ = some (.int .i64 u.c) := gu 3
        have u4 : wr.cell? ⟨w.heap.size + 1, 4, none⟩ = some (.int .i64 u.t) := gu 4
        have u5 : wr.cell? ⟨w.heap.size + 1, 5, none⟩ = some (.int .i64 u.n) := gu 5
        clear g gu hu hres hud
        go_wp2_with fail
        go_ret
        exact ⟨ret_bool' HRES.out.symm, HBR.out⟩
end Go.Proofs.YtkeckjgihjpfbaaDoor
