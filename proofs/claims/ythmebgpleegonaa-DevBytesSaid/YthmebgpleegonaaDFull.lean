/- The contract of the law's full. -/
import Derived.Test.YthmebgpleegonaaDStep
import Derived.Deep.RegionLaw
import Derived.Deep.CutRange
import Derived.Deep.CutBlock
namespace Go.Proofs.Ythmebgpleegonaa
set_option maxRecDepth 100000
open Go.RowKit

theorem wpList_load_val {ty : TypeId} {w : World} {b off : Nat} {ops : Array Oper} {rest : List Oper} {o : Oper} {a : Act} {Q : Exit → Act → World → Prop} (hwt : Region.wanted o (yielded ops a.tmps) = true) (x : Operand) (ho : o.op = .load ty x) (hx : a.eval x = .pointer (some ⟨b, off, none⟩)) (v : Value) (hv : (loadVar ty ⟨b, off, none⟩).run Try.prog w = .ok v w)
    (h : wpList Try.prog ops Q rest (a.put o.dst v) w) : wpList Try.prog ops Q (o :: rest) a w := by
  unfold wpList
  rw [if_pos hwt]
  exact .inl (wp_load_val x ho hx v hv h)
theorem wpList_store_val {ty : TypeId} {w w' : World} {b off : Nat} {ops : Array Oper} {rest : List Oper} {o : Oper} {a : Act} {Q : Exit → Act → World → Prop} (hgd : o.guard = none) (x y : Operand) (ho : o.op = .store ty x y) (hx : a.eval x = .pointer (some ⟨b, off, none⟩)) (v : Value) (hy : a.eval y = v) (hv : (storeVar ty ⟨b, off, none⟩ v).run Try.prog w = .ok () w')
    (h : wpList Try.prog ops Q rest (a.put o.dst undef) w') : wpList Try.prog ops Q (o :: rest) a w := by
  refine wpList_plain hgd fun K hK => ?_
  unfold Oper.wp execOp
  simp only [ho, hx, hy, Instr.storeAt, Instr.sureAddr, Sem.run_bind, Sem.run_pure, Result.andThen_ok, hv]
  exact hK _ _ h
/-- A sector in a block of its own. -/
def SBlk (w : World) (b : Nat) (x : Sx) : Prop := w.heap[b]? = some (.cells x.arr 50 (0, 0))
theorem SBlk.at {w : World} {b : Nat} {x : Sx} (h : SBlk w b x) : At w b 0 x.vals := by rw [← x.toList]; exact At.of_block h
theorem SBlk.load {w : World} {b : Nat} {x : Sx} (h : SBlk w b x) : (loadVar 50 ⟨b, 0, none⟩).run Try.prog w = .ok x.val w := load_sx h.at
theorem SBlk.lt {w : World} {b : Nat} {x : Sx} (h : SBlk w b x) : b < w.heap.size := (Array.getElem?_eq_some_iff.1 h).1
theorem SBlk.below {w w' : World} {b : Nat} {x : Sx} (h : SBlk w b x) (hb : Below w.heap.size w w') : SBlk w' b x := (hb.block b h.lt).trans h
theorem setRow_eq {w : World} {g : Nat} {c cs : Array Value} {t : TypeId} (h : w.heap[g]? = some (.cells c t (0, 0))) : (w.setRow g cs).heap[g]? = some (.cells cs t (0, 0)) := setRow_heap w g _ _ t _ h
theorem storeCells_sx {w : World} {b : Nat} {z x : Sx} (h : SBlk w b z) : (storeCells ⟨b, 0, none⟩ x.arr.toList).run Try.prog w = .ok () (w.setRow b x.arr) := by
  have hx := run_storeCells_at (P := Try.prog) b 0 50 x.arr.toList 0 z.arr w h (by simp [z.size, x.size]) (by
    intro u hu
    rw [x.toList] at hu
    exact x.one u hu)
  rw [hx]
  congr 2
  rw [List.drop_eq_nil_of_le (by simp [z.size, x.size])]
  simp
theorem SBlk.store {w : World} {b : Nat} {z : Sx} (h : SBlk w b z) (x : Sx) : (storeVar 50 ⟨b, 0, none⟩ x.val).run Try.prog w = .ok () (w.setRow b x.arr) := by
  have h2 := storeCells_sx (x := x) h
  cases hq : Try.prog.info? 50 with
  | none => have := info50; rw [hq] at this; cases this
  | some i =>
    have hs : i.size = 64 := by have := info50; rw [hq] at this; simpa using this
    unfold Sx.val
    simp [storeVar, sizeOf, typeInfo, hq, Value.cells, hs, x.size]
    exact h2
theorem SBlk.put {w : World} {b : Nat} {z : Sx} (h : SBlk w b z) (x : Sx) : SBlk (w.setRow b x.arr) b x := setRow_eq h
theorem setRow_below {w W : World} {b : Nat} {cs : Array Value} (h : Below w.heap.size w W) (hb : w.heap.size ≤ b) : Below w.heap.size w (W.setRow b cs) :=
  ⟨h.os, h.tape, h.output, by rw [size_setRow]; exact h.size, fun k hk => (setRow_other W b k _ (by omega)).trans (h.block k hk)⟩
/-- The first k bytes set. -/
def fillL (b k : Nat) : List Nat := List.replicate k b ++ List.replicate (64 - k) 0
def fillS (b : Nat) (hb : b < 256) (k : Nat) (hk : k ≤ 64) : Sx := ⟨fillL b k, by simp [fillL]; omega, fun x hx => by
  unfold fillL at hx
  rcases List.mem_append.1 hx with h | h
  · rw [(List.mem_replicate.1 h).2]; exact hb
  · rw [(List.mem_replicate.1 h).2]; decide⟩
theorem fill_set (b k : Nat) (hk : k < 64) : (fillL b k).set k b = fillL b (k + 1) := by
  unfold fillL
  obtain ⟨m, hm⟩ : ∃ m, 64 - k = m + 1 := ⟨63 - k, by omega⟩
  rw [hm, show 64 - (k + 1) = m by omega, List.set_append_right _ _ (by simp)]
  rw [show List.replicate (k + 1) b = List.replicate k b ++ [b] from List.replicate_succ', List.append_assoc]
  simp [List.replicate_succ]
theorem fill_arr (b : Nat) (hb : b < 256) (k : Nat) (hk : k < 64) : (fillS b hb k (by omega)).arr.setIfInBounds k (.int .u8 (b : Int)) = (fillS b hb (k + 1) hk).arr := by
  unfold Sx.arr Sx.vals valsB
  show _ = ((fillL b (k + 1)).map fun (x : Nat) => Value.int .u8 (x : Int)).toArray
  rw [← fill_set b k hk]
  show ((fillL b k).map fun (x : Nat) => Value.int .u8 (x : Int)).toArray.setIfInBounds k (.int .u8 (b : Int)) = _
  rw [List.setIfInBounds_toArray, List.map_set]
theorem results17 {w : World} {g : Nat} {x : Sx} (h : SBlk w g x) (tmps : Array Value) (h2 : tmps.getD 2 undef = .pointer (some ⟨g, 0, none⟩)) : (results Try.f17 tmps).run Try.prog w = .ok x.val w := by
  have h2' : tmps[2]?.getD undef = .pointer (some ⟨g, 0, none⟩) := by simpa using h2
  have e : Try.f17.results = #[.cell 2 50] := Try.results17
  simp only [results, e]
  simp [asAddr, h2', h.load]
set_option maxHeartbeats 2000000 in
theorem full_any (b : Nat) (hb : b < 256) (w : World) : Calls Try.prog 17 #[.int .u8 (b : Int)] w fun e w' => e = .returned (Sx.full b hb).val ∧ Below w.heap.size w w' := by
  go_enter Try.func17, Try.ntmps17
  go_upto_region 1 with fail
  rw [zero_arr]
  have hb1 := (Below.refl w.heap.size w).alloc (Nat.le_refl _) (.cells Sx.zero.arr 50)
  have HB1 := Lib.hid hb1
  have HS1 := Lib.hid (show SBlk (w.alloc (.cells Sx.zero.arr 50)) w.heap.size Sx.zero from heap_alloc_new w _)
  have HZ1 := Lib.hid (show (w.alloc (.cells Sx.zero.arr 50)).heap.size = w.heap.size + 1 from World.size_alloc ..)
  clear hb1
  revert HB1 HS1 HZ1
  generalize World.alloc w _ = W
  intro HB1 HS1 HZ1
  have hst := SBlk.store (w := W.alloc (.cells Sx.zero.arr 50)) (z := Sx.zero) (heap_alloc_new W _) Sx.zero
  rw [World.setRow_alloc_new, ← zero_arr] at hst
  go_upto_region 2 with (refine wpList_store_val rfl (.tmp 3) (.tmp 5) rfl rfl Sx.zero.val (congrArg Value.agg zero_arr) hst ?_)
  rw [zero_arr]
  clear hst
  have hb2 := (Below.refl W.heap.size W).alloc (Nat.le_refl _) (.cells Sx.zero.arr 50)
  have HB2 := Lib.hid (HB1.out.trans (hb2.mono HB1.out.size))
  have HS2 := Lib.hid (HS1.out.below hb2)
  have HX := Lib.hid (show SBlk (W.alloc (.cells Sx.zero.arr 50)) W.heap.size (fillS b hb 0 (by omega)) from heap_alloc_new W _)
  obtain ⟨q, hq⟩ : ∃ q, q = W.heap.size := ⟨_, rfl⟩
  rw [← hq] at HX ⊢
  have HQ := Lib.hid (show w.heap.size < q by rw [hq, HZ1.out]; omega)
  clear hb2 hq
  revert HB2 HS2 HX
  generalize World.alloc W _ = W2
  intro HB2 HS2 HX
  go_wp2_with fail
  go_loopw [4, 6] (fun i4 i wr => ∃ (k : Nat) (hk : k ≤ 64), i = .int .i64 (k : Int) ∧ SBlk wr q (fillS b hb k hk) ∧ SBlk wr w.heap.size Sx.zero ∧ Below w.heap.size w wr) (fun _ i _ => 64 - (intOf i).toNat)
  case atStart => exact ⟨0, by omega, rfl, HX.out, HS2.out, HB2.out⟩
  case round =>
    obtain ⟨k, hk, rfl, hx, hs, hbw⟩ := hrel
    have HX1 := Lib.hid hx
    have HS1' := Lib.hid hs
    have HBW := Lib.hid hbw
    have hqs := HQ.out
    clear hx hs hbw
    by_cases hlt : k < 64
    · have hc := HX1.out.at k (.int .u8 (((fillL b k).getD k 0 : Nat) : Int)) (by
        show (valsB (fillL b k))[k]? = _
        have hl : (fillL b k).length = 64 := by simp [fillL]; omega
        rw [valsB_get, List.getD_eq_getElem?_getD, List.getElem?_eq_getElem (by omega)]
        rfl)
      rw [Nat.zero_add] at hc
      have fr : wr.frozen? ⟨q, k, none⟩ = false := frozen_at HX1.out k
      have HN := Lib.hid (show SBlk (wr.setCell ⟨q, k, none⟩ (.int .u8 (b : Int))) q (fillS b hb (k + 1) (by omega)) from by
        have h := box_set HX1.out k (.int .u8 (b : Int))
        rw [fill_arr b hb k hlt] at h
        exact h)
      have HN2 := Lib.hid (show SBlk (wr.setCell ⟨q, k, none⟩ (.int .u8 (b : Int))) w.heap.size Sx.zero from (Deep.blk_setCell_other wr ⟨q, k, none⟩ _ _ (by show w.heap.size ≠ q; omega)).trans HS1'.out)
      have HN3 := Lib.hid (HBW.out.setCell (p := ⟨q, k, none⟩) (by show w.heap.size ≤ q; omega) (.int .u8 (b : Int)))
      go_wp2_with fail
      go_roundw
      case rel => exact ⟨k + 1, by omega, by go_num, HN.out, HN2.out, HN3.out⟩
      case measure => simp [intOf]; omega
    · obtain rfl : k = 64 := by omega
      have e : fillS b hb 64 hk = Sx.full b hb := Sx.same (by simp [fillS, fillL, Sx.full])
      have hx2 := HX1.out
      rw [e] at hx2
      have hld := hx2.load
      have HP := Lib.hid (HS1'.out.put (Sx.full b hb))
      have HPB := Lib.hid (setRow_below HBW.out (b := w.heap.size) (cs := (Sx.full b hb).arr) (Nat.le_refl _))
      have hst := HS1'.out.store (Sx.full b hb)
      go_wp2_with (first | refine wpList_load_val rfl (.tmp 3) rfl rfl (Sx.full b hb).val hld ?_ | refine wpList_store_val rfl (.tmp 2) (.tmp 13) rfl rfl (Sx.full b hb).val rfl hst ?_)
      exact bodyPost_ret (results17 HP.out _ rfl) rfl ⟨rfl, HPB.out⟩
end Go.Proofs.Ythmebgpleegonaa
