/- The contract of linear.twice. -/
import Derived.Test.YtfajalhpenincaaDoorBlk
import Derived.Deep.RegionLaw
import Derived.StillTail
namespace Go.Proofs.YtfajalhpenincaaDoor
open Go.RowKit

theorem load_var {w : World} {g : Nat} {m : List Nat} (h : Blk w g m) (hm : m.length = 32) : (loadVar 48 ⟨g, 0, none⟩).run Tryd.prog w = .ok (.agg (cols m)) w :=
  run_loadVar_row w g 48 48 (cols m) (0, 0) _ h u48 rfl (info_cols hm)
theorem step_load_cols {ops : Array Oper} {o : Oper} {a : Act} {w : World} {K : Act → World → Prop} {Q : Exit → Act → World → Prop} {E : Prop} (hgd : o.guard = none) (x : Operand) (ho : o.op = .load 48 x)
    (g : Nat) (hx : a.eval x = .pointer (some ⟨g, 0, none⟩)) (m : List Nat) (hl : (loadVar 48 ⟨g, 0, none⟩).run Tryd.prog w = .ok (.agg (cols m)) w)
    (h : K (a.put o.dst (.agg (cols m))) w) : if Region.wanted o (yielded ops a.tmps) = true then Oper.wp Tryd.prog o a w K Q else E := by
  have hw : Region.wanted o (yielded ops a.tmps) = true := by simp [Region.wanted, hgd]
  rw [if_pos hw]
  unfold Oper.wp execOp
  simp only [ho, hx, Instr.loadAt, Instr.sureAddr, Sem.run_bind, Sem.run_pure, Result.andThen_ok, hl]
  exact h

set_option maxHeartbeats 1000000 in
theorem twice_any (m : List Nat) (hm : m.length = 32) (hw : Words m) (w : World) :
    Calls Tryd.prog 25 #[.agg (cols m)] w fun e w' => e = .returned (.agg (cols (tw m))) ∧ Below w.heap.size w w' := by
  go_enter Tryd.func25, Tryd.ntmps25
  go_wp2
  rw [zeros_cols]
  have hb2 : Below w.heap.size w (((w.alloc (.cells (cols m) 48)).alloc (.cells (cols (part [] 0)) 48)).alloc (.cells (cols (part [] 0)) 48)) := (((Below.refl _ w).alloc (Nat.le_refl _) _).alloc (by simp) _).alloc (by simp; omega) _
  have hA : Blk (w.alloc (.cells (cols m) 48)) w.heap.size m := heap_alloc_new w _
  have hB0 := (hA.alloc (.cells (cols (part [] 0)) 48)).alloc (.cells (cols (part [] 0)) 48)
  have hB1 : Blk (((w.alloc (.cells (cols m) 48)).alloc (.cells (cols (part [] 0)) 48)).alloc (.cells (cols (part [] 0)) 48)) (w.heap.size + 1) (part [] 0) := (show Blk ((w.alloc (.cells (cols m) 48)).alloc (.cells (cols (part [] 0)) 48)) (w.heap.size + 1) (part [] 0) from heap_alloc2_new w _ _).alloc _
  have hB2 : Blk (((w.alloc (.cells (cols m) 48)).alloc (.cells (cols (part [] 0)) 48)).alloc (.cells (cols (part [] 0)) 48)) (w.heap.size + 1 + 1) (part (tw m) 0) := by
    have h := heap_alloc2_new (w.alloc (.cells (cols m) 48)) (.cells (cols (part [] 0)) 48) (.cells (cols (part [] 0)) 48)
    rw [World.size_alloc] at h
    exact h
  obtain ⟨w2, hw2⟩ : ∃ w2, w2 = ((w.alloc (.cells (cols m) 48)).alloc (.cells (cols (part [] 0)) 48)).alloc (.cells (cols (part [] 0)) 48) := ⟨_, rfl⟩
  rw [← hw2] at hb2 hB0 hB1 hB2 ⊢
  clear hw2 hA
  have hwl : (tw m).length = 32 := by rw [tw_length, hm]
  go_loopw [4, 5] (fun _ i wr => ∃ k : Nat, k ≤ 32 ∧ i = .int .i64 k ∧ Blk wr w.heap.size m ∧ Blk wr (w.heap.size + 1) (part [] 0) ∧ Blk wr (w.heap.size + 1 + 1) (part (tw m) k) ∧ Below w.heap.size w wr) (fun _ i _ => 32 - (intOf i).toNat)
  case atStart => exact ⟨0, Nat.zero_le _, rfl, hB0, hB1, hB2, hb2⟩
  case round =>
    obtain ⟨k, hk, rfl, h0, h1, h2, hbr⟩ := hrel
    clear hB0 hB1 hB2 hb2
    by_cases hlt : k < 32
    · have hsz : w.heap.size + 1 + 1 < wr.heap.size := (Array.getElem?_eq_some_iff.1 h2).1
      obtain ⟨x, hx⟩ : ∃ x, x = m.getD k 0 := ⟨_, rfl⟩
      have hx32 : x < 4294967296 := by rw [hx]; exact getD_words hw k
      have C := of_any m hm hw x hx32 wr.drew
      have hset := part_set (tw m) hwl k hlt
      rw [tw_getD, ← hx] at hset
      obtain ⟨y, hy⟩ : ∃ y, y = ofL m x := ⟨_, rfl⟩
      rw [← hy] at C hset
      have hck := h0.cell k (by omega)
      rw [← hx] at hck
      have hpl : (part (tw m) k).length = 32 := part_length _ hwl _ hk
      have hic := load_var (show Blk wr.drew w.heap.size m from h0) hm
      have D := Lib.hid C
      have D0 := Lib.hid h0
      have D1 := Lib.hid h1
      have D2 := Lib.hid h2
      have HS := Lib.hid hset
      have HP := Lib.hid hpl
      have HR := Lib.hid hbr
      have HI := Lib.hid hic
      clear C h0 h1 h2 hset hpl hx hy hbr hwl hw hm hic
      go_wp2
      refine wp_region_any (by kernel_rfl) ?_
      change wpAny _ _ _ _ _ _ _ wr.drew
      refine wpAny_take (i := 0) (v := .int .i64 (k : Int)) rfl (by kernel_rfl) (by kernel_rfl) (by kernel_rfl) (fun _ _ _ h => h) (Or.inl ⟨by rfl, fun w => by go_simp⟩) ?_
      refine wpAny_take (i := 2) (v := .int .i64 (k : Int)) rfl (by kernel_rfl) (by kernel_rfl) (by kernel_rfl) (fun _ _ _ h => h) (Or.inl ⟨by rfl, fun w => by go_simp⟩) ?_
      refine wpAny_take (i := 3) (v := .pointer (some ⟨w.heap.size, k, none⟩)) rfl (by kernel_rfl) (by kernel_rfl) (by kernel_rfl) (fun _ _ _ h => h) (Or.inl ⟨by rfl, fun w => by go_simp⟩) ?_
      refine wpAny_ready (rs := [1, 4]) (by kernel_rfl) (by simp) ?_
      refine AllReady.cons (o := { dst := some 9, op := Op.load 48 (Operand.tmp 1), type := 48, pos := "crc.go:94", after := #[], guard := none }) rfl (fun K hK => step_load_cols rfl (.tmp 1) rfl w.heap.size rfl m HI.out ?_) (AllReady.cons (o := { dst := some 12, op := Op.load 23 (Operand.tmp 11), type := 23, pos := "crc.go:94", after := #[{ on := 3, ground := Ground.data }], guard := none }) rfl (fun K hK => ?_) AllReady.nil)
      · go_simp
        refine hK _ _ ?_
        clear hK K
        refine wpAny_ready (rs := [4]) (by kernel_rfl) (by simp) ?_
        refine AllReady.cons (o := { dst := some 12, op := Op.load 23 (Operand.tmp 11), type := 23, pos := "crc.go:94", after := #[{ on := 3, ground := Ground.data }], guard := none }) rfl (fun K hK => ?_) AllReady.nil
        go_simp
        refine hK _ _ ?_
        clear hK K hck
        refine wpAny_of_seq _ 5 _ _ _ (fun j => match j with | 0 => rfl | 1 => rfl | 2 => rfl | j + 3 => by rw [List.getElem?_eq_none (by simp), Array.getElem?_eq_none (by simp; omega)]) (by kernel_rfl) ?_
        go_wp2_with fail
        refine Calls.mono D.out ?_
        rintro e w9 ⟨rfl, hb9⟩
        have hz9 := Below.blk_old hb9 D2.out
        have hc9 := hz9.cell k (by rw [HP.out]; exact hlt)
        have hf9 := hz9.frozen k
        have hn2 := hz9.set k y
        rw [HS.out] at hn2
        have hn0 := (Below.blk_old hb9 D0.out).other ⟨w.heap.size + 1 + 1, k, none⟩ (.int .u32 (y : Int)) (by show w.heap.size ≠ w.heap.size + 1 + 1; omega)
        have hn1 := (Below.blk_old hb9 D1.out).other ⟨w.heap.size + 1 + 1, k, none⟩ (.int .u32 (y : Int)) (by show w.heap.size + 1 ≠ w.heap.size + 1 + 1; omega)
        have hbs : Below w.heap.size w (w9.setCell ⟨w.heap.size + 1 + 1, k, none⟩ (.int .u32 (y : Int))) := ((HR.out.drew).trans (hb9.mono HR.out.size)).setCell (by show w.heap.size ≤ w.heap.size + 1 + 1; omega) _
        have N2 := Lib.hid hn2
        have N1 := Lib.hid hn1
        have N0 := Lib.hid hn0
        have NB := Lib.hid hbs
        clear hn2 hn1 hn0 hbs hz9 hb9
        go_wp2_with fail
        go_roundw
        case rel => exact ⟨k + 1, by omega, by go_num, N0.out, N1.out, N2.out, NB.out⟩
        case measure => simp [intOf]; omega
      · go_simp
        refine hK _ _ ?_
        clear hK K
        refine wpAny_ready (rs := [1]) (by kernel_rfl) (by simp) ?_
        refine AllReady.cons (o := { dst := some 9, op := Op.load 48 (Operand.tmp 1), type := 48, pos := "crc.go:94", after := #[], guard := none }) rfl (fun K hK => step_load_cols rfl (.tmp 1) rfl w.heap.size rfl m HI.out ?_) AllReady.nil
        go_simp
        refine hK _ _ ?_
        clear hK K hck
        refine wpAny_of_seq _ 5 _ _ _ (fun j => match j with | 0 => rfl | 1 => rfl | 2 => rfl | j + 3 => by rw [List.getElem?_eq_none (by simp), Array.getElem?_eq_none (by simp; omega)]) (by kernel_rfl) ?_
        go_wp2_with fail
        refine Calls.mono D.out ?_
        rintro e w9 ⟨rfl, hb9⟩
        have hz9 := Below.blk_old hb9 D2.out
        have hc9 := hz9.cell k (by rw [HP.out]; exact hlt)
        have hf9 := hz9.frozen k
        have hn2 := hz9.set k y
        rw [HS.out] at hn2
        have hn0 := (Below.blk_old hb9 D0.out).other ⟨w.heap.size + 1 + 1, k, none⟩ (.int .u32 (y : Int)) (by show w.heap.size ≠ w.heap.size + 1 + 1; omega)
        have hn1 := (Below.blk_old hb9 D1.out).other ⟨w.heap.size + 1 + 1, k, none⟩ (.int .u32 (y : Int)) (by show w.heap.size + 1 ≠ w.heap.size + 1 + 1; omega)
        have hbs : Below w.heap.size w (w9.setCell ⟨w.heap.size + 1 + 1, k, none⟩ (.int .u32 (y : Int))) := ((HR.out.drew).trans (hb9.mono HR.out.size)).setCell (by show w.heap.size ≤ w.heap.size + 1 + 1; omega) _
        have N2 := Lib.hid hn2
        have N1 := Lib.hid hn1
        have N0 := Lib.hid hn0
        have NB := Lib.hid hbs
        clear hn2 hn1 hn0 hbs hz9 hb9
        go_wp2_with fail
        go_roundw
        case rel => exact ⟨k + 1, by omega, by go_num, N0.out, N1.out, N2.out, NB.out⟩
        case measure => simp [intOf]; omega
    · obtain rfl : k = 32 := by omega
      rw [part_all _ hwl] at h2
      have hst := store_cols h1 (by decide) hwl
      have hcs : (cols (tw m)).size = 32 := by rw [cols_size, hwl]
      have h3 := h1.put (tw m)
      have hb := below_setRow hbr (show w.heap.size ≤ w.heap.size + 1 by omega) (cols (tw m))
      have H3 := Lib.hid h3
      have HB := Lib.hid hb
      clear h0 hbr hb h1 h3
      go_wp2_with (first | refine wpList_load_row rfl 48 (.tmp 3) rfl (w.heap.size + 1 + 1) rfl 48 (cols (tw m)) (0, 0) _ h2 u48 rfl (info_cols hwl) ?_)
      exact bodyPost_ret (v := .agg (cols (tw m))) (results_cell_row rfl _ _ (w.heap.size + 1) 48 _ (0, 0) _ rfl H3.out u48 rfl (info_cols hwl)) rfl ⟨rfl, HB.out⟩
end Go.Proofs.YtfajalhpenincaaDoor
