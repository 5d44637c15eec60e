/- DWrite: put together. -/
import Derived.Test.YtjmjehhmkjhalaaQb12
import Derived.Deep.RegionLaw
import Derived.Deep.DrawnRows
import Derived.StillTail
/- Write. -/
namespace Go.Proofs.Ytjmjehhmkjhalaa
set_option maxRecDepth 100000
open Go.RowKit

def eRange : Value := .iface 43 (.int .i64 1)
def eDown : Value := .iface 43 (.int .i64 3)
theorem wpAny_of_list {P : Program} {md : Region.Mode} {ops : Array Oper} {Q' : Exit → Act → World → Prop} {l : List Oper} {k g : Nat} {listed : Array Bool} {a : Act} {w : World} (hl : ops.toList.drop k = l) (hg : l.length = g) (hB : Region.seqB md ops g k listed = true) (h : wpList P ops Q' l a w) : wpAny P md ops Q' g listed a w := by
  subst hg
  exact wpAny_of_seq l k listed a w (fun j => by rw [← hl, List.getElem?_drop, Array.getElem?_toList]) hB h
structure Arm (P : Program) (ops : Array Oper) (Q : Exit → Act → World → Prop) (o : Oper) (K : Act → World → Prop) (a : Act) (w : World) : Prop where
  out : if Region.wanted o (yielded ops a.tmps) = true then Oper.wp P o a w K Q else K (a.put o.dst undef) w
theorem arms_cons {P : Program} {md : Region.Mode} {ops : Array Oper} {Q : Exit → Act → World → Prop} {fuel : Nat} {listed : Array Bool} {a : Act} {w : World} {i : Nat} {o : Oper} {rs : List Nat} (ho : ops[i]? = some o)
    (h : ∀ K' : Act → World → Prop, (∀ a w, wpAny P md ops Q fuel (listed.setIfInBounds i true) a w → K' a w) → Arm P ops Q o K' a w)
    (hs : AllReady P md ops Q fuel listed a w rs) : AllReady P md ops Q fuel listed a w (i :: rs) := AllReady.cons ho (fun K hK => (h K hK).out) hs
theorem arm_of {P : Program} {ops : Array Oper} {Q : Exit → Act → World → Prop} {o : Oper} {K : Act → World → Prop} {a : Act} {w : World} (hg : o.guard = none) (h : Oper.wp P o a w K Q) : Arm P ops Q o K a w := ⟨by
  rw [if_pos (by unfold Region.wanted; rw [hg])]; exact h⟩
theorem arm_load {ops : Array Oper} {w : World} {ty : TypeId} {b off : Nat} {o : Oper} {a : Act} {K : Act → World → Prop} {Q : Exit → Act → World → Prop} (x : Operand) (hg : o.guard = none) (ho : o.op = .load ty x) (hx : a.eval x = .pointer (some ⟨b, off, none⟩)) (v : Value) (hv : (loadVar ty ⟨b, off, none⟩).run Try.prog w = .ok v w) (h : K (a.put o.dst v) w) : Arm Try.prog ops Q o K a w := arm_of hg (wp_load_val x ho hx v hv h)
theorem arm_build {ops : Array Oper} {w : World} {o : Oper} {a : Act} {K : Act → World → Prop} {Q : Exit → Act → World → Prop} (x1 x2 : Operand) (hg : o.guard = none) (ho : o.op = .build 190 #[(0, x1), (1, x2)]) (y : Wx) (h1 : a.eval x1 = .int .i64 y.i) (h2 : a.eval x2 = y.x.val) (h : K (a.put o.dst y.val) w) : Arm Try.prog ops Q o K a w := arm_of hg (wp_build_wx x1 x2 ho y h1 h2 h)
theorem arm_slice {ops : Array Oper} {w : World} {o : Oper} {a : Act} {K : Act → World → Prop} {Q : Exit → Act → World → Prop} (x1 : Operand) (hg : o.guard = none) (ho : o.op = .buildSlice 149 1 #[(0, x1)]) (y : Wx) (h1 : a.eval x1 = y.val) (h : K (a.put o.dst (.slice (some ⟨w.heap.size, 0, none⟩) 1 1)) (w.alloc (.cells y.arr 190))) : Arm Try.prog ops Q o K a w := arm_of hg (wp_slice_wx x1 ho y h1 h)
theorem arm_cell {ops : Array Oper} {w : World} {ty : TypeId} {p : Addr} {o : Oper} {a : Act} {K : Act → World → Prop} {Q : Exit → Act → World → Prop} (x : Operand) (v : Value) (hg : o.guard = none) (ho : o.op = .load ty x) (hx : a.eval x = .pointer (some p)) (hp : (loadVar ty p).run Try.prog w = .ok v w) (h : K (a.put o.dst v) w) : Arm Try.prog ops Q o K a w := arm_of hg (by
  unfold Oper.wp execOp
  simp only [ho, hx, Instr.loadAt, Instr.sureAddr, Sem.run_bind, Sem.run_pure, Result.andThen_ok, hp]
  exact h)
theorem load_sl {w : World} {p : Addr} {v : Value} (h : w.cell? p = some v) : (loadVar 149 p).run Try.prog w = .ok v w := by
  have ha : (isAgg 149).run Try.prog w = .ok false w := by
    unfold isAgg
    rw [Sem.run_bind, run_underlying Try.underlying149 w]
    rfl
  simp [loadVar, Sem.run_bind, ha, run_load, h]
theorem wpl_of_arm {P : Program} {w : World} {ops : Array Oper} {rest : List Oper} {o : Oper} {a : Act} {Q : Exit → Act → World → Prop} (h : Arm P ops Q o (wpList P ops Q rest) a w) (hg : o.guard = none) : wpList P ops Q (o :: rest) a w := by
  have h1 := h.out
  have hw : Region.wanted o (yielded ops a.tmps) = true := by unfold Region.wanted; rw [hg]
  rw [if_pos hw] at h1
  unfold wpList
  rw [if_pos hw]
  exact .inl h1
theorem rdv_wx (w : World) (y : Wx) : Rdv (w.alloc (.cells y.arr 190)) (some ⟨w.heap.size, 0, none⟩) 1 65 y.vals :=
  ⟨y.vlen, fun _ => ⟨_, _, rfl, fun j u hj => by
    rw [Nat.zero_add, cell_of_row _ _ j y.arr _ (0, 0) (heap_alloc_new w _)]
    unfold Wx.arr
    simpa using hj⟩⟩
section
variable {w : World} {F : Nat → Prop} {g : Nat} {p : Pw} {v : Value} {L : List DM}
set_option maxHeartbeats 2000000 in
theorem write_range (h : SetM w F g p v L) (d i : Int) (x : Sx) (hl : L.length ≤ 1000) (hb : hasB (L.map DM.dk) d i = false) :
    Calls Try.prog 40 #[.pointer (some ⟨g, 0, none⟩), .int .i64 d, .int .i64 i, x.val] w fun e w' => e = .returned eRange ∧ Below w.heap.size w w' := by
  have hb1 := (Below.refl w.heap.size w).alloc (Nat.le_refl _) (.cells x.arr 75)
  have HB := Lib.hid hb1
  have hh := has_any (h.below hb1) d i hl
  rw [hb] at hh
  have HH := Lib.hid hh
  unfold Sx.val
  clear hb1 hh hb h
  go_enter Try.func40, Try.ntmps40
  go_upto_region 1 with fail
  revert HB HH
  generalize World.alloc w _ = W
  intro HB HH
  go_wp2_with fail
  refine Calls.mono HH.out ?_
  rintro e w1 ⟨rfl, rfl⟩
  go_wp2_with fail
  go_ret
  exact ⟨rfl, HB.out⟩
set_option maxHeartbeats 2000000 in
theorem write_down (h : SetM w F g p v L) (d i : Int) (x : Sx) (hl : L.length ≤ 1000) (hb : hasB (L.map DM.dk) d i = true) (hs : p.steps ≤ 1000000000) (ha : p.armed ≤ 9223372036854775807) (hp : (stepP p).1 = false) :
    Calls Try.prog 40 #[.pointer (some ⟨g, 0, none⟩), .int .i64 d, .int .i64 i, x.val] w fun e w' => e = .returned eDown ∧ SetM w' F g (stepP p).2 v L ∧ Chg w w' F F := by
  have hb1 := (Below.refl w.heap.size w).alloc (Nat.le_refl _) (.cells x.arr 75)
  have HB := Lib.hid hb1
  have h1 := h.below hb1
  have hh := has_any h1 d i hl
  rw [hb] at hh
  have HH := Lib.hid hh
  have hst := step_any h1 hs ha
  rw [hp] at hst
  have HST := Lib.hid hst
  unfold Sx.val
  clear hb1 hh hb h h1 hst hp
  go_enter Try.func40, Try.ntmps40
  go_upto_region 1 with fail
  revert HB HH HST
  generalize World.alloc w _ = W
  intro HB HH HST
  go_wp2_with fail
  refine Calls.mono HH.out ?_
  rintro e w1 ⟨rfl, rfl⟩
  go_wp2_with fail
  refine Calls.mono HST.out ?_
  rintro e w2 ⟨rfl, h2, h3⟩
  have H2 := Lib.hid h2
  have H3 := Lib.hid ((Chg.of_below HB.out F).trans h3)
  clear h2 h3
  go_wp2_with fail
  go_ret
  exact ⟨rfl, H2.out, H3.out⟩
set_option maxHeartbeats 8000000 in
theorem write_yes (h : SetM w F g p v L) (j : Nat) (hj : j < L.length) (i : Int) (x : Sx) (hl : L.length ≤ 1000) (hi : 0 ≤ i ∧ i < (L[j].dk.size : Int)) (hw : L[j].dk.waits.length ≤ 1000000000) (hs : p.steps ≤ 1000000000) (ha : p.armed ≤ 9223372036854775807) (hp : (stepP p).1 = true) :
    Calls Try.prog 40 #[.pointer (some ⟨g, 0, none⟩), .int .i64 (j : Int), .int .i64 i, x.val] w fun e w' => e = .returned .nilIface ∧ ∃ F' vw, SetM w' F' g (stepP p).2 v (L.set j ⟨⟨L[j].dk.size, L[j].dk.sure, L[j].dk.waits ++ [⟨i, x⟩]⟩, L[j].m, L[j].n, vw⟩) ∧ Chg w w' F F' := by
  have hb1 := (Below.refl w.heap.size w).alloc (Nat.le_refl _) (.cells x.arr 75)
  have HB := Lib.hid hb1
  have h1 := h.below hb1
  have hh := has_any h1 (j : Int) i hl
  rw [hasB_at hj, decide_eq_true hi.1, decide_eq_true hi.2] at hh
  have HH := Lib.hid hh
  have hst := step_any h1 hs ha
  rw [hp] at hst
  have HST := Lib.hid hst
  have HX := Lib.hid (show SBlk (w.alloc (.cells x.arr 75)) w.heap.size x from heap_alloc_new w _)
  have HNF := Lib.hid (show ¬ F w.heap.size from fun e => by have := h.Flt _ e; omega)
  unfold Sx.val
  clear hb1 hh h h1 hst hp
  go_enter Try.func40, Try.ntmps40
  go_upto_region 1 with fail
  revert HB HH HST HX
  generalize World.alloc w _ = W
  intro HB HH HST HX
  go_wp2_with fail
  refine Calls.mono HH.out ?_
  rintro e w1 ⟨rfl, rfl⟩
  go_wp2_with fail
  refine Calls.mono HST.out ?_
  rintro e w2 ⟨rfl, h2, h3⟩
  have HX2 := Lib.hid (show SBlk w2 w.heap.size x from (h3.block _ HX.out.lt HNF.out).trans HX.out)
  have H3 := Lib.hid ((Chg.of_below HB.out F).trans h3)
  obtain ⟨_, _, _, _, c4⟩ := h2.c
  obtain ⟨A, c, rfl, hle, hc⟩ := h2.slice
  obtain ⟨b, rfl, hFb, _, _, _, _, k2⟩ := hc j hj
  have hown := (h2.each j hj).waits
  have H2 := Lib.hid h2
  obtain ⟨vw, hvw⟩ : ∃ z, z = L[j].v := ⟨_, rfl⟩
  have HVW := Lib.hid hvw
  rw [← hvw] at hown k2
  obtain ⟨n, hn⟩ : ∃ n, n = L[j].dk.waits.length := ⟨_, rfl⟩
  have HN := Lib.hid hn
  rw [← hn] at hown hw
  obtain ⟨Aw, cw, rfl, _, _, hcw⟩ := rdv_own hown
  have HOWN := Lib.hid hown
  obtain ⟨N, hNN⟩ : ∃ N, N = L.length := ⟨_, rfl⟩
  have HNN := Lib.hid hNN
  rw [← hNN] at c4 hle
  have hjN : j < N := by rw [hNN]; exact hj
  clear h2 h3 hc hvw hn hown hNN
  go_upto_region 8 with fail
  clear c4
  have hldx : (loadVar 75 ⟨w.heap.size, 0, none⟩).run Try.prog w2.drew = .ok x.val w2.drew := SBlk.load (w := w2.drew) HX2.out
  have d2 : w2.drew.cell? ⟨b, j * 3 + 2, none⟩ = some (.slice Aw n cw) := k2
  have hd := Below.drew (Below.refl w2.heap.size w2)
  have hs3 : SetM w2.drew F g (stepP p).2 (.slice (some ⟨b, 0, none⟩) N c) L := by rw [HNN.out]; exact H2.out.below hd
  have hc3 := H3.out.trans (Chg.of_below hd F)
  have ho3 : w2.drew.ownsRow 0 190 65 (.slice Aw n cw) n (rowV Wx.vals L[j].dk.waits) := HOWN.out
  clear H2 H3 HOWN HX2 k2 hd
  refine wp_region_any (by kernel_rfl) ?_
  change wpAny _ _ _ _ _ _ _ w2.drew
  generalize w2.drew = wd at hldx d2 hs3 hc3 ho3 ⊢
  have e2 := (World.cell?_alloc_lt wd (.cells (⟨i, x⟩ : Wx).arr 190) ⟨b, j * 3 + 2, none⟩ (World.block_lt_of_cell? _ _ d2)).trans d2
  have HLD := Lib.hid hldx
  have HS := Lib.hid hs3
  have HC := Lib.hid hc3
  have HO := Lib.hid ho3
  clear hldx hs3 hc3 ho3
  refine wpAny_take (i := 0) (v := .pointer (some ⟨b, j * 3, none⟩)) rfl (by kernel_rfl) (by kernel_rfl) (by kernel_rfl) (fun _ _ _ h => h) (Or.inl ⟨by rfl, fun w => by go_simp⟩) ?_
  refine wpAny_take (i := 1) (v := .pointer (some ⟨b, j * 3, none⟩)) rfl (by kernel_rfl) (by kernel_rfl) (by kernel_rfl) (fun _ _ _ h => h) (Or.inl ⟨by rfl, fun w => by go_simp⟩) ?_
  refine wpAny_take (i := 2) (v := .pointer (some ⟨b, j * 3, none⟩)) rfl (by kernel_rfl) (by kernel_rfl) (by kernel_rfl) (fun _ _ _ h => h) (Or.inl ⟨by rfl, fun w => by go_simp⟩) ?_
  refine wpAny_take (i := 3) (v := .pointer (some ⟨b, j * 3 + 2, none⟩)) rfl (by kernel_rfl) (by kernel_rfl) (by kernel_rfl) (fun _ _ _ h => h) (Or.inl ⟨by rfl, fun w => by go_simp⟩) ?_
  refine wpAny_take (i := 5) (v := .int .i64 i) rfl (by kernel_rfl) (by kernel_rfl) (by kernel_rfl) (fun _ _ _ h => h) (Or.inl ⟨by rfl, fun w => by go_simp⟩) ?_
  simp only [Act.put, List.setIfInBounds_toArray]
  refine wpAny_ready (rs := [4, 6]) (by kernel_rfl) (by simp) ?_
  refine arms_cons (o := { dst := some 35, op := Op.load 149 (Operand.tmp 34), type := 149, pos := "dev.go:70", after := #[{ on := 3, ground := Ground.data }], guard := none }) rfl (fun K hK => ?_) (arms_cons (o := { dst := some 37, op := Op.load 75 (Operand.tmp 7), type := 75, pos := "dev.go:70", after := #[], guard := none }) rfl (fun K hK => ?_) AllReady.nil)
  · refine arm_cell (p := ⟨b, j * 3 + 2, none⟩) (.tmp 34) (.slice Aw n cw) rfl rfl (by kernel_rfl) (load_sl (by first | exact e2 | exact d2)) ?_
    refine hK _ _ ?_
    clear hK K
    try simp only [Act.put]
    refine wpAny_of_list (k := 6) (l := [{ dst := some 37, op := Op.load 75 (Operand.tmp 7), type := 75, pos := "dev.go:70", after := #[], guard := none }, { dst := some 38, op := Op.build 190 #[(0, Operand.tmp 36), (1, Operand.tmp 37)], type := 190, pos := "dev.go:70", after := #[{ on := 5, ground := Ground.data }, { on := 6, ground := Ground.data }], guard := none }, { dst := some 39, op := Op.buildSlice 149 1 #[(0, Operand.tmp 38)], type := 149, pos := "dev.go:70", after := #[{ on := 7, ground := Ground.data }], guard := none }, { dst := some 40, op := Op.call { callee := Callee.builtin Builtin.append, args := #[Operand.tmp 35, Operand.tmp 39], argTypes := #[149, 149] }, type := 149, pos := "dev.go:70", after := #[{ on := 4, ground := Ground.data }, { on := 8, ground := Ground.data }], guard := none }, { dst := some 41, op := Op.nilCheck (Operand.tmp 31), type := 0, pos := "dev.go:70", after := #[{ on := 0, ground := Ground.data }, { on := 0, ground := Ground.phase }, { on := 1, ground := Ground.phase }, { on := 2, ground := Ground.phase }, { on := 3, ground := Ground.phase }, { on := 4, ground := Ground.phase }, { on := 5, ground := Ground.phase }, { on := 6, ground := Ground.phase }, { on := 7, ground := Ground.phase }, { on := 8, ground := Ground.phase }, { on := 9, ground := Ground.phase }], guard := none }, { dst := some 42, op := Op.fieldAddr 151 (Operand.tmp 41) 2, type := 0, pos := "dev.go:70", after := #[{ on := 10, ground := Ground.data }, { on := 0, ground := Ground.phase }, { on := 1, ground := Ground.phase }, { on := 2, ground := Ground.phase }, { on := 3, ground := Ground.phase }, { on := 4, ground := Ground.phase }, { on := 5, ground := Ground.phase }, { on := 6, ground := Ground.phase }, { on := 7, ground := Ground.phase }, { on := 8, ground := Ground.phase }, { on := 9, ground := Ground.phase }], guard := none }, { dst := none, op := Op.store 149 (Operand.tmp 42) (Operand.tmp 40), type := 0, pos := "dev.go:70", after := #[{ on := 11, ground := Ground.data }, { on := 9, ground := Ground.data }, { on := 9, ground := Ground.chain }, { on := 0, ground := Ground.phase }, { on := 1, ground := Ground.phase }, { on := 2, ground := Ground.phase }, { on := 3, ground := Ground.phase }, { on := 4, ground := Ground.phase }, { on := 5, ground := Ground.phase }, { on := 6, ground := Ground.phase }, { on := 7, ground := Ground.phase }, { on := 8, ground := Ground.phase }, { on := 9, ground := Ground.phase }], guard := none }]) rfl rfl (by kernel_rfl) ?_
    refine wpl_of_arm (arm_load (b := w.heap.size) (off := 0) (.tmp 7) rfl rfl (by kernel_rfl) x.val HLD.out ?_) rfl
    try simp only [Act.put]
    refine wpl_of_arm (arm_build (.tmp 36) (.tmp 37) rfl rfl ⟨i, x⟩ (by kernel_rfl) (by kernel_rfl) ?_) rfl
    try simp only [Act.put]
    refine wpl_of_arm (arm_slice (.tmp 38) rfl rfl ⟨i, x⟩ (by kernel_rfl) ?_) rfl
    try simp only [Act.put]
    refine wpList_append_rowv elem79 rfl (.tmp 35) (.tmp 39) rfl 0 (.slice Aw n cw) n (rowV Wx.vals L[j].dk.waits) (by kernel_rfl) (World.ownsRow.alloc (w := wd) HO.out _) (some ⟨wd.heap.size, 0, none⟩) 1 1 (⟨i, x⟩ : Wx).vals (by kernel_rfl) (rdv_wx wd ⟨i, x⟩) (Wx.one _) (fun h => by cases h) (by unfold maxLen; omega) (by omega) (by omega) ?_
    intro v6 w6 hown6 hg6 hb6
    try simp only [Act.put]
    obtain ⟨A6, c6, rfl, _, _, _⟩ := rdv_own hown6
    have hwt := SetM.wait (w := wd) (o := .cells (⟨i, x⟩ : Wx).arr 190) (W' := w6) (by rw [← HNN.out]; exact HS.out) hj ⟨i, x⟩ (by rw [← HN.out]; exact hown6) (by rw [← HVW.out]; exact hg6) (by rw [← HVW.out]; exact hb6)
    rw [← HVW.out, ← HNN.out] at hwt
    obtain ⟨q1, q2, q3, q4⟩ := hwt
    have Q3 := Lib.hid q3
    have Q4 := Lib.hid (HC.out.trans q4)
    clear q3 q4
    go_wp2_with fail
    go_ret
    refine ⟨rfl, _, .slice A6 (n + 1) c6, ?_, Q4.out⟩
    rw [← HNN.out]
    exact Q3.out
  · refine arm_load (b := w.heap.size) (off := 0) (.tmp 7) rfl rfl (by kernel_rfl) x.val HLD.out ?_
    refine hK _ _ ?_
    clear hK K
    try simp only [Act.put]
    refine wpAny_ready (rs := [4, 7]) (by kernel_rfl) (by simp) ?_
    refine arms_cons (o := { dst := some 35, op := Op.load 149 (Operand.tmp 34), type := 149, pos := "dev.go:70", after := #[{ on := 3, ground := Ground.data }], guard := none }) rfl (fun K hK => ?_) (arms_cons (o := { dst := some 38, op := Op.build 190 #[(0, Operand.tmp 36), (1, Operand.tmp 37)], type := 190, pos := "dev.go:70", after := #[{ on := 5, ground := Ground.data }, { on := 6, ground := Ground.data }], guard := none }) rfl (fun K hK => ?_) AllReady.nil)
    · refine arm_cell (p := ⟨b, j * 3 + 2, none⟩) (.tmp 34) (.slice Aw n cw) rfl rfl (by kernel_rfl) (load_sl (by first | exact e2 | exact d2)) ?_
      refine hK _ _ ?_
      clear hK K
      try simp only [Act.put]
      refine wpAny_of_list (k := 7) (l := [{ dst := some 38, op := Op.build 190 #[(0, Operand.tmp 36), (1, Operand.tmp 37)], type := 190, pos := "dev.go:70", after := #[{ on := 5, ground := Ground.data }, { on := 6, ground := Ground.data }], guard := none }, { dst := some 39, op := Op.buildSlice 149 1 #[(0, Operand.tmp 38)], type := 149, pos := "dev.go:70", after := #[{ on := 7, ground := Ground.data }], guard := none }, { dst := some 40, op := Op.call { callee := Callee.builtin Builtin.append, args := #[Operand.tmp 35, Operand.tmp 39], argTypes := #[149, 149] }, type := 149, pos := "dev.go:70", after := #[{ on := 4, ground := Ground.data }, { on := 8, ground := Ground.data }], guard := none }, { dst := some 41, op := Op.nilCheck (Operand.tmp 31), type := 0, pos := "dev.go:70", after := #[{ on := 0, ground := Ground.data }, { on := 0, ground := Ground.phase }, { on := 1, ground := Ground.phase }, { on := 2, ground := Ground.phase }, { on := 3, ground := Ground.phase }, { on := 4, ground := Ground.phase }, { on := 5, ground := Ground.phase }, { on := 6, ground := Ground.phase }, { on := 7, ground := Ground.phase }, { on := 8, ground := Ground.phase }, { on := 9, ground := Ground.phase }], guard := none }, { dst := some 42, op := Op.fieldAddr 151 (Operand.tmp 41) 2, type := 0, pos := "dev.go:70", after := #[{ on := 10, ground := Ground.data }, { on := 0, ground := Ground.phase }, { on := 1, ground := Ground.phase }, { on := 2, ground := Ground.phase }, { on := 3, ground := Ground.phase }, { on := 4, ground := Ground.phase }, { on := 5, ground := Ground.phase }, { on := 6, ground := Ground.phase }, { on := 7, ground := Ground.phase }, { on := 8, ground := Ground.phase }, { on := 9, ground := Ground.phase }], guard := none }, { dst := none, op := Op.store 149 (Operand.tmp 42) (Operand.tmp 40), type := 0, pos := "dev.go:70", after := #[{ on := 11, ground := Ground.data }, { on := 9, ground := Ground.data }, { on := 9, ground := Ground.chain }, { on := 0, ground := Ground.phase }, { on := 1, ground := Ground.phase }, { on := 2, ground := Ground.phase }, { on := 3, ground := Ground.phase }, { on := 4, ground := Ground.phase }, { on := 5, ground := Ground.phase }, { on := 6, ground := Ground.phase }, { on := 7, ground := Ground.phase }, { on := 8, ground := Ground.phase }, { on := 9, ground := Ground.phase }], guard := none }]) rfl rfl (by kernel_rfl) ?_
      refine wpl_of_arm (arm_build (.tmp 36) (.tmp 37) rfl rfl ⟨i, x⟩ (by kernel_rfl) (by kernel_rfl) ?_) rfl
      try simp only [Act.put]
      refine wpl_of_arm (arm_slice (.tmp 38) rfl rfl ⟨i, x⟩ (by kernel_rfl) ?_) rfl
      try simp only [Act.put]
      refine wpList_append_rowv elem79 rfl (.tmp 35) (.tmp 39) rfl 0 (.slice Aw n cw) n (rowV Wx.vals L[j].dk.waits) (by kernel_rfl) (World.ownsRow.alloc (w := wd) HO.out _) (some ⟨wd.heap.size, 0, none⟩) 1 1 (⟨i, x⟩ : Wx).vals (by kernel_rfl) (rdv_wx wd ⟨i, x⟩) (Wx.one _) (fun h => by cases h) (by unfold maxLen; omega) (by omega) (by omega) ?_
      intro v6 w6 hown6 hg6 hb6
      try simp only [Act.put]
      obtain ⟨A6, c6, rfl, _, _, _⟩ := rdv_own hown6
      have hwt := SetM.wait (w := wd) (o := .cells (⟨i, x⟩ : Wx).arr 190) (W' := w6) (by rw [← HNN.out]; exact HS.out) hj ⟨i, x⟩ (by rw [← HN.out]; exact hown6) (by rw [← HVW.out]; exact hg6) (by rw [← HVW.out]; exact hb6)
      rw [← HVW.out, ← HNN.out] at hwt
      obtain ⟨q1, q2, q3, q4⟩ := hwt
      have Q3 := Lib.hid q3
      have Q4 := Lib.hid (HC.out.trans q4)
      clear q3 q4
      go_wp2_with fail
      go_ret
      refine ⟨rfl, _, .slice A6 (n + 1) c6, ?_, Q4.out⟩
      rw [← HNN.out]
      exact Q3.out
    · refine arm_build (.tmp 36) (.tmp 37) rfl rfl ⟨i, x⟩ (by kernel_rfl) (by kernel_rfl) ?_
      refine hK _ _ ?_
      clear hK K
      try simp only [Act.put]
      refine wpAny_ready (rs := [4, 8]) (by kernel_rfl) (by simp) ?_
      refine arms_cons (o := { dst := some 35, op := Op.load 149 (Operand.tmp 34), type := 149, pos := "dev.go:70", after := #[{ on := 3, ground := Ground.data }], guard := none }) rfl (fun K hK => ?_) (arms_cons (o := { dst := some 39, op := Op.buildSlice 149 1 #[(0, Operand.tmp 38)], type := 149, pos := "dev.go:70", after := #[{ on := 7, ground := Ground.data }], guard := none }) rfl (fun K hK => ?_) AllReady.nil)
      · refine arm_cell (p := ⟨b, j * 3 + 2, none⟩) (.tmp 34) (.slice Aw n cw) rfl rfl (by kernel_rfl) (load_sl (by first | exact e2 | exact d2)) ?_
        refine hK _ _ ?_
        clear hK K
        try simp only [Act.put]
        refine wpAny_of_list (k := 8) (l := [{ dst := some 39, op := Op.buildSlice 149 1 #[(0, Operand.tmp 38)], type := 149, pos := "dev.go:70", after := #[{ on := 7, ground := Ground.data }], guard := none }, { dst := some 40, op := Op.call { callee := Callee.builtin Builtin.append, args := #[Operand.tmp 35, Operand.tmp 39], argTypes := #[149, 149] }, type := 149, pos := "dev.go:70", after := #[{ on := 4, ground := Ground.data }, { on := 8, ground := Ground.data }], guard := none }, { dst := some 41, op := Op.nilCheck (Operand.tmp 31), type := 0, pos := "dev.go:70", after := #[{ on := 0, ground := Ground.data }, { on := 0, ground := Ground.phase }, { on := 1, ground := Ground.phase }, { on := 2, ground := Ground.phase }, { on := 3, ground := Ground.phase }, { on := 4, ground := Ground.phase }, { on := 5, ground := Ground.phase }, { on := 6, ground := Ground.phase }, { on := 7, ground := Ground.phase }, { on := 8, ground := Ground.phase }, { on := 9, ground := Ground.phase }], guard := none }, { dst := some 42, op := Op.fieldAddr 151 (Operand.tmp 41) 2, type := 0, pos := "dev.go:70", after := #[{ on := 10, ground := Ground.data }, { on := 0, ground := Ground.phase }, { on := 1, ground := Ground.phase }, { on := 2, ground := Ground.phase }, { on := 3, ground := Ground.phase }, { on := 4, ground := Ground.phase }, { on := 5, ground := Ground.phase }, { on := 6, ground := Ground.phase }, { on := 7, ground := Ground.phase }, { on := 8, ground := Ground.phase }, { on := 9, ground := Ground.phase }], guard := none }, { dst := none, op := Op.store 149 (Operand.tmp 42) (Operand.tmp 40), type := 0, pos := "dev.go:70", after := #[{ on := 11, ground := Ground.data }, { on := 9, ground := Ground.data }, { on := 9, ground := Ground.chain }, { on := 0, ground := Ground.phase }, { on := 1, ground := Ground.phase }, { on := 2, ground := Ground.phase }, { on := 3, ground := Ground.phase }, { on := 4, ground := Ground.phase }, { on := 5, ground := Ground.phase }, { on := 6, ground := Ground.phase }, { on := 7, ground := Ground.phase }, { on := 8, ground := Ground.phase }, { on := 9, ground := Ground.phase }], guard := none }]) rfl rfl (by kernel_rfl) ?_
        refine wpl_of_arm (arm_slice (.tmp 38) rfl rfl ⟨i, x⟩ (by kernel_rfl) ?_) rfl
        try simp only [Act.put]
        refine wpList_append_rowv elem79 rfl (.tmp 35) (.tmp 39) rfl 0 (.slice Aw n cw) n (rowV Wx.vals L[j].dk.waits) (by kernel_rfl) (World.ownsRow.alloc (w := wd) HO.out _) (some ⟨wd.heap.size, 0, none⟩) 1 1 (⟨i, x⟩ : Wx).vals (by kernel_rfl) (rdv_wx wd ⟨i, x⟩) (Wx.one _) (fun h => by cases h) (by unfold maxLen; omega) (by omega) (by omega) ?_
        intro v6 w6 hown6 hg6 hb6
        try simp only [Act.put]
        obtain ⟨A6, c6, rfl, _, _, _⟩ := rdv_own hown6
        have hwt := SetM.wait (w := wd) (o := .cells (⟨i, x⟩ : Wx).arr 190) (W' := w6) (by rw [← HNN.out]; exact HS.out) hj ⟨i, x⟩ (by rw [← HN.out]; exact hown6) (by rw [← HVW.out]; exact hg6) (by rw [← HVW.out]; exact hb6)
        rw [← HVW.out, ← HNN.out] at hwt
        obtain ⟨q1, q2, q3, q4⟩ := hwt
        have Q3 := Lib.hid q3
        have Q4 := Lib.hid (HC.out.trans q4)
        clear q3 q4
        go_wp2_with fail
        go_ret
        refine ⟨rfl, _, .slice A6 (n + 1) c6, ?_, Q4.out⟩
        rw [← HNN.out]
        exact Q3.out
      · refine arm_slice (.tmp 38) rfl rfl ⟨i, x⟩ (by kernel_rfl) ?_
        refine hK _ _ ?_
        clear hK K
        try simp only [Act.put]
        refine wpAny_ready (rs := [4]) (by kernel_rfl) (by simp) ?_
        refine arms_cons (o := { dst := some 35, op := Op.load 149 (Operand.tmp 34), type := 149, pos := "dev.go:70", after := #[{ on := 3, ground := Ground.data }], guard := none }) rfl (fun K hK => ?_) AllReady.nil
        · refine arm_cell (p := ⟨b, j * 3 + 2, none⟩) (.tmp 34) (.slice Aw n cw) rfl rfl (by kernel_rfl) (load_sl (by first | exact e2 | exact d2)) ?_
          refine hK _ _ ?_
          clear hK K
          try simp only [Act.put]
          refine wpAny_of_list (k := 9) (l := [{ dst := some 40, op := Op.call { callee := Callee.builtin Builtin.append, args := #[Operand.tmp 35, Operand.tmp 39], argTypes := #[149, 149] }, type := 149, pos := "dev.go:70", after := #[{ on := 4, ground := Ground.data }, { on := 8, ground := Ground.data }], guard := none }, { dst := some 41, op := Op.nilCheck (Operand.tmp 31), type := 0, pos := "dev.go:70", after := #[{ on := 0, ground := Ground.data }, { on := 0, ground := Ground.phase }, { on := 1, ground := Ground.phase }, { on := 2, ground := Ground.phase }, { on := 3, ground := Ground.phase }, { on := 4, ground := Ground.phase }, { on := 5, ground := Ground.phase }, { on := 6, ground := Ground.phase }, { on := 7, ground := Ground.phase }, { on := 8, ground := Ground.phase }, { on := 9, ground := Ground.phase }], guard := none }, { dst := some 42, op := Op.fieldAddr 151 (Operand.tmp 41) 2, type := 0, pos := "dev.go:70", after := #[{ on := 10, ground := Ground.data }, { on := 0, ground := Ground.phase }, { on := 1, ground := Ground.phase }, { on := 2, ground := Ground.phase }, { on := 3, ground := Ground.phase }, { on := 4, ground := Ground.phase }, { on := 5, ground := Ground.phase }, { on := 6, ground := Ground.phase }, { on := 7, ground := Ground.phase }, { on := 8, ground := Ground.phase }, { on := 9, ground := Ground.phase }], guard := none }, { dst := none, op := Op.store 149 (Operand.tmp 42) (Operand.tmp 40), type := 0, pos := "dev.go:70", after := #[{ on := 11, ground := Ground.data }, { on := 9, ground := Ground.data }, { on := 9, ground := Ground.chain }, { on := 0, ground := Ground.phase }, { on := 1, ground := Ground.phase }, { on := 2, ground := Ground.phase }, { on := 3, ground := Ground.phase }, { on := 4, ground := Ground.phase }, { on := 5, ground := Ground.phase }, { on := 6, ground := Ground.phase }, { on := 7, ground := Ground.phase }, { on := 8, ground := Ground.phase }, { on := 9, ground := Ground.phase }], guard := none }]) rfl rfl (by kernel_rfl) ?_
          refine wpList_append_rowv elem79 rfl (.tmp 35) (.tmp 39) rfl 0 (.slice Aw n cw) n (rowV Wx.vals L[j].dk.waits) (by kernel_rfl) (World.ownsRow.alloc (w := wd) HO.out _) (some ⟨wd.heap.size, 0, none⟩) 1 1 (⟨i, x⟩ : Wx).vals (by kernel_rfl) (rdv_wx wd ⟨i, x⟩) (Wx.one _) (fun h => by cases h) (by unfold maxLen; omega) (by omega) (by omega) ?_
          intro v6 w6 hown6 hg6 hb6
          try simp only [Act.put]
          obtain ⟨A6, c6, rfl, _, _, _⟩ := rdv_own hown6
          have hwt := SetM.wait (w := wd) (o := .cells (⟨i, x⟩ : Wx).arr 190) (W' := w6) (by rw [← HNN.out]; exact HS.out) hj ⟨i, x⟩ (by rw [← HN.out]; exact hown6) (by rw [← HVW.out]; exact hg6) (by rw [← HVW.out]; exact hb6)
          rw [← HVW.out, ← HNN.out] at hwt
          obtain ⟨q1, q2, q3, q4⟩ := hwt
          have Q3 := Lib.hid q3
          have Q4 := Lib.hid (HC.out.trans q4)
          clear q3 q4
          go_wp2_with fail
          go_ret
          refine ⟨rfl, _, .slice A6 (n + 1) c6, ?_, Q4.out⟩
          rw [← HNN.out]
          exact Q3.out
end
end Go.Proofs.Ytjmjehhmkjhalaa
