/- DRead: put together. -/
import Derived.Test.YtjmjehhmkjhalaaQb19
import Derived.Sort.CutIn
import Derived.RegionIn
import Derived.BigFrameIn
import Derived.BigGuardIn
/- Read. -/
namespace Go.Proofs.Ytjmjehhmkjhalaa
set_option maxRecDepth 100000
open Go.RowKit

theorem wpListIn_alloc_wx {F : Fence} {n : Nat} {w : World} {ops : Array Oper} {rest : List Oper} {o : Oper} {a : Act} {Q : Exit → Act → World → Prop} (hg : o.guard = none) (ho : o.op = .alloc 190)
    (h : wpListIn F n Try.prog ops Q rest (a.put o.dst (.pointer (some ⟨w.heap.size, 0, none⟩))) (w.alloc (.cells (⟨0, Sx.zero⟩ : Wx).arr 190))) : wpListIn F n Try.prog ops Q (o :: rest) a w := by
  refine wpListIn_plain hg fun K hK' => ?_
  have hz := zero99 w
  unfold Oper.wpIn
  refine ⟨?_, ?_⟩
  · simp [Oper.about, ho]
  · rw [Oper.semAt_plain F _ _ (by rw [ho]; intro c hc'; cases hc')]
    simp [execOp, ho, hz, go_sem, Result.andThen]
    exact hK' _ _ h
def readM (d : Dk) (i : Int) : Sx := match d.waits.reverse.find? (fun y => y.i == i) with
  | none => d.sure i
  | some y => y.x
def noHit (ws : List Wx) (i : Int) (k : Nat) : Prop := ∀ q, q < k → (ws.getD (ws.length - 1 - q) ⟨0, Sx.zero⟩).i ≠ i
theorem rev_get (ws : List Wx) (q : Nat) (hq : q < ws.reverse.length) : ws.reverse[q] = ws.getD (ws.length - 1 - q) ⟨0, Sx.zero⟩ := by
  rw [List.length_reverse] at hq
  rw [List.getElem_reverse, List.getD_eq_getElem?_getD, List.getElem?_eq_getElem (by omega)]
  rfl
theorem readM_none {d : Dk} {i : Int} (h : noHit d.waits i d.waits.length) : readM d i = d.sure i := by
  unfold readM
  rw [List.find?_eq_none.2]
  intro y hy
  obtain ⟨q, hq, rfl⟩ := List.getElem_of_mem hy
  rw [rev_get]
  simpa using h q (by simpa using hq)
theorem readM_hit {d : Dk} {i : Int} {k : Nat} (h : noHit d.waits i k) (hk : k < d.waits.length) (he : (d.waits.getD (d.waits.length - 1 - k) ⟨0, Sx.zero⟩).i = i) : readM d i = (d.waits.getD (d.waits.length - 1 - k) ⟨0, Sx.zero⟩).x := by
  unfold readM
  have e : d.waits.reverse.find? (fun y => y.i == i) = some (d.waits.getD (d.waits.length - 1 - k) ⟨0, Sx.zero⟩) := by
    rw [List.find?_eq_some_iff_getElem]
    refine ⟨by simpa using he, k, by simpa using hk, rev_get _ _ _, fun q hq => ?_⟩
    rw [rev_get]
    simpa using h q hq
  rw [e]
theorem noHit.next {ws : List Wx} {i : Int} {k : Nat} (h : noHit ws i k) (he : (ws.getD (ws.length - 1 - k) ⟨0, Sx.zero⟩).i ≠ i) : noHit ws i (k + 1) := fun q hq => by
  by_cases e : q = k
  · rw [e]; exact he
  · exact h q (by omega)
/-- The boxes of a read: where, what is read so far. -/
structure RdW (s : Nat) (i : Int) (x : Sx) (W : World) : Prop where
  c5 : W.heap[s]? = some (.cells #[.int .i64 i] 3 (0, 0))
  c6 : SBlk W (s + 1) x
  c7 : W.heap[s + 1 + 1]? = some (.cells #[.nilIface] 30 (0, 0))
section
variable {s : Nat} {i : Int} {x : Sx} {W : World}
theorem RdW.old (h : RdW s i x W) {W2 : World} (hb : Below W.heap.size W W2) : RdW s i x W2 :=
  ⟨(hb.block _ (Array.getElem?_eq_some_iff.1 h.c5).1).trans h.c5, h.c6.below hb, (hb.block _ (Array.getElem?_eq_some_iff.1 h.c7).1).trans h.c7⟩
theorem RdW.turn (h : RdW s i x W) {l : Nat} {o : Obj} (o' : Obj) (ho : W.heap[l]? = some o) (hc : o.isCells = false) : RdW s i x (W.putObj l o') := by
  have key : ∀ (g : Nat) (cs : Array Value) (t : TypeId), W.heap[g]? = some (.cells cs t (0, 0)) → (W.putObj l o').heap[g]? = some (.cells cs t (0, 0)) := fun g cs t hg =>
    (World.putObj_heap_other (fun e => by subst e; rw [hg] at ho; cases ho; cases hc)).trans hg
  exact ⟨key _ _ _ h.c5, key _ _ _ h.c6, key _ _ _ h.c7⟩
theorem RdW.put (h : RdW s i x W) (y : Sx) : RdW s i y (W.setRow (s + 1) y.arr) :=
  ⟨(setRow_other W _ s _ (by omega)).trans h.c5, h.c6.put y, (setRow_other W _ (s + 1 + 1) _ (by omega)).trans h.c7⟩
theorem RdW.nil (h : RdW s i x W) : RdW s i x (W.setCell ⟨s + 1 + 1, 0, none⟩ .nilIface) :=
  ⟨(Deep.blk_setCell_other W ⟨s + 1 + 1, 0, none⟩ _ s (by show s ≠ s + 1 + 1; omega)).trans h.c5, (Deep.blk_setCell_other W ⟨s + 1 + 1, 0, none⟩ _ (s + 1) (by show s + 1 ≠ s + 1 + 1; omega)).trans h.c6, box_set h.c7 0 .nilIface⟩
theorem keepsOthers_setRow {W : World} {g : Nat} {cs cs' : Array Value} {t : TypeId} (h : W.heap[g]? = some (.cells cs t (0, 0))) : KeepsOthers W (W.setRow g cs') :=
  ⟨by simp [World.setRow], fun k o hk ho => by
    by_cases e : k = g
    · subst e; rw [h] at hk; cases hk; cases ho
    · rw [setRow_other W g k _ e]; exact hk⟩
theorem resultsRead (h : RdW s i x W) (tmps : Array Value) (h6 : tmps.getD 6 undef = .pointer (some ⟨s + 1, 0, none⟩)) (h7 : tmps.getD 7 undef = .pointer (some ⟨s + 1 + 1, 0, none⟩)) :
    (results Try.f126 tmps).run Try.prog W = .ok (.tuple #[x.val, .nilIface]) W := by
  have h6' : tmps[6]?.getD undef = .pointer (some ⟨s + 1, 0, none⟩) := by simpa using h6
  have h7' : tmps[7]?.getD undef = .pointer (some ⟨s + 1 + 1, 0, none⟩) := by simpa using h7
  have e : Try.f126.results = #[.cell 6 75, .cell 7 30] := Try.results126
  have c7 : W.cell? ⟨s + 1 + 1, 0, none⟩ = some .nilIface := (cell_of_row W (s + 1 + 1) 0 _ _ (0, 0) h.c7).trans rfl
  have hl : (loadVar 30 ⟨s + 1 + 1, 0, none⟩).run Try.prog W = .ok .nilIface W := by simp [go_sem, c7]
  simp only [results, e]
  simp [asAddr, h6', h7', h.c6.load, hl]
end
section
variable {w : World} {F : Nat → Prop} {g : Nat} {p : Pw} {v : Value} {L : List DM}
set_option maxHeartbeats 8000000 in
theorem read_in (h : SetM w F g p v L) (hl : L.length ≤ 1000) (j : Nat) (hj : j < L.length) (i : Int) (hi : 0 ≤ i ∧ i < (L[j].dk.size : Int)) (hwi : WfI i) (hg : p.gone = false) (hwn : L[j].dk.waits.length ≤ 1000000000) :
    CallsIn Fence.wide 11 Try.prog 126 #[.pointer (some ⟨g, 0, none⟩), .int .i64 (j : Int), .int .i64 i] w fun e w' => e = .returned (.tuple #[(readM L[j].dk i).val, .nilIface]) ∧ Below w.heap.size w w' := by
  obtain ⟨w1, hw1⟩ : ∃ w1, w1 = ((w.alloc (.cells #[.int .i64 i] 3)).alloc (.cells Sx.zero.arr 75)).alloc (.cells #[.nilIface] 30) := ⟨_, rfl⟩
  have hb1 : Below w.heap.size w w1 := by rw [hw1]; exact (((Below.refl _ _).alloc (Nat.le_refl _) _).alloc (by rw [World.size_alloc]; omega) _).alloc (by rw [World.size_alloc, World.size_alloc]; omega) _
  have hr1 : RdW w.heap.size i Sx.zero w1 := by
    rw [hw1]
    refine ⟨(heap_alloc_old _ _ (by rw [World.size_alloc, World.size_alloc]; omega)).trans ((heap_alloc_old _ _ (by rw [World.size_alloc]; omega)).trans (heap_alloc_new w _)), (heap_alloc_old _ _ (by rw [World.size_alloc, World.size_alloc]; omega)).trans ?_, ?_⟩
    · have := heap_alloc_new (w.alloc (.cells #[.int .i64 i] 3)) (.cells Sx.zero.arr 75)
      rwa [World.size_alloc] at this
    · have := heap_alloc_new ((w.alloc (.cells #[.int .i64 i] 3)).alloc (.cells Sx.zero.arr 75)) (.cells #[.nilIface] 30)
      rwa [World.size_alloc, World.size_alloc] at this
  have h1 := h.below hb1
  have HH := Lib.hid (has_any h1 (j : Int) i hl)
  rw [hasB_at hj, decide_eq_true hi.1, decide_eq_true hi.2] at HH
  obtain ⟨_, _, _, c3, c4⟩ := h1.c
  rw [hg] at c3
  obtain ⟨A, c, rfl, hle, hc⟩ := h1.slice
  obtain ⟨b, rfl, hFb, _, _, _, k1, k2⟩ := hc j hj
  have hdj := h1.each j hj
  have hF := h.Flt
  obtain ⟨d, hd⟩ : ∃ d, d = L[j] := ⟨_, rfl⟩
  rw [← hd] at hdj k1 k2 hwn ⊢
  obtain ⟨N, hN⟩ : ∃ N, N = L.length := ⟨_, rfl⟩
  rw [← hN] at c4 hle hl hj
  obtain ⟨Aw, cw, hvw, hrw, _, hcw⟩ := rdv_own hdj.waits
  rw [hvw] at k2
  have x5 : w1.cell? ⟨w.heap.size, 0, none⟩ = some (.int .i64 i) := (cell_of_row w1 _ 0 _ _ (0, 0) hr1.c5).trans rfl
  have HB1 := Lib.hid hb1
  have HR1 := Lib.hid hr1
  have HMAP := Lib.hid hdj.map
  have HM1 := Lib.hid k1
  have HW2 := Lib.hid k2
  have HRW := Lib.hid hrw
  have HAW := Lib.hid (show ∀ bw o, Aw = some ⟨bw, o, none⟩ → bw < w.heap.size from fun bw o e => hF bw (hdj.Fw bw (by rw [hvw, e]; rfl)))
  have HBF := Lib.hid (hF b hFb)
  clear h h1 hi hc hdj hF k1 k2 hrw hd hN hvw hb1 hr1 hg
  refine callsIn_of_wp_marks Try.func126 rfl trivial ?_ rfl
  simp only [Try.ntmps126, List.size_toArray, List.length_cons, List.length_nil, Nat.reduceAdd, Nat.reduceSub, Array.replicate_succ, Array.replicate_zero, List.push_toArray, List.append_toArray, List.nil_append, List.cons_append]
  gi_upto_region 1 with (fail)
  rw [zero_arr, ← hw1]
  clear hw1
  gi_wp2_with fail
  refine ⟨trivial, ?_⟩
  refine (callsIn_wide.2 HH.out).mono ?_
  rintro e w' ⟨rfl, rfl⟩
  gi_wp2_with fail
  refine ⟨trivial, ?_⟩
  refine (callsIn_wide.2 (last_any b (j * 3) w1)).mono ?_
  rintro e w5 ⟨B, rfl, hB, hbx, hb5⟩
  have HB5 := Lib.hid (HB1.out.trans (hb5.mono HB1.out.size))
  have HR5 := Lib.hid (HR1.out.old hb5)
  have HBX := Lib.hid hbx
  have m5 := (hb5.cell (p := ⟨b, j * 3 + 1, none⟩) (World.block_lt_of_cell? _ _ HM1.out)).trans HM1.out
  have HM5 := Lib.hid m5
  have hw5 := (hb5.cell (p := ⟨b, j * 3 + 2, none⟩) (World.block_lt_of_cell? _ _ HW2.out)).trans HW2.out
  have hrw5 : Rdv w5 Aw d.dk.waits.length 65 (rowV Wx.vals d.dk.waits) := HRW.out.ext fun q hq => hb5.cell hq
  have HMP5 := Lib.hid (HMAP.out.keep (hb5.block _ HMAP.out.lt))
  have HL := Lib.hid (last_hands B b (j * 3) Aw cw (fun q => q < w.heap.size ∨ q = B) d.dk.waits w5 hbx hw5 hrw5 hcw hwn (fun q hq => by
    rcases hq with e | e
    · have := HB5.out.size; omega
    · rw [e]; exact World.block_lt_of_cell? _ _ hbx) (.inr rfl) (.inl HBF.out) (fun bw o e => .inl (HAW.out bw o e)))
  have HBB := Lib.hid hB
  have hs5 := HB5.out.size
  have hB5 : B < w5.heap.size := World.block_lt_of_cell? _ _ hbx
  clear hb5 hbx m5 hw5 hrw5 x5 c3 c4 hB HB1 HR1 HMAP HM1 HW2 HRW HH
  gi_wp2_with fail
  refine wp_range_made (w0 := w5) (O := fun q => q < w.heap.size ∨ q = B) (N := d.dk.waits.length) (M := LastM d.dk.waits) (gf := 152) (lb := #[.pointer (some ⟨B, 0, none⟩)]) (enc := fun _ v => #[v]) rfl (enters_of Try.func152 (by kernel_rfl) rfl)
    HL.out (Below.refl _ _) (fun q hq => by rcases hq with e | e <;> omega) (fun _ _ => rfl) (fun k v z W l o o' hl h ho hc => h)
    (fun k W => Below w5.heap.size w5 W ∧ noHit d.dk.waits i k) (fun c k W => c = .ret ∧ RdW w.heap.size i (readM d.dk i) W ∧ Below w.heap.size w W)
    (fun k W W' h hb => ⟨h.1.trans (hb.mono h.1.size), h.2⟩) (fun k W l o o' hl h ho hc => ⟨h.1.grown (grownBy_putObj' W l o') h.1.size (fun k e => by cases e; exact hl), h.2⟩)
    (fun c k W W' h hb => ⟨h.1, h.2.1.old hb, h.2.2.trans (hb.mono h.2.2.size)⟩) (fun c k W l o o' hl h ho hc => ⟨h.1, h.2.1.turn o' ho hc, h.2.2.grown (grownBy_putObj' W l o') h.2.2.size (fun k e => by cases e; omega)⟩)
    ⟨Below.refl _ _, fun q hq => absurd hq (Nat.not_lt_zero _)⟩ ?round ?done ?stop
  case round =>
    intro l lp k ob v W0 W hk _ hi hm hlp hob hol K hK
    obtain ⟨hbi, hno⟩ := hi
    obtain ⟨y, hy⟩ : ∃ y, y = d.dk.waits.getD (d.dk.waits.length - 1 - k) ⟨0, Sx.zero⟩ := ⟨_, rfl⟩
    unfold LastM at hm
    rw [← hy] at hm
    subst hm
    have HY := Lib.hid hy
    have HNO := Lib.hid hno
    have HBI := Lib.hid hbi
    have hz := zero99 W
    have HST := Lib.hid (storeVar_wx W y)
    have HLP := Lib.hid hlp
    have HOB := Lib.hid hob
    have HOL := Lib.hid hol
    clear hy hno hbi hlp hob hol
    simp only [List.zip_toArray, List.zip_cons_cons, List.zip_nil_right, List.foldl_toArray, List.foldl_cons, List.foldl_nil, List.setIfInBounds_toArray, List.set_cons_succ, List.set_cons_zero]
    have hbm : Below W.heap.size W (W.alloc (.cells y.arr 190)) := (Below.refl _ _).alloc (Nat.le_refl _) _
    have hay : At (W.alloc (.cells y.arr 190)) W.heap.size 0 y.vals := by
      have := At.of_block (w := W.alloc (.cells y.arr 190)) (heap_alloc_new W _)
      rwa [show y.arr.toList = y.vals by simp [Wx.arr]] at this
    have HBM := Lib.hid hbm
    have HAY := Lib.hid hay
    clear hbm hay hz
    gi_wp2_with (first | refine wpListIn_alloc_wx rfl rfl ?_ | refine wpListIn_store_val rfl (.tmp 9) (.tmp 36) rfl rfl y.val rfl HST.out ?_)
    simp only [Act.put, List.setIfInBounds_toArray, List.set_cons_zero, List.set_cons_succ]
    refine hK _ _ HBM.out ?_
    clear hK K HST
    obtain ⟨z, hz⟩ : ∃ z, z = W.heap.size := ⟨_, rfl⟩
    obtain ⟨Wm, hWm⟩ : ∃ Wm, Wm = W.alloc (.cells y.arr 190) := ⟨_, rfl⟩
    obtain ⟨o, hol, hoc⟩ := HOL.out
    have hlz : lp < W.heap.size := (Array.getElem?_eq_some_iff.1 hol).1
    have hay := HAY.out
    have hbm := HBM.out
    rw [← hWm] at hay hbm ⊢
    have holm := (hbm.block _ hlz).trans hol
    have hrm := (HR5.out.old (HBI.out.trans (hbm.mono HBI.out.size))).turn ob holm hoc
    have hbb : Below w5.heap.size w5 (Wm.putObj lp ob) := (HBI.out.trans (hbm.mono HBI.out.size)).grown (grownBy_putObj' Wm lp ob) (HBI.out.trans (hbm.mono HBI.out.size)).size (fun k e => by cases e; exact HLP.out)
    have hatb : At (Wm.putObj lp ob) z 0 y.vals := fun r u hr => by
      rw [← hz] at hay hlz
      exact (World.cell?_of_block (World.putObj_heap_other (show z ≠ lp by omega))).trans (hay r u hr)
    rw [← hz]
    obtain ⟨Wb, hWb⟩ : ∃ Wb, Wb = Wm.putObj lp ob := ⟨_, rfl⟩
    rw [← hWb] at hrm hbb hatb ⊢
    clear hWb hWm hay hbm holm hlz hol hoc HAY HBM HOL HOB HBI hz
    have x0 : Wb.cell? ⟨z, 0, none⟩ = some (.int .i64 y.i) := hatb 0 _ rfl
    have x5 : Wb.cell? ⟨w.heap.size, 0, none⟩ = some (.int .i64 i) := (cell_of_row Wb _ 0 _ _ (0, 0) hrm.c5).trans rfl
    have HRM := Lib.hid hrm
    have HBB5 := Lib.hid hbb
    have hlx : (loadVar 75 ⟨z, 1, none⟩).run Try.prog Wb = .ok y.x.val Wb := load_sx fun r u hr => by
      have := hatb (r + 1) u hr
      rwa [show 0 + (r + 1) = 1 + r by omega] at this
    have HLX := Lib.hid hlx
    clear hlx hrm hbb hatb
    obtain ⟨r, hr⟩ : ∃ r, r = (y.i == i) := ⟨_, rfl⟩
    have g1 := hr.symm
    have HE := Lib.hid hr
    clear hr
    cases r with
    | false =>
      gi_wp2_with (first | (rw [Oper.semAt_eq _ _ _ (fun c h => by cases h)]; go_simp))
      exact ⟨KeepsOthers.refl _, Keeps.refl _ _, HBB5.out, HNO.out.next (by
        rw [← HY.out]
        intro e
        have := HE.out
        rw [e] at this
        simp at this)⟩
    | true =>
      have hst := HRM.out.c6.store y.x
      have hp := HRM.out.put y.x
      have x7 := (cell_of_row _ _ 0 _ _ (0, 0) hp.c7).trans rfl
      have f7 := frozen_at hp.c7 0
      have HP := Lib.hid hp
      clear hp
      gi_wp2_with (first | refine wpListIn_load_val rfl (.tmp 41) rfl rfl y.x.val HLX.out ?_ | refine wpListIn_store_val rfl (.tmp 6) (.tmp 42) rfl rfl y.x.val rfl hst ?_ | (rw [Oper.semAt_eq _ _ _ (fun c h => by cases h)]; go_simp))
      have e1 : y.i = i := by have := HE.out; simpa using this.symm
      have e2 : readM d.dk i = y.x := by
        rw [HY.out]
        exact readM_hit HNO.out hk (by rw [← HY.out]; exact e1)
      have hb9 := setRow_below (HB5.out.trans (HBB5.out.mono HB5.out.size)) (b := w.heap.size + 1) (cs := y.x.arr) (by omega)
      refine ⟨(keepsOthers_setRow HRM.out.c6).trans (KeepsOthers.setCell _ _ _), rfl, ?_, hb9.setCell (p := ⟨w.heap.size + 1 + 1, 0, none⟩) (by show w.heap.size ≤ w.heap.size + 1 + 1; omega) .nilIface⟩
      rw [e2]
      exact HP.out.nil
  case done =>
    intro D W hi hD hK
    obtain ⟨hbi, hno⟩ := hi
    have HNO := Lib.hid (readM_none hno)
    have HBI := Lib.hid hbi
    have HKD := Lib.hid hK
    have HA := Lib.hid (show ∀ W2, Below W.drew.heap.size W.drew W2 → RdW w.heap.size i Sx.zero W2 ∧ W2.cell? ⟨b, j * 3 + 1, none⟩ = some (.map (some d.m)) ∧ (Instr.lookup 148 (.map (some d.m)) (.int .i64 i) false).run Try.prog W2 = .ok (d.dk.sure i).val W2 from fun W2 hw => by
      have hb2 : Below w5.heap.size w5 W2 := hbi.trans (((Below.refl _ W).drew.trans hw).mono hbi.size)
      exact ⟨HR5.out.old hb2, (hb2.cell (World.block_lt_of_cell? _ _ HM5.out)).trans HM5.out, (HMP5.out.keep (hb2.block _ HMP5.out.lt)).look i hwi⟩)
    clear hbi hno hK
    gi_upto_region 10 with fail
    refine wpIn_wide.2 ?_
    refine wp_region_noPanic ?_
    refine wp_region_abs 6 49 [
      .is (.pointer (some ⟨b, j * 3, none⟩)),
      .is (.pointer (some ⟨b, j * 3, none⟩)),
      .is (.pointer (some ⟨b, j * 3 + 1, none⟩)),
      .is (.map (some d.m)),
      .is (.int .i64 i),
      .is (d.dk.sure i).val]
      [43, 44, 45, 46, 47, 48]
      [[], [0], [1], [2], [], [3, 4]] (by kernel_rfl) (by rfl) rfl rfl (by kernel_rfl) (fun _ _ _ _ h => h.elim) ?_ ?_
    · refine ⟨?_, ?_, ?_, ?_, ?_, ?_, trivial⟩
      · intro W2 hw K hK
        go_simp
        exact hK _ _ rfl (Below.refl _ _)
      · intro W2 hw K hK
        go_simp
        exact hK _ _ rfl (Below.refl _ _)
      · intro W2 hw K hK
        go_simp
        exact hK _ _ rfl (Below.refl _ _)
      · intro W2 hw K hK
        obtain ⟨_, c0, _⟩ := HA.out W2 hw
        go_simp
        exact hK _ _ rfl (Below.refl _ _)
      · intro W2 hw K hK
        have c0 : W2.cell? ⟨w.heap.size, 0, none⟩ = some (.int .i64 i) := (cell_of_row W2 _ 0 _ _ (0, 0) (HA.out W2 hw).1.c5).trans rfl
        go_simp
        exact hK _ _ rfl (Below.refl _ _)
      · intro W2 hw K hK
        obtain ⟨_, _, c0⟩ := HA.out W2 hw
        go_simp
        exact hK _ _ rfl (Below.refl _ _)
    · intro W2 hw2
      simp only [Behind, List.drop, Act.put, List.setIfInBounds_toArray, List.set_cons_zero, List.set_cons_succ]
      have hr2 := (HA.out W2 hw2).1
      have hb2 : Below W.heap.size W W2 := (Below.refl _ W).drew.trans hw2
      have hst := hr2.c6.store (d.dk.sure i)
      have hp := hr2.put (d.dk.sure i)
      have x7 := (cell_of_row _ _ 0 _ _ (0, 0) hp.c7).trans rfl
      have f7 := frozen_at hp.c7 0
      have HP := Lib.hid hp
      have HR2 := Lib.hid hr2
      have HB2 := Lib.hid hb2
      clear hp hr2 hb2 hw2 HA
      refine wpList_store_val rfl (.tmp 6) (.tmp 48) rfl rfl (d.dk.sure i).val rfl hst ?_
      clear hst
      go_wp2_with fail
      refine NoPanic.normal ?_
      gi_wp2_with fail
      have hb8 := HB5.out.trans ((HBI.out.trans (HB2.out.mono HBI.out.size)).mono HB5.out.size)
      have hb9 := setRow_below hb8 (b := w.heap.size + 1) (cs := (d.dk.sure i).arr) (by omega)
      have hba := hb9.setCell (p := ⟨w.heap.size + 1 + 1, 0, none⟩) (by show w.heap.size ≤ w.heap.size + 1 + 1; omega) .nilIface
      have hdW := (HB2.out.block D (Array.getElem?_eq_some_iff.1 HKD.out).1).trans HKD.out
      have hd9 : ((W2.setRow (w.heap.size + 1) (d.dk.sure i).arr).setCell ⟨w.heap.size + 1 + 1, 0, none⟩ .nilIface).heap[D]? = some (.deferred (some [])) :=
        (Deep.blk_setCell_other _ ⟨w.heap.size + 1 + 1, 0, none⟩ _ D (by intro e; have h9 := HR2.out.c7; subst e; rw [hdW] at h9; cases h9)).trans ((setRow_other W2 _ D _ (by intro e; have h9 : W2.heap[w.heap.size + 1]? = _ := HR2.out.c6; subst e; rw [hdW] at h9; cases h9)).trans hdW)
      refine ⟨by simp, .inl ⟨D, _, rfl, run_takeDeferred hd9, ?_⟩⟩
      refine ⟨_, resultsRead (HP.out.nil.turn (.deferred none) hd9 rfl) _ rfl rfl, ?_, hba.grown (grownBy_putObj' _ D (.deferred none)) hba.size (fun k e => by cases e; omega)⟩
      rw [HNO.out]
  case stop =>
    intro D k c W hk hi hD hK
    obtain ⟨rfl, hr, hb⟩ := hi
    gi_wp2_with fail
    have HR := Lib.hid hr
    refine ⟨by simp, .inl ⟨D, _, rfl, run_takeDeferred hK, ?_⟩⟩
    exact ⟨_, resultsRead (hr.turn (.deferred none) hK rfl) _ rfl rfl, rfl, hb.grown (grownBy_putObj' _ D (.deferred none)) hb.size (fun k e => by cases e; omega)⟩
theorem read_any (h : SetM w F g p v L) (hl : L.length ≤ 1000) (j : Nat) (hj : j < L.length) (i : Int) (hi : 0 ≤ i ∧ i < (L[j].dk.size : Int)) (hwi : WfI i) (hg : p.gone = false) (hwn : L[j].dk.waits.length ≤ 1000000000) :
    Calls Try.prog 126 #[.pointer (some ⟨g, 0, none⟩), .int .i64 (j : Int), .int .i64 i] w fun e w' => e = .returned (.tuple #[(readM L[j].dk i).val, .nilIface]) ∧ Below w.heap.size w w' :=
  callsIn_wide.1 (read_in h hl j hj i hi hwi hg hwn)
end
end Go.Proofs.Ytjmjehhmkjhalaa
