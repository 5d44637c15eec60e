/- SlabParts answers true of whatever bytes and numbers: the walk. -/
import Derived.Test.YtiemjgkpjmncfaaPartsI
import Derived.Test.YtiemjgkpjmncfaaPartsA
import Derived.Test.YtiemjgkpjmncfaaAlive
import Derived.BigFrameIn
import Derived.BigGuardIn
import Derived.OwnWalkIn
namespace Go.Proofs.Ytiemjgkpjmncfaa
set_option maxRecDepth 100000
open Go.RowKit
attribute [local go_sem] Oper.semAt_some

theorem PartO.turn {ds : List Nat} {k : Nat} {v : Value} {z : Nat} (y : Nat) : Turns y (PartO ds k v z) := by
  intro W l o o' _ h ho hc
  obtain ⟨A, c, rfl, hr⟩ := h
  exact ⟨A, c, rfl, own_keep hr fun b cs _ hg => World.putObj_heap_other (fun e => by subst e; rw [hg] at ho; cases ho; cases hc)⟩
theorem keepsOthers_setCell {W : World} {g : Nat} {cs : Array Value} {t : TypeId} (h : W.heap[g]? = some (.cells cs t (0, 0))) (v : Value) : KeepsOthers W (W.setCell ⟨g, 0, none⟩ v) :=
  ⟨by rw [World.size_setCell]; omega, fun k o hk ho => by
    by_cases e : k = g
    · subst e; rw [h] at hk; cases hk; cases ho
    · exact (heap_setCell_other W ⟨g, 0, none⟩ k v e).trans hk⟩
theorem seen_stays {W W1 W2 : World} {s : Nat} {x : Value} (h : Below s W W1 ∧ W1.heap[s]? = some (.cells #[x] 3 (0, 0)) ∧ s + 1 ≤ W1.heap.size) (hb : Below W1.heap.size W1 W2) : Below s W W2 ∧ W2.heap[s]? = some (.cells #[x] 3 (0, 0)) ∧ s + 1 ≤ W2.heap.size :=
  ⟨h.1.trans (hb.mono (by omega)), (hb.block s (by omega)).trans h.2.1, Nat.le_trans h.2.2 hb.size⟩
theorem seen_turns {W W1 : World} {s l : Nat} {x : Value} {o o' : Obj} (hl : s + 1 ≤ l) (h : Below s W W1 ∧ W1.heap[s]? = some (.cells #[x] 3 (0, 0)) ∧ s + 1 ≤ W1.heap.size) (_ : W1.heap[l]? = some o) (_ : o.isCells = false) : Below s W (W1.putObj l o') ∧ (W1.putObj l o').heap[s]? = some (.cells #[x] 3 (0, 0)) ∧ s + 1 ≤ (W1.putObj l o').heap.size :=
  ⟨h.1.grown (grownBy_putObj' W1 l o') (by omega) (fun q e => by cases e; omega), (World.putObj_heap_other (by omega)).trans h.2.1, Nat.le_trans h.2.2 (grownBy_putObj' W1 l o').size⟩
theorem same_self {A A' : Option Addr} {n c n' c' : Nat} {xs : List Nat} {w : World} (h1 : Rdv w A n 1 (valsB xs)) (h2 : Rdv w A' n' 1 (valsB xs)) (hx : ∀ x ∈ xs, x < 256) :
    Calls Try.prog 42 #[.slice A n c, .slice A' n' c'] w fun e w' => e = .returned (.bool true) ∧ w = w' := by
  have h := same_any A A' n c n' c' xs xs w h1 h2 hx hx
  rw [decide_eq_true rfl] at h
  exact h

theorem res11 {w : World} {g : Nat} (h : w.heap[g]? = some (.cells #[.bool true] 4 (0, 0))) (tmps : Array Value) (h6 : tmps.getD 6 undef = .pointer (some ⟨g, 0, none⟩)) :
    (results Try.f11 tmps).run Try.prog w = .ok (.bool true) w := by
  have h6' : tmps[6]?.getD undef = .pointer (some ⟨g, 0, none⟩) := by simpa using h6
  have hc : w.cell? ⟨g, 0, none⟩ = some (.bool true) := cell_of_row w g 0 _ 4 (0, 0) h
  have e : Try.f11.results = #[.cell 6 4] := Try.results11
  have hl : (loadVar 4 ⟨g, 0, none⟩).run Try.prog w = .ok (.bool true) w := by simp [go_sem, hc]
  simp only [results, e]
  simp [asAddr, h6', hl]
theorem parts_end {W' w : World} {D D2 : Nat} {tmps : Array Value} (h6 : tmps.getD 6 undef = .pointer (some ⟨w.heap.size + 1, 0, none⟩)) (hr : W'.heap[w.heap.size + 1]? = some (.cells #[.bool false] 4 (0, 0))) (h2 : W'.heap[D2]? = some (.deferred (some []))) (h1 : W'.heap[D]? = some (.deferred (some []))) (hne : D < D2) (hb : Below w.heap.size w W') (hD : w.heap.size ≤ D) (h3 : D ≠ w.heap.size + 1) (h4 : D2 ≠ w.heap.size + 1) :
    bodyPostM Fence.wide 11 Try.prog Try.f11 (fun e w' => e = .returned (.bool true) ∧ Below w.heap.size w w') .ret { tmps := tmps, defers := [{ target := .collected D2, args := #[] }, { target := .collected D, args := #[] }] } (W'.setCell ⟨w.heap.size + 1, 0, none⟩ (.bool true)) := by
  have k2 := (heap_setCell_other W' ⟨w.heap.size + 1, 0, none⟩ D2 (.bool true) h4).trans h2
  have k1 := (heap_setCell_other W' ⟨w.heap.size + 1, 0, none⟩ D (.bool true) h3).trans h1
  have kr := heap_setCell_same W' (w.heap.size + 1) 0 #[.bool false] 4 (.bool true) hr
  have kb := hb.setCell (show w.heap.size ≤ (⟨w.heap.size + 1, 0, none⟩ : Addr).block from Nat.le_succ _) (.bool true)
  have kb2 := kb.grown (grownBy_putObj' _ D2 (.deferred none)) kb.size (fun q e => by cases e; omega)
  have kb1 := kb2.grown (grownBy_putObj' _ D (.deferred none)) kb2.size (fun q e => by cases e; omega)
  have kr2 : (((W'.setCell ⟨w.heap.size + 1, 0, none⟩ (.bool true)).putObj D2 (.deferred none)).putObj D (.deferred none)).heap[w.heap.size + 1]? = some (.cells #[.bool true] 4 (0, 0)) := (World.putObj_heap_other (by omega)).trans ((World.putObj_heap_other (by omega)).trans kr)
  refine ⟨by simp, .inl ⟨D2, _, rfl, run_takeDeferred k2, ?_⟩⟩
  refine ⟨by simp, .inl ⟨D, _, rfl, run_takeDeferred ((World.putObj_heap_other (by omega)).trans k1), ?_⟩⟩
  exact ⟨_, res11 kr2 _ h6, rfl, kb1⟩
theorem wpListIn_append_want {F : Fence} {n : Nat} {P : Program} {w w' : World} {ops : Array Oper} {rest : List Oper} {o : Oper} {a : Act} {Q : Exit → Act → World → Prop} {v : Value} (hw : Region.wanted o (yielded ops a.tmps) = true) (d s : Operand) (dT sT : TypeId)
    (ho : o.op = .call { callee := .builtin .append, args := #[d, s], argTypes := #[dT, sT] }) (u1 u2 : Value) (hd : a.eval d = u1) (hs : a.eval s = u2)
    (hrun : (Builtin.append_ #[dT, sT] o.type #[u1, u2]).run P w = .ok v w') (h : wpListIn F n P ops Q rest (a.put o.dst v) w') : wpListIn F n P ops Q (o :: rest) a w := by
  refine wpListIn_step fun K hK' => ?_
  rw [if_pos hw]
  unfold Oper.wpIn
  refine ⟨?_, ?_⟩
  · simp [Oper.about, ho, resolve, Target.leads, Sem.run_pure]
  · rw [Oper.semAt_plain F _ _ (by rw [ho]; intro c hc'; cases hc')]
    simp [execOp, ho, resolve, invoke, builtin, hd, hs, hrun, Result.andThen]
    exact hK' _ _ h
theorem need_neg (q : Int) (hq : q < 1) (w : World) : Calls Try.prog 50 #[.int .i64 q] w fun e w' => e = .returned (.int .i64 0) ∧ w = w' := by
  have d : decide (q < 1) = true := decide_eq_true hq
  go_enter Try.func50, Try.ntmps50
  go_wp2_with fail
  go_ret
  exact ⟨rfl, rfl⟩
theorem RowsAre.ext {w w' : World} {R : Option Addr} {K : Nat} {p : Nat → List Nat} (h : RowsAre w R K p) (hb : Below w.heap.size w w') : RowsAre w' R K p := by
  obtain ⟨vs, h1, h2⟩ := h
  refine ⟨vs, h1.ext (stays_b hb), fun k hk => ?_⟩
  obtain ⟨A, m, c, h3, h4, h5⟩ := h2 k hk
  exact ⟨A, m, c, h3, h4, h5.ext (stays_b hb)⟩
/-- The law's first world: the stop, the answer. -/
theorem parts_new (w : World) (stop : Int) : Below w.heap.size w ((w.alloc (.cells #[.int .i64 stop] 3)).alloc (.cells #[.bool false] 4)) ∧
    ((w.alloc (.cells #[.int .i64 stop] 3)).alloc (.cells #[.bool false] 4)).heap[w.heap.size]? = some (.cells #[.int .i64 stop] 3 (0, 0)) ∧
    ((w.alloc (.cells #[.int .i64 stop] 3)).alloc (.cells #[.bool false] 4)).heap[w.heap.size + 1]? = some (.cells #[.bool false] 4 (0, 0)) :=
  ⟨((Below.refl _ w).alloc (Nat.le_refl _) _).alloc (by simp) _, (heap_alloc_old _ _ (by simp)).trans (heap_alloc_new w _), heap_alloc2_new w _ _⟩
set_option maxHeartbeats 4000000 in
theorem parts_in (A : Option Addr) (n c : Nat) (ds : List Nat) (stop q : Int) (w : World) (ra : Rdv w A n 1 (valsB ds)) (hnil : A = none → c = 0) (hds : ∀ x ∈ ds, x < 256) (hnc : n ≤ c) (hn : n ≤ 9223372036854775807) (hq : q ≤ 9223372036854775807) :
    CallsIn Fence.wide 11 Try.prog 11 #[.slice A n c, .int .i64 stop, .int .i64 q] w fun e w' => e = .returned (.bool true) ∧ Below w.heap.size w w' := by
  have hld : ds.length = n := by have := ra.1; rw [valsB_length] at this; omega
  obtain ⟨hb0, hs0, hr0⟩ := parts_new w stop
  have HLD := Lib.hid hld
  have HNIL := Lib.hid hnil
  have HDS := Lib.hid hds
  have HRA := Lib.hid ra
  refine callsIn_of_wp_marks Try.func11 rfl trivial ?_ rfl
  simp only [Try.ntmps11, List.size_toArray, List.length_cons, List.length_nil, Nat.reduceAdd, Nat.reduceSub, Array.replicate_succ, Array.replicate_zero, List.push_toArray, List.append_toArray, List.nil_append, List.cons_append]
  clear ra hld hnil hds
  gi_upto_region 1 with fail
  obtain ⟨w0, hw0⟩ : ∃ w0, w0 = (w.alloc (.cells #[.int .i64 stop] 3)).alloc (.cells #[.bool false] 4) := ⟨_, rfl⟩
  rw [← hw0] at hb0 hs0 hr0 ⊢
  clear hw0
  have HB0 := Lib.hid hb0
  have HS0 := Lib.hid hs0
  have HR0 := Lib.hid hr0
  clear hb0 hs0 hr0
  gi_wp2_with fail
  refine ⟨trivial, ?_⟩
  refine (callsIn_wide.2 (alive_any w0)).mono ?_
  rintro e w1 ⟨rfl, hb1⟩
  have HB1 := Lib.hid hb1
  clear hb1
  by_cases h1 : 5000 < n
  · have d1 : decide (5000 < (n : Int)) = true := decide_eq_true (by omega)
    have hr1 : w1.heap[w.heap.size + 1]? = some (.cells #[.bool false] 4 (0, 0)) := (HB1.out.block _ (Array.getElem?_eq_some_iff.1 HR0.out).1).trans HR0.out
    have HR1 := Lib.hid hr1
    have HBW1 := Lib.hid (HB0.out.trans (HB1.out.mono HB0.out.size))
    have crs1 : w1.cell? ⟨w.heap.size + 1, 0, none⟩ = some (.bool false) := cell_of_row w1 _ 0 _ 4 (0, 0) hr1
    have frs1 : w1.frozen? ⟨w.heap.size + 1, 0, none⟩ = false := by simp [World.frozen?, hr1]
    clear hr1
    gi_wp2_with fail
    exact ⟨_, res11 (heap_setCell_same w1 (w.heap.size + 1) 0 #[.bool false] 4 (.bool true) HR1.out) _ rfl, rfl, HBW1.out.setCell (show w.heap.size ≤ (⟨w.heap.size + 1, 0, none⟩ : Addr).block from Nat.le_succ _) (.bool true)⟩
  have d1 : decide (5000 < (n : Int)) = false := decide_eq_false (by omega)
  have HRA1 := Lib.hid ((HRA.out.ext (stays_b HB0.out)).ext (stays_b HB1.out))
  have HCP := Lib.hid (copy_own A n c ds w1 HRA1.out HNIL.out (by omega))
  gi_wp2_with fail
  refine ⟨trivial, ?_⟩
  refine (callsIn_wide.2 HCP.out).mono ?_
  rintro e w2 ⟨g, cap, rfl, hm, hno, hb2⟩
  have HM2 := Lib.hid hm
  have HNO2 := Lib.hid hno
  have HB2 := Lib.hid hb2
  clear hm hno hb2 d1
  have HRP := Lib.hid (refParts_any A n c ds w2 (HRA1.out.ext (stays_b HB2.out)) hnc (by omega))
  gi_wp2_with fail
  refine ⟨trivial, ?_⟩
  refine (callsIn_wide.2 HRP.out).mono ?_
  rintro e w4 ⟨_, rfl, R, cR, rfl, hrow, hb4⟩
  have HROW := Lib.hid hrow
  have HB4 := Lib.hid hb4
  clear hrow hb4
  gi_upto_region 9 with fail
  change Code.wpIn _ _ _ _ _ _ (boxW w4)
  have HBX := Lib.hid (boxW_below w4)
  have hbz := boxW_size w4
  have HRC5 := Lib.hid ((HM2.out.row.ext (stays_b HB4.out)).ext (stays_b HBX.out))
  obtain ⟨w5, hw5⟩ : ∃ w5, w5 = boxW w4 := ⟨_, rfl⟩
  have HW5 := Lib.hid hw5
  rw [← hw5] at hbz HBX HRC5 ⊢
  clear hw5
  have HN5 := Lib.hid (show n ≤ 5000 by omega)
  gi_wp2_with fail
  refine ⟨trivial, ?_⟩
  refine (callsIn_wide.2 (parts_any (some ⟨g, 0, none⟩) n cap ds w5 HRC5.out (fun h => by cases h) (by have := HN5.out; omega))).mono ?_
  rintro e w6 ⟨B, rfl, A', c', hbx, hr6, hna, hBw, hb6⟩
  have hgi6 := GI.start w4 w6 ds (by rw [← HW5.out]; exact hb6)
  have HG6 := Lib.hid hgi6
  have HBOX := Lib.hid hbx
  have HR6 := Lib.hid hr6
  have HNA := Lib.hid hna
  have HB6 := Lib.hid hb6
  clear hbx hr6 hna hb6 hgi6
  gi_wp2_with fail
  refine wp_range_linked (w0 := w6) (O := fun k => w5.heap.size ≤ k ∧ k < w6.heap.size) (N := needN n) (M := PartO ds) (gf := 65) (lb := #[.pointer (some ⟨B, 0, none⟩)]) (enc := fun k v => #[.int .i64 (k : Int), v]) rfl (enters_of Try.func65 (by kernel_rfl) rfl)
    (parts_handsO B A' n c' _ ds w6 HBOX.out HR6.out (by have := HN5.out; omega) ?hc (fun _ h => h.2) ⟨hBw, (Array.getElem?_eq_some_iff.1 HBOX.out).1⟩ ?hA) (Below.refl _ _) (fun _ h => h.2) (fun _ _ => rfl) (fun k v z => PartO.turn _)
    (fun k W => ∃ vg va Af cf, GI w4 w4.heap.size (w4.heap.size + 4) w6.heap.size ds k W vg va Af cf) (fun _ _ _ => False) (fun k W W' ⟨vg, va, Af, cf, h⟩ hb => ⟨vg, va, Af, cf, h.stays (by have := HB6.out.size; omega) hb⟩) (fun k W l o o' hl ⟨vg, va, Af, cf, h⟩ ho hc => ⟨vg, va, Af, cf, h.turns (by have := HB6.out.size; omega) ho hc⟩) (fun _ _ _ _ h _ => h.elim) (fun _ _ _ _ _ _ _ h _ _ => h.elim) ⟨_, _, _, _, HG6.out⟩ ?round ?done ?stop
  case hc =>
    rcases HNA.out with ⟨_, h, _⟩ | ⟨b, _, _, _, h, _⟩
    · omega
    · exact h
  case hA =>
    intro b o e
    rcases HNA.out with ⟨h, _⟩ | ⟨b', e', h1, h2, _⟩
    · rw [h] at e; cases e
    · rw [e'] at e
      injection e with e
      injection e with e1 e2
      subst e1
      exact ⟨h1, h2⟩
  case round =>
    intro l k v W0 W W2 hk hi0 hi2 hlink hm K hK
    obtain ⟨vg, va, Af, cf, hg0⟩ := hi0
    obtain ⟨_, _, _, _, hg2⟩ := hi2
    have hgi := hg0.keep hg2.below hlink.1 hlink.2
    obtain ⟨X, cp, rfl, hp⟩ := hm
    have hkb : k ≤ 5000 := by have := HN5.out; unfold needN at hk; omega
    obtain ⟨Rg, cg, rfl, _, _, _⟩ := rdv_own hgi.got
    obtain ⟨vg', W2a, hrun1, hown1, hgr1, hv1⟩ := run_append_row elemL (W2.alloc (.cells #[.slice X (partN ds k).length cp] 45)) w4.heap.size 86 _ k (rowsL ds Af cf k) (World.ownsRow.alloc hgi.got _) (some ⟨W2.heap.size, 0, none⟩) 1 1 [.slice X (partN ds k).length cp] (rdv_row1 W2 _) (one_slice _ _ _) (fun h => by cases h) (by unfold maxLen; omega) (by omega) (by have := hgi.below.size; rw [World.size_alloc]; omega)
    obtain ⟨Rg', cg', rfl, _, _, _⟩ := rdv_own hown1
    obtain ⟨hs1, f9, f10, fall, keep3⟩ := hgi.one hgr1 (.slice Rg' (k + 1) cg')
    obtain ⟨Ra, ca, rfl, _, _, _⟩ := OwnB.rdv fall
    obtain ⟨X', cp', eX, hrX, hnX, _⟩ := rdv_own hp
    injection eX with eX1 _ eX2
    subst eX1 eX2
    have hr3 : Rdv (W2a.setCell ⟨w4.heap.size + 1, 0, none⟩ (.slice Rg' (k + 1) cg')) X (partN ds k).length 1 (valsB (partN ds k)) := hrX.same fun b off e => by
      have e0 := own_at hp (show (Value.slice X (partN ds k).length cp).ownBlock = some b by rw [e]; rfl)
      obtain ⟨_, hb2, cur, hcur⟩ := own_cells hp b (slice_block e0)
      exact keep3 b hb2 (fun e2 => by obtain ⟨_, _, cur2, h2⟩ := own_cells hgi.got b e2; exact ty_ne h2 hcur (by decide)) (fun e2 => by subst e2; exact ty_ne hcur hgi.b9 (by decide))
    have hla : (ds.take (50 * k)).length ≤ 5000 := by rw [List.length_take, HLD.out]; have := HN5.out; omega
    have hlp : (partN ds k).length ≤ 50 := by rw [partN_length]; omega
    obtain ⟨va', W4, hrun2, hown2, hgr2, hv2⟩ := run_append_row elemB (W2a.setCell ⟨w4.heap.size + 1, 0, none⟩ (.slice Rg' (k + 1) cg')) w4.heap.size 45 _ (ds.take (50 * k)).length (valsB (ds.take (50 * k))) fall X (partN ds k).length cp (valsB (partN ds k)) hr3 (valsB_one _) hnX (by unfold maxLen; omega) (by omega) (by have := hgi.below.size; rw [World.size_setCell]; omega)
    obtain ⟨Ra', ca', rfl, _, _, _⟩ := rdv_own hown2
    have hoa : OwnB W4 w4.heap.size (.slice Ra' ((ds.take (50 * k)).length + (partN ds k).length) ca') (ds.take (50 * (k + 1))) := by
      rw [← valsB_append, ← take_part] at hown2
      exact ownB_of hown2 (by rw [take_part, List.length_append])
    obtain ⟨g10, hgi5, hko, hkeep⟩ := hgi.push (z0 := W0.heap.size) (by have := HB6.out.size; omega) (fun i hi b e => (own_cells (hg0.rows i hi) b (slice_block e)).2.1) (fun b e => (own_cells hg0.all b e).2.1) hg0.below.size hp hgr1 hown1 hv1 hgr2 hoa hv2
    have HRUN1 := Lib.hid hrun1
    have HRUN2 := Lib.hid hrun2
    have HGI5 := Lib.hid hgi5
    have HKO := Lib.hid hko
    have HKEEP := Lib.hid hkeep
    have c9 : W2.cell? ⟨w4.heap.size + 1, 0, none⟩ = some (.slice Rg k cg) := cell_of_row W2 (w4.heap.size + 1) 0 _ 86 (0, 0) hgi.b9
    have c9a : W2a.cell? ⟨w4.heap.size + 1, 0, none⟩ = some (.slice Rg k cg) := cell_of_row W2a (w4.heap.size + 1) 0 _ 86 (0, 0) f9
    obtain ⟨la, hla2⟩ : ∃ x, x = (ds.take (50 * k)).length := ⟨_, rfl⟩
    obtain ⟨lp, hlp2⟩ : ∃ x, x = (partN ds k).length := ⟨_, rfl⟩
    have z9a : W2a.frozen? ⟨w4.heap.size + 1, 0, none⟩ = false := by simp [World.frozen?, f9]
    have c10 : (W2a.setCell ⟨w4.heap.size + 1, 0, none⟩ (.slice Rg' (k + 1) cg')).cell? ⟨w4.heap.size + 1 + 1 + 1, 0, none⟩ = some (.slice Ra (ds.take (50 * k)).length ca) := cell_of_row _ (w4.heap.size + 3) 0 _ 45 (0, 0) f10
    have c10a : W4.cell? ⟨w4.heap.size + 1 + 1 + 1, 0, none⟩ = some (.slice Ra (ds.take (50 * k)).length ca) := cell_of_row W4 (w4.heap.size + 3) 0 _ 45 (0, 0) g10
    have z10a : W4.frozen? ⟨w4.heap.size + 1 + 1 + 1, 0, none⟩ = false := by
      have h : W4.frozen? ⟨w4.heap.size + 3, 0, none⟩ = false := by simp [World.frozen?, g10]
      exact h
    have q1 : ((k : Int) != (k : Int)) = false := by simp
    rw [← hla2] at HRUN2 c10 c10a HGI5 HKO HKEEP
    rw [← hlp2] at HRUN1 HRUN2 HGI5 HKO HKEEP ⊢
    clear hla2 hlp2
    clear hrun1 hrun2 hgi5 hko hkeep hown1 hgr1 hv1 hown2 hgr2 hv2 hoa g10 f9 f10 fall keep3 hgi hp hrX hnX hr3 hla hlp hg0 hg2 hlink
    gi_wp2_with (gi_at_builtin; first | refine wpListIn_append rfl (.tmp 34) (.tmp 36) 86 86 rfl _ _ rfl rfl HRUN1.out ?_ | refine wpListIn_append rfl (.tmp 38) (.tmp 39) 45 45 rfl _ _ rfl rfl HRUN2.out ?_)
    exact ⟨HKO.out, ⟨HKO.out.size, fun b hb => HKEEP.out b (by have := hb.1; omega) hb.2 (Nat.le_refl _)⟩, _, _, _, _, HGI5.out⟩
  case done =>
    intro D W hi hD hK
    obtain ⟨vg, va, Af, cf, hgi⟩ := hi
    have HG := Lib.hid hgi
    have HKD := Lib.hid hK
    have hys := hgi.below.size
    have HRC := Lib.hid (show Rdv W (some ⟨g, 0, none⟩) n 1 (valsB ds) from (HM2.out.row.ext (stays_b HB4.out)).ext (stays_b hgi.below))
    clear hK hgi
    gi_upto_region 17 with fail
    obtain ⟨W7, hW7⟩ : ∃ W7, W7 = W.alloc (.cells #[.int .i64 0] 3) := ⟨_, rfl⟩
    have hs7 : W7.heap.size = W.heap.size + 1 := by rw [hW7, World.size_alloc]
    have HS7 := Lib.hid (show W7.heap[W.heap.size]? = some (.cells #[.int .i64 0] 3 (0, 0)) by rw [hW7]; exact heap_alloc_new W _)
    have HB7 := Lib.hid (show Below W.heap.size W W7 by rw [hW7]; exact (Below.refl _ W).alloc (Nat.le_refl _) _)
    rw [← hW7]
    clear hW7
    gi_wp2_with fail
    refine ⟨trivial, ?_⟩
    refine (callsIn_wide.2 (parts_any (some ⟨g, 0, none⟩) n cap ds W7 (HRC.out.ext (stays_b HB7.out)) (fun h => by cases h) (by have := HN5.out; omega))).mono ?_
    rintro e w8 ⟨B8, rfl, A8, c8, hbx, hr8, hna8, hBw8, hb8⟩
    have HBOX8 := Lib.hid hbx
    have HR8 := Lib.hid hr8
    have HNA8 := Lib.hid hna8
    have HB8 := Lib.hid hb8
    have HI8 := Lib.hid (show Below W.heap.size W w8 ∧ w8.heap[W.heap.size]? = some (.cells #[.int .i64 ((0 : Nat) : Int)] 3 (0, 0)) ∧ W.heap.size + 1 ≤ w8.heap.size from ⟨HB7.out.trans (hb8.mono (by omega)), (hb8.block _ (by omega)).trans HS7.out, by have := hb8.size; omega⟩)
    clear hbx hr8 hna8 hb8
    have HX := Lib.hid (show Below w0.heap.size w0 W from (HB1.out.trans (HB2.out.mono HB1.out.size)).trans ((HB4.out.trans ((HG.out.below).mono HB4.out.size)).mono (Nat.le_trans HB1.out.size HB2.out.size)))
    have hlt0 := (Array.getElem?_eq_some_iff.1 HS0.out).1
    have hlt1 := (Array.getElem?_eq_some_iff.1 HR0.out).1
    have hW0 := HX.out.size
    have hsw8 := HI8.out.2.2
    obtain ⟨s, hs⟩ : ∃ s, s = W.heap.size := ⟨_, rfl⟩
    rw [← hs] at hs7 HI8 HB7 hsw8 hW0
    gi_wp2_with fail
    rw [← hs]
    have HSW := Lib.hid hs
    clear hs
    refine wp_range_hands (w0 := w8) (O := fun k => W7.heap.size ≤ k ∧ k < w8.heap.size) (N := needN n) (M := PartM ds) (gf := 65) (lb := #[.pointer (some ⟨B8, 0, none⟩)]) (enc := fun k v => #[.int .i64 (k : Int), v]) rfl (enters_of Try.func65 (by kernel_rfl) rfl)
      (parts_hands B8 A8 n c8 _ ds w8 HBOX8.out HR8.out (by have := HN5.out; omega) ?hc8 (fun _ h => h.2) ⟨hBw8, (Array.getElem?_eq_some_iff.1 HBOX8.out).1⟩ ?hA8) (Below.refl _ _) (fun _ h => h.2) (fun _ _ => rfl) (fun k v z => PartM.turn _)
      (fun k W' => Below s W W' ∧ W'.heap[s]? = some (.cells #[.int .i64 (k : Int)] 3 (0, 0)) ∧ s + 1 ≤ W'.heap.size) (fun cd k W' => (cd = .exit 2 ∧ (k : Int) = stop) ∧ Below s W W' ∧ W'.heap[s]? = some (.cells #[.int .i64 (k : Int)] 3 (0, 0)) ∧ s + 1 ≤ W'.heap.size) (fun k W1 W2 h hb => seen_stays h hb) (fun k W1 l o o' hl h ho hc => seen_turns (by omega) h ho hc) (fun _ _ _ _ h hb => ⟨h.1, seen_stays h.2 hb⟩) (fun _ _ _ _ _ _ hl h ho hc => ⟨h.1, seen_turns (by omega) h.2 ho hc⟩) HI8.out ?round2 ?done2 ?stop2
    case hc8 =>
      rcases HNA8.out with ⟨_, h, _⟩ | ⟨b, _, _, _, h, _⟩
      · omega
      · exact h
    case hA8 =>
      intro b o e
      rcases HNA8.out with ⟨h, _⟩ | ⟨b', e', h1, h2, _⟩
      · rw [h] at e; cases e
      · rw [e'] at e
        injection e with e
        injection e with e1 e2
        subst e1
        exact ⟨h1, h2⟩
    case round2 =>
      intro l k v W0 W9 W2 hk _ hi hm K hK
      have HI := Lib.hid hi
      have hst := hi.1.block w.heap.size (by omega)
      have hst2 : W2.heap[w.heap.size]? = some (.cells #[.int .i64 stop] 3 (0, 0)) := hst.trans ((HX.out.block _ (by omega)).trans HS0.out)
      have cs4 : W2.cell? ⟨w.heap.size, 0, none⟩ = some (.int .i64 stop) := cell_of_row W2 w.heap.size 0 _ 3 (0, 0) hst2
      have cs := cell_of_row W2 s 0 #[.int .i64 (k : Int)] 3 (0, 0) hi.2.1
      have cs' : W2.cell? ⟨s, 0, none⟩ = some (.int .i64 (k : Int)) := cs
      have fs : W2.frozen? ⟨s, 0, none⟩ = false := by simp [World.frozen?, hi.2.1]
      have hkb : k ≤ 5000 := by have := HN5.out; unfold needN at hk; omega
      have e1 : IntKind.i64.wrap ((k : Int) + 1) = (k : Int) + 1 := IntWalk.i64_in _ (by omega)
      have hss : w.heap.size ≠ s := by omega
      have c5 : (W2.setCell ⟨s, 0, none⟩ (.int .i64 ((k : Int) + 1))).cell? ⟨w.heap.size, 0, none⟩ = some (.int .i64 stop) := (World.cell?_of_block (a := ⟨w.heap.size, 0, none⟩) (heap_setCell_other W2 ⟨s, 0, none⟩ _ _ hss)).trans cs4
      have hnew := heap_setCell_same W2 s 0 #[.int .i64 (k : Int)] 3 (.int .i64 ((k : Int) + 1)) hi.2.1
      have HNEW := Lib.hid (show Below s W (W2.setCell ⟨s, 0, none⟩ (.int .i64 ((k : Int) + 1))) ∧ (W2.setCell ⟨s, 0, none⟩ (.int .i64 ((k : Int) + 1))).heap[s]? = some (.cells #[.int .i64 ((k + 1 : Nat) : Int)] 3 (0, 0)) ∧ s + 1 ≤ (W2.setCell ⟨s, 0, none⟩ (.int .i64 ((k : Int) + 1))).heap.size from ⟨hi.1.setCell (Nat.le_refl _) _, hnew, by rw [World.size_setCell]; exact hi.2.2⟩)
      have HKO := Lib.hid (keepsOthers_setCell hi.2.1 (.int .i64 ((k : Int) + 1)))
      have HKP := Lib.hid (show Keeps (fun k => W7.heap.size ≤ k ∧ k < w8.heap.size) W2 (W2.setCell ⟨s, 0, none⟩ (.int .i64 ((k : Int) + 1))) from ⟨by rw [World.size_setCell]; omega, fun b hb => heap_setCell_other W2 ⟨s, 0, none⟩ b _ (by show b ≠ s; omega)⟩)
      clear hst hst2 cs hnew hm hi
      by_cases hstop : (k : Int) + 1 = stop
      · have d1 : ((k : Int) + 1 == stop) = true := by rw [beq_iff_eq]; exact hstop
        have HST := Lib.hid hstop
        clear hstop
        gi_wp2_with fail
        exact ⟨HKO.out, ⟨rfl, by have := HST.out; omega⟩, HNEW.out⟩
      · have d1 : ((k : Int) + 1 == stop) = false := by rw [beq_eq_false_iff_ne]; exact hstop
        clear hstop
        gi_wp2_with fail
        exact ⟨HKO.out, HKP.out, HNEW.out⟩
    case' done2 =>
      intro D2 W9 hi9 hD2 hK2
      obtain ⟨S, hS⟩ : ∃ S, S = needN n := ⟨_, rfl⟩
      have HSEEN := Lib.hid (show S = needN n ∨ (S : Int) = stop from .inl hS)
      rw [← hS] at hi9
      clear hS
    case' stop2 =>
      intro D2 k cd W9 hk hx9 hD2 hK2
      obtain ⟨⟨rfl, hks⟩, hi9⟩ := hx9
      obtain ⟨S, hS⟩ : ∃ S, S = k + 1 := ⟨_, rfl⟩
      have HSEEN := Lib.hid (show S = needN n ∨ (S : Int) = stop from .inr (by rw [hS]; exact hks))
      rw [← hS] at hi9
      clear hS hks hk
      gi_upto_region 20 with fail
    all_goals
      obtain ⟨hbs, hseen, hsz9⟩ := hi9
      have HS9 := Lib.hid hbs
      have hbw := HG.out.below
      have hsw := HSW.out
      have HROW9 := Lib.hid ((HROW.out.ext hbw).ext (HS9.out.mono (by have := hbw.size; omega)))
      obtain ⟨Rg, cg, rfl, hrg, _, _⟩ := rdv_own HG.out.got
      obtain ⟨Ra, ca, hva, hra, _, _⟩ := OwnB.rdv HG.out.all
      have htake : ds.take (50 * needN n) = ds := List.take_of_length_le (by rw [HLD.out]; unfold needN; omega)
      rw [htake, HLD.out] at hva hra
      subst hva
      have ks : ∀ b, b < s → W9.heap[b]? = W.heap[b]? := HS9.out.block
      have hRG : RowsAre W9 Rg (needN n) (partN ds) := by
        refine ⟨_, hrg.same fun b off e => ks b ?_, fun i hi => ⟨Af i, _, cf i, rowsL_get ds Af cf _ i hi, rfl, ?_⟩⟩
        · have h := own_at HG.out.got (show (Value.slice Rg (needN n) cg).ownBlock = some b by rw [e]; rfl)
          have := (own_cells HG.out.got b (slice_block h)).2.1
          omega
        · obtain ⟨A1, c1, e1, hr1, _, _⟩ := rdv_own (HG.out.rows i hi)
          injection e1 with e1 _ _
          subst e1
          refine hr1.same fun b off e => ks b ?_
          have h := own_at (HG.out.rows i hi) (show (Value.slice (Af i) (partN ds i).length (cf i)).ownBlock = some b by rw [e]; rfl)
          have := (own_cells (HG.out.rows i hi) b (slice_block h)).2.1
          omega
      have hRA : Rdv W9 Ra n 1 (valsB ds) := hra.same fun b off e => ks b (by
        have h := own_cells HG.out.all b (by rw [e]; rfl)
        have := h.2.1
        omega)
      have hrb : Rdv W9 A n 1 (valsB ds) := ((((HRA1.out.ext (stays_b HB2.out)).ext (stays_b HB4.out)).ext (stays_b hbw)).ext (fun p hp => HS9.out.cell (by omega)))
      have hmk : Mk W9 g n cap ds := by
        have h4 := HM2.out.at (HB4.out.block g HM2.out.lt)
        have h5 := h4.at (hbw.block g h4.lt)
        exact h5.at (ks g (by have := h5.lt; omega))
      have HRG := Lib.hid hRG
      have HRA9 := Lib.hid hRA
      have HRB := Lib.hid hrb
      have HMK := Lib.hid hmk
      have b9 := (ks (w4.heap.size + 1) (by have := (Array.getElem?_eq_some_iff.1 HG.out.b9).1; omega)).trans HG.out.b9
      have b10 := (ks (w4.heap.size + 3) (by have := (Array.getElem?_eq_some_iff.1 HG.out.b10).1; omega)).trans HG.out.b10
      have c9 : W9.cell? ⟨w4.heap.size + 1, 0, none⟩ = some (.slice Rg (needN n) cg) := cell_of_row W9 _ 0 _ 86 (0, 0) b9
      have c10 : W9.cell? ⟨w4.heap.size + 1 + 1 + 1, 0, none⟩ = some (.slice Ra n ca) := cell_of_row W9 (w4.heap.size + 3) 0 _ 45 (0, 0) b10
      have cst : W9.cell? ⟨w.heap.size, 0, none⟩ = some (.int .i64 stop) := cell_of_row W9 _ 0 _ 3 (0, 0) ((ks _ (by omega)).trans ((HX.out.block _ (by omega)).trans HS0.out))
      have hres := (ks (w.heap.size + 1) (by omega)).trans ((HX.out.block _ (by omega)).trans HR0.out)
      have crs : W9.cell? ⟨w.heap.size + 1, 0, none⟩ = some (.bool false) := cell_of_row W9 _ 0 _ 4 (0, 0) hres
      have frs : W9.frozen? ⟨w.heap.size + 1, 0, none⟩ = false := by simp [World.frozen?, hres]
      have csn : W9.cell? ⟨s, 0, none⟩ = some (.int .i64 (S : Int)) := cell_of_row W9 _ 0 _ 3 (0, 0) hseen
      have HRES := Lib.hid hres
      have hNb : needN n ≤ 5000 := by have := HN5.out; unfold needN; omega
      have HROWS := Lib.hid (rows_any Rg R (needN n) cg cR (partN ds) W9 HRG.out HROW9.out (fun k _ x hx => HDS.out x (List.mem_of_mem_drop (List.mem_of_mem_take hx))) (by omega))
      have HSAME := Lib.hid (fun t => same_self (c := ca) (c' := c) (w := W9.drewN t) HRA9.out HRB.out HDS.out)
      have HNEED := Lib.hid (fun t => need_any n hn (W9.drewN t))
      have HKEPT := Lib.hid (fun t => kept_any g n cap ds A c (W9.drewN t) ⟨HMK.out.len, HMK.out.cap, HMK.out.block⟩ HRB.out (by have := HN5.out; omega))
      have hbelow : Below w.heap.size w W9 := by
        have h1 := HB0.out.trans (HX.out.mono HB0.out.size)
        exact h1.trans (HS9.out.mono (by omega))
      have HBW := Lib.hid hbelow
      have HKD2 := Lib.hid hK2
      have HKD1 := Lib.hid ((ks D (by have := (Array.getElem?_eq_some_iff.1 HKD.out).1; omega)).trans HKD.out)
      have hgi9 := HG.out.keep (hbw.trans (HS9.out.mono (by have := hbw.size; omega))) (by have := HS9.out.size; omega) (fun b _ _ _ e => ks b (by have := (Array.getElem?_eq_some_iff.1 e).1; omega))
      have hgl2 := (own_cells HNO2.out g rfl).2.1
      have hgl4 : g < w4.heap.size := by have := HB4.out.size; omega
      have hown9 : W9.ownsRow w1.heap.size 5 1 (.slice (some ⟨g, 0, none⟩) n cap) n (valsB ds) :=
        own_keep HNO2.out fun b cur e1 e2 => by
          have hb : b = g := by injection e1 with e1; exact e1.symm
          subst hb
          exact (ks b (by have := hbw.size; omega)).trans ((hbw.block b hgl4).trans (HB4.out.block b hgl2))
      have HPA := Lib.hid (fun t => parts_apart (U := W9.drewN t) (g := g) (n := n) (cap := cap) (B1 := w1.heap.size) (hgi9.keep (below_drewN hgi9.below t) (Nat.le_refl _) (fun _ _ _ _ _ => rfl)) hown9 hgl4 (by have := HB2.out.size; have := HB4.out.size; omega) hgi9.below.size HN5.out hNb)
      have hDs : D < s := by have := (Array.getElem?_eq_some_iff.1 HKD.out).1; omega
      have hD1 : w.heap.size + 1 < D := by have := HB6.out.size; have := HB4.out.size; have := HB2.out.size; have := HB1.out.size; omega
      clear hsw hbs hbw htake hrg hra ks hRG hRA hrb hmk b9 b10 hres hseen hK2 hbelow hgi9 hgl2 hgl4 hown9
      have q0 : (((needN n : Nat) : Int) != ((needN n : Nat) : Int)) = false := by simp
      gi_wp2_with fail
      refine ⟨trivial, ?_⟩
      refine (callsIn_wide.2 HROWS.out).mono ?_
      rintro e w10 ⟨rfl, t1, rfl⟩
      gi_wp2_with fail
      refine ⟨trivial, ?_⟩
      refine (callsIn_wide.2 (HSAME.out t1)).mono ?_
      rintro e w10 ⟨rfl, rfl⟩
      gi_wp2_with fail
      refine ⟨trivial, ?_⟩
      refine (callsIn_wide.2 (HNEED.out t1)).mono ?_
      rintro e w10 ⟨rfl, rfl⟩
      gi_wp2_with fail
      refine ⟨trivial, ?_⟩
      refine (callsIn_wide.2 (HKEPT.out t1)).mono ?_
      rintro e w10 ⟨rfl, rfl⟩
      have qs : (((S : Int) != ((needN n : Nat) : Int)) = false) ∨ (((S : Int) != ((needN n : Nat) : Int)) = true ∧ ((S : Int) != stop) = false) := by
        rcases HSEEN.out with h | h
        · subst h; exact .inl q0
        · by_cases h2 : (S : Int) = ((needN n : Nat) : Int)
          · exact .inl (by rw [h2]; exact q0)
          · exact .inr ⟨by rw [bne_iff_ne]; exact h2, by rw [h]; simp⟩
      clear HROWS HSAME HNEED HKEPT
      by_cases hq1 : q < 1
      · have d3 : decide (q < 1) = true := decide_eq_true hq1
        have HNQ := Lib.hid (fun t => need_neg q hq1 (W9.drewN t))
        rcases qs with qs | ⟨qs, qs2⟩
        all_goals
          gi_wp2_with fail
          refine ⟨trivial, ?_⟩
          refine (callsIn_wide.2 (HNQ.out t1)).mono ?_
          rintro e w10 ⟨rfl, rfl⟩
          gi_wp2_with fail
          exact parts_end rfl HRES.out HKD2.out HKD1.out (by omega) (below_drewN HBW.out t1) (by omega) (by omega) (by omega)
      · have d3 : decide (q < 1) = false := decide_eq_false hq1
        obtain ⟨m, rfl⟩ := Int.eq_ofNat_of_zero_le (show 0 ≤ q by omega)
        have HNQ := Lib.hid (fun t => need_any m (by omega) (W9.drewN t))
        obtain ⟨R3, c3, Wb, hrun3, hcall3, hbel3⟩ := HPA.out t1
        have HRUN3 := Lib.hid hrun3
        have HCALL3 := Lib.hid hcall3
        have HBEL3 := Lib.hid hbel3
        have hK1 : 1 ≤ needN m := by unfold needN; omega
        have hK2 : ((needN m : Nat) : Int) * 50 - 50 < (m : Int) := by unfold needN; omega
        have hK3 : (m : Int) ≤ ((needN m : Nat) : Int) * 50 := by unfold needN; omega
        obtain ⟨K, hK⟩ : ∃ K, K = needN m := ⟨_, rfl⟩
        rw [← hK] at HNQ hK1 hK2 hK3
        clear hK hrun3 hcall3 hbel3 HPA
        have k1 : decide (0 < K) = true := decide_eq_true (by omega)
        have f1 : IntKind.i64.wrap ((K : Int) - 1) = (K : Int) - 1 := IntWalk.i64_in _ (by omega)
        have f2 : IntKind.i64.wrap (((K : Int) - 1) * 50) = ((K : Int) - 1) * 50 := IntWalk.i64_in _ (by omega)
        have k2 : decide (((K : Int) - 1) * 50 < (m : Int)) = true := decide_eq_true (by omega)
        have hbig : decide (1099511627776 < (K : Int)) = true ∨ (decide (1099511627776 < (K : Int)) = false ∧ IntKind.i64.wrap ((K : Int) * 50) = (K : Int) * 50 ∧ decide ((m : Int) ≤ (K : Int) * 50) = true) := by
          by_cases h : 1099511627776 < (K : Int)
          · exact .inl (decide_eq_true h)
          · exact .inr ⟨decide_eq_false h, IntWalk.i64_in _ (by omega), decide_eq_true hK3⟩
        clear hK1 hK2 hK3
        rcases qs with qs | ⟨qs, qs2⟩
        all_goals
          rcases hbig with k4 | ⟨k4, f3, k5⟩
        all_goals
          gi_wp2_with fail
          refine ⟨trivial, ?_⟩
          refine (callsIn_wide.2 (HNQ.out t1)).mono ?_
          rintro e w10 ⟨rfl, rfl⟩
          clear qs q0
          have c9u : ((W9.drewN t1).alloc (.cells #[.slice (some ⟨g, 0, none⟩) n cap] 45)).cell? ⟨w4.heap.size + 1, 0, none⟩ = some (.slice Rg (needN n) cg) := (World.cell?_alloc_lt (W9.drewN t1) _ ⟨w4.heap.size + 1, 0, none⟩ (World.block_lt_of_cell? _ _ c9)).trans c9
          gi_upto_region 25 with fail
          gi_wp2_with (gi_at_builtin; refine wpListIn_append_want (by rfl) (.tmp 113) (.tmp 114) 86 86 rfl _ _ rfl rfl HRUN3.out ?_)
          refine ⟨trivial, ?_⟩
          refine (callsIn_wide.2 HCALL3.out).mono ?_
          rintro e w11 ⟨rfl, hbel4⟩
          have hbe := HBEL3.out.trans hbel4
          have hr11 : w11.heap[w.heap.size + 1]? = some (.cells #[.bool false] 4 (0, 0)) := (hbe.bel.block _ (by have := HB1.out.size; simp; omega)).trans HRES.out
          have HR11 := Lib.hid hr11
          have HK2 := Lib.hid (hbe.oth.2 D2 _ HKD2.out rfl)
          have HK1 := Lib.hid (hbe.oth.2 D _ HKD1.out rfl)
          have HBW11 := Lib.hid ((below_drewN HBW.out t1).trans (hbe.bel.mono (by have := HB0.out.size; have := HB1.out.size; omega)))
          have crs11 : w11.cell? ⟨w.heap.size + 1, 0, none⟩ = some (.bool false) := cell_of_row w11 _ 0 _ 4 (0, 0) hr11
          have frs11 : w11.frozen? ⟨w.heap.size + 1, 0, none⟩ = false := by simp [World.frozen?, hr11]
          clear hbe hbel4 hr11
          gi_wp2_with fail
          exact parts_end rfl HR11.out HK2.out HK1.out (by omega) HBW11.out (by omega) (by omega) (by omega)
  case stop => exact fun _ _ _ _ _ h => h.elim
theorem parts_law (A : Option Addr) (n c : Nat) (ds : List Nat) (stop q : Int) (w : World) (ra : Rdv w A n 1 (valsB ds)) (hnil : A = none → c = 0) (hds : ∀ x ∈ ds, x < 256) (hnc : n ≤ c) (hn : n ≤ 9223372036854775807) (hq : q ≤ 9223372036854775807) :
    Calls Try.prog 11 #[.slice A n c, .int .i64 stop, .int .i64 q] w fun e w' => e = .returned (.bool true) ∧ Below w.heap.size w w' :=
  callsIn_wide.1 (parts_in A n c ds stop q w ra hnil hds hnc hn hq)
end Go.Proofs.Ytiemjgkpjmncfaa
