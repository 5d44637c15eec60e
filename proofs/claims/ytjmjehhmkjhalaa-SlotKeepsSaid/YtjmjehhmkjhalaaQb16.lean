/- DFlush: put together. -/
import Derived.Test.YtjmjehhmkjhalaaQb14
import Derived.Test.YtjmjehhmkjhalaaQb15
/- Flush. -/
namespace Go.Proofs.Ytjmjehhmkjhalaa
set_option maxRecDepth 100000
open Go.RowKit

section
variable {w : World} {F : Nat → Prop} {g : Nat} {p : Pw} {v : Value} {L : List DM}
theorem rowD_same (L : List DM) (j : Nat) (hj : j < L.length) (d : DM) (hd : d.vals = L[j].vals) : rowV DM.vals (L.set j d) = rowV DM.vals L := by
  apply List.ext_getElem?
  intro i
  by_cases hi : i < L.length * 3
  · have h1 : i / 3 < L.length := by omega
    have h2 : i % 3 < 3 := by omega
    have e : i / 3 * 3 + i % 3 = i := by omega
    have h3 := rowV_get DM.vals 3 DM.vlen L (i / 3) h1 (i % 3) h2
    have h4 := rowV_get DM.vals 3 DM.vlen (L.set j d) (i / 3) (by rw [List.length_set]; exact h1) (i % 3) h2
    rw [e] at h3 h4
    rw [h3, h4, List.getElem_set]
    by_cases hq : j = i / 3
    · rw [if_pos hq, hd]
      subst hq
      rfl
    · rw [if_neg hq]
  · rw [List.getElem?_eq_none (by rw [rowV_length DM.vals 3 DM.vlen, List.length_set]; omega), List.getElem?_eq_none (by rw [rowV_length DM.vals 3 DM.vlen]; omega)]
/-- A sector of a device made sure. -/
theorem SetM.mapped (h : SetM w F g p v L) (j : Nat) (hj : j < L.length) (i : Int) (hi : WfI i) (x : Sx) (hn : L[j].n < maxLen) :
    ∃ w', (Instr.mapUpdate 148 (.map (some L[j].m)) (.int .i64 i) x.val).run Try.prog w = .ok () w' ∧
      SetM w' F g p v (L.set j ⟨⟨L[j].dk.size, upd L[j].dk.sure i x, L[j].dk.waits⟩, L[j].m, L[j].n + 1, L[j].v⟩) ∧ Chg w w' F F := by
  have hdj := h.each j hj
  obtain ⟨w', hrun, h1, h2⟩ := hdj.map.store i hi x hn
  have keep : ∀ k, k < w.heap.size → k ≠ L[j].m → w'.heap[k]? = w.heap[k]? := fun k hk hne => h2.block k hk (fun e => hne (by injection e))
  have hlen : (L.set j ⟨⟨L[j].dk.size, upd L[j].dk.sure i x, L[j].dk.waits⟩, L[j].m, L[j].n + 1, L[j].v⟩).length = L.length := List.length_set ..
  have hvals : (⟨⟨L[j].dk.size, upd L[j].dk.sure i x, L[j].dk.waits⟩, L[j].m, L[j].n + 1, L[j].v⟩ : DM).vals = L[j].vals := rfl
  have hown := h.own
  refine ⟨w', hrun, ⟨h.Fg, fun k hk => Nat.lt_of_lt_of_le (h.Flt k hk) h2.size, (keep g h.glt (fun e => map_ne hdj.map h.block e.symm)).trans h.block, ?_, h.Fv, fun a ha => ?_, fun a b ha hb hne => ?_⟩, Chg.of_grown h2 hdj.Fm⟩
  · rw [hlen, rowD_same L j hj _ hvals]
    exact own_same hown fun q e => keep q (h.Flt q (h.Fv q e)) (fun e2 => map_row hdj.map hown (by rw [e, e2]))
  · rw [hlen] at ha
    rw [List.getElem_set]
    by_cases e : j = a
    · rw [if_pos e]
      exact ⟨h1, hdj.Fm, own_same hdj.waits fun q e2 => keep q (h.Flt q (hdj.Fw q e2)) (fun e3 => map_row hdj.map hdj.waits (by rw [e2, e3])), hdj.Fw⟩
    · rw [if_neg e]
      have hda := h.each a ha
      exact ⟨hda.map.keep (keep _ (h.Flt _ hda.Fm) (fun e2 => (h.apart j a hj ha e).1 e2.symm)), hda.Fm, own_same hda.waits fun q e2 => keep q (h.Flt q (hda.Fw q e2)) (fun e3 => map_row hdj.map hda.waits (by rw [e2, e3])), hda.Fw⟩
  · rw [hlen] at ha hb
    rw [List.getElem_set, List.getElem_set]
    by_cases e1 : j = a
    · have e2 : j ≠ b := fun e => hne (e1.symm.trans e)
      rw [if_pos e1, if_neg e2]
      exact h.apart j b hj hb e2
    · by_cases e2 : j = b
      · rw [if_neg e1, if_pos e2]
        exact h.apart a j ha hj (fun e => e1 e.symm)
      · rw [if_neg e1, if_neg e2]
        exact h.apart a b ha hb hne
/-- A device's writes forgotten. -/
theorem SetM.cleared {b c : Nat} (h : SetM w F g p (.slice (some ⟨b, 0, none⟩) L.length c) L) (j : Nat) (hj : j < L.length) :
    w.cell? ⟨b, j * 3 + 2, none⟩ = some L[j].v ∧ w.frozen? ⟨b, j * 3 + 2, none⟩ = false ∧
    SetM (w.setCell ⟨b, j * 3 + 2, none⟩ (.slice none 0 0)) F g p (.slice (some ⟨b, 0, none⟩) L.length c) (L.set j ⟨⟨L[j].dk.size, L[j].dk.sure, []⟩, L[j].m, L[j].n, .slice none 0 0⟩) ∧ Chg w (w.setCell ⟨b, j * 3 + 2, none⟩ (.slice none 0 0)) F F := by
  have hdj := h.each j hj
  have ht := h.turn (w' := w) (F' := F) (r := 2) (u := .slice none 0 0) (d' := ⟨⟨L[j].dk.size, L[j].dk.sure, []⟩, L[j].m, L[j].n, .slice none 0 0⟩) hj (by omega) rfl (Nat.le_refl _) (fun _ _ _ _ => rfl) (fun _ e => e) h.Flt
    ⟨hdj.map, hdj.Fm, ⟨rfl, .inl ⟨rfl, rfl⟩⟩, fun q e => by cases e⟩ rfl (fun q e => by cases e)
  exact ⟨ht.1, ht.2.1, ht.2.2, ⟨rfl, rfl, rfl, by rw [World.size_setCell]; exact Nat.le_refl _, fun k _ hn => Deep.blk_setCell_other w ⟨b, j * 3 + 2, none⟩ _ k (fun e => hn (by rw [e]; exact h.Fv b rfl)), fun _ e => .inl e⟩⟩
theorem storeVar_wx (w1 : World) (y : Wx) : (storeVar 190 ⟨w1.heap.size, 0, none⟩ y.val).run Try.prog (w1.alloc (.cells (⟨0, Sx.zero⟩ : Wx).arr 190)) = .ok () (w1.alloc (.cells y.arr 190)) := by
  have h2 := store_newW w1 y
  rw [zero_wx] at h2
  cases hq : Try.prog.info? 190 with
  | none => have := info99; rw [hq] at this; cases this
  | some i =>
    have hs : i.size = 65 := by have := info99; rw [hq] at this; simpa using this
    unfold Wx.val
    simp [storeVar, sizeOf, typeInfo, hq, Value.cells, hs, y.size]
    exact h2
/-- What a flush makes sure. -/
def foldW (f : Int → Sx) (l : List Wx) : Int → Sx := l.foldl (fun f y => upd f y.i y.x) f
theorem foldW_succ (f : Int → Sx) (l : List Wx) (q : Nat) (hq : q < l.length) : foldW f (l.take (q + 1)) = upd (foldW f (l.take q)) l[q].i l[q].x := by
  unfold foldW
  rw [List.take_succ_eq_append_getElem hq, List.foldl_append]
  rfl
set_option maxHeartbeats 2000000 in
theorem flush_range (h : SetM w F g p v L) (d : Int) (hl : L.length ≤ 1000) (hb : hasB (L.map DM.dk) d 0 = false) :
    Calls Try.prog 87 #[.pointer (some ⟨g, 0, none⟩), .int .i64 d] w fun e w' => e = .returned eRange ∧ w = w' := by
  have hh := has_any h d 0 hl
  rw [hb] at hh
  have HH := Lib.hid hh
  clear hh hb h
  go_enter Try.func87, Try.ntmps87
  go_wp2_with fail
  refine Calls.mono HH.out ?_
  rintro e w1 ⟨rfl, rfl⟩
  go_wp2_with fail
  go_ret
  exact ⟨rfl, rfl⟩
set_option maxHeartbeats 2000000 in
theorem flush_down (h : SetM w F g p v L) (d : Int) (hl : L.length ≤ 1000) (hb : hasB (L.map DM.dk) d 0 = true) (hs : p.steps ≤ 1000000000) (ha : p.armed ≤ 9223372036854775807) (hp : (stepP p).1 = false) :
    Calls Try.prog 87 #[.pointer (some ⟨g, 0, none⟩), .int .i64 d] w fun e w' => e = .returned eDown ∧ SetM w' F g (stepP p).2 v L ∧ Chg w w' F F := by
  have hh := has_any h d 0 hl
  rw [hb] at hh
  have HH := Lib.hid hh
  have hst := step_any h hs ha
  rw [hp] at hst
  have HST := Lib.hid hst
  clear hh hb h hst hp
  go_enter Try.func87, Try.ntmps87
  go_wp2_with fail
  refine Calls.mono HH.out ?_
  rintro e w1 ⟨rfl, rfl⟩
  go_wp2_with fail
  refine Calls.mono HST.out ?_
  rintro e w2 ⟨rfl, h2, h3⟩
  have H2 := Lib.hid h2
  have H3 := Lib.hid h3
  clear h2 h3
  go_wp2_with fail
  go_ret
  exact ⟨rfl, H2.out, H3.out⟩
theorem zero99 (w : World) : (zeroValue 190).run Try.prog w = .ok (.agg (⟨0, Sx.zero⟩ : Wx).arr) w := by
  rw [← zero_wx]
  kernel_rfl
set_option maxHeartbeats 8000000 in
theorem flush_yes (h : SetM w F g p v L) (j : Nat) (hj : j < L.length) (hl : L.length ≤ 1000) (hz : 0 < L[j].dk.size) (hw : L[j].n + L[j].dk.waits.length ≤ 1000000000) (hwf : ∀ y ∈ L[j].dk.waits, WfI y.i) (hs : p.steps ≤ 1000000000) (ha : p.armed ≤ 9223372036854775807) (hp : (stepP p).1 = true) :
    Calls Try.prog 87 #[.pointer (some ⟨g, 0, none⟩), .int .i64 (j : Int)] w fun e w' => e = .returned .nilIface ∧ SetM w' F g (stepP p).2 v (L.set j ⟨⟨L[j].dk.size, foldW L[j].dk.sure L[j].dk.waits, []⟩, L[j].m, L[j].n + L[j].dk.waits.length, .slice none 0 0⟩) ∧ Chg w w' F F := by
  have hh := has_any h (j : Int) 0 hl
  rw [hasB_at hj, decide_eq_true (show (0 : Int) ≤ 0 by omega), decide_eq_true (show (0 : Int) < (L[j].dk.size : Int) by omega)] at hh
  have HH := Lib.hid hh
  have hst := step_any h hs ha
  rw [hp] at hst
  have HST := Lib.hid hst
  obtain ⟨A, c, rfl, hle, hc⟩ := h.slice
  obtain ⟨b, rfl, _⟩ := hc j hj
  obtain ⟨N, hNN⟩ : ∃ N, N = L.length := ⟨_, rfl⟩
  have HNN := Lib.hid hNN
  have hjN : j < N := by rw [hNN]; exact hj
  obtain ⟨D, hD⟩ : ∃ D, D = L[j] := ⟨_, rfl⟩
  have HD := Lib.hid hD
  have HWF := Lib.hid hwf
  rw [← hD] at hz hw HWF ⊢
  rw [← hNN] at hle HST ⊢
  clear hh h hst hp hc hNN hD hwf
  go_enter Try.func87, Try.ntmps87
  go_wp2_with fail
  refine Calls.mono HH.out ?_
  rintro e w1 ⟨rfl, rfl⟩
  go_wp2_with fail
  refine Calls.mono HST.out ?_
  rintro e w2 ⟨rfl, h2, h3⟩
  obtain ⟨_, _, _, _, c4⟩ := h2.c
  have k2 : w2.cell? ⟨b, j * 3 + 2, none⟩ = some D.v := by
    obtain ⟨A, c', e, _, hc⟩ := h2.slice
    obtain ⟨b', rfl, _, _, _, _, _, k2⟩ := hc j hj
    injection e with e _ _
    injection e with e
    injection e with e
    subst e
    rw [HD.out]
    exact k2
  have H2 := Lib.hid h2
  have H3 := Lib.hid h3
  obtain ⟨Aw, cw, hvw, _, _, hcw⟩ := rdv_own (h2.each j hj).waits
  rw [← HD.out] at hvw hcw
  rw [hvw] at k2
  obtain ⟨n, hn⟩ : ∃ n, n = D.dk.waits.length := ⟨_, rfl⟩
  have HN := Lib.hid hn
  have HVW := Lib.hid hvw
  rw [← hn] at k2 hcw hw
  clear h2 h3 hn hvw
  go_wp2_with fail
  go_loopw [7, 33] (fun _ i wr => ∃ q : Nat, i = .int .i64 (q : Int) ∧ q ≤ n ∧ SetM wr F g (stepP p).2 (.slice (some ⟨b, 0, none⟩) N c) (L.set j ⟨⟨D.dk.size, foldW D.dk.sure (D.dk.waits.take q), D.dk.waits⟩, D.m, D.n + q, D.v⟩) ∧ Chg w2 wr F F) (fun _ i _ => n - (intOf i).toNat)
  case atStart =>
    refine ⟨0, rfl, by omega, ?_, Chg.refl _ _⟩
    have e : (L.set j ⟨⟨D.dk.size, foldW D.dk.sure (D.dk.waits.take 0), D.dk.waits⟩, D.m, D.n + 0, D.v⟩) = L := by
      rw [HD.out]; exact List.set_getElem_self hj
    rw [e]
    exact H2.out
  case round =>
    obtain ⟨q, rfl, hq, h4, h5⟩ := hrel
    have H4 := Lib.hid h4
    have H5 := Lib.hid h5
    have hj' : j < (L.set j ⟨⟨D.dk.size, foldW D.dk.sure (D.dk.waits.take q), D.dk.waits⟩, D.m, D.n + q, D.v⟩).length := by rw [List.length_set]; exact hj
    by_cases hlt : q < n
    · have hql : q < D.dk.waits.length := by rw [← HN.out]; exact hlt
      have hdj := h4.each j hj'
      simp only [List.getElem_set_self] at hdj
      obtain ⟨Aw', cw', e1, hrd, _, _⟩ := rdv_own hdj.waits
      have e2 := e1
      simp only [] at e1 e2
      rw [HVW.out] at e1
      injection e1 with e1 e3 e4
      subst e1 e4
      obtain ⟨bw, ow, rfl, hc⟩ := hrd.2 (show 0 < D.dk.waits.length by omega)
      obtain ⟨y, hy⟩ : ∃ y, y = D.dk.waits[q] := ⟨_, rfl⟩
      have HY := Lib.hid hy
      have hld : At wr bw (ow + q * 65) y.vals := fun r u hr => by
        have hr2 : r < 65 := by
          have := (List.getElem?_eq_some_iff.1 hr).1
          rwa [y.vlen] at this
        have := hc (q * 65 + r) u ((rowV_get Wx.vals 65 Wx.vlen D.dk.waits q hql r hr2).trans (by rw [← hy]; exact hr))
        rwa [← Nat.add_assoc] at this
      have HLD := Lib.hid (load_wx hld)
      have HST := Lib.hid (storeVar_wx wr y)
      have hyw := HWF.out y (by rw [hy]; exact List.getElem_mem hql)
      have m1 : wr.cell? ⟨b, j * 3 + 1, none⟩ = some (.map (some D.m)) := by
        obtain ⟨A, c', e, _, hc⟩ := h4.slice
        obtain ⟨b', rfl, _, _, _, _, k1, _⟩ := hc j hj'
        simp only [List.getElem_set_self] at k1
        injection e with e _ _
        injection e with e
        injection e with e
        subst e
        exact k1
      clear h4 h5 hdj hrd hc hy e2 hld
      have hz := zero99 wr
      go_upto_region 11 with (first | (refine wpList_load_val rfl (.tmp 35) rfl rfl y.val HLD.out ?_) | (refine wpList_store_val rfl (.tmp 7) (.tmp 36) rfl rfl y.val rfl HST.out ?_))
      have hba : Below wr.heap.size wr (wr.alloc (.cells y.arr 190)) := (Below.refl _ _).alloc (Nat.le_refl _) _
      have m2 := (hba.cell (p := ⟨b, j * 3 + 1, none⟩) (World.block_lt_of_cell? _ _ m1)).trans m1
      have hay : At (wr.alloc (.cells y.arr 190)) wr.heap.size 0 y.vals := by
        have := At.of_block (w := wr.alloc (.cells y.arr 190)) (heap_alloc_new wr _)
        rwa [show y.arr.toList = y.vals by simp [Wx.arr]] at this
      have HS2 := Lib.hid (H4.out.below hba)
      have HC2 := Lib.hid (H5.out.trans (Chg.of_below hba F))
      clear m1 hz hba HLD HST H4 H5
      obtain ⟨z, hzz⟩ : ∃ z, z = wr.heap.size := ⟨_, rfl⟩
      rw [← hzz] at hay ⊢
      revert HS2 HC2
      generalize World.alloc wr _ = wz at m2 hay ⊢
      intro HS2 HC2
      have HA := Lib.hid (show ∀ W2, Below wz.drew.heap.size wz.drew W2 → W2.cell? ⟨b, j * 3 + 1, none⟩ = some (.map (some D.m)) ∧ W2.cell? ⟨z, 0, none⟩ = some (.int .i64 y.i) ∧ (loadVar 75 ⟨z, 1, none⟩).run Try.prog W2 = .ok y.x.val W2 from fun W2 hw => by
        have hb2 : Below wz.heap.size wz W2 := (Below.refl _ wz).drew.trans hw
        have ha2 := hay.below hb2
        refine ⟨(hb2.cell (World.block_lt_of_cell? _ _ m2)).trans m2, ha2 0 _ rfl, load_sx fun r u hr => ?_⟩
        have := ha2 (r + 1) u hr
        rwa [show 0 + (r + 1) = 1 + r by omega] at this)
      clear m2 hay hzz
      refine wp_region_noPanic ?_
      refine wp_region_abs 8 49 [
        .is (.pointer (some ⟨b, j * 3, none⟩)),
        .is (.pointer (some ⟨b, j * 3, none⟩)),
        .is (.pointer (some ⟨b, j * 3 + 1, none⟩)),
        .is (.map (some D.m)),
        .is (.pointer (some ⟨z, 0, none⟩)),
        .is (.int .i64 y.i),
        .is (.pointer (some ⟨z, 1, none⟩)),
        .is y.x.val]
        [37, 38, 39, 40, 41, 42, 43, 44]
        [[], [0], [1], [2], [], [4], [], [6]] (by kernel_rfl) (by rfl) rfl rfl (by kernel_rfl) (fun _ _ _ _ h => h.elim) ?_ ?_
      · refine ⟨?_, ?_, ?_, ?_, ?_, ?_, ?_, ?_, trivial⟩
        · intro W2 hw K hK
          go_simp
          exact hK _ _ rfl (Below.refl _ _)
        · intro W2 hw K hK
          go_simp
          exact hK _ _ rfl (Below.refl _ _)
        · intro W2 hw K hK
          go_simp
          exact hK _ _ rfl (Below.refl _ _)
        · intro W2 hw K hK
          obtain ⟨c0, _, _⟩ := HA.out W2 hw
          go_simp
          exact hK _ _ rfl (Below.refl _ _)
        · intro W2 hw K hK
          go_simp
          exact hK _ _ rfl (Below.refl _ _)
        · intro W2 hw K hK
          obtain ⟨_, c0, _⟩ := HA.out W2 hw
          go_simp
          exact hK _ _ rfl (Below.refl _ _)
        · intro W2 hw K hK
          go_simp
          exact hK _ _ rfl (Below.refl _ _)
        · intro W2 hw K hK
          obtain ⟨_, _, c0⟩ := HA.out W2 hw
          exact (arm_load (b := z) (off := 1) (.tmp 43) rfl rfl (by kernel_rfl) y.x.val c0 (hK _ _ rfl (Below.refl _ _))).out
      · intro W2 hw2
        simp only [Behind]
        have hb2 : Below wz.heap.size wz W2 := (Below.refl _ wz).drew.trans hw2
        have hms := SetM.mapped (HS2.out.below hb2) j hj' y.i hyw y.x (by simp only [List.getElem_set_self]; unfold maxLen; omega)
        simp only [List.getElem_set_self, List.set_set] at hms
        obtain ⟨W3, hrun, h6, h7⟩ := hms
        have H6 := Lib.hid h6
        have H7 := Lib.hid (HC2.out.trans ((Chg.of_below hb2 F).trans h7))
        clear hw2 hb2 HS2 HC2 HA h6 h7
        simp only [List.drop, Act.put, List.setIfInBounds_toArray, List.set_cons_zero, List.set_cons_succ]
        go_wp2_with fail
        refine NoPanic.normal ?_
        go_wp2_with fail
        go_roundw
        case rel =>
          refine ⟨q + 1, by go_num, by omega, ?_, H7.out⟩
          rw [foldW_succ _ _ _ hql, ← HY.out]
          exact H6.out
        case measure => simp [intOf]; omega
    · obtain rfl : q = n := by omega
      have hcl := SetM.cleared (b := b) (c := c) (w := wr) (F := F) (g := g) (p := (stepP p).2) (by rw [List.length_set, ← HNN.out]; exact H4.out) j hj'
      simp only [List.getElem_set_self, List.set_set] at hcl
      rw [HVW.out] at hcl
      obtain ⟨q1, q2, q3, q4⟩ := hcl
      have Q3 := Lib.hid q3
      have Q4 := Lib.hid (H3.out.trans (H5.out.trans q4))
      clear h4 h5 q3 q4
      go_wp2_with fail
      go_ret
      refine ⟨rfl, ?_, Q4.out⟩
      have h9 := Q3.out
      rw [List.length_set, ← HNN.out, HN.out, List.take_length] at h9
      rw [← HN.out] at h9 ⊢
      exact h9
end
end Go.Proofs.Ytjmjehhmkjhalaa
