/- XDCrash: put together. -/
import Derived.Test.YtjmjehhmkjhalaaQb17
import Derived.Test.YtjmjehhmkjhalaaQk00
/- DCrash: further theorems. -/
namespace Go.Proofs.Ytjmjehhmkjhalaa
set_option maxRecDepth 100000
open Go.RowKit

set_option maxHeartbeats 2000000 in
/-- The closure that tells what is kept of a device's write. -/
theorem closure_any (A : Option Addr) (c : Nat) (l : List Kp) (d : Int) (k3 k4 : Nat) (i : Int) (w : World) (h : Kps w A l) (hl : l.length ≤ 1000000) (h3 : w.cell? ⟨k3, 0, none⟩ = some (.slice A l.length c)) (h4 : w.cell? ⟨k4, 0, none⟩ = some (.int .i64 d)) :
    Calls Try.prog 106 #[.int .i64 i, .pointer (some ⟨k3, 0, none⟩), .pointer (some ⟨k4, 0, none⟩)] w fun e w' => e = .returned (.int .i64 (keptM l d i)) ∧ Below w.heap.size w w' := by
  have HK := Lib.hid (kept_any A c l d i w h hl)
  obtain ⟨n, hn⟩ : ∃ n, n = l.length := ⟨_, rfl⟩
  rw [← hn] at h3 hl HK
  clear h hn
  go_enter Try.func106, Try.ntmps106
  go_wp2_with fail
  refine Calls.mono HK.out ?_
  rintro e w1 ⟨rfl, hb⟩
  have HB := Lib.hid hb
  clear hb
  go_wp2_with fail
  go_ret
  exact ⟨rfl, HB.out⟩
theorem slice_to (w : World) (b k : Nat) (hk : k ≤ 64) : (Instr.sliceAt 75 (.pointer (some ⟨b, 0, none⟩)) none (some (.int .i64 (k : Int))) none).run Try.prog w = .ok (.slice (some ⟨b, 0, none⟩) k 64) w := by
  have ha : Try.prog.arrayLen 75 = 64 := by kernel_rfl
  rw [run_sliceAt_array_h (P := Try.prog) (w := w) 75 ⟨b, 0, none⟩ (by kernel_rfl) .i64 (k : Int) (by omega) (by rw [ha]; omega)]
  have hs : (sizeOf (Try.prog.elem 75)).run Try.prog w = .ok 1 w := by kernel_rfl
  rw [hs, ha]
  simp [slicedAt, Result.andThen, Addr.add]
theorem copy_mix (w : World) (t6 z k : Nat) (x : Sx) (y : Wx) (hS : SBlk w t6 x) (hA : At w z 0 y.vals) (hk : k ≤ 64) : ∀ ty, (Builtin.copy_ #[51, 51] ty #[.slice (some ⟨t6, 0, none⟩) k 64, .slice (some ⟨z, 1, none⟩) 64 64]).run Try.prog w = .ok (.int .i64 (k : Int)) (w.setRow t6 (mixS x y.x k).arr) := by
  intro ty
  have hl : (y.x.vals.take k).length = k := by rw [List.length_take, y.x.vlen]; omega
  have h := run_copy_row (P := Try.prog) w 51 51 ty 5 t6 0 k 64 ⟨z, 1, none⟩ 64 64 x.arr 75 (y.x.vals.take k) Try.underlying51 (by kernel_rfl) hS (by rw [hl]; exact (Nat.min_eq_right hk).symm) (fun r u hr => by
      rw [addr_plus]
      have h1 : y.x.vals[r]? = some u := by
        rw [List.getElem?_take] at hr
        split at hr
        · exact hr
        · cases hr
      have := hA (r + 1) u h1
      rwa [show 0 + (r + 1) = 1 + r by omega] at this) (by rw [hl, x.size]; omega) (fun u hu => y.x.one u (List.mem_of_mem_take hu))
  rw [h, hl]
  have e : (x.arr.toList.take 0 ++ y.x.vals.take k ++ x.arr.toList.drop (0 + k)).toArray = (mixS x y.x k).arr := by
    rw [x.toList]
    unfold Sx.arr Sx.vals valsB mixS
    simp
  rw [e]
  rfl
section
variable {w : World} {F : Nat → Prop} {g : Nat} {p : Pw} {L : List DM}
set_option maxHeartbeats 8000000 in
theorem crash_disk {b c : Nat} (h : SetM w F g p (.slice (some ⟨b, 0, none⟩) L.length c) L) (j : Nat) (hj : j < L.length) (_ : L.length ≤ 1000) (hw : L[j].n + L[j].dk.waits.length ≤ 1000000000) (hwf : ∀ y ∈ L[j].dk.waits, WfI y.i)
    (kf : Nat → Nat) (hkf : ∀ q, kf q ≤ 64) (k3 k4 : Nat) (hc : ∀ (q : Nat) (w' : World), Chg w w' F F → Calls Try.prog 106 #[.int .i64 (q : Int), .pointer (some ⟨k3, 0, none⟩), .pointer (some ⟨k4, 0, none⟩)] w' fun e w'' => e = .returned (.int .i64 (kf q : Int)) ∧ Below w'.heap.size w' w'') :
    Calls Try.prog 105 #[.pointer (some ⟨b, j * 3, none⟩), .func (.func 106) #[] #[.pointer (some ⟨k3, 0, none⟩), .pointer (some ⟨k4, 0, none⟩)]] w fun e w' => e = .returned (.tuple #[]) ∧ ∃ n', n' ≤ L[j].n + L[j].dk.waits.length ∧
      SetM w' F g p (.slice (some ⟨b, 0, none⟩) L.length c) (L.set j ⟨⟨L[j].dk.size, crashW kf L[j].dk.sure L[j].dk.waits L[j].dk.waits.length, []⟩, L[j].m, n', .slice none 0 0⟩) ∧ Chg w w' F F := by
  have HCC := Lib.hid hc
  have HKF := Lib.hid hkf
  obtain ⟨N, hNN⟩ : ∃ N, N = L.length := ⟨_, rfl⟩
  have HNN := Lib.hid hNN
  obtain ⟨D, hD⟩ : ∃ D, D = L[j] := ⟨_, rfl⟩
  have HD := Lib.hid hD
  have HWF := Lib.hid hwf
  have k2 : w.cell? ⟨b, j * 3 + 2, none⟩ = some D.v := by
    obtain ⟨A, c', e, _, hc⟩ := h.slice
    obtain ⟨b', rfl, _, _, _, _, _, k2⟩ := hc j hj
    injection e with e _ _
    injection e with e
    injection e with e
    subst e
    rw [HD.out]
    exact k2
  obtain ⟨Aw, cw, hvw, _, _, hcw⟩ := rdv_own (h.each j hj).waits
  rw [← hD] at hvw hcw hw HWF ⊢
  have HVW := Lib.hid hvw
  rw [hvw] at k2
  obtain ⟨n, hn⟩ : ∃ n, n = D.dk.waits.length := ⟨_, rfl⟩
  have HN := Lib.hid hn
  rw [← hn] at k2 hcw hw ⊢
  have H1 := Lib.hid h
  rw [← hNN] at H1 ⊢
  clear h hn hvw hc hkf hNN hD hwf
  go_enter Try.func105, Try.ntmps105
  go_wp2_with fail
  go_loopw [4, 5, 6, 7, 13] (fun _ _ _ _ i wr => ∃ (q n' : Nat), i = .int .i64 (q : Int) ∧ q ≤ n ∧ n' ≤ D.n + q ∧ SetM wr F g p (.slice (some ⟨b, 0, none⟩) N c) (L.set j ⟨⟨D.dk.size, crashW kf D.dk.sure D.dk.waits q, D.dk.waits⟩, D.m, n', D.v⟩) ∧ Chg w wr F F) (fun _ _ _ _ i _ => n - (intOf i).toNat)
  case atStart =>
    refine ⟨0, D.n, rfl, by omega, by omega, ?_, Chg.refl _ _⟩
    have e : (L.set j ⟨⟨D.dk.size, crashW kf D.dk.sure D.dk.waits 0, D.dk.waits⟩, D.m, D.n, D.v⟩) = L := by
      rw [HD.out]; exact List.set_getElem_self hj
    rw [e]
    exact H1.out
  case round =>
    obtain ⟨q, n', rfl, hq, hn', h4, h5⟩ := hrel
    have H4 := Lib.hid h4
    have H5 := Lib.hid h5
    have hj' : j < (L.set j ⟨⟨D.dk.size, crashW kf D.dk.sure D.dk.waits q, D.dk.waits⟩, D.m, n', D.v⟩).length := by rw [List.length_set]; exact hj
    by_cases hlt : q < n
    · have hql : q < D.dk.waits.length := by rw [← HN.out]; exact hlt
      have hdj := h4.each j hj'
      simp only [List.getElem_set_self] at hdj
      obtain ⟨Aw', cw', e1, hrd, _, _⟩ := rdv_own hdj.waits
      simp only [] at e1
      rw [HVW.out] at e1
      injection e1 with e1 e3 e4
      subst e1 e4
      obtain ⟨bw, ow, rfl, hc⟩ := hrd.2 (show 0 < D.dk.waits.length by omega)
      obtain ⟨y, hy⟩ : ∃ y, y = D.dk.waits[q] := ⟨_, rfl⟩
      have HY := Lib.hid hy
      have hld : At wr bw (ow + q * 65) y.vals := fun r u hr => by
        have hr2 : r < 65 := by
          have := (List.getElem?_eq_some_iff.1 hr).1
          rwa [y.vlen] at this
        have := hc (q * 65 + r) u ((rowV_get Wx.vals 65 Wx.vlen D.dk.waits q hql r hr2).trans (by rw [← hy]; exact hr))
        rwa [← Nat.add_assoc] at this
      have HLD := Lib.hid (load_wx hld)
      have HST := Lib.hid (storeVar_wx wr y)
      have hyw := HWF.out y (by rw [hy]; exact List.getElem_mem hql)
      obtain ⟨x, hx⟩ : ∃ x, x = crashW kf D.dk.sure D.dk.waits q y.i := ⟨_, rfl⟩
      have HX := Lib.hid hx
      have m1 : wr.cell? ⟨b, j * 3 + 1, none⟩ = some (.map (some D.m)) := by
        obtain ⟨A, c', e, _, hc⟩ := h4.slice
        obtain ⟨b', rfl, _, _, _, _, k1, _⟩ := hc j hj'
        simp only [List.getElem_set_self] at k1
        injection e with e _ _
        injection e with e
        injection e with e
        subst e
        exact k1
      have HMAP := Lib.hid (show MapS wr D.m n' (crashW kf D.dk.sure D.dk.waits q) from hdj.map)
      clear h4 h5 hdj hrd hc hy hld hx
      have hz := zero99 wr
      go_upto_region 3 with (first | (refine wpList_load_val rfl (.tmp 16) rfl rfl y.val HLD.out ?_) | (refine wpList_store_val rfl (.tmp 5) (.tmp 17) rfl rfl y.val rfl HST.out ?_))
      have hba : Below wr.heap.size wr (wr.alloc (.cells y.arr 190)) := (Below.refl _ _).alloc (Nat.le_refl _) _
      have m2 := (hba.cell (p := ⟨b, j * 3 + 1, none⟩) (World.block_lt_of_cell? _ _ m1)).trans m1
      have hay : At (wr.alloc (.cells y.arr 190)) wr.heap.size 0 y.vals := by
        have := At.of_block (w := wr.alloc (.cells y.arr 190)) (heap_alloc_new wr _)
        rwa [show y.arr.toList = y.vals by simp [Wx.arr]] at this
      have hmm := HMAP.out.keep (hba.block _ HMAP.out.lt)
      have HBA := Lib.hid hba
      clear m1 hz hba HLD HST HMAP
      obtain ⟨z, hzz⟩ : ∃ z, z = wr.heap.size := ⟨_, rfl⟩
      have HZZ := Lib.hid hzz
      rw [← hzz] at hay ⊢
      clear hzz
      revert HBA
      generalize World.alloc wr _ = wz at m2 hay hmm ⊢
      intro HBA
      have HA := Lib.hid (show ∀ W2, Below wz.heap.size wz W2 → W2.cell? ⟨b, j * 3 + 1, none⟩ = some (.map (some D.m)) ∧ At W2 z 0 y.vals ∧ (Instr.lookup 148 (.map (some D.m)) (.int .i64 y.i) false).run Try.prog W2 = .ok x.val W2 from fun W2 hb2 => by
        refine ⟨(hb2.cell (World.block_lt_of_cell? _ _ m2)).trans m2, hay.below hb2, ?_⟩
        rw [HX.out]
        exact (hmm.keep (hb2.block _ hmm.lt)).look y.i hyw)
      clear m2 hay hmm
      refine wp_region_noPanic ?_
      refine wp_region_abs 8 46 [
        .is (.pointer (some ⟨b, j * 3, none⟩)),
        .is (.pointer (some ⟨b, j * 3, none⟩)),
        .is (.pointer (some ⟨b, j * 3 + 1, none⟩)),
        .is (.map (some D.m)),
        .is (.pointer (some ⟨z, 0, none⟩)),
        .is (.int .i64 y.i),
        .is x.val,
        .tells fun _ v wb wa => v = .pointer (some ⟨wb.heap.size, 0, none⟩) ∧ wa = wb.alloc (.cells Sx.zero.arr 75)]
        [18, 19, 20, 21, 22, 23, 24, 6]
        [[], [0], [1], [2], [], [4], [3, 5], []] (by kernel_rfl) (by rfl) rfl rfl (by kernel_rfl) (fun _ _ _ _ h => h.elim) ?_ ?_
      · refine ⟨?_, ?_, ?_, ?_, ?_, ?_, ?_, ?_, trivial⟩
        · intro W2 hw K hK
          go_simp
          exact hK _ _ rfl (Below.refl _ _)
        · intro W2 hw K hK
          go_simp
          exact hK _ _ rfl (Below.refl _ _)
        · intro W2 hw K hK
          go_simp
          exact hK _ _ rfl (Below.refl _ _)
        · intro W2 hw K hK
          obtain ⟨c0, _, _⟩ := HA.out W2 ((Below.refl _ wz).drew.trans hw)
          go_simp
          exact hK _ _ rfl (Below.refl _ _)
        · intro W2 hw K hK
          go_simp
          exact hK _ _ rfl (Below.refl _ _)
        · intro W2 hw K hK
          have c0 := (HA.out W2 ((Below.refl _ wz).drew.trans hw)).2.1 0 _ rfl
          go_simp
          exact hK _ _ rfl (Below.refl _ _)
        · intro W2 hw K hK
          obtain ⟨_, _, c0⟩ := HA.out W2 ((Below.refl _ wz).drew.trans hw)
          go_simp
          exact hK _ _ rfl (Below.refl _ _)
        · intro W2 hw K hK
          have c0 := zero50 W2
          go_simp
          exact hK _ _ ⟨rfl, rfl⟩ ((Below.refl _ _).alloc (Nat.le_refl _) _)
      · intro W2 hw2
        simp only [Behind]
        rintro v6 wb wa ⟨rfl, rfl⟩ hx1 hx2 _
        have hwb : Below wz.heap.size wz wb := (Below.refl _ wz).drew.trans hx2
        have hw0 : Below wz.heap.size wz W2 := (Below.refl _ wz).drew.trans hw2
        have hzb : wz.heap.size ≤ wb.heap.size := hwb.size
        have hs0 : SBlk W2 wb.heap.size Sx.zero := SBlk.below (w := wb.alloc (.cells Sx.zero.arr 75)) (heap_alloc_new wb _) hx1
        have hst := hs0.store x
        have hp3 := hs0.put x
        obtain ⟨t6, ht6⟩ : ∃ t, t = wb.heap.size := ⟨_, rfl⟩
        rw [← ht6] at hs0 hst hp3 hzb ⊢
        have hb3 : Below wz.heap.size wz (W2.setRow t6 x.arr) := setRow_below hw0 hzb
        have HP3 := Lib.hid hp3
        have HB3 := Lib.hid hb3
        have HSZ := Lib.hid hzb
        clear hw2 hx1 hx2 hwb hw0 hs0 hp3 hb3 hzb ht6
        simp only [List.drop, Act.put, List.setIfInBounds_toArray, List.set_cons_zero, List.set_cons_succ]
        refine wpList_store_val rfl (.tmp 6) (.tmp 24) rfl rfl x.val rfl hst ?_
        clear hst
        revert HP3 HB3
        generalize W2.setRow t6 x.arr = w3
        intro HP3 HB3
        go_wp2_with fail
        refine NoPanic.normal ?_
        go_wp2_with fail
        have hcc := HCC.out q w3 (H5.out.trans (Chg.of_below (HBA.out.trans (HB3.out.mono HBA.out.size)) F))
        refine Calls.mono hcc ?_
        rintro e w4 ⟨rfl, hb4⟩
        have hz4 : Below wz.heap.size wz w4 := HB3.out.trans (hb4.mono HB3.out.size)
        have HP4 := Lib.hid (HP3.out.below hb4)
        have HB4 := Lib.hid hz4
        have HKQ := Lib.hid (HKF.out q)
        have HCS := Lib.hid (show crashW kf D.dk.sure D.dk.waits (q + 1) = if kf q = 0 then crashW kf D.dk.sure D.dk.waits q else upd (crashW kf D.dk.sure D.dk.waits q) y.i (mixS x y.x (kf q)) from by
          have e : D.dk.waits.getD q ⟨0, Sx.zero⟩ = y := by rw [HY.out, List.getD_eq_getElem?_getD, List.getElem?_eq_getElem hql]; rfl
          show (if kf q = 0 then _ else upd _ (D.dk.waits.getD q ⟨0, Sx.zero⟩).i _) = _
          rw [e, ← HX.out])
        obtain ⟨k, hk⟩ : ∃ k, k = kf q := ⟨_, rfl⟩
        rw [← hk] at HCS HKQ ⊢
        have HWR := Lib.hid (HBA.out.trans (HB4.out.mono HBA.out.size))
        clear hcc hb4 hz4 hk HP3 HB3
        by_cases hk0 : k = 0
        · have hcs := HCS.out
          rw [if_pos hk0] at hcs
          have HC9 := Lib.hid hcs
          subst hk0
          clear hcs HCS
          go_wp2_with fail
          go_roundw
          case rel =>
            refine ⟨q + 1, n', by go_num, by omega, by omega, ?_, H5.out.trans (Chg.of_below HWR.out F)⟩
            rw [HC9.out]
            exact H4.out.below HWR.out
          case measure => simp [intOf]; omega
        · have hcs := HCS.out
          rw [if_neg hk0] at hcs
          have HC9 := Lib.hid hcs
          have g1 : decide (0 < (k : Int)) = true := by rw [decide_eq_true_iff]; omega
          have g2 : decide (0 < k) = true := by rw [decide_eq_true_iff]; omega
          have hk64 := HKQ.out
          clear hcs HCS
          go_upto_region 6 with fail
          try simp only [g1, g2]
          refine wp_region_noPanic ?_
          refine wp_region_abs 4 46 [
            .is (.int .i64 (k : Int)),
            .is (.slice (some ⟨t6, 0, none⟩) k 64),
            .is (.pointer (some ⟨z, 1, none⟩)),
            .is (.slice (some ⟨z, 1, none⟩) 64 64)]
            [30, 31, 32, 33]
            [[], [0], [], [2]] (by kernel_rfl) (by rfl) rfl rfl (by kernel_rfl) (fun _ _ _ _ h => h.elim) ?_ ?_
          · refine ⟨?_, ?_, ?_, ?_, trivial⟩
            · intro W2 hw K hK
              go_simp
              exact hK _ _ rfl (Below.refl _ _)
            · intro W2 hw K hK
              have c0 := slice_to W2 t6 k hk64
              go_simp
              exact hK _ _ rfl (Below.refl _ _)
            · intro W2 hw K hK
              go_simp
              exact hK _ _ rfl (Below.refl _ _)
            · intro W2 hw K hK
              go_simp
              exact hK _ _ rfl (Below.refl _ _)
          · intro W2 hw2
            simp only [Behind, List.drop, Act.put, List.setIfInBounds_toArray, List.set_cons_zero, List.set_cons_succ]
            have hb2 : Below w4.heap.size w4 W2 := (Below.refl _ w4).drew.trans hw2
            have hz2 : Below wz.heap.size wz W2 := HB4.out.trans (hb2.mono HB4.out.size)
            have hs2 := HP4.out.below hb2
            have hcp := copy_mix W2 t6 z k x y hs2 (HA.out W2 hz2).2.1 hk64
            have hp5 := hs2.put (mixS x y.x k)
            have hb5 : Below wz.heap.size wz (W2.setRow t6 (mixS x y.x k).arr) := setRow_below hz2 HSZ.out
            have HP5 := Lib.hid hp5
            have HB5 := Lib.hid hb5
            clear hw2 hb2 hz2 hs2 hp5 hb5 HP4 HWR HB4
            go_wp2_with fail
            clear hcp
            revert HP5 HB5
            generalize W2.setRow t6 (mixS x y.x k).arr = w5
            intro HP5 HB5
            refine NoPanic.normal ?_
            go_upto_region 7 with fail
            refine wp_region_noPanic ?_
            refine wp_region_abs 7 46 [
              .is (.pointer (some ⟨b, j * 3, none⟩)),
              .is (.pointer (some ⟨b, j * 3, none⟩)),
              .is (.pointer (some ⟨b, j * 3 + 1, none⟩)),
              .is (.map (some D.m)),
              .is (.pointer (some ⟨z, 0, none⟩)),
              .is (.int .i64 y.i),
              .is (mixS x y.x k).val]
              [35, 36, 37, 38, 39, 40, 41]
              [[], [0], [1], [2], [], [4], []] (by kernel_rfl) (by rfl) rfl rfl (by kernel_rfl) (fun _ _ _ _ h => h.elim) ?_ ?_
            · refine ⟨?_, ?_, ?_, ?_, ?_, ?_, ?_, trivial⟩
              · intro W2 hw K hK
                go_simp
                exact hK _ _ rfl (Below.refl _ _)
              · intro W2 hw K hK
                go_simp
                exact hK _ _ rfl (Below.refl _ _)
              · intro W2 hw K hK
                go_simp
                exact hK _ _ rfl (Below.refl _ _)
              · intro W2 hw K hK
                obtain ⟨c0, _, _⟩ := HA.out W2 (HB5.out.trans (((Below.refl _ w5).drew.trans hw).mono HB5.out.size))
                go_simp
                exact hK _ _ rfl (Below.refl _ _)
              · intro W2 hw K hK
                go_simp
                exact hK _ _ rfl (Below.refl _ _)
              · intro W2 hw K hK
                have c0 := (HA.out W2 (HB5.out.trans (((Below.refl _ w5).drew.trans hw).mono HB5.out.size))).2.1 0 _ rfl
                go_simp
                exact hK _ _ rfl (Below.refl _ _)
              · intro W2 hw K hK
                have c0 := (HP5.out.below ((Below.refl _ w5).drew.trans hw)).load
                exact (arm_load (b := t6) (off := 0) (.tmp 6) rfl rfl (by kernel_rfl) (mixS x y.x k).val c0 (hK _ _ rfl (Below.refl _ _))).out
            · intro W6 hw6
              simp only [Behind, List.drop, Act.put, List.setIfInBounds_toArray, List.set_cons_zero, List.set_cons_succ]
              have hb6 : Below wz.heap.size wz W6 := HB5.out.trans (((Below.refl _ w5).drew.trans hw6).mono HB5.out.size)
              have hw0 : Below wr.heap.size wr W6 := HBA.out.trans (hb6.mono HBA.out.size)
              have hms := SetM.mapped (H4.out.below hw0) j hj' y.i hyw (mixS x y.x k) (by simp only [List.getElem_set_self]; unfold maxLen; omega)
              simp only [List.getElem_set_self, List.set_set] at hms
              obtain ⟨W7, hrun, h6, h7⟩ := hms
              have H6 := Lib.hid h6
              have H7 := Lib.hid (H5.out.trans ((Chg.of_below hw0 F).trans h7))
              clear hw6 hb6 hw0 h6 h7
              go_wp2_with fail
              refine NoPanic.normal ?_
              go_wp2_with fail
              go_roundw
              case rel =>
                refine ⟨q + 1, n' + 1, by go_num, by omega, by omega, ?_, H7.out⟩
                rw [HC9.out]
                exact H6.out
              case measure => simp [intOf]; omega
    · obtain rfl : q = n := by omega
      have hcl := SetM.cleared (b := b) (c := c) (w := wr) (F := F) (g := g) (p := p) (by rw [List.length_set, ← HNN.out]; exact H4.out) j hj'
      simp only [List.getElem_set_self, List.set_set] at hcl
      rw [HVW.out] at hcl
      obtain ⟨q1, q2, q3, q4⟩ := hcl
      have Q3 := Lib.hid q3
      have Q4 := Lib.hid (H5.out.trans q4)
      clear h4 h5 q3 q4
      go_wp2_with fail
      refine bodyPost_end (v := .tuple #[]) (by simp [results, Try.results105, go_sem]) rfl ⟨rfl, n', hn', ?_, Q4.out⟩
      have h9 := Q3.out
      rw [List.length_set, ← HNN.out] at h9
      exact h9
end
end Go.Proofs.Ytjmjehhmkjhalaa
