/- Copy. -/
import Derived.Test.YthmebgpleegonaaDClone
import Derived.Test.YthmebgpleegonaaDReg0
namespace Go.Proofs.Ythmebgpleegonaa
set_option maxRecDepth 100000
open Go.RowKit

theorem SetM.box2 (w : World) (p : Pw) : SetM (w.alloc (.cells #[.int .i64 (p.steps : Int), .int .i64 (p.armed : Int), .bool p.ia, .bool p.gone, .slice none 0 0] 77)) (fun k => k = w.heap.size) w.heap.size p (.slice none 0 0) [] :=
  ⟨rfl, (fun k e => by rw [World.size_alloc]; omega), heap_alloc_new w _, ⟨rfl, .inl ⟨rfl, rfl⟩⟩, (fun k e => by cases e), fun j h => absurd h (Nat.not_lt_zero _), fun i j h => absurd h (Nat.not_lt_zero _)⟩
theorem DM.ones {d : DM} {A : Option Addr} {n c : Nat} (h : d.v = .slice A n c) : ∀ u ∈ d.vals, u.oneCell' = true := by
  intro u hu
  unfold DM.vals at hu
  rw [h] at hu
  simp at hu
  rcases hu with rfl | rfl | rfl <;> rfl
theorem rdv_block {W : World} {g : Nat} {d : DM} {t : TypeId} (h : W.heap[g]? = some (.cells #[.int .i64 (d.dk.size : Int), .map (some d.m), d.v] t (0, 0))) : Rdv W (some ⟨g, 0, none⟩) 1 3 d.vals :=
  ⟨rfl, fun _ => ⟨g, 0, rfl, fun j u hj => by
    rw [Nat.zero_add, cell_of_row _ _ j _ _ (0, 0) h]
    unfold DM.vals at hj
    simpa using hj⟩⟩
set_option maxHeartbeats 8000000 in
theorem copy_any {w : World} {F : Nat → Prop} {g : Nat} {p : Pw} {v : Value} {L : List DM} (h : SetM w F g p v L) (hl : L.length ≤ 1000) (hb : ∀ d ∈ L, d.dk.waits.length ≤ 1000000000) :
    Calls Try.prog 27 #[.pointer (some ⟨g, 0, none⟩)] w fun e w' => ∃ F' g' v' L', e = .returned (.pointer (some ⟨g', 0, none⟩)) ∧ SetM w' F' g' p v' L' ∧ L'.map DM.dk = L.map DM.dk ∧ L'.map DM.n = L.map DM.n ∧ Chg w w' (fun _ => False) F' := by
  obtain ⟨n, hn⟩ : ∃ n, n = L.length := ⟨_, rfl⟩
  have HN := Lib.hid hn
  have HW := Lib.hid hb
  obtain ⟨A, c, rfl, hle, _⟩ := h.slice
  obtain ⟨c0, c1, c2, c3, c4⟩ := h.c
  rw [← hn] at c4 hle hl h
  have HH := Lib.hid h
  have hz := Chg.of_below ((Below.refl w.heap.size w).alloc (Nat.le_refl _) (.cells #[.int .i64 (p.steps : Int), .int .i64 (p.armed : Int), .bool p.ia, .bool p.gone, .slice none 0 0] 77)) (fun _ => False)
  have HB := Lib.hid (And.intro (SetM.box2 w p) (show Chg w (w.alloc (.cells #[.int .i64 (p.steps : Int), .int .i64 (p.armed : Int), .bool p.ia, .bool p.gone, .slice none 0 0] 77)) (fun _ => False) (fun k => k = w.heap.size) from ⟨hz.os, hz.tape, hz.output, hz.size, hz.block, fun k e => .inr (by omega)⟩))
  have hk4 := ((Below.refl w.heap.size w).alloc (Nat.le_refl _) (.cells #[.int .i64 (p.steps : Int), .int .i64 (p.armed : Int), .bool p.ia, .bool p.gone, .slice none 0 0] 77)).cell (World.block_lt_of_cell? _ _ c4)
  rw [c4] at hk4
  clear h hb hn hz
  obtain ⟨g', hg'⟩ : ∃ y, y = w.heap.size := ⟨_, rfl⟩
  have HG' := Lib.hid hg'
  rw [← hg'] at HB
  go_enter Try.func27, Try.ntmps27
  go_wp2_with fail
  rw [← hg']
  clear hg' hk4 c0 c1 c2 c3 c4
  revert HB
  generalize World.alloc w _ = wb
  intro HB
  go_loopw [19] (fun i wr => ∃ (q : Nat) (F' : Nat → Prop) (v' : Value) (L' : List DM), i = .int .i64 (q : Int) ∧ q ≤ n ∧ SetM wr F' g' p v' L' ∧ L'.map DM.dk = (L.take q).map DM.dk ∧ L'.map DM.n = (L.take q).map DM.n ∧ Chg w wr (fun _ => False) F') (fun i _ => n - (intOf i).toNat)
  case atStart => exact ⟨0, _, _, [], rfl, by omega, HB.out.1, rfl, rfl, HB.out.2⟩
  case round =>
    obtain ⟨q, F', v', L', rfl, hq, h2, h3, h4, h5⟩ := hrel
    have hLq : L'.length = q := by
      have := congrArg List.length h3
      rw [List.length_map, List.length_map, List.length_take, ← HN.out, Nat.min_eq_left hq] at this
      exact this
    have bel : Below w.heap.size w wr := h5.below (Nat.le_refl _) (fun k e => e.elim)
    have hW := HH.out.below bel
    by_cases hlt : q < n
    · have hql : q < L.length := by rw [← HN.out]; exact hlt
      have HD := Lib.hid (hW.each q hql)
      obtain ⟨A0, cc, e0, hle0, hc⟩ := hW.slice
      obtain ⟨b, e1, _, _, _, y0, y1, y2⟩ := hc q hql
      injection e0 with e2 e22 e3
      subst e2 e1
      have hwl := HW.out _ (List.getElem_mem hql)
      have hFm := hW.Flt _ HD.out.Fm
      have hFw : ∀ k, L[q].v.ownBlock = some k → k < w.heap.size := fun k e => HH.out.Flt k (HD.out.Fw k e)
      have hFm' := HH.out.Flt _ HD.out.Fm
      obtain ⟨Aw, cw, hvw, _, _, _⟩ := rdv_own HD.out.waits
      obtain ⟨dj, hdj⟩ : ∃ y, y = L[q] := ⟨_, rfl⟩
      have HDJ := Lib.hid hdj
      rw [← hdj] at y0 y1 y2 hwl HD hFm hFw hFm' hvw
      rw [hvw] at y2
      obtain ⟨sz, hsz⟩ : ∃ y, y = dj.dk.size := ⟨_, rfl⟩
      obtain ⟨m, hm⟩ : ∃ y, y = dj.m := ⟨_, rfl⟩
      obtain ⟨nw, hnw⟩ : ∃ y, y = dj.dk.waits.length := ⟨_, rfl⟩
      rw [← hsz] at y0
      rw [← hm] at y1 hFm hFm'
      rw [← hnw] at y2 hvw hwl
      have HE := Lib.hid (And.intro hsz (And.intro hm (And.intro hnw (And.intro hvw (And.intro hFw hFm')))))
      have HI := Lib.hid (And.intro h2 (And.intro h3 (And.intro h4 (And.intro h5 hLq))))
      have HWR := Lib.hid hW
      clear hc hW hdj hsz hm hnw hvw hFw h2 h3 h4 h5 hLq hle0 e3 e22
      go_upto_region 7 with fail
      have hba : Below wr.heap.size wr (wr.alloc (.cells #[.int .i64 (sz : Int), .map (some m), .slice Aw nw cw] 81)) := (Below.refl _ _).alloc (Nat.le_refl _) _
      have hov : ∀ k, v'.ownBlock = some k → w.heap.size ≤ k ∧ k < wr.heap.size := fun k e => by
        have h6 := HI.out.1.Fv k e
        refine ⟨?_, HI.out.1.Flt k h6⟩
        rcases HI.out.2.2.2.1.new k h6 with e2 | e2
        · exact e2.elim
        · exact e2
      have hvg : v'.ownBlock ≠ some g' := type_ne HI.out.1.own HI.out.1.block (by decide)
      have hgl : g' < wr.heap.size := HI.out.1.glt
      have ho : (wr.alloc (.cells #[.int .i64 (sz : Int), .map (some m), .slice Aw nw cw] 81)).ownsRow 0 81 3 v' q (rowV DM.vals L') := by
        rw [← HI.out.2.2.2.2]; exact (HI.out.1.below hba).own
      have hwx : w.heap.size ≤ wr.heap.size := bel.size
      have HZ := Lib.hid (And.intro (heap_alloc_new wr (.cells #[.int .i64 (sz : Int), .map (some m), .slice Aw nw cw] 81)) (And.intro (HI.out.1.below hba) (And.intro (HWR.out.below hba) (And.intro (HI.out.2.2.2.1.trans (Chg.of_below hba F')) (And.intro ho (show (wr.alloc (.cells #[.int .i64 (sz : Int), .map (some m), .slice Aw nw cw] 81)).heap.size = wr.heap.size + 1 by simp))))))
      clear y0 y1 y2 hba ho
      obtain ⟨x, hx⟩ : ∃ y, y = wr.heap.size := ⟨_, rfl⟩
      rw [← hx] at HZ hov hgl hFm hwx ⊢
      clear hx bel
      revert HZ
      generalize World.alloc wr _ = wz
      intro HZ
      have HI2 := Lib.hid (And.intro HI.out.2.1 (And.intro HI.out.2.2.1 HI.out.2.2.2.2))
      clear HWR HI
      have HA := Lib.hid (show ∀ W2, Below wz.drew.heap.size wz.drew W2 → W2.cell? ⟨g', 4, none⟩ = some v' ∧ W2.cell? ⟨x, 0, none⟩ = some (.int .i64 (sz : Int)) ∧ W2.cell? ⟨x, 1, none⟩ = some (.map (some m)) ∧ W2.cell? ⟨x, 2, none⟩ = some (.slice Aw nw cw) ∧ MapS W2 m dj.n dj.dk.sure ∧ W2.ownsRow 0 99 65 (.slice Aw nw cw) nw (rowV Wx.vals dj.dk.waits) ∧ W2.ownsRow 0 81 3 v' q (rowV DM.vals L') ∧ Below wz.heap.size wz W2 from fun W2 hw => by
        have hb2 : Below wz.heap.size wz W2 := (Below.refl _ wz).drew.trans hw
        have hxz : x < wz.heap.size := by have := HZ.out.2.2.2.2.2; omega
        have hxb := (hb2.block x hxz).trans HZ.out.1
        have hgb := (hb2.block g' (by omega)).trans HZ.out.2.1.block
        refine ⟨(cell_of_row W2 g' 4 _ _ (0, 0) hgb).trans rfl, (cell_of_row W2 x 0 _ _ (0, 0) hxb).trans rfl, (cell_of_row W2 x 1 _ _ (0, 0) hxb).trans rfl, (cell_of_row W2 x 2 _ _ (0, 0) hxb).trans rfl, ?_, ?_, own_same HZ.out.2.2.2.2.1 fun k e => hb2.block k (HZ.out.2.2.2.2.1.lt k e).2, hb2⟩
        · have h6 := ((HZ.out.2.2.1.each q hql)).map
          rw [← HDJ.out, ← HE.out.2.1] at h6
          exact h6.keep (hb2.block m (by omega))
        · have h6 := ((HZ.out.2.2.1.each q hql)).waits
          rw [← HDJ.out, ← HE.out.2.2.1, HE.out.2.2.2.1] at h6
          exact own_same h6 fun k e => by
            have h7 := HE.out.2.2.2.2.1 k (by rw [HE.out.2.2.2.1]; exact e)
            exact hb2.block k (by omega))
      have HB0 := Lib.hid (show ∀ k, v'.ownBlock = some k → k < wz.heap.size from fun k e => by have h6 := (hov k e).2; have h7 := HZ.out.2.2.2.2.2; omega)
      have hq1000 : q ≤ 1000 := by omega
      have HBIG := Lib.hid hwl
      clear hFm hFm' hov hvg hgl hwx hwl
      obtain ⟨B0, hB0⟩ : ∃ y, y = wz.heap.size := ⟨_, rfl⟩
      have HB00 := Lib.hid hB0
      clear hB0
      have HKP := Lib.hid (show ∀ (Wa Wb : World) (d : DM), CP Wa B0 d → Below Wa.heap.size Wa Wb → CP Wb B0 d from fun Wa Wb d hc hx => hc.keep fun k _ hk2 => hx.block k hk2)
      refine wp_region_noPanic ?_
      refine wp_region_abs0 15 43 _ (.pointer (some ⟨g', 0, none⟩)) [
        .is (.pointer (some ⟨g', 0, none⟩)),
        .is (.pointer (some ⟨g', 0, none⟩)),
        .is (.pointer (some ⟨g', 0, none⟩)),
        .is (.pointer (some ⟨g', 4, none⟩)),
        .is v',
        .is (.pointer (some ⟨x, 0, none⟩)),
        .is (.int .i64 (sz : Int)),
        .is (.pointer (some ⟨x, 1, none⟩)),
        .is (.map (some m)),
        .tells (fun _ v _ wa => ∃ m', v = .map (some m') ∧ MapS wa m' dj.n dj.dk.sure ∧ B0 ≤ m'),
        .is (.pointer (some ⟨x, 2, none⟩)),
        .is (.slice Aw nw cw),
        .tells (fun _ v _ wa => wa.ownsRow B0 99 65 v nw (rowV Wx.vals dj.dk.waits)),
        .tells (fun _ v _ wa => ∃ d : DM, v = .agg #[.int .i64 (sz : Int), .map (some d.m), d.v] ∧ CP wa B0 d ∧ d.dk = dj.dk ∧ d.n = dj.n),
        .tells (fun _ v _ wa => ∃ (d : DM) (g2 : Nat), v = .slice (some ⟨g2, 0, none⟩) 1 1 ∧ wa.heap[g2]? = some (.cells #[.int .i64 (d.dk.size : Int), .map (some d.m), d.v] 81 (0, 0)) ∧ B0 ≤ g2 ∧ CP wa B0 d ∧ d.dk = dj.dk ∧ d.n = dj.n)]
        [23, 24, 25, 26, 27, 28, 29, 30, 31, 32, 33, 34, 35, 36, 37]
        [[], [], [1], [2], [3], [], [5], [], [7], [8], [], [10], [11], [6, 9, 12], [13]] (by kernel_rfl) (by rfl) rfl rfl (by rfl) rfl (by kernel_rfl) (by kernel_rfl) (by kernel_rfl) (.inl ⟨rfl, fun _ => rfl⟩) (by kernel_rfl) (fun _ _ _ _ h => h.elim) ?_ ?_
      · refine ⟨?_, ?_, ?_, ?_, ?_, ?_, ?_, ?_, ?_, ?_, ?_, ?_, ?_, ?_, ?_, trivial⟩
        · intro W2 hw K hK
          go_simp
          exact hK _ _ rfl (Below.refl _ _)
        · intro W2 hw K hK
          go_simp
          exact hK _ _ rfl (Below.refl _ _)
        · intro W2 hw K hK
          go_simp
          exact hK _ _ rfl (Below.refl _ _)
        · intro W2 hw K hK
          go_simp
          exact hK _ _ rfl (Below.refl _ _)
        · intro W2 hw K hK
          obtain ⟨a0, _⟩ := HA.out W2 hw
          go_simp
          exact hK _ _ rfl (Below.refl _ _)
        · intro W2 hw K hK
          go_simp
          exact hK _ _ rfl (Below.refl _ _)
        · intro W2 hw K hK
          obtain ⟨_, a0, _⟩ := HA.out W2 hw
          go_simp
          exact hK _ _ rfl (Below.refl _ _)
        · intro W2 hw K hK
          go_simp
          exact hK _ _ rfl (Below.refl _ _)
        · intro W2 hw K hK
          obtain ⟨_, _, a0, _⟩ := HA.out W2 hw
          go_simp
          exact hK _ _ rfl (Below.refl _ _)
        · intro W2 hw K hK
          obtain ⟨_, _, _, _, hm9, _, _, hs9⟩ := HA.out W2 hw
          have hcc := clone_map hm9
          go_simp
          refine Calls.mono hcc ?_
          rintro e9 w5 ⟨rfl, h5, hb5⟩
          exact hK _ _ ⟨_, rfl, h5, by rw [HB00.out]; exact hs9.size⟩ hb5
        · intro W2 hw K hK
          go_simp
          exact hK _ _ rfl (Below.refl _ _)
        · intro W2 hw K hK
          obtain ⟨_, _, _, a0, _⟩ := HA.out W2 hw
          go_simp
          exact hK _ _ rfl (Below.refl _ _)
        · intro W2 hw K hK
          obtain ⟨_, _, _, _, _, ho9, _, hs9⟩ := HA.out W2 hw
          have hcc := clone_waits ho9 HBIG.out
          go_simp
          refine Calls.mono hcc ?_
          rintro e9 w5 ⟨v5, rfl, h5, hb5⟩
          exact hK _ _ (own_low h5 (by rw [HB00.out]; exact hs9.size)) hb5
        · rintro W2 hw v9 wb9 wa9 ⟨_, m9, rfl, h9, hz9⟩ x9 v12 wb12 wa12 ⟨_, h12⟩ x12 K hK
          obtain ⟨A12, c12, rfl, _, _, _⟩ := rdv_own h12
          have hc9 : CP wa9 B0 ⟨⟨dj.dk.size, dj.dk.sure, []⟩, m9, dj.n, .slice none 0 0⟩ := ⟨h9, World.ownsRow_nil _ _ _ _, hz9⟩
          have hc9' := (HKP.out _ _ _ hc9 x9).map
          have h12' : W2.ownsRow B0 99 65 (.slice A12 nw c12) nw (rowV Wx.vals dj.dk.waits) := own_same h12 fun k e => x12.block k (h12.lt k e).2
          rw [HE.out.2.2.1] at h12'
          have hfin : CP W2 B0 ⟨dj.dk, m9, dj.n, .slice A12 nw c12⟩ := ⟨hc9', by rw [HE.out.2.2.1]; exact h12', hz9⟩
          go_simp
          exact hK _ _ ⟨⟨dj.dk, m9, dj.n, .slice A12 nw c12⟩, rfl, hfin, rfl, rfl⟩ (Below.refl _ _)
        · rintro W2 hw v13 wb13 wa13 ⟨_, ⟨dk, dm, dn, dv⟩, rfl, hcp, hd1, hd2⟩ x13
          have hcp2 := HKP.out _ _ _ hcp x13
          obtain ⟨Ad, cd, rfl, _, _, _⟩ := rdv_own (show W2.ownsRow B0 99 65 dv dk.waits.length (rowV Wx.vals dk.waits) from hcp2.wts)
          intro K hK
          have hs2 : B0 ≤ W2.heap.size := by rw [HB00.out]; exact (HA.out W2 hw).2.2.2.2.2.2.2.size
          have hszd : sz = dk.size := by rw [show dk = dj.dk from hd1]; exact HE.out.1
          have hba : Below W2.heap.size W2 (W2.alloc (.cells #[.int .i64 (sz : Int), .map (some dm), .slice Ad dk.waits.length cd] 81)) := (Below.refl _ _).alloc (Nat.le_refl _) _
          have hnew := heap_alloc_new W2 (.cells #[.int .i64 (sz : Int), .map (some dm), .slice Ad dk.waits.length cd] 81)
          have hx2 : Below W2.heap.size W2 (W2.alloc (.cells #[.int .i64 (sz : Int), .map (some dm), .slice Ad dk.waits.length cd] 81)) := hba
          have hcp3 := HKP.out _ _ _ hcp2 hx2
          have hfin : ∃ (d' : DM) (g2 : Nat), Value.slice (some ⟨W2.heap.size, 0, none⟩) 1 1 = .slice (some ⟨g2, 0, none⟩) 1 1 ∧ (W2.alloc (.cells #[.int .i64 (sz : Int), .map (some dm), .slice Ad dk.waits.length cd] 81)).heap[g2]? = some (.cells #[.int .i64 (d'.dk.size : Int), .map (some d'.m), d'.v] 81 (0, 0)) ∧ B0 ≤ g2 ∧ CP (W2.alloc (.cells #[.int .i64 (sz : Int), .map (some dm), .slice Ad dk.waits.length cd] 81)) B0 d' ∧ d'.dk = dj.dk ∧ d'.n = dj.n := ⟨⟨dk, dm, dn, .slice Ad dk.waits.length cd⟩, _, rfl, by dsimp only; rw [← hszd]; exact hnew, hs2, hcp3, hd1, hd2⟩
          clear hszd hd1 hd2 hnew hcp3 hcp2 hcp
          go_simp
          exact hK _ _ hfin hx2
      · intro W2 hw2
        intro v9 wb9 wa9 _ _ _ _ v12 wb12 wa12 _ _ _ _ v13 wb13 wa13 _ _ _ _ v14 wb14 wa14 h14 x14 _ _
        simp only [Behind, List.drop, Act.put, List.setIfInBounds_toArray, List.set_cons_zero, List.set_cons_succ]
        obtain ⟨d, g2, rfl, hg2, hb2, hcp, hd1, hd2⟩ := h14
        have hcp2 := HKP.out _ _ _ hcp x14
        have hg22 := (x14.block g2 (Array.getElem?_eq_some_iff.1 hg2).1).trans hg2
        obtain ⟨Ad, cd, hdv, _, _, _⟩ := rdv_own hcp2.wts
        have HON := Lib.hid (DM.ones hdv)
        have HRD := Lib.hid (rdv_block hg22)
        clear hdv
        obtain ⟨a4, _, _, _, _, _, ho2, hb0⟩ := HA.out W2 hw2
        have HO := Lib.hid ho2
        have HM := Lib.hid (And.intro hcp2 (And.intro hd1 (And.intro hd2 hb0)))
        have hs2 := hb0.size
        clear hcp hcp2 hg2 hg22 x14 ho2 hd1 hd2 hb0 hw2
        go_wp2_with (at_builtin; refine wpList_append_rowg elem75 rfl (.tmp 27) (.tmp 37) rfl 0 v' q (rowV DM.vals L') rfl HO.out (some ⟨g2, 0, none⟩) 1 1 d.vals rfl HRD.out HON.out (fun h => by cases h) (by unfold maxLen; omega) (by omega) (Nat.zero_le _) ?_; intro v6 w6 hown6 hg6 hb6; have hnd := HZ.out.2.1.adddisk (d := d) (v' := v6) (W' := w6) (by rw [HI2.out.2.2]; exact hown6) (grown_trans (grown_below HM.out.2.2.2 _) hg6) (fun k e => (hb6 k e).imp id fun e2 => Nat.le_trans hs2 e2) (by rw [← HB00.out]; exact HM.out.1.keep fun k hk1 hk2 => hg6.block k hk2 fun e => by have h8 := HB0.out k e.symm; have h9 := HB00.out; omega); obtain ⟨A6, c6, rfl, _, _, _⟩ := rdv_own hown6; obtain ⟨q1, q2, q3, q4⟩ := hnd; have Q3 := Lib.hid q3; have Q4 := Lib.hid (HZ.out.2.2.2.1.trans q4); clear q3 q4 hown6 hg6 hb6)
        refine NoPanic.normal ?_
        go_wp2_with fail
        refine ⟨⟨q + 1, _, _, L' ++ [d], by go_num, by omega, Q3.out, ?_, ?_, Q4.out⟩, by simp [intOf]; omega⟩
        · rw [List.map_append, HI2.out.1, List.take_succ_eq_append_getElem hql, List.map_append, ← HDJ.out, List.map_cons, List.map_cons, HM.out.2.1]
        · rw [List.map_append, HI2.out.2.1, List.take_succ_eq_append_getElem hql, List.map_append, ← HDJ.out, List.map_cons, List.map_cons, HM.out.2.2.1]
    · obtain rfl : q = n := by omega
      clear hW bel
      have HI := Lib.hid (And.intro h2 (And.intro h3 (And.intro h4 h5)))
      clear h2 h3 h4 h5
      go_wp2_with fail
      go_ret
      obtain ⟨h2, h3, h4, h5⟩ := HI.out
      refine ⟨F', g', v', L', rfl, h2, ?_, ?_, h5⟩
      · rwa [HN.out, List.take_length] at h3
      · rwa [HN.out, List.take_length] at h4
theorem st_copy {w : World} {F : Nat → Prop} {g : Nat} {p : Pw} {ds : List Dk} {K : Nat} (h : St w F g p ds K) (hl : ds.length ≤ 1000) (hk : K ≤ 1000000000) :
    Calls Try.prog 27 #[.pointer (some ⟨g, 0, none⟩)] w fun e w' => ∃ F' g', e = .returned (.pointer (some ⟨g', 0, none⟩)) ∧ St w' F' g' p ds K ∧ Chg w w' (fun _ => False) F' := by
  obtain ⟨v, L, h1, h2, h3, h4⟩ := h
  have hLl : L.length = ds.length := by rw [← h2, List.length_map]
  refine Calls.mono (copy_any h1 (by omega) (fun d hd => by have := h3 d hd; omega)) ?_
  rintro e w' ⟨F', g', v', L', rfl, h5, h6, h7, h8⟩
  have hLL : L'.length = L.length := by have := congrArg List.length h6; rwa [List.length_map, List.length_map] at this
  refine ⟨F', g', rfl, ⟨v', L', h5, h6.trans h2, fun d hd => ?_, h4⟩, h8⟩
  obtain ⟨i, hi, rfl⟩ := List.getElem_of_mem hd
  have hi2 : i < L.length := by omega
  have e1 : (L'.map DM.dk)[i]? = (L.map DM.dk)[i]? := by rw [h6]
  have e2 : (L'.map DM.n)[i]? = (L.map DM.n)[i]? := by rw [h7]
  simp only [List.getElem?_map, List.getElem?_eq_getElem hi, List.getElem?_eq_getElem hi2, Option.map_some, Option.some.injEq] at e1 e2
  rw [e1, e2]
  exact h3 _ (List.getElem_mem hi2)
end Go.Proofs.Ythmebgpleegonaa
