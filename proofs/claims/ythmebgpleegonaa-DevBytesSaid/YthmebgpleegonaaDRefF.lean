/- The document's Flush. -/
import Derived.Test.YthmebgpleegonaaDRefP
namespace Go.Proofs.Ythmebgpleegonaa
set_option maxRecDepth 100000
open Go.RowKit

theorem two_blocks (w : World) (o1 o2 : Obj) : ((w.alloc o1).alloc o2).heap[w.heap.size]? = some o1 ∧ ((w.alloc o1).alloc o2).heap[w.heap.size + 1]? = some o2 ∧ ((w.alloc o1).alloc o2).heap.size = w.heap.size + 2 ∧ Below w.heap.size w ((w.alloc o1).alloc o2) := by
  refine ⟨alloc_old (heap_alloc_new w o1) o2, ?_, by simp, ((Below.refl _ _).alloc (Nat.le_refl _) o1).alloc (by simp) o2⟩
  have := heap_alloc_new (w.alloc o1) o2
  rw [World.size_alloc] at this
  exact this
set_option maxHeartbeats 8000000 in
theorem refflush_any {w : World} {X : Nat → Prop} {A : Option Addr} {c : Nat} {ds : List Dk} (h : RSet w X A c ds) (p : Pw) (left d : Int) (hk : LeftOk p left) (hl : ds.length ≤ 1000) (hs : p.steps ≤ 1000000000) (ha : p.armed ≤ 9223372036854775807) (hwn : ∀ d ∈ ds, d.waits.length ≤ 1000000 ∧ 1 ≤ d.size ∧ d.size ≤ 4096 ∧ ∀ y ∈ d.waits, 0 ≤ y.i ∧ y.i < (d.size : Int)) :
    Calls Try.prog 31 #[rsV A c ds p left, .int .i64 d] w fun e w' => ∃ X' A' c' left', e = .returned (.tuple #[rsV A' c' (flushM p ds d).2.2 (flushM p ds d).2.1 left', .int .i64 (flushN p ds d : Int)]) ∧ RSet w' X' A' c' (flushM p ds d).2.2 ∧ (∀ k, X' k → X k ∨ w.heap.size ≤ k) ∧ LeftOk (flushM p ds d).2.1 left' ∧ Below w.heap.size w w' := by
  obtain ⟨k1, k3, ks, hb3⟩ := two_blocks w (.cells #[.slice A ds.length c, .int .i64 (p.steps : Int), .int .i64 left, .bool p.ia, .bool p.gone] 33) (.cells #[.slice none 0 0, .int .i64 0, .int .i64 0, .bool false, .bool false] 33)
  have HW := Lib.hid (And.intro k1 (And.intro k3 (And.intro ks (And.intro hb3 (h.below hb3)))))
  have HK := Lib.hid hk
  have H0 := Lib.hid h
  have HWN := Lib.hid hwn
  have HLS := Lib.hid (refstep_any A c ds p left)
  have HST := Lib.hid hk.step
  obtain ⟨N, hN⟩ : ∃ N, N = ds.length := ⟨_, rfl⟩
  have HN := Lib.hid hN
  obtain ⟨z, hz⟩ : ∃ z, z = w.heap.size := ⟨_, rfl⟩
  have HZ := Lib.hid hz
  have HWR := Lib.hid (show flushM p ds d = if hasB ds d 0 = false then (eRange, p, ds) else if (stepP p).1 = false then (eDown, (stepP p).2, ds) else (.nilIface, (stepP p).2, setAt ds d.toNat Dk.flushed) from rfl)
  have HWM := Lib.hid (show flushN p ds d = if hasB ds d 0 = false then 1 else if (stepP p).1 = false then 3 else 0 from rfl)
  obtain ⟨wm, hwm⟩ : ∃ y, y = flushM p ds d := ⟨_, rfl⟩
  obtain ⟨wn, hwn2⟩ : ∃ y, y = flushN p ds d := ⟨_, rfl⟩
  rw [← hwm] at HWR ⊢
  rw [← hwn2] at HWM ⊢
  rw [← hN, ← hz] at HW
  unfold rsV at HLS ⊢
  rw [← hN] at hl HLS ⊢
  clear k1 k3 ks hb3 h hk hwn hN hwm hwn2
  rw [← hz]
  clear hz
  go_enter Try.func31, Try.ntmps31
  go_upto_region 1 with fail
  rw [← HZ.out]
  revert HW
  generalize World.alloc _ _ = wb
  intro HW
  obtain ⟨k1, k3, ks, hb3, hr⟩ := HW.out
  have HS4 := Lib.hid (show ∀ W, Below wb.heap.size wb W → W.heap[z]? = _ ∧ W.heap[z + 1]? = _ from fun W hb => ⟨(hb.block _ (by omega)).trans k1, (hb.block _ (by omega)).trans k3⟩)
  have HB3 := Lib.hid hb3
  have HR := Lib.hid hr
  have q0 := (cell_of_row _ _ 0 _ _ (0, 0) k1).trans rfl
  have q1 := (cell_of_row _ _ 1 _ _ (0, 0) k1).trans rfl
  have q2 := (cell_of_row _ _ 2 _ _ (0, 0) k1).trans rfl
  have q3 := (cell_of_row _ _ 3 _ _ (0, 0) k1).trans rfl
  have q4 := (cell_of_row _ _ 4 _ _ (0, 0) k1).trans rfl
  have pp0 := (cell_of_row _ _ 0 _ _ (0, 0) k3).trans rfl
  have pp1 := (cell_of_row _ _ 1 _ _ (0, 0) k3).trans rfl
  have pp2 := (cell_of_row _ _ 2 _ _ (0, 0) k3).trans rfl
  have pp3 := (cell_of_row _ _ 3 _ _ (0, 0) k3).trans rfl
  have pp4 := (cell_of_row _ _ 4 _ _ (0, 0) k3).trans rfl
  have g0 := frozen_at k3 0
  have g1 := frozen_at k3 1
  have g2 := frozen_at k3 2
  have g3 := frozen_at k3 3
  have g4 := frozen_at k3 4
  have h3 : z + 1 < wb.heap.size := by omega
  have hz0 : z < wb.heap.size := by omega
  have K3 := Lib.hid k3
  clear k1 k3 ks hb3 hr HW
  by_cases hd : 0 ≤ d ∧ d < (N : Int)
  rotate_left
  · have HNB := Lib.hid (show hasB ds d 0 = false from hasB_no (by have := HN.out; omega))
    have HWR2 := Lib.hid (show wm = (eRange, p, ds) by rw [HWR.out, if_pos HNB.out])
    have HWM2 := Lib.hid (show wn = 1 by rw [HWM.out, if_pos HNB.out])
    have key : ∀ u1 u2 : World → Prop, True := fun _ _ => trivial
    clear key
    by_cases hd0 : d < 0
    · have d0 : decide (d < 0) = true := decide_eq_true hd0
      clear hd
      go_wp2_with fail
      obtain ⟨t, _, tb⟩ := set5 wb (z + 1) 33 _ _ _ _ _ (.slice A N c) (.int .i64 (p.steps : Int)) (.int .i64 left) (.bool p.ia) (.bool p.gone) K3.out
      have hbl := tb z w (HB3.out) (by omega)
      have HTF := Lib.hid (And.intro t hbl)
      clear t tb hbl pp0 pp1 pp2 pp3 pp4 g0 g1 g2 g3 g4 q0 q1 q2 q3 q4 h3
      revert HTF
      generalize World.setCell (World.setCell _ _ _) _ _ = w4
      intro HTF
      obtain ⟨t, hbl⟩ := HTF.out
      have g0 := (cell_of_row _ _ 0 _ _ (0, 0) t).trans rfl
      have g1 := (cell_of_row _ _ 1 _ _ (0, 0) t).trans rfl
      have g2 := (cell_of_row _ _ 2 _ _ (0, 0) t).trans rfl
      have g3 := (cell_of_row _ _ 3 _ _ (0, 0) t).trans rfl
      have g4 := (cell_of_row _ _ 4 _ _ (0, 0) t).trans rfl
      refine bodyPost_ret (v := .tuple #[.agg #[.slice A N c, .int .i64 (p.steps : Int), .int .i64 left, .bool p.ia, .bool p.gone], .int .i64 1]) (by simp [results, Try.results31, go_sem, g0, g1, g2, g3, g4]) rfl ⟨X, A, c, left, ?_, ?_, fun k e => .inl e, ?_, ?_⟩
      · rw [HWR2.out, HWM2.out, HN.out]; rfl
      · rw [HWR2.out]; exact H0.out.below (by rw [← HZ.out]; exact hbl)
      · rw [HWR2.out]; exact HK.out
      · exact hbl
    · have d0 : decide (d < 0) = false := decide_eq_false hd0
      have d1 : decide ((N : Int) ≤ d) = true := decide_eq_true (by omega)
      clear hd
      go_wp2_with fail
      obtain ⟨t, _, tb⟩ := set5 wb (z + 1) 33 _ _ _ _ _ (.slice A N c) (.int .i64 (p.steps : Int)) (.int .i64 left) (.bool p.ia) (.bool p.gone) K3.out
      have hbl := tb z w (HB3.out) (by omega)
      have HTF := Lib.hid (And.intro t hbl)
      clear t tb hbl pp0 pp1 pp2 pp3 pp4 g0 g1 g2 g3 g4 q0 q1 q2 q3 q4 h3
      revert HTF
      generalize World.setCell (World.setCell _ _ _) _ _ = w4
      intro HTF
      obtain ⟨t, hbl⟩ := HTF.out
      have g0 := (cell_of_row _ _ 0 _ _ (0, 0) t).trans rfl
      have g1 := (cell_of_row _ _ 1 _ _ (0, 0) t).trans rfl
      have g2 := (cell_of_row _ _ 2 _ _ (0, 0) t).trans rfl
      have g3 := (cell_of_row _ _ 3 _ _ (0, 0) t).trans rfl
      have g4 := (cell_of_row _ _ 4 _ _ (0, 0) t).trans rfl
      refine bodyPost_ret (v := .tuple #[.agg #[.slice A N c, .int .i64 (p.steps : Int), .int .i64 left, .bool p.ia, .bool p.gone], .int .i64 1]) (by simp [results, Try.results31, go_sem, g0, g1, g2, g3, g4]) rfl ⟨X, A, c, left, ?_, ?_, fun k e => .inl e, ?_, ?_⟩
      · rw [HWR2.out, HWM2.out, HN.out]; rfl
      · rw [HWR2.out]; exact H0.out.below (by rw [← HZ.out]; exact hbl)
      · rw [HWR2.out]; exact HK.out
      · exact hbl
  · obtain ⟨hd0, hd1⟩ := hd
    obtain ⟨j, rfl⟩ : ∃ j : Nat, d = (j : Int) := ⟨d.toNat, by omega⟩
    have hjN : j < N := by omega
    have hj : j < ds.length := by have := HN.out; omega
    have HNB := Lib.hid (show ¬ (hasB ds (j : Int) 0 = false) by
      rw [hasB_nat ds j hj]
      have := (HWN.out _ (List.getElem_mem hj)).2.1
      rw [decide_eq_true (show (0 : Int) ≤ 0 by omega), decide_eq_true (show (0 : Int) < (ds[j].size : Int) by omega)]
      decide)
    have HS5 := Lib.hid (HLS.out wb HK.out hs ha)
    clear hd0 hd1 pp0 pp1 pp2 pp3 pp4 g0 g1 g2 g3 g4
    have dd0 : decide ((j : Int) < 0) = false := decide_eq_false (by omega)
    have dd1 : decide (N ≤ j) = false := decide_eq_false (by omega)
    go_wp2_with fail
    refine Calls.mono HS5.out ?_
    rintro e w2 ⟨rfl, b2⟩
    clear dd0 dd1
    have B2 := Lib.hid b2
    obtain ⟨k1, k3⟩ := HS4.out w2 B2.out
    clear b2 q0 q1 q2 q3 q4 HS5 h3 hz0
    obtain ⟨sp, hsp⟩ : ∃ y, y = stepP p := ⟨_, rfl⟩
    obtain ⟨lf, hlf⟩ : ∃ y, y = leftS p left := ⟨_, rfl⟩
    have HLO := Lib.hid (show LeftOk sp.2 lf by rw [hsp, hlf]; exact HST.out)
    rw [← hsp, ← hlf]
    rw [← hsp] at HWR HWM
    obtain ⟨ok, p2⟩ := sp
    simp only [] at HWR HWM HLO ⊢
    clear hsp hlf HLS HST
    obtain ⟨t0, tk, tb⟩ := set5 w2 z 33 _ _ _ _ _ (.slice A N c) (.int .i64 (p2.steps : Int)) (.int .i64 lf) (.bool p2.ia) (.bool p2.gone) k1
    have hbl := tb z w (HB3.out.trans (B2.out.mono (by have := HB3.out.size; have := HZ.out; omega))) (Nat.le_refl _)
    have t2 := (tk (z + 1) (by omega)).trans k3
    have hz2 : z < w2.heap.size := (Array.getElem?_eq_some_iff.1 k1).1
    have HT := Lib.hid (And.intro t0 (And.intro t2 hbl))
    have q0 := (cell_of_row _ _ 0 _ _ (0, 0) k1).trans rfl
    have q1 := (cell_of_row _ _ 1 _ _ (0, 0) k1).trans rfl
    have q2 := (cell_of_row _ _ 2 _ _ (0, 0) k1).trans rfl
    have q3 := (cell_of_row _ _ 3 _ _ (0, 0) k1).trans rfl
    have q4 := (cell_of_row _ _ 4 _ _ (0, 0) k1).trans rfl
    have f0 := frozen_at k1 0
    have f1 := frozen_at k1 1
    have f2 := frozen_at k1 2
    have f3 := frozen_at k1 3
    have f4 := frozen_at k1 4
    clear t0 t2 tk tb hbl k1 k3
    go_upto_region 4 with fail
    clear q0 q1 q2 q3 q4 f0 f1 f2 f3 f4 hz2
    revert HT
    generalize World.setCell (World.setCell _ _ _) _ _ = w3
    intro HT
    obtain ⟨t0, t2, hbl⟩ := HT.out
    have q0 := (cell_of_row _ _ 0 _ _ (0, 0) t0).trans rfl
    have q1 := (cell_of_row _ _ 1 _ _ (0, 0) t0).trans rfl
    have q2 := (cell_of_row _ _ 2 _ _ (0, 0) t0).trans rfl
    have q3 := (cell_of_row _ _ 3 _ _ (0, 0) t0).trans rfl
    have q4 := (cell_of_row _ _ 4 _ _ (0, 0) t0).trans rfl
    have h3 : z + 1 < w3.heap.size := (Array.getElem?_eq_some_iff.1 t2).1
    cases ok with
    | false =>
      have pp0 := (cell_of_row _ _ 0 _ _ (0, 0) t2).trans rfl
      have pp1 := (cell_of_row _ _ 1 _ _ (0, 0) t2).trans rfl
      have pp2 := (cell_of_row _ _ 2 _ _ (0, 0) t2).trans rfl
      have pp3 := (cell_of_row _ _ 3 _ _ (0, 0) t2).trans rfl
      have pp4 := (cell_of_row _ _ 4 _ _ (0, 0) t2).trans rfl
      have g0 := frozen_at t2 0
      have g1 := frozen_at t2 1
      have g2 := frozen_at t2 2
      have g3 := frozen_at t2 3
      have g4 := frozen_at t2 4
      have HWR2 := Lib.hid (show wm = (eDown, p2, ds) by rw [HWR.out, if_neg HNB.out]; rfl)
      have HWM2 := Lib.hid (show wn = 3 by rw [HWM.out, if_neg HNB.out]; rfl)
      have K3' := Lib.hid t2
      have HBL := Lib.hid hbl
      clear t0 t2 hbl HK
      have HK := HLO
      go_wp2_with fail
      clear K3
      have K3 := K3'
      obtain ⟨t, _, tb⟩ := set5 w3 (z + 1) 33 _ _ _ _ _ (.slice A N c) (.int .i64 (p2.steps : Int)) (.int .i64 lf) (.bool p2.ia) (.bool p2.gone) K3.out
      have hbl := tb z w (HBL.out) (by omega)
      have HTF := Lib.hid (And.intro t hbl)
      clear t tb hbl pp0 pp1 pp2 pp3 pp4 g0 g1 g2 g3 g4 q0 q1 q2 q3 q4 h3
      revert HTF
      generalize World.setCell (World.setCell _ _ _) _ _ = w4
      intro HTF
      obtain ⟨t, hbl⟩ := HTF.out
      have g0 := (cell_of_row _ _ 0 _ _ (0, 0) t).trans rfl
      have g1 := (cell_of_row _ _ 1 _ _ (0, 0) t).trans rfl
      have g2 := (cell_of_row _ _ 2 _ _ (0, 0) t).trans rfl
      have g3 := (cell_of_row _ _ 3 _ _ (0, 0) t).trans rfl
      have g4 := (cell_of_row _ _ 4 _ _ (0, 0) t).trans rfl
      refine bodyPost_ret (v := .tuple #[.agg #[.slice A N c, .int .i64 (p2.steps : Int), .int .i64 lf, .bool p2.ia, .bool p2.gone], .int .i64 3]) (by simp [results, Try.results31, go_sem, g0, g1, g2, g3, g4]) rfl ⟨X, A, c, lf, ?_, ?_, fun k e => .inl e, ?_, ?_⟩
      · rw [HWR2.out, HWM2.out, HN.out]; rfl
      · rw [HWR2.out]; exact H0.out.below (by rw [← HZ.out]; exact hbl)
      · rw [HWR2.out]; exact HK.out
      · exact hbl
    | true =>
      have HWR2 := Lib.hid (show wm = (.nilIface, p2, setAt ds j Dk.flushed) by rw [HWR.out, if_neg HNB.out, if_neg (by decide), Int.toNat_natCast])
      have HWM2 := Lib.hid (show wn = 0 by rw [HWM.out, if_neg HNB.out, if_neg (by decide)])
      have hr3 := H0.out.below (by rw [← HZ.out]; exact hbl)
      obtain ⟨b, off, rfl, hc⟩ := hr3.cells (by omega)
      obtain ⟨A1, c1, A2, c2, m1, m2, hok⟩ := hc j hj
      have hwj := HWN.out _ (List.getElem_mem hj)
      obtain ⟨dj, hdj⟩ : ∃ y, y = ds[j] := ⟨_, rfl⟩
      rw [← hdj] at m1 m2 hok hwj
      have HDJ := Lib.hid hdj
      obtain ⟨sz, hsz⟩ : ∃ y, y = dj.size := ⟨_, rfl⟩
      obtain ⟨nw, hnw⟩ : ∃ y, y = dj.waits.length := ⟨_, rfl⟩
      have HWJ := Lib.hid hwj
      rw [← hsz] at m1
      rw [← hnw] at m2
      have HSZ := Lib.hid hsz
      have HNW := Lib.hid hnw
      have hba : Below w3.heap.size w3 (w3.alloc (.cells #[.slice A1 sz c1, .slice A2 nw c2] 85)) := (Below.refl _ _).alloc (Nat.le_refl _) _
      have HM := Lib.hid (And.intro (heap_alloc_new w3 (.cells #[.slice A1 sz c1, .slice A2 nw c2] 85)) (And.intro ((hba.block z (by omega)).trans t0) (And.intro ((hba.block (z + 1) (by omega)).trans t2) (And.intro (hr3.below hba) (And.intro (hok.keep fun q e => hba.block q (hr3.lt q e)) (And.intro (hbl.trans (hba.mono (by omega))) (show (w3.alloc (.cells #[.slice A1 sz c1, .slice A2 nw c2] 85)).heap.size = w3.heap.size + 1 by simp)))))))
      have HXL := Lib.hid H0.out.lt
      clear t0 t2 hbl hr3 hc hok hdj hsz hnw hba HT hwj
      go_upto_region 7 with fail
      clear m1 m2 q0 q1 q2 q3 q4
      obtain ⟨t, ht⟩ : ∃ y, y = w3.heap.size := ⟨_, rfl⟩
      rw [← ht] at HM h3 ⊢
      clear ht
      revert HM
      generalize World.alloc w3 _ = wz
      intro HM
      have HA := Lib.hid (show ∀ W2, Below wz.drew.heap.size wz.drew W2 → Below wz.heap.size wz W2 ∧ W2.heap[t]? = some (.cells #[.slice A1 sz c1, .slice A2 nw c2] 85 (0, 0)) ∧ W2.heap[z]? = some (.cells #[.slice (some ⟨b, off, none⟩) N c, .int .i64 (p2.steps : Int), .int .i64 lf, .bool p2.ia, .bool p2.gone] 33 (0, 0)) ∧ RDok W2 X ⟨A1, c1, dj, A2, c2⟩ from fun W2 hw => by
        obtain ⟨t0, t1, _, hr, hok, _, hs⟩ := HM.out
        have hb2 : Below wz.heap.size wz W2 := (Below.refl _ wz).drew.trans hw
        exact ⟨hb2, (hb2.block t (by omega)).trans t0, (hb2.block z (by omega)).trans t1, hok.keep fun q e => hb2.block q (hr.lt q e)⟩)
      have HDN := Lib.hid (show ∀ W2, RDok W2 X ⟨A1, c1, dj, A2, c2⟩ → Calls Try.prog 45 #[.slice A1 sz c1, .slice A2 nw c2] W2 _ from fun W2 hk => by
        have := done_any dj A1 c1 A2 c2 W2 X hk HWJ.out.2.2.1 HWJ.out.1 HWJ.out.2.2.2
        rw [← HSZ.out, ← HNW.out] at this
        exact this)
      refine wp_region_noPanic ?_
      refine wp_region_abs 8 40 [
        .is (.agg #[.slice (some ⟨b, off, none⟩) N c, .int .i64 (p2.steps : Int), .int .i64 lf, .bool p2.ia, .bool p2.gone]),
        .is (.int .i64 (j : Int)),
        .is (.pointer (some ⟨t, 0, none⟩)),
        .is (.slice A1 sz c1),
        .is (.pointer (some ⟨t, 1, none⟩)),
        .is (.slice A2 nw c2),
        .tells (fun _ v _ wa => ∃ b1 c7, v = .slice (some ⟨b1, 0, none⟩) sz c7 ∧ RowAt Sx.vals 64 wa (some ⟨b1, 0, none⟩) sz (secs dj.flushed) ∧ wz.heap.size ≤ b1 ∧ b1 < wa.heap.size),
        .tells (fun _ v _ wa => ∃ b1 c7, v = .agg #[.slice (some ⟨b1, 0, none⟩) sz c7, .slice none 0 0] ∧ RowAt Sx.vals 64 wa (some ⟨b1, 0, none⟩) sz (secs dj.flushed) ∧ wz.heap.size ≤ b1 ∧ b1 < wa.heap.size)]
        [31, 32, 33, 34, 35, 36, 37, 38]
        [[], [], [], [2], [], [4], [3, 5], [6]] (by kernel_rfl) (by rfl) rfl rfl (by kernel_rfl) (fun _ _ _ _ h => h.elim) ?_ ?_
      · refine ⟨?_, ?_, ?_, ?_, ?_, ?_, ?_, ?_, trivial⟩
        · intro W2 hw K hK
          obtain ⟨_, _, e0, _⟩ := HA.out W2 hw
          have q0 := (cell_of_row _ _ 0 _ _ (0, 0) e0).trans rfl
          have q1 := (cell_of_row _ _ 1 _ _ (0, 0) e0).trans rfl
          have q2 := (cell_of_row _ _ 2 _ _ (0, 0) e0).trans rfl
          have q3 := (cell_of_row _ _ 3 _ _ (0, 0) e0).trans rfl
          have q4 := (cell_of_row _ _ 4 _ _ (0, 0) e0).trans rfl
          go_simp
          exact hK _ _ rfl (Below.refl _ _)
        · intro W2 hw K hK
          go_simp
          exact hK _ _ rfl (Below.refl _ _)
        · intro W2 hw K hK
          go_simp
          exact hK _ _ rfl (Below.refl _ _)
        · intro W2 hw K hK
          obtain ⟨_, e0, _⟩ := HA.out W2 hw
          have q0 := (cell_of_row _ _ 0 _ _ (0, 0) e0).trans rfl
          go_simp
          exact hK _ _ rfl (Below.refl _ _)
        · intro W2 hw K hK
          go_simp
          exact hK _ _ rfl (Below.refl _ _)
        · intro W2 hw K hK
          obtain ⟨_, e0, _⟩ := HA.out W2 hw
          have q1 := (cell_of_row _ _ 1 _ _ (0, 0) e0).trans rfl
          go_simp
          exact hK _ _ rfl (Below.refl _ _)
        · intro W2 hw K hK
          obtain ⟨hb2, _, _, e0⟩ := HA.out W2 hw
          go_simp
          refine Calls.mono (HDN.out W2 e0) ?_
          rintro e w' ⟨b1, c7, rfl, r1, r2, r3, r4⟩
          exact hK _ _ ⟨b1, c7, rfl, r1, Nat.le_trans hb2.size r2, r3⟩ r4
        · rintro W2 hw v6 wb6 wa6 ⟨_, b1, c7, rfl, r1, r2, r3⟩ x6 K hK
          go_simp
          exact hK _ _ ⟨b1, c7, rfl, r1.below x6, r2, Nat.lt_of_lt_of_le r3 x6.size⟩ (Below.refl _ _)
      · intro W2 hw2
        intro v6 wb6 wa6 _ _ _ _ v7 wb7 wa7 h7 x7 _ _
        simp only [Behind, List.drop, Act.put, List.setIfInBounds_toArray, List.set_cons_zero, List.set_cons_succ]
        obtain ⟨b1, c7, rfl, hrow, hb1, hb1'⟩ := h7
        obtain ⟨hb2, _, _, _⟩ := HA.out W2 hw2
        obtain ⟨t0, n1, n3, nr, nk, nb, hs6⟩ := HM.out
        have hrow2 := hrow.below x7
        have hb12 : b1 < W2.heap.size := Nat.lt_of_lt_of_le hb1' x7.size
        have r2 := nr.below hb2
        have hXY : ∀ q, (X q ∨ q = b1) → q < W2.heap.size := fun q e => by
          rcases e with e | e
          · exact r2.lt q e
          · rw [e]; exact hb12
        have HWI := Lib.hid (refwith_any (r2.wide (Y := fun q => X q ∨ q = b1) (fun q e => .inl e) hXY) p2 lf j hj ⟨some ⟨b1, 0, none⟩, c7, dj.flushed, none, 0⟩ ⟨(by have := hrow2; rw [HSZ.out] at this; exact this), ⟨rfl, by simp [rowV, Dk.flushed], fun h => absurd h (by simp [Dk.flushed])⟩, (fun e => by cases e), (fun _ => rfl), (fun a e => by injection e with e; subst e; exact .inr rfl), fun a e => by cases e⟩ (by have := HN.out; omega))
        unfold rsV at HWI
        have hlen : (ds.set j dj.flushed).length = N := by rw [List.length_set]; exact HN.out.symm
        have HLEN := Lib.hid hlen
        rw [show (RDx.mk (some ⟨b1, 0, none⟩) c7 dj.flushed none 0).d = dj.flushed from rfl, show dj.flushed.size = sz from HSZ.out.symm, ← HN.out, hlen, show dj.flushed.waits.length = 0 from rfl] at HWI
        have HM7 := Lib.hid (And.intro ((hb2.block (z + 1) (by omega)).trans n3) (And.intro (nb.trans (hb2.mono (by omega))) (show z + 1 < t ∧ t < b1 ∧ z + 1 < W2.heap.size from ⟨h3, by omega, by have := hb2.size; omega⟩)))
        clear t0 n1 n3 nr nk nb hs6 hrow hrow2 r2 hXY hlen hw2 hb2 x7 HM HA HDN
        go_wp2_with fail
        refine Calls.mono HWI.out ?_
        rintro e w8 ⟨X8, A8, c8, rfl, r8, x8, b8⟩
        obtain ⟨n3, nb, ni⟩ := HM7.out
        have k3 := (b8.block (z + 1) (Array.getElem?_eq_some_iff.1 n3).1).trans n3
        have pp0 := (cell_of_row _ _ 0 _ _ (0, 0) k3).trans rfl
        have pp1 := (cell_of_row _ _ 1 _ _ (0, 0) k3).trans rfl
        have pp2 := (cell_of_row _ _ 2 _ _ (0, 0) k3).trans rfl
        have pp3 := (cell_of_row _ _ 3 _ _ (0, 0) k3).trans rfl
        have pp4 := (cell_of_row _ _ 4 _ _ (0, 0) k3).trans rfl
        have g0 := frozen_at k3 0
        have g1 := frozen_at k3 1
        have g2 := frozen_at k3 2
        have g3 := frozen_at k3 3
        have g4 := frozen_at k3 4
        have hz8 : z + 1 < w8.heap.size := (Array.getElem?_eq_some_iff.1 k3).1
        have HB8 := Lib.hid (nb.trans (b8.mono (by have := nb.size; have := HZ.out; omega)))
        have HR8 := Lib.hid (And.intro r8 (And.intro x8 k3))
        clear n3 nb b8 r8 x8 k3 HWI
        go_wp2_with fail
        refine NoPanic.normal ?_
        go_wp2_with fail
        obtain ⟨r8, x8, k3⟩ := HR8.out
        obtain ⟨u, tk, tb⟩ := set5 w8 (z + 1) 33 _ _ _ _ _ (.slice A8 N c8) (.int .i64 (p2.steps : Int)) (.int .i64 lf) (.bool p2.ia) (.bool p2.gone) k3
        have hbl := tb z w HB8.out (by omega)
        have hXz : ∀ q, X8 q → q ≠ z + 1 := fun q e => by
          rcases x8 q e with (e | e) | e
          · have := HXL.out q e; have := HZ.out; omega
          · omega
          · omega
        have hrf := r8.keep (w' := (((((w8.setCell ⟨z + 1, 0, none⟩ (.slice A8 N c8)).setCell ⟨z + 1, 1, none⟩ (.int .i64 (p2.steps : Int))).setCell ⟨z + 1, 2, none⟩ (.int .i64 lf)).setCell ⟨z + 1, 3, none⟩ (.bool p2.ia)).setCell ⟨z + 1, 4, none⟩ (.bool p2.gone))) (by simp only [World.size_setCell]; exact Nat.le_refl _) (fun q e => tk q (hXz q e))
        have HT := Lib.hid (And.intro u (And.intro hbl hrf))
        have hX8 : ∀ k, X8 k → X k ∨ z ≤ k := fun q e => by
          rcases x8 q e with (e | e) | e
          · exact .inl e
          · right; omega
          · right; omega
        clear u tk tb hbl hrf pp0 pp1 pp2 pp3 pp4 g0 g1 g2 g3 g4 HR8 r8 x8 k3 hz8 HB8
        revert HT
        generalize World.setCell (World.setCell _ _ _) _ _ = w9
        intro HT
        obtain ⟨u, hbl, hrf⟩ := HT.out
        have g0 := (cell_of_row _ _ 0 _ _ (0, 0) u).trans rfl
        have g1 := (cell_of_row _ _ 1 _ _ (0, 0) u).trans rfl
        have g2 := (cell_of_row _ _ 2 _ _ (0, 0) u).trans rfl
        have g3 := (cell_of_row _ _ 3 _ _ (0, 0) u).trans rfl
        have g4 := (cell_of_row _ _ 4 _ _ (0, 0) u).trans rfl
        have hds : wm.2.2 = ds.set j dj.flushed := by rw [HWR2.out]; show setAt ds j _ = _; rw [setAt_some hj, ← HDJ.out]
        have hp2 : wm.2.1 = p2 := by rw [HWR2.out]
        refine bodyPost_ret (v := .tuple #[.agg #[.slice A8 N c8, .int .i64 (p2.steps : Int), .int .i64 lf, .bool p2.ia, .bool p2.gone], .int .i64 0]) (by simp [results, Try.results31, go_sem, g0, g1, g2, g3, g4]) rfl ⟨X8, A8, c8, lf, ?_, ?_, hX8, ?_, hbl⟩
        · rw [hds, hp2, HWM2.out, HLEN.out]; rfl
        · rw [hds]; exact hrf
        · rw [hp2]; exact HLO.out
end Go.Proofs.Ythmebgpleegonaa
