/- The document's Put. -/
import Derived.Test.YthmebgpleegonaaDRefD
namespace Go.Proofs.Ythmebgpleegonaa
set_option maxRecDepth 100000
open Go.RowKit

/-- An error by its number. -/
def eV (n : Nat) : Value := if n = 0 then .nilIface else .iface 71 (.int .i64 (n : Int))
def writeN (p : Pw) (ds : List Dk) (d i : Int) : Nat := if hasB ds d i = false then 1 else if (stepP p).1 = false then 3 else 0
def flushN (p : Pw) (ds : List Dk) (d : Int) : Nat := if hasB ds d 0 = false then 1 else if (stepP p).1 = false then 3 else 0
theorem writeM_err (p : Pw) (ds : List Dk) (d i : Int) (x : Sx) : (writeM p ds d i x).1 = eV (writeN p ds d i) := by
  unfold writeM writeN
  split
  · rfl
  · split <;> rfl
theorem flushM_err (p : Pw) (ds : List Dk) (d : Int) : (flushM p ds d).1 = eV (flushN p ds d) := by
  unfold flushM flushN
  split
  · rfl
  · split <;> rfl
/-- Three blocks one behind the other. -/
theorem three_blocks (w : World) (o1 o2 o3 : Obj) : (((w.alloc o1).alloc o2).alloc o3).heap[w.heap.size]? = some o1 ∧ (((w.alloc o1).alloc o2).alloc o3).heap[w.heap.size + 1]? = some o2 ∧ (((w.alloc o1).alloc o2).alloc o3).heap[w.heap.size + 2]? = some o3 ∧ (((w.alloc o1).alloc o2).alloc o3).heap.size = w.heap.size + 3 ∧ Below w.heap.size w (((w.alloc o1).alloc o2).alloc o3) := by
  refine ⟨alloc_old (alloc_old (heap_alloc_new w o1) o2) o3, ?_, ?_, by simp, (((Below.refl _ _).alloc (Nat.le_refl _) o1).alloc (by simp) o2).alloc (by simp; omega) o3⟩
  · have := heap_alloc_new (w.alloc o1) o2
    rw [World.size_alloc] at this
    exact alloc_old this o3
  · have := heap_alloc_new ((w.alloc o1).alloc o2) o3
    rw [World.size_alloc, World.size_alloc] at this
    exact this
theorem RSet.wide {w : World} {X Y : Nat → Prop} {A : Option Addr} {c : Nat} {ds : List Dk} (h : RSet w X A c ds) (hk : ∀ q, X q → Y q) (hy : ∀ q, Y q → q < w.heap.size) : RSet w Y A c ds := by
  obtain ⟨_, L, h1, h2, h3, h4, h5⟩ := h
  exact ⟨hy, L, h1, h2, h3, fun a e => hk _ (h4 a e), fun r hr => (h5 r hr).wide hk⟩
theorem setAt_some {ds : List Dk} {j : Nat} (hj : j < ds.length) (f : Dk → Dk) : setAt ds j f = ds.set j (f ds[j]) := by
  unfold setAt
  rw [List.getElem?_eq_getElem hj]
theorem own_grown_below {w0 w w' : World} {e size n : Nat} {v : Value} {xs : List Value} (h : w.ownsRow w0.heap.size e size v n xs) (hg : w.grownBy w' v.ownBlock) (hb : Below w0.heap.size w0 w) : Below w0.heap.size w0 w' :=
  hb.trans ⟨hg.os, hg.tape, hg.output, hg.size, fun k hk => hg.block k (by have := hb.size; omega) (fun e2 => by have := (h.lt k e2.symm).1; omega)⟩
theorem own_some {w : World} {B e size n : Nat} {v : Value} {xs : List Value} (h : w.ownsRow B e size v n xs) (hn : 0 < n) : ∃ b c, v = .slice (some ⟨b, 0, none⟩) n c ∧ B ≤ b := by
  rcases h.2 with ⟨_, h0⟩ | ⟨g, cap, cur, rfl, h2, _⟩
  · omega
  · exact ⟨g, cap, rfl, h2⟩
set_option maxHeartbeats 8000000 in
theorem refput_any {w : World} {X : Nat → Prop} {A : Option Addr} {c : Nat} {ds : List Dk} (h : RSet w X A c ds) (p : Pw) (left d i : Int) (x : Sx) (hk : LeftOk p left) (hl : ds.length ≤ 1000) (hs : p.steps ≤ 1000000000) (ha : p.armed ≤ 9223372036854775807) (hwn : ∀ d ∈ ds, d.waits.length ≤ 1000000) :
    Calls Try.prog 30 #[rsV A c ds p left, .int .i64 d, .int .i64 i, x.val] w fun e w' => ∃ X' A' c' left', e = .returned (.tuple #[rsV A' c' (writeM p ds d i x).2.2 (writeM p ds d i x).2.1 left', .int .i64 (writeN p ds d i : Int)]) ∧ RSet w' X' A' c' (writeM p ds d i x).2.2 ∧ (∀ k, X' k → X k ∨ w.heap.size ≤ k) ∧ LeftOk (writeM p ds d i x).2.1 left' ∧ Below w.heap.size w w' := by
  obtain ⟨k1, k2, k3, ks, hb3⟩ := three_blocks w (.cells #[.slice A ds.length c, .int .i64 (p.steps : Int), .int .i64 left, .bool p.ia, .bool p.gone] 33) (.cells x.arr 50) (.cells #[.slice none 0 0, .int .i64 0, .int .i64 0, .bool false, .bool false] 33)
  have HW := Lib.hid (And.intro k1 (And.intro k2 (And.intro k3 (And.intro ks (And.intro hb3 (h.below hb3))))))
  have HK := Lib.hid hk
  have H0 := Lib.hid h
  have HWN := Lib.hid hwn
  have HLS := Lib.hid (refstep_any A c ds p left)
  have HST := Lib.hid hk.step
  obtain ⟨N, hN⟩ : ∃ N, N = ds.length := ⟨_, rfl⟩
  have HN := Lib.hid hN
  obtain ⟨z, hz⟩ : ∃ z, z = w.heap.size := ⟨_, rfl⟩
  have HZ := Lib.hid hz
  have HWR := Lib.hid (show writeM p ds d i x = if hasB ds d i = false then (eRange, p, ds) else if (stepP p).1 = false then (eDown, (stepP p).2, ds) else (.nilIface, (stepP p).2, setAt ds d.toNat fun e => e.more ⟨i, x⟩) from rfl)
  have HWM := Lib.hid (show writeN p ds d i = if hasB ds d i = false then 1 else if (stepP p).1 = false then 3 else 0 from rfl)
  obtain ⟨wm, hwm⟩ : ∃ y, y = writeM p ds d i x := ⟨_, rfl⟩
  obtain ⟨wn, hwn2⟩ : ∃ y, y = writeN p ds d i := ⟨_, rfl⟩
  rw [← hwm] at HWR ⊢
  rw [← hwn2] at HWM ⊢
  rw [← hN, ← hz] at HW
  unfold rsV at HLS ⊢
  rw [← hN] at hl HLS ⊢
  clear k1 k2 k3 ks hb3 h hk hwn hN hwm hwn2
  rw [← hz]
  clear hz
  unfold Sx.val
  go_enter Try.func30, Try.ntmps30
  go_upto_region 1 with fail
  rw [← HZ.out]
  revert HW
  generalize World.alloc _ _ = wb
  intro HW
  obtain ⟨k1, k2, k3, ks, hb3, hr⟩ := HW.out
  have HS4 := Lib.hid (show ∀ W, Below wb.heap.size wb W → W.heap[z]? = _ ∧ W.heap[z + 1]? = _ ∧ W.heap[z + 2]? = _ from fun W hb => ⟨(hb.block _ (by omega)).trans k1, (hb.block _ (by omega)).trans k2, (hb.block _ (by omega)).trans k3⟩)
  have HB3 := Lib.hid hb3
  have HR := Lib.hid hr
  have HH := Lib.hid (refhas_any hr p left d i (by have := HN.out; omega))
  unfold rsV at HH
  rw [← HN.out] at HH
  have q0 := (cell_of_row _ _ 0 _ _ (0, 0) k1).trans rfl
  have q1 := (cell_of_row _ _ 1 _ _ (0, 0) k1).trans rfl
  have q2 := (cell_of_row _ _ 2 _ _ (0, 0) k1).trans rfl
  have q3 := (cell_of_row _ _ 3 _ _ (0, 0) k1).trans rfl
  have q4 := (cell_of_row _ _ 4 _ _ (0, 0) k1).trans rfl
  clear k1 k2 k3 ks hb3 hr HW
  go_wp2_with fail
  refine Calls.mono HH.out ?_
  rintro e w1 ⟨rfl, b1⟩
  have B1 := Lib.hid b1
  obtain ⟨k1, k2, k3⟩ := HS4.out w1 b1
  clear b1 q0 q1 q2 q3 q4 HH
  have q0 := (cell_of_row _ _ 0 _ _ (0, 0) k1).trans rfl
  have q1 := (cell_of_row _ _ 1 _ _ (0, 0) k1).trans rfl
  have q2 := (cell_of_row _ _ 2 _ _ (0, 0) k1).trans rfl
  have q3 := (cell_of_row _ _ 3 _ _ (0, 0) k1).trans rfl
  have q4 := (cell_of_row _ _ 4 _ _ (0, 0) k1).trans rfl
  have f0 := frozen_at k1 0
  have f1 := frozen_at k1 1
  have f2 := frozen_at k1 2
  have f3 := frozen_at k1 3
  have f4 := frozen_at k1 4
  obtain ⟨hb, hhb⟩ : ∃ y, y = hasB ds d i := ⟨_, rfl⟩
  have HHB := Lib.hid hhb
  rw [← hhb]
  clear hhb
  cases hb with
  | false =>
    have pp0 := (cell_of_row _ _ 0 _ _ (0, 0) k3).trans rfl
    have pp1 := (cell_of_row _ _ 1 _ _ (0, 0) k3).trans rfl
    have pp2 := (cell_of_row _ _ 2 _ _ (0, 0) k3).trans rfl
    have pp3 := (cell_of_row _ _ 3 _ _ (0, 0) k3).trans rfl
    have pp4 := (cell_of_row _ _ 4 _ _ (0, 0) k3).trans rfl
    have g0 := frozen_at k3 0
    have g1 := frozen_at k3 1
    have g2 := frozen_at k3 2
    have g3 := frozen_at k3 3
    have g4 := frozen_at k3 4
    have h3 : z + 2 < w1.heap.size := (Array.getElem?_eq_some_iff.1 k3).1
    have K3 := Lib.hid k3
    have HWR2 := Lib.hid (show wm = (eRange, p, ds) by rw [HWR.out, if_pos HHB.out.symm])
    have HWM2 := Lib.hid (show wn = 1 by rw [HWM.out, if_pos HHB.out.symm])
    clear k1 k2 k3
    go_wp2_with fail
    obtain ⟨t, _, tb⟩ := set5 w1 (z + 1 + 1) 33 _ _ _ _ _ (.slice A N c) (.int .i64 (p.steps : Int)) (.int .i64 left) (.bool p.ia) (.bool p.gone) K3.out
    have hbl := tb z w (HB3.out.trans (B1.out.mono (by have := HB3.out.size; have := HZ.out; omega))) (by omega)
    rw [HZ.out] at hbl
    have HT := Lib.hid (And.intro t hbl)
    clear t tb hbl pp0 pp1 pp2 pp3 pp4 g0 g1 g2 g3 g4 q0 q1 q2 q3 q4 f0 f1 f2 f3 f4 K3 h3
    revert HT
    rw [← HZ.out]
    generalize World.setCell (World.setCell _ _ _) _ _ = w4
    intro HT
    obtain ⟨t, hbl⟩ := HT.out
    have g0 := (cell_of_row _ _ 0 _ _ (0, 0) t).trans rfl
    have g1 := (cell_of_row _ _ 1 _ _ (0, 0) t).trans rfl
    have g2 := (cell_of_row _ _ 2 _ _ (0, 0) t).trans rfl
    have g3 := (cell_of_row _ _ 3 _ _ (0, 0) t).trans rfl
    have g4 := (cell_of_row _ _ 4 _ _ (0, 0) t).trans rfl
    refine bodyPost_ret (v := .tuple #[.agg #[.slice A N c, .int .i64 (p.steps : Int), .int .i64 left, .bool p.ia, .bool p.gone], .int .i64 1]) (by simp [results, Try.results30, go_sem, g0, g1, g2, g3, g4]) rfl ⟨X, A, c, left, ?_, ?_, fun k e => .inl e, ?_, ?_⟩
    · rw [HWR2.out, HWM2.out, HN.out]; rfl
    · rw [HWR2.out]; exact H0.out.below (by rw [← HZ.out]; exact hbl)
    · rw [HWR2.out]; exact HK.out
    · exact hbl
  | true =>
    have HS5 := Lib.hid (HLS.out w1 HK.out hs ha)
    have HNB := Lib.hid (show ¬ (hasB ds d i = false) by rw [← HHB.out]; decide)
    clear k1 k2 k3
    go_wp2_with fail
    refine Calls.mono HS5.out ?_
    rintro e w2 ⟨rfl, b2⟩
    have B2 := Lib.hid (B1.out.trans (b2.mono B1.out.size))
    obtain ⟨k1, k2, k3⟩ := HS4.out w2 B2.out
    clear b2 q0 q1 q2 q3 q4 f0 f1 f2 f3 f4 HS5 B1
    obtain ⟨sp, hsp⟩ : ∃ y, y = stepP p := ⟨_, rfl⟩
    obtain ⟨lf, hlf⟩ : ∃ y, y = leftS p left := ⟨_, rfl⟩
    have HSP := Lib.hid hsp
    have HLO := Lib.hid (show LeftOk sp.2 lf by rw [hsp, hlf]; exact HST.out)
    rw [← hsp, ← hlf]
    rw [← hsp] at HWR HWM
    obtain ⟨ok, p2⟩ := sp
    simp only [] at HWR HWM HLO ⊢
    clear hsp hlf HLS HST
    obtain ⟨t0, tk, tb⟩ := set5 w2 z 33 _ _ _ _ _ (.slice A N c) (.int .i64 (p2.steps : Int)) (.int .i64 lf) (.bool p2.ia) (.bool p2.gone) k1
    have hbl := tb z w (HB3.out.trans (B2.out.mono (by have := HB3.out.size; have := HZ.out; omega))) (Nat.le_refl _)
    have t1 := (tk (z + 1) (by omega)).trans k2
    have t2 := (tk (z + 2) (by omega)).trans k3
    have hsz5 : (((((w2.setCell ⟨z, 0, none⟩ (.slice A N c)).setCell ⟨z, 1, none⟩ (.int .i64 (p2.steps : Int))).setCell ⟨z, 2, none⟩ (.int .i64 lf)).setCell ⟨z, 3, none⟩ (.bool p2.ia)).setCell ⟨z, 4, none⟩ (.bool p2.gone)).heap.size = w2.heap.size := by simp only [World.size_setCell]
    have hz2 : z < w2.heap.size := (Array.getElem?_eq_some_iff.1 k1).1
    have HT := Lib.hid (And.intro t0 (And.intro t1 (And.intro t2 hbl)))
    have q0 := (cell_of_row _ _ 0 _ _ (0, 0) k1).trans rfl
    have q1 := (cell_of_row _ _ 1 _ _ (0, 0) k1).trans rfl
    have q2 := (cell_of_row _ _ 2 _ _ (0, 0) k1).trans rfl
    have q3 := (cell_of_row _ _ 3 _ _ (0, 0) k1).trans rfl
    have q4 := (cell_of_row _ _ 4 _ _ (0, 0) k1).trans rfl
    have f0 := frozen_at k1 0
    have f1 := frozen_at k1 1
    have f2 := frozen_at k1 2
    have f3 := frozen_at k1 3
    have f4 := frozen_at k1 4
    clear t0 t1 t2 tk tb hbl k1 k2 k3 hsz5
    go_upto_region 4 with fail
    clear q0 q1 q2 q3 q4 f0 f1 f2 f3 f4 hz2
    revert HT
    generalize World.setCell (World.setCell _ _ _) _ _ = w3
    intro HT
    obtain ⟨t0, t1, t2, hbl⟩ := HT.out
    have q0 := (cell_of_row _ _ 0 _ _ (0, 0) t0).trans rfl
    have q1 := (cell_of_row _ _ 1 _ _ (0, 0) t0).trans rfl
    have q2 := (cell_of_row _ _ 2 _ _ (0, 0) t0).trans rfl
    have q3 := (cell_of_row _ _ 3 _ _ (0, 0) t0).trans rfl
    have q4 := (cell_of_row _ _ 4 _ _ (0, 0) t0).trans rfl
    have h3 : z + 2 < w3.heap.size := (Array.getElem?_eq_some_iff.1 t2).1
    cases ok with
    | false =>
      have pp0 := (cell_of_row _ _ 0 _ _ (0, 0) t2).trans rfl
      have pp1 := (cell_of_row _ _ 1 _ _ (0, 0) t2).trans rfl
      have pp2 := (cell_of_row _ _ 2 _ _ (0, 0) t2).trans rfl
      have pp3 := (cell_of_row _ _ 3 _ _ (0, 0) t2).trans rfl
      have pp4 := (cell_of_row _ _ 4 _ _ (0, 0) t2).trans rfl
      have g0 := frozen_at t2 0
      have g1 := frozen_at t2 1
      have g2 := frozen_at t2 2
      have g3 := frozen_at t2 3
      have g4 := frozen_at t2 4
      have HWR2 := Lib.hid (show wm = (eDown, p2, ds) by rw [HWR.out, if_neg HNB.out]; rfl)
      have HWM2 := Lib.hid (show wn = 3 by rw [HWM.out, if_neg HNB.out]; rfl)
      clear t0 t1 t2 hbl
      go_wp2_with fail
      obtain ⟨t0, t1, t2, hbl⟩ := HT.out
      obtain ⟨t, _, tb⟩ := set5 w3 (z + 1 + 1) 33 _ _ _ _ _ (.slice A N c) (.int .i64 (p2.steps : Int)) (.int .i64 lf) (.bool p2.ia) (.bool p2.gone) t2
      have hbl2 := tb z w hbl (by omega)
      have HT2 := Lib.hid (And.intro t hbl2)
      clear t tb hbl hbl2 pp0 pp1 pp2 pp3 pp4 g0 g1 g2 g3 g4 q0 q1 q2 q3 q4 t0 t1 t2 h3 HT
      revert HT2
      generalize World.setCell (World.setCell _ _ _) _ _ = w4
      intro HT
      obtain ⟨t, hbl⟩ := HT.out
      have g0 := (cell_of_row _ _ 0 _ _ (0, 0) t).trans rfl
      have g1 := (cell_of_row _ _ 1 _ _ (0, 0) t).trans rfl
      have g2 := (cell_of_row _ _ 2 _ _ (0, 0) t).trans rfl
      have g3 := (cell_of_row _ _ 3 _ _ (0, 0) t).trans rfl
      have g4 := (cell_of_row _ _ 4 _ _ (0, 0) t).trans rfl
      refine bodyPost_ret (v := .tuple #[.agg #[.slice A N c, .int .i64 (p2.steps : Int), .int .i64 lf, .bool p2.ia, .bool p2.gone], .int .i64 3]) (by simp [results, Try.results30, go_sem, g0, g1, g2, g3, g4]) rfl ⟨X, A, c, lf, ?_, ?_, fun k e => .inl e, ?_, ?_⟩
      · rw [HWR2.out, HWM2.out, HN.out]; rfl
      · rw [HWR2.out]; exact H0.out.below (by rw [← HZ.out]; exact hbl)
      · rw [HWR2.out]; exact HLO.out
      · exact hbl
    | true =>
      obtain ⟨j, rfl, hj, hi1, hi2⟩ := hasB_true HHB.out.symm
      have HWR2 := Lib.hid (show wm = (.nilIface, p2, setAt ds j fun e => e.more ⟨i, x⟩) by rw [HWR.out, if_neg HNB.out, if_neg (by decide), Int.toNat_natCast])
      have HWM2 := Lib.hid (show wn = 0 by rw [HWM.out, if_neg HNB.out, if_neg (by decide)])
      have hr3 := H0.out.below (by rw [← HZ.out]; exact hbl)
      obtain ⟨b, off, rfl, hc⟩ := hr3.cells (by omega)
      obtain ⟨A1, c1, A2, c2, m1, m2, hok⟩ := hc j hj
      have HJN : j < N := by have := HN.out; omega
      have hwj := HWN.out _ (List.getElem_mem hj)
      obtain ⟨dj, hdj⟩ : ∃ y, y = ds[j] := ⟨_, rfl⟩
      rw [← hdj] at m1 m2 hok hwj
      have HDJ := Lib.hid hdj
      obtain ⟨sz, hsz⟩ : ∃ y, y = dj.size := ⟨_, rfl⟩
      obtain ⟨nw, hnw⟩ : ∃ y, y = dj.waits.length := ⟨_, rfl⟩
      rw [← hsz] at m1
      rw [← hnw] at m2 hwj
      have HSZ := Lib.hid hsz
      have HNW := Lib.hid hnw
      have hba : Below w3.heap.size w3 (w3.alloc (.cells #[.slice A1 sz c1, .slice A2 nw c2] 85)) := (Below.refl _ _).alloc (Nat.le_refl _) _
      have HZW := Lib.hid (show z ≤ w3.heap.size by omega)
      have HM := Lib.hid (And.intro (heap_alloc_new w3 (.cells #[.slice A1 sz c1, .slice A2 nw c2] 85)) (And.intro ((hba.block z (by omega)).trans t0) (And.intro ((hba.block (z + 1) (by omega)).trans t1) (And.intro ((hba.block (z + 2) (by omega)).trans t2) (And.intro (hr3.below hba) (And.intro (hok.keep fun q e => hba.block q (hr3.lt q e)) (And.intro (hbl.trans (hba.mono (by omega))) (show (w3.alloc (.cells #[.slice A1 sz c1, .slice A2 nw c2] 85)).heap.size = w3.heap.size + 1 by simp))))))))
      have HNIL := Lib.hid hok.n2
      have HXL := Lib.hid H0.out.lt
      clear t0 t1 t2 hbl hr3 hc hok hdj hsz hnw hba hi1 hi2 HT
      go_upto_region 7 with fail
      clear m1 m2 q0 q1 q2 q3 q4
      obtain ⟨t, ht⟩ : ∃ y, y = w3.heap.size := ⟨_, rfl⟩
      rw [← ht] at HM h3 HZW ⊢
      clear ht
      revert HM
      generalize World.alloc w3 _ = wz
      intro HM
      have HA := Lib.hid (show ∀ W2, Below wz.drew.heap.size wz.drew W2 → W2.cell? ⟨t, 1, none⟩ = some (.slice A2 nw c2) ∧ (loadVar 50 ⟨z + 1, 0, none⟩).run Try.prog W2 = .ok x.val W2 ∧ Rdv W2 A2 nw 65 (rowV Wx.vals dj.waits) from fun W2 hw => by
        obtain ⟨t0, _, t1, _, hr, hok, _, hs⟩ := HM.out
        have hb2 : Below wz.heap.size wz W2 := (Below.refl _ wz).drew.trans hw
        refine ⟨(cell_of_row _ _ 1 _ _ (0, 0) ((hb2.block t (by omega)).trans t0)).trans rfl, ?_, ?_⟩
        · exact SBlk.load (show SBlk W2 (z + 1) x from (hb2.block (z + 1) (by omega)).trans t1)
        · have := (hok.wts.below hb2).row
          rw [HNW.out]
          exact this)
      refine wp_region_noPanic ?_
      refine wp_region_abs 8 45 [
        .tells (fun _ v _ wa => ∃ g, v = .slice (some ⟨g, 0, none⟩) 0 0 ∧ wz.heap.size ≤ g ∧ wa.heap[g]? = some (.cells #[] 110 (0, 0))),
        .is (.pointer (some ⟨t, 1, none⟩)),
        .is (.slice A2 nw c2),
        .tells (fun _ v _ wa => wa.ownsRow wz.heap.size 110 65 v nw (rowV Wx.vals dj.waits)),
        .is (.int .i64 i),
        .is x.val,
        .is (⟨i, x⟩ : Wx).val,
        .tells (fun _ v _ wa => ∃ g, v = .slice (some ⟨g, 0, none⟩) 1 1 ∧ wa.heap[g]? = some (.cells (⟨i, x⟩ : Wx).arr 110 (0, 0)))]
        [31, 32, 33, 34, 35, 36, 37, 38]
        [[], [], [1], [0, 2], [], [], [4, 5], [6]] (by kernel_rfl) (by rfl) rfl rfl (by kernel_rfl) (fun _ _ _ _ h => h.elim) ?_ ?_
      · refine ⟨?_, ?_, ?_, ?_, ?_, ?_, ?_, ?_, trivial⟩
        · intro W2 hw K hK
          have hsz := hw.size
          go_simp
          exact hK _ _ ⟨_, rfl, hsz, heap_alloc_new _ _⟩ ((Below.refl _ _).alloc (Nat.le_refl _) _)
        · intro W2 hw K hK
          go_simp
          exact hK _ _ rfl (Below.refl _ _)
        · intro W2 hw K hK
          obtain ⟨e0, _⟩ := HA.out W2 hw
          go_simp
          exact hK _ _ rfl (Below.refl _ _)
        · rintro W2 hw v0 wb0 wa0 ⟨_, g0, rfl, hg0, hp0⟩ x0
          refine (show ∀ d, Does _ _ _ _ _ _ d _ from fun d => ?_) _
          obtain ⟨_, _, r0⟩ := HA.out W2 hw
          exact does_append_fresho (F := fun _ v _ wa => wa.ownsRow wz.heap.size 110 65 v nw (rowV Wx.vals dj.waits)) elemRW rfl _ _ rfl g0 wz.heap.size ((x0.block _ (Array.getElem?_eq_some_iff.1 hp0).1).trans hp0) hg0 rfl A2 nw c2 _ rfl r0 (rowWx_one _) HNIL.out (by unfold maxLen; omega) (by omega) fun v w' h => h
        · intro W2 hw K hK
          go_simp
          exact hK _ _ rfl (Below.refl _ _)
        · intro W2 hw K hK
          obtain ⟨_, e0, _⟩ := HA.out W2 hw
          exact (arm_load (b := z + 1) (off := 0) (.tmp 7) rfl rfl (by kernel_rfl) x.val e0 (hK _ _ rfl (Below.refl _ _))).out
        · intro W2 hw K hK
          exact (arm_build_r (.tmp 35) (.tmp 36) rfl rfl ⟨i, x⟩ (by kernel_rfl) (by kernel_rfl) (hK _ _ rfl (Below.refl _ _))).out
        · intro W2 hw K hK
          exact (arm_slice_r (.tmp 37) rfl rfl ⟨i, x⟩ (by kernel_rfl) (hK _ _ ⟨_, rfl, heap_alloc_new _ _⟩ ((Below.refl _ _).alloc (Nat.le_refl _) _))).out
      · intro W2 hw2
        intro v0 _ _ _ _ _ _ v3 wb3 wa3 h3' x3 _ _ v7 wb7 wa7 h7 x7 _ _
        simp only [Behind, List.drop, Act.put, List.setIfInBounds_toArray, List.set_cons_zero, List.set_cons_succ]
        obtain ⟨g7, rfl, hg7⟩ := h7
        have hb2 : Below wz.heap.size wz W2 := (Below.refl _ wz).drew.trans hw2
        have ho3 : W2.ownsRow wz.heap.size 110 65 v3 nw (rowV Wx.vals dj.waits) := own_same (show wa3.ownsRow wz.heap.size 110 65 v3 nw (rowV Wx.vals dj.waits) from h3') fun q e => x3.block q ((show wa3.ownsRow wz.heap.size 110 65 v3 nw (rowV Wx.vals dj.waits) from h3').lt q e).2
        have hg72 := (x7.block g7 (Array.getElem?_eq_some_iff.1 hg7).1).trans hg7
        obtain ⟨A3, c3, rfl, _, _, _⟩ := rdv_own ho3
        have hrg : Rdv W2 (some ⟨g7, 0, none⟩) 1 65 (⟨i, x⟩ : Wx).vals := ⟨(⟨i, x⟩ : Wx).vlen, fun _ => ⟨g7, 0, rfl, fun r u hr => by
          rw [Nat.zero_add, cell_of_row _ _ r _ _ (0, 0) hg72]
          have e : (⟨i, x⟩ : Wx).arr[r]? = (⟨i, x⟩ : Wx).vals[r]? := by unfold Wx.arr; simp
          rw [e]; exact hr⟩⟩
        have HO3 := Lib.hid ho3
        have HB2 := Lib.hid hb2
        have HRG := Lib.hid hrg
        clear hw2 h3' x3 x7 hg7 hg72 ho3 hb2 hrg HA
        go_wp2_with (refine wpList_append_rowv elemRW rfl (.tmp 34) (.tmp 38) rfl wz.heap.size (.slice A3 nw c3) nw (rowV Wx.vals dj.waits) (by rfl) HO3.out (some ⟨g7, 0, none⟩) 1 1 (⟨i, x⟩ : Wx).vals (by rfl) HRG.out (Wx.one _) (fun h => by cases h) (by unfold maxLen; omega) (by omega) HB2.out.size ?_; intro v6 w6 hown6 hg6 _; obtain ⟨q6, c6, rfl, hq6⟩ := own_some hown6 (by omega); have HB6 := Lib.hid (own_grown_below HO3.out hg6 HB2.out); have HO6 := Lib.hid hown6; clear hown6 hg6; obtain ⟨t0, _, _, _, _, _, _, hs6⟩ := HM.out; have t6 := (HB6.out.block t (by omega)).trans t0; have y0 := (cell_of_row _ _ 1 _ _ (0, 0) t6).trans rfl; have y1 := frozen_at t6 1; have hs66 := HB6.out.size; clear t0 t6)
        obtain ⟨t0, m0, m1, m2, hrz, hokz, hbz, hs6⟩ := HM.out
        have b6 := HB6.out
        have n0 := box_set ((b6.block t (by omega)).trans t0) 1 (.slice (some ⟨q6, 0, none⟩) (nw + 1) c6)
        have hne : ∀ k, k ≠ t → (w6.setCell ⟨t, 1, none⟩ (.slice (some ⟨q6, 0, none⟩) (nw + 1) c6)).heap[k]? = w6.heap[k]? := fun k hk => Below.heap_setCell _ ⟨t, 1, none⟩ _ _ hk
        have n1 := (hne z (by omega)).trans ((b6.block z (by omega)).trans m0)
        have n3 := (hne (z + 2) (by omega)).trans ((b6.block (z + 2) (by omega)).trans m2)
        have no := own_same (w' := w6.setCell ⟨t, 1, none⟩ (.slice (some ⟨q6, 0, none⟩) (nw + 1) c6)) HO6.out (fun q e => by
          have e2 : q = q6 := (Option.some.inj e).symm
          rw [e2]
          exact hne q6 (by omega))
        have hszs : (w6.setCell ⟨t, 1, none⟩ (.slice (some ⟨q6, 0, none⟩) (nw + 1) c6)).heap.size = w6.heap.size := World.size_setCell _ _ _
        have hkX : ∀ q, X q → (w6.setCell ⟨t, 1, none⟩ (.slice (some ⟨q6, 0, none⟩) (nw + 1) c6)).heap[q]? = wz.heap[q]? := fun q e => by
          have := HXL.out q e
          have := HZ.out
          exact (hne q (by omega)).trans (b6.block q (by omega))
        have nr := (hrz.keep (w' := w6.setCell ⟨t, 1, none⟩ (.slice (some ⟨q6, 0, none⟩) (nw + 1) c6)) (by rw [hszs]; exact b6.size) hkX)
        have nk := hokz.keep (w' := w6.setCell ⟨t, 1, none⟩ (.slice (some ⟨q6, 0, none⟩) (nw + 1) c6)) hkX
        have nb : Below z w (w6.setCell ⟨t, 1, none⟩ (.slice (some ⟨q6, 0, none⟩) (nw + 1) c6)) := (hbz.trans (b6.mono (by omega))).setCell (show z ≤ (⟨t, 1, none⟩ : Addr).block by show z ≤ t; omega) _
        have HM7 := Lib.hid (And.intro n0 (And.intro n1 (And.intro n3 (And.intro no (And.intro nr (And.intro nk (And.intro nb (show z + 2 < t ∧ t < q6 ∧ z + 2 < (w6.setCell ⟨t, 1, none⟩ (.slice (some ⟨q6, 0, none⟩) (nw + 1) c6)).heap.size from ⟨h3, by omega, by rw [World.size_setCell]; have := b6.size; omega⟩))))))))
        clear t0 m0 m1 m2 hrz hokz hbz hs6 b6 n0 hne n1 n3 no hszs hkX nr nk nb HM HB2 HB6 HO3 HO6 HRG y0 y1 hs66
        refine NoPanic.normal ?_
        revert HM7
        generalize World.setCell w6 _ _ = w7
        intro HM7
        obtain ⟨n0, n1, n3, no, nr, nk, nb, ni⟩ := HM7.out
        have nlt := (own_lt no).2.1
        have nn : (dj.more ⟨i, x⟩).waits.length = nw + 1 := by show (dj.waits ++ [_]).length = _; rw [List.length_append, HNW.out]; rfl
        have hXY : ∀ q, (X q ∨ q = q6) → q < w7.heap.size := fun q e => by
          rcases e with e | e
          · exact nr.lt q e
          · rw [e]; exact nlt
        have hrow : RowAt Wx.vals 65 w7 (some ⟨q6, 0, none⟩) (dj.more ⟨i, x⟩).waits.length (dj.more ⟨i, x⟩).waits := by
          rw [nn]
          have e : rowV Wx.vals dj.waits ++ (⟨i, x⟩ : Wx).vals = rowV Wx.vals (dj.more ⟨i, x⟩).waits := by
            show _ = rowV Wx.vals (dj.waits ++ [_])
            rw [rowV_append]
            simp [rowV]
          rw [e] at no
          exact rowat_own no nn
        have HWI := Lib.hid (refwith_any (nr.wide (Y := fun q => X q ∨ q = q6) (fun q e => .inl e) hXY) p2 lf j hj ⟨A1, c1, dj.more ⟨i, x⟩, some ⟨q6, 0, none⟩, c6⟩ ⟨(nk.wide (Y := fun q => X q ∨ q = q6) fun q e => .inl e).sec, hrow, nk.n1, (fun e => by cases e), (fun a e => .inl (nk.x1 a e)), fun a e => by injection e with e; subst e; exact .inr rfl⟩ (by have := HN.out; omega))
        unfold rsV at HWI
        have hlen : (ds.set j (dj.more ⟨i, x⟩)).length = N := by rw [List.length_set]; exact HN.out.symm
        have HLEN := Lib.hid hlen
        simp only [nn] at HWI
        rw [show (dj.more ⟨i, x⟩).size = sz from HSZ.out.symm, ← HN.out, hlen] at HWI
        have q0 := (cell_of_row _ _ 0 _ _ (0, 0) n1).trans rfl
        have q1 := (cell_of_row _ _ 1 _ _ (0, 0) n1).trans rfl
        have q2 := (cell_of_row _ _ 2 _ _ (0, 0) n1).trans rfl
        have q3 := (cell_of_row _ _ 3 _ _ (0, 0) n1).trans rfl
        have q4 := (cell_of_row _ _ 4 _ _ (0, 0) n1).trans rfl
        have d0 := (cell_of_row _ _ 0 _ _ (0, 0) n0).trans rfl
        have d1 := (cell_of_row _ _ 1 _ _ (0, 0) n0).trans rfl
        clear n0 n1 n3 no nr nk nb ni nlt nn hXY hrow hlen
        go_wp2_with fail
        refine Calls.mono HWI.out ?_
        rintro e w8 ⟨X8, A8, c8, rfl, r8, x8, b8⟩
        obtain ⟨n0, n1, n3, no, nr, nk, nb, ni⟩ := HM7.out
        have k3 := (b8.block (z + 2) (Array.getElem?_eq_some_iff.1 n3).1).trans n3
        have pp0 := (cell_of_row _ _ 0 _ _ (0, 0) k3).trans rfl
        have pp1 := (cell_of_row _ _ 1 _ _ (0, 0) k3).trans rfl
        have pp2 := (cell_of_row _ _ 2 _ _ (0, 0) k3).trans rfl
        have pp3 := (cell_of_row _ _ 3 _ _ (0, 0) k3).trans rfl
        have pp4 := (cell_of_row _ _ 4 _ _ (0, 0) k3).trans rfl
        have g0 := frozen_at k3 0
        have g1 := frozen_at k3 1
        have g2 := frozen_at k3 2
        have g3 := frozen_at k3 3
        have g4 := frozen_at k3 4
        have hz8 : z + 2 < w8.heap.size := (Array.getElem?_eq_some_iff.1 k3).1
        have HB8 := Lib.hid (nb.trans (b8.mono (by have := nb.size; have := HZ.out; omega)))
        have HR8 := Lib.hid (And.intro r8 (And.intro x8 k3))
        clear n0 n1 n3 no nr nk nb b8 r8 x8 k3 q0 q1 q2 q3 q4 d0 d1 HWI
        go_wp2_with fail
        obtain ⟨r8, x8, k3⟩ := HR8.out
        obtain ⟨u, tk, tb⟩ := set5 w8 (z + 1 + 1) 33 _ _ _ _ _ (.slice A8 N c8) (.int .i64 (p2.steps : Int)) (.int .i64 lf) (.bool p2.ia) (.bool p2.gone) k3
        have hbl := tb z w HB8.out (by omega)
        have hXz : ∀ q, X8 q → q ≠ z + 1 + 1 := fun q e => by
          rcases x8 q e with (e | e) | e
          · have := HXL.out q e; have := HZ.out; omega
          · omega
          · omega
        have hrf := r8.keep (w' := (((((w8.setCell ⟨z + 1 + 1, 0, none⟩ (.slice A8 N c8)).setCell ⟨z + 1 + 1, 1, none⟩ (.int .i64 (p2.steps : Int))).setCell ⟨z + 1 + 1, 2, none⟩ (.int .i64 lf)).setCell ⟨z + 1 + 1, 3, none⟩ (.bool p2.ia)).setCell ⟨z + 1 + 1, 4, none⟩ (.bool p2.gone))) (by simp only [World.size_setCell]; exact Nat.le_refl _) (fun q e => tk q (hXz q e))
        have HT := Lib.hid (And.intro u (And.intro hbl hrf))
        have hX8 : ∀ k, X8 k → X k ∨ z ≤ k := fun q e => by
          rcases x8 q e with (e | e) | e
          · exact .inl e
          · right; omega
          · right; omega
        clear u tk tb hbl hrf pp0 pp1 pp2 pp3 pp4 g0 g1 g2 g3 g4 HR8 r8 x8 k3 hz8 HB8
        revert HT
        generalize World.setCell (World.setCell _ _ _) _ _ = w9
        intro HT
        obtain ⟨u, hbl, hrf⟩ := HT.out
        have g0 := (cell_of_row _ _ 0 _ _ (0, 0) u).trans rfl
        have g1 := (cell_of_row _ _ 1 _ _ (0, 0) u).trans rfl
        have g2 := (cell_of_row _ _ 2 _ _ (0, 0) u).trans rfl
        have g3 := (cell_of_row _ _ 3 _ _ (0, 0) u).trans rfl
        have g4 := (cell_of_row _ _ 4 _ _ (0, 0) u).trans rfl
        have hds : wm.2.2 = ds.set j (dj.more ⟨i, x⟩) := by rw [HWR2.out]; show setAt ds j _ = _; rw [setAt_some hj, ← HDJ.out]
        have hp2 : wm.2.1 = p2 := by rw [HWR2.out]
        refine bodyPost_ret (v := .tuple #[.agg #[.slice A8 N c8, .int .i64 (p2.steps : Int), .int .i64 lf, .bool p2.ia, .bool p2.gone], .int .i64 0]) (by simp [results, Try.results30, go_sem, g0, g1, g2, g3, g4]) rfl ⟨X8, A8, c8, lf, ?_, ?_, hX8, ?_, hbl⟩
        · rw [hds, hp2, HWM2.out, HLEN.out]; rfl
        · rw [hds]; exact hrf
        · rw [hp2]; exact HLO.out
end Go.Proofs.Ythmebgpleegonaa
