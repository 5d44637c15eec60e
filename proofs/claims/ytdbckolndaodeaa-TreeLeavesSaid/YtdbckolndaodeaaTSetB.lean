/- A set at a node: the item goes into a leaf. -/
import Derived.Test.YtdbckolndaodeaaTSetA
namespace Go.Proofs.Ytdbckolndaodeaa
set_option maxRecDepth 100000
open Go.RowKit

set_option maxHeartbeats 4000000 in
theorem set_leaf {w : World} {n : Nd} (h : NdM w n) (hu : Up n.is) (hl : n.is.length ≤ 1000) (x : Ix) (hf : foundAt n.is x.k = none) (hp : n.ps = []) :
    Calls Try.prog 30 #[.pointer (some ⟨n.p, 0, none⟩), .agg #[.int .i64 x.c.v, .int .i64 x.c.s, .bool x.c.dead, .int .i64 x.k]] w fun e w' => ∃ n', e = .returned (.tuple #[.agg #[.int .i64 0, .int .i64 0, .bool false], .bool false]) ∧ n'.is = insAt n.is (place n.is x.k) x ∧ n'.ps = n.ps ∧ n'.p = n.p ∧ Mv w w' [n] [n'] := by
  have HF := Lib.hid (find_any (h.below (W2.below w x)) hu hl x.k)
  have hfb : foundB n.is x.k = false := by unfold foundB; rw [hf]; rfl
  have hpl := place_le n.is x.k
  obtain ⟨i, hi⟩ : ∃ i, i = place n.is x.k := ⟨_, rfl⟩
  rw [hfb, ← hi] at HF
  rw [← hi] at hpl ⊢
  have HI := Lib.hid (And.intro hpl (And.intro hl hp))
  have H := Lib.hid h
  unfold W2 at HF
  clear h hu hl hf hfb hi hp hpl
  go_enter Try.func30, Try.ntmps30
  go_wp2_with fail
  refine Calls.mono HF.out ?_
  rintro e w1 ⟨rfl, hb1⟩
  have BB := Lib.hid ((Bx.start w x).later hb1)
  clear hb1 HF
  have HLE := Lib.hid (leaf_any (H.out.below BB.out.below))
  have t0 : ((n.ps.length : Int) == 0) = true := by rw [HI.out.2.2]; rfl
  obtain ⟨s, hs⟩ : ∃ s, s = w.heap.size := ⟨_, rfl⟩
  rw [← hs]
  have HS := Lib.hid hs
  clear hs
  go_wp2_with fail
  refine Calls.mono HLE.out ?_
  rintro e w2 ⟨rfl, rfl⟩
  clear HLE
  have hn0 := (H.out.below BB.out.below).c0
  have ln := (H.out.below BB.out.below).lt (.inl rfl)
  have hnf := (H.out.below BB.out.below).fr
  have y0 : w1.cell? ⟨s, 0, none⟩ = some (.int .i64 x.c.v) := by rw [HS.out, cell_of_row _ _ 0 _ _ _ BB.out.box]; rfl
  have y1 : w1.cell? ⟨s, 1, none⟩ = some (.int .i64 x.c.s) := by rw [HS.out, cell_of_row _ _ 1 _ _ _ BB.out.box]; rfl
  have y2 : w1.cell? ⟨s, 2, none⟩ = some (.bool x.c.dead) := by rw [HS.out, cell_of_row _ _ 2 _ _ _ BB.out.box]; rfl
  have y3 : w1.cell? ⟨s, 3, none⟩ = some (.int .i64 x.k) := by rw [HS.out, cell_of_row _ _ 3 _ _ _ BB.out.box]; rfl
  have g0 : ∀ o, (w1.drew.alloc o).cell? ⟨n.p, 0, none⟩ = some n.v := fun o => ((Below.refl _ w1).alloc (Nat.le_refl _) o).cell (p := ⟨n.p, 0, none⟩) ln ▸ hn0
  have HN : Hid (NdM w1 n) := Lib.hid (H.out.below BB.out.below)
  have HC := Lib.hid (insert_newI (w := w1.drew) (HN.out.below (below_drewI (Below.refl _ _))).own rfl i HI.out.1 (by have := HI.out.2.1; omega) x 63)
  go_upto_region 7 with fail
  go_cut [] from 37 to 47 (fun wx => ∃ n' : Nd, n'.is = insAt n.is i x ∧ (n'.ps = n.ps ∧ n'.p = n.p) ∧ NdM wx n' ∧ Ch w1 wx n.B ∧ Fr w1 n n')
  case first =>
    go_region_law (go_simp; go_at_call 44; refine Calls.mono HC.out ?_; rintro e8 w8 ⟨v8, rfl, ho, hg, hq⟩; obtain ⟨A9, c9, rfl⟩ := own_form ho; obtain ⟨k8, k9⟩ := HN.out.after0 (grown_drew hg); have HO := Lib.hid ho; have HG := Lib.hid (grown_drew hg); have HQ := Lib.hid hq; clear ho hg hq)
    all_goals (go_wp2_with fail; go_meet; exact ⟨n.put0 _ (insAt n.is i x), rfl, ⟨rfl, rfl⟩, HN.out.put0 rfl (m := n.is.length + 1) (is := insAt n.is i x) (by unfold insAt; simp; have := HI.out.1; omega) HO.out HG.out (fun q e => HQ.out q e)⟩)
  case rest =>
    clear hn0 ln hnf y0 y1 y2 y3 g0 HC
    obtain ⟨n', q1, ⟨q2, q3⟩, q4, q5, q6⟩ := hcut
    have Q := Lib.hid (And.intro q1 (And.intro q2 (And.intro q3 (And.intro q4 (And.intro q5 q6)))))
    have hr2 : wc.heap[s + 1]? = some (.cells #[.int .i64 0, .int .i64 0, .bool false] 29 (0, 0)) := by
      rw [HS.out]
      exact (q5.block _ (by have := BB.out.h; omega) (fun e => by have := H.out.lt e; omega)).trans BB.out.res
    have r0 : wc.cell? ⟨s + 1, 0, none⟩ = some (.int .i64 0) := by rw [cell_of_row _ _ 0 _ _ _ hr2]; rfl
    have r1 : wc.cell? ⟨s + 1, 1, none⟩ = some (.int .i64 0) := by rw [cell_of_row _ _ 1 _ _ _ hr2]; rfl
    have r2 : wc.cell? ⟨s + 1, 2, none⟩ = some (.bool false) := by rw [cell_of_row _ _ 2 _ _ _ hr2]; rfl
    have rf := frozen_of hr2
    have HR := Lib.hid (res3 hr2 (.int .i64 0) (.int .i64 0) (.bool false))
    clear q1 q2 q3 q4 q5 q6 hr2
    go_wp2_with fail
    refine bodyPost_ret (v := .tuple #[.agg #[.int .i64 0, .int .i64 0, .bool false], .bool false]) (by simp [results, Try.results30, go_sem, HR.out.1, HR.out.2.1, HR.out.2.2]) rfl ⟨n', rfl, Q.out.1, Q.out.2.1, Q.out.2.2.1, ?_⟩
    exact Mv.res BB.out.below ⟨fun m hm => by rw [List.mem_singleton.1 hm]; exact H.out, List.pairwise_singleton _ _⟩ (Mv.one Q.out.2.2.2) (((At.set _ _ _ _).more _ _).more _ _) (by rw [HS.out]; omega) (by rw [HS.out]; have := BB.out.h; omega)
end Go.Proofs.Ytdbckolndaodeaa
