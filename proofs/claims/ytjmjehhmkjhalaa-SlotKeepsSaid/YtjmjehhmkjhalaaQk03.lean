/- SlProg: put together. -/
import Derived.Test.YtjmjehhmkjhalaaQk02
import Derived.Test.YtjmjehhmkjhalaaQb32
/- A manifest as the program's, of its own memory; large. -/
namespace Go.Proofs.Ytjmjehhmkjhalaa
set_option maxRecDepth 100000
open Go.RowKit

theorem resPr {w : World} {g : Nat} {a0 a1 a2 a3 a4 a5 : Value} (h : w.heap[g]? = some (.cells #[a0, a1, a2, a3, a4, a5] 93 (0, 0))) (tmps : Array Value) (h2 : tmps.getD 2 undef = .pointer (some ⟨g, 0, none⟩)) :
    (results Try.f49 tmps).run Try.prog w = .ok (.agg #[a0, a1, a2, a3, a4, a5]) w := by
  have h2' : tmps[2]?.getD undef = .pointer (some ⟨g, 0, none⟩) := by simpa using h2
  have k0 : w.cell? ⟨g, 0, none⟩ = some a0 := (cell_of_row _ _ 0 _ _ (0, 0) h).trans rfl
  have k1 : w.cell? ⟨g, 1, none⟩ = some a1 := (cell_of_row _ _ 1 _ _ (0, 0) h).trans rfl
  have k2 : w.cell? ⟨g, 2, none⟩ = some a2 := (cell_of_row _ _ 2 _ _ (0, 0) h).trans rfl
  have k3 : w.cell? ⟨g, 3, none⟩ = some a3 := (cell_of_row _ _ 3 _ _ (0, 0) h).trans rfl
  have k4 : w.cell? ⟨g, 4, none⟩ = some a4 := (cell_of_row _ _ 4 _ _ (0, 0) h).trans rfl
  have k5 : w.cell? ⟨g, 5, none⟩ = some a5 := (cell_of_row _ _ 5 _ _ (0, 0) h).trans rfl
  simp [results, Try.results49, h2', asAddr, Sem.run_bind, go_sem, k0, k1, k2, k3, k4, k5]
set_option maxHeartbeats 400000 in
theorem large15_any (m : Mf) (A : Option Addr) (c : Nat) (w : World) : Calls Try.prog 48 #[.agg (mfC m A c)] w fun e w' => e = .returned (.bool (decide (20 < m.heads.length))) ∧ Below w.heap.size w w' := by
  have HB := Lib.hid ((Below.refl w.heap.size w).alloc (Nat.le_refl _) (.cells (mfC m A c) 91))
  unfold mfC at HB ⊢
  obtain ⟨n, hn⟩ : ∃ n, n = m.heads.length := ⟨_, rfl⟩
  rw [← hn] at HB ⊢
  have HN := Lib.hid (show decide (20 < (n : Int)) = decide (20 < n) from decide_eq_decide.2 (by omega))
  clear hn
  go_enter Try.func48, Try.ntmps48
  go_wp2_with fail
  go_ret
  first
    | exact ⟨by rw [HN.out]; rfl, HB.out⟩
    | exact ⟨by rw [← HN.out]; rfl, HB.out⟩
    | exact ⟨rfl, HB.out⟩
set_option maxHeartbeats 4000000 in
theorem program15_any (m : Mf) (A : Option Addr) (c : Nat) (w : World) (hz : Zs w A m.heads) (hnil : A = none → c = 0) (hn : m.heads.length ≤ 20) :
    Calls Try.prog 49 #[.agg (mfC m A c)] w fun e w' => ∃ v, e = .returned v ∧ ∃ A' c', v = .agg (mfC m A' c') ∧ w'.ownsRow w.heap.size 3 1 (.slice A' m.heads.length c') m.heads.length (rowV zV m.heads) ∧ Below w.heap.size w w' := by
  have HZ := Lib.hid hz
  have HNI := Lib.hid hnil
  obtain ⟨g, ep, b, a, l, hs⟩ := m
  dsimp only at HZ hn ⊢
  unfold mfC
  dsimp only
  obtain ⟨n, hnn⟩ : ∃ n, n = hs.length := ⟨_, rfl⟩
  rw [← hnn] at hn ⊢
  have HNN := Lib.hid hnn
  clear hz hnil hnn
  go_enter Try.func49, Try.ntmps49
  go_upto_region 2 with (fail)
  obtain ⟨w1, hw1⟩ : ∃ w1, w1 = ((w.alloc (.cells #[.int .i64 g, .int .i64 ep, .int .i64 b, .int .i64 a, .int .i64 l, .slice A n c] 91)).alloc (.cells #[.int .i64 0, .int .i64 0, .int .i64 0, .int .i64 0, .int .i64 0, .slice none 0 0] 93)).alloc (.cells #[.int .i64 g, .int .i64 ep, .int .i64 b, .int .i64 a, .int .i64 l, .slice A n c] 93) := ⟨_, rfl⟩
  have hb1 : Below w.heap.size w w1 := by rw [hw1]; exact (((Below.refl _ w).alloc (Nat.le_refl _) _).alloc (by simp) _).alloc (by simp; omega) _
  have h1a : w1.heap[w.heap.size]? = some (.cells #[.int .i64 g, .int .i64 ep, .int .i64 b, .int .i64 a, .int .i64 l, .slice A n c] 91 (0, 0)) := by
    rw [hw1]; exact (heap_alloc_old _ _ (by simp; omega)).trans ((heap_alloc_old _ _ (by simp)).trans (heap_alloc_new w _))
  have h1b : w1.heap[w.heap.size + 1]? = some (.cells #[.int .i64 0, .int .i64 0, .int .i64 0, .int .i64 0, .int .i64 0, .slice none 0 0] 93 (0, 0)) := by
    rw [hw1]; exact (heap_alloc_old _ _ (by simp)).trans (heap_alloc2_new w _ _)
  have h1c : w1.heap[w.heap.size + 1 + 1]? = some (.cells #[.int .i64 g, .int .i64 ep, .int .i64 b, .int .i64 a, .int .i64 l, .slice A n c] 93 (0, 0)) := by
    rw [hw1]; exact heap_alloc3_new w _ _ _
  have hs1 : w1.heap.size = w.heap.size + 3 := by rw [hw1]; simp
  have H1 := Lib.hid (And.intro hb1 (And.intro h1a (And.intro h1b (And.intro h1c hs1))))
  obtain ⟨mb, hmb⟩ : ∃ mb, mb = w.heap.size := ⟨_, rfl⟩
  obtain ⟨rp, hrp⟩ : ∃ rp, rp = w.heap.size + 1 := ⟨_, rfl⟩
  obtain ⟨pb, hpb⟩ : ∃ pb, pb = w.heap.size + 1 + 1 := ⟨_, rfl⟩
  have HPP := Lib.hid (And.intro hmb (And.intro hrp hpb))
  rw [← hw1, ← hpb, ← hrp, ← hmb]
  rw [← hmb] at h1a
  rw [← hpb] at h1c
  have hb2 : Below w1.heap.size w1 (w1.alloc (.cells #[] 3)) := (Below.refl _ _).alloc (Nat.le_refl _) _
  have k5 := (cell_of_row _ _ 5 _ _ (0, 0) h1a).trans rfl
  have q5 := (cell_of_row _ _ 5 _ _ (0, 0) ((hb2.block mb (Array.getElem?_eq_some_iff.1 h1a).1).trans h1a)).trans rfl
  have HE := Lib.hid (own_empty w1 (w.heap.size + 3) 3 1 3 rfl (by omega))
  have HP1 := Lib.hid h1c
  have HRP1 := Lib.hid (show w1.heap[rp]? = some (.cells #[.int .i64 0, .int .i64 0, .int .i64 0, .int .i64 0, .int .i64 0, .slice none 0 0] 93 (0, 0)) by rw [HPP.out.2.1]; exact h1b)
  have HR := Lib.hid (show Rdv (w1.alloc (.cells #[] 3)) A n 1 (rowV zV hs) from by
    have h := (RowAt.below HZ.out (hb1.trans (hb2.mono hb1.size))).row
    rw [← HNN.out] at h
    exact h)
  clear hw1 hb1 h1a h1b h1c hs1 hmb hrp hpb hb2
  go_upto_region 3 with (at_builtin; (refine wpList_append_rowv elemI rfl (.tmp 5) (.tmp 7) rfl (w.heap.size + 3) _ 0 [] rfl HE.out A n c (rowV zV hs) rfl HR.out (rowZ_one hs) HNI.out (by unfold maxLen; omega) (by omega) (by have := H1.out.2.2.2.2; rw [World.size_alloc]; omega) ?_; intro v3 w3 ho hg _; rw [Nat.zero_add, List.nil_append] at ho; obtain ⟨A3, c3, rfl, _⟩ := rdv_own ho; have key : ∀ q, q < w.heap.size + 3 → w3.heap[q]? = w1.heap[q]? := (fun q hq => (hg.block q (by have := H1.out.2.2.2.2; rw [World.size_alloc]; omega) (fun e => by have := (HE.out.lt q e.symm).1; omega)).trans (heap_alloc_old w1 _ (by have := H1.out.2.2.2.2; omega))); have HO3 := Lib.hid ho; have HK3 := Lib.hid key; have HG3 := Lib.hid hg; have hp3 := (key pb (by have := HPP.out; omega)).trans HP1.out; have fp := frozen_at hp3 5; have kp := (cell_of_row _ _ 5 _ _ (0, 0) hp3).trans rfl; clear ho hg key))
  obtain ⟨w4, hw4⟩ : ∃ w4, w4 = w3.setCell ⟨pb, 5, none⟩ (.slice A3 n c3) := ⟨_, rfl⟩
  have hp4 : w4.heap[pb]? = some (.cells #[.int .i64 g, .int .i64 ep, .int .i64 b, .int .i64 a, .int .i64 l, .slice A3 n c3] 93 (0, 0)) := by
    have h := (HK3.out pb (by have := HPP.out; omega)).trans HP1.out
    rw [hw4]
    simp [World.setCell, Array.getElem?_modify, h]
  have hr4 : w4.heap[rp]? = some (.cells #[.int .i64 0, .int .i64 0, .int .i64 0, .int .i64 0, .int .i64 0, .slice none 0 0] 93 (0, 0)) := by
    rw [hw4]
    exact (Deep.blk_setCell_other _ _ _ _ (show rp ≠ pb by have := HPP.out; omega)).trans ((HK3.out rp (by have := HPP.out; omega)).trans HRP1.out)
  have ho4 : w4.ownsRow (w.heap.size + 3) 3 1 (.slice A3 n c3) n (rowV zV hs) := by
    rw [hw4]
    exact own_keep HO3.out fun r hr => Deep.blk_setCell_other _ _ _ _ (by have h1 := (HO3.out.lt r hr).1; have h2 := HPP.out; intro h3; have h4 : r = pb := h3; omega)
  have hb4 : Below w.heap.size w w4 := by
    rw [hw4]
    refine Below.setCell ?_ (show w.heap.size ≤ pb by have := HPP.out; omega) _
    have h1 := H1.out.1
    have h2 := H1.out.2.2.2.2
    exact ⟨HG3.out.os.trans h1.os, HG3.out.tape.trans h1.tape, HG3.out.output.trans h1.output, by have h3 := HG3.out.size; rw [World.size_alloc] at h3; omega, fun q hq => (HK3.out q (by omega)).trans (h1.block q hq)⟩
  rw [← hw4]
  have z0 := (cell_of_row _ _ 0 _ _ (0, 0) hp4).trans rfl
  have z1 := (cell_of_row _ _ 1 _ _ (0, 0) hp4).trans rfl
  have z2 := (cell_of_row _ _ 2 _ _ (0, 0) hp4).trans rfl
  have z3 := (cell_of_row _ _ 3 _ _ (0, 0) hp4).trans rfl
  have z4 := (cell_of_row _ _ 4 _ _ (0, 0) hp4).trans rfl
  have z5 := (cell_of_row _ _ 5 _ _ (0, 0) hp4).trans rfl
  have k0 := (cell_of_row _ _ 0 _ _ (0, 0) hr4).trans rfl
  have k1 := (cell_of_row _ _ 1 _ _ (0, 0) hr4).trans rfl
  have k2 := (cell_of_row _ _ 2 _ _ (0, 0) hr4).trans rfl
  have k3 := (cell_of_row _ _ 3 _ _ (0, 0) hr4).trans rfl
  have k4 := (cell_of_row _ _ 4 _ _ (0, 0) hr4).trans rfl
  have k6 := (cell_of_row _ _ 5 _ _ (0, 0) hr4).trans rfl
  have f0 := frozen_at hr4 0
  have f1 := frozen_at hr4 1
  have f2 := frozen_at hr4 2
  have f3 := frozen_at hr4 3
  have f4 := frozen_at hr4 4
  have f5 := frozen_at hr4 5
  have HF := Lib.hid (And.intro (set6 _ _ _ _ _ _ _ _ _ (.int .i64 g) (.int .i64 ep) (.int .i64 b) (.int .i64 a) (.int .i64 l) (.slice A3 n c3) hr4) (And.intro (set6_below hb4 (show w.heap.size ≤ rp by have := HPP.out; omega) (.int .i64 g) (.int .i64 ep) (.int .i64 b) (.int .i64 a) (.int .i64 l) (.slice A3 n c3)) (own_lower (B' := w.heap.size) (own_keep ho4 fun r hr => set6_other w4 rp r (.int .i64 g) (.int .i64 ep) (.int .i64 b) (.int .i64 a) (.int .i64 l) (.slice A3 n c3) (by have h1 := (ho4.lt r hr).1; have h2 := HPP.out; omega)) (by omega))))
  clear hw4 hp4 hr4 ho4 hb4 k5 q5 fp kp
  go_wp2_with fail
  refine bodyPost_ret (resPr HF.out.1 _ rfl) rfl ?_
  exact ⟨_, rfl, A3, c3, rfl, HF.out.2.2, HF.out.2.1⟩

end Go.Proofs.Ytjmjehhmkjhalaa
