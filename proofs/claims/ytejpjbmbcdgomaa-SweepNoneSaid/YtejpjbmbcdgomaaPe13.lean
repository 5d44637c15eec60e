/- TDrC, TDrD, TGet: put together. -/
import Derived.Test.YtejpjbmbcdgomaaPe11
import Derived.Test.YtejpjbmbcdgomaaPe12
import Derived.Test.YtejpjbmbcdgomaaPe00
/- A drop of an item that stands between two nodes. -/
namespace Go.Proofs.Ytejpjbmbcdgomaa
set_option maxRecDepth 100000
open Go.RowKit

section
variable {W : World} {k1 k2 : Nat}
def W7 (W : World) (k1 k2 : Nat) (y : Cl) (z : Ix) : World := (((((((W.setCell ⟨k1, 0, none⟩ (.int .i64 y.v)).setCell ⟨k1, 1, none⟩ (.int .i64 y.s)).setCell ⟨k1, 2, none⟩ (.bool y.dead)).setCell ⟨k2, 0, none⟩ (.int .i64 z.c.v)).setCell ⟨k2, 1, none⟩ (.int .i64 z.c.s)).setCell ⟨k2, 2, none⟩ (.bool z.c.dead)).setCell ⟨k2, 3, none⟩ (.int .i64 z.k))
theorem W7.spec (y : Cl) (z : Ix) (h1 : W.heap[k1]? = some (.cells #[.int .i64 0, .int .i64 0, .bool false] 44 (0, 0))) (h2 : W.heap[k2]? = some (.cells #[.int .i64 0, .int .i64 0, .bool false, .int .i64 0] 166 (0, 0))) :
    k1 ≠ k2 ∧ (W7 W k1 k2 y z).heap[k1]? = some (.cells #[.int .i64 y.v, .int .i64 y.s, .bool y.dead] 44 (0, 0)) ∧ (W7 W k1 k2 y z).heap[k2]? = some (.cells #[.int .i64 z.c.v, .int .i64 z.c.s, .bool z.c.dead, .int .i64 z.k] 166 (0, 0)) := by
  have hne : k1 ≠ k2 := fun e => by
    rw [e, h2] at h1
    injection h1 with h1
    injection h1 with _ e2
    exact absurd e2 (by decide)
  have g1 := heap_set _ k1 2 (.bool y.dead) (heap_set _ k1 1 (.int .i64 y.s) (heap_set W k1 0 (.int .i64 y.v) h1))
  have g2 := ((((At.set W k1 0 (.int .i64 y.v)).more 1 (.int .i64 y.s)).more 2 (.bool y.dead)).block k2 (Ne.symm hne)).trans h2
  refine ⟨hne, ?_, ?_⟩
  · unfold W7
    exact ((((At.set _ k2 0 (.int .i64 z.c.v)).more 1 (.int .i64 z.c.s)).more 2 (.bool z.c.dead)).more 3 (.int .i64 z.k)).block k1 hne |>.trans g1
  · unfold W7
    exact heap_set _ k2 3 (.int .i64 z.k) (heap_set _ k2 2 (.bool z.c.dead) (heap_set _ k2 1 (.int .i64 z.c.s) (heap_set _ k2 0 (.int .i64 z.c.v) g2)))
theorem W7.below {B : Nat} {W0 : World} (h : Below B W0 W) (h1 : B ≤ k1) (h2 : B ≤ k2) (y : Cl) (z : Ix) : Below B W0 (W7 W k1 k2 y z) := by
  unfold W7
  exact ((((((h.setCell (p := ⟨k1, 0, none⟩) h1 _).setCell (p := ⟨k1, 1, none⟩) h1 _).setCell (p := ⟨k1, 2, none⟩) h1 _).setCell (p := ⟨k2, 0, none⟩) h2 _).setCell (p := ⟨k2, 1, none⟩) h2 _).setCell (p := ⟨k2, 2, none⟩) h2 _).setCell (p := ⟨k2, 3, none⟩) h2 _
end
/-- The state between: besides, the item that comes in its place. -/
structure Me (w0 wx : World) (l l' : List Nd) (k r k2 : Nat) (y : Cl) (z : Ix) : Prop where
  md : Md w0 wx l l' k r y
  nx : wx.heap[k2]? = some (.cells #[.int .i64 z.c.v, .int .i64 z.c.s, .bool z.c.dead, .int .i64 z.k] 166 (0, 0))
  a3 : ¬ BL l' k2
theorem Me.step {w w1 w2 : World} {l l1 l2 : List Nd} {k r k2 : Nat} {y : Cl} {z : Ix} (M : Me w w1 l l1 k r k2 y z) (T : Mv w1 w2 l1 l2) : Me w w2 l l2 k r k2 y z := by
  have h1 : k2 < w1.heap.size := (Array.getElem?_eq_some_iff.1 M.nx).1
  exact ⟨M.md.step T, (T.ch.block _ h1 M.a3).trans M.nx, fun e => (T.fr _ e).elim M.a3 (fun e => by omega)⟩
theorem Me.mk2 {w w1 w2 : World} {l : List Nd} {k k2 : Nat} {y : Cl} {z : Ix} (hA : All w l) (B : Rx w w1) (hb : Below w1.heap.size w1 w2) (hk : w2.heap[k]? = some (.cells #[.int .i64 y.v, .int .i64 y.s, .bool y.dead] 44 (0, 0))) (hk2 : w2.heap[k2]? = some (.cells #[.int .i64 z.c.v, .int .i64 z.c.s, .bool z.c.dead, .int .i64 z.k] 166 (0, 0))) (h1 : w1.heap.size ≤ k) (h2 : w1.heap.size ≤ k2) : Me w w2 l l k w.heap.size k2 y z := by
  have B2 := B.later hb
  have hs := B.h
  have key : ∀ q, w.heap.size ≤ q → ¬ BL l q := fun q hq e => by have := hA.lt e; omega
  exact ⟨⟨Mv.below hA B2.below, hk, B2.res, key _ (by omega), key _ (Nat.le_refl _)⟩, hk2, key _ (by omega)⟩
theorem NodeIn.put {w : World} {d : Nat} {n n' : Nd} {cs : List (MT d)} (h : NodeIn w n cs) {w' : World} (hA : All w' (n' :: cs.flatMap (nodes d))) (hp : n'.ps = n.ps) (hl : n'.is.length = n.is.length) : NodeIn w' n' cs := ⟨hA, hp.trans h.ps, h.lk, by rw [h.len, hl], by rw [hl]; exact h.few, h.ok⟩
set_option maxHeartbeats 8000000 in
theorem drop_mid {w : World} {d : Nat} {n : Nd} {a b : List (MT d)} {c : MT d} (x0 : Ix) (h : NodeIn w n (a ++ c :: b)) (k : Int) (hu : Up n.is) {y : Ix} (hf : foundAt n.is k = some y) {i : Nat} (hi : i = place n.is k) (ha : a.length = i) (hc : ∀ w1, All w1 (nodes d c) → Tm w1 d c) {z : Ix} (hz : z = lastT x0 d (trOf d c)) {t' : Tr Cl d} {yy : Cl} {bo : Bool}
    (IH : ∀ w1, All w1 (nodes d c) → Calls Try.prog 107 #[.pointer (some ⟨(root d c).p, 0, none⟩), .int .i64 z.k] w1 (KidPost w1 c t' yy bo))
    (hok : Ok d t') (h6 : (its d t').length ≤ 6) :
    Calls Try.prog 107 #[.pointer (some ⟨n.p, 0, none⟩), .int .i64 k] w
      (NodeOut w n (a ++ c :: b) (fillT x0 d (n.is.set i z) (a.map (trOf d) ++ t' :: b.map (trOf d)) i) y.c true) := by
  have HF := Lib.hid (find_any (h.top.below (Rx.start w).below) hu (by have := h.few; omega) k)
  have hfb : foundB n.is k = true := by unfold foundB; rw [hf]; rfl
  have hy : n.is[i]? = some y := by
    unfold foundAt at hf
    rw [← hi] at hf
    cases hq : n.is[i]? with
    | none => rw [hq] at hf; cases hf
    | some z =>
      rw [hq] at hf
      dsimp only at hf
      split at hf
      · exact hf
      · cases hf
  rw [hfb, ← hi] at HF
  have hlen := h.len
  obtain ⟨res, hres⟩ : ∃ res, res = fillT x0 d (n.is.set i z) (a.map (trOf d) ++ t' :: b.map (trOf d)) i := ⟨_, rfl⟩
  rw [← hres]
  have HRES := Lib.hid hres
  clear hres
  have HA := Lib.hid ha
  have hpz : 0 < n.ps.length := by rw [h.ps, List.length_map, hlen]; omega
  have HPZ := Lib.hid (And.intro hpz (List.getElem?_eq_some_iff.1 hy).1)
  have HY := Lib.hid hy
  have HI := Lib.hid IH
  have HOK := Lib.hid (And.intro hok h6)
  have HC := Lib.hid (And.intro hc hz)
  have H := Lib.hid h
  clear h hu hf hfb hi hlen ha IH hok h6 hpz hy hc hz
  go_enter Try.func107, Try.ntmps107
  go_wp2_with fail
  refine Calls.mono HF.out ?_
  rintro e w1 ⟨rfl, hb1⟩
  have BB := Lib.hid ((Rx.start w).later hb1)
  clear hb1 HF
  have HLE := Lib.hid (leaf_any (H.out.top.below BB.out.below))
  have t0 : ((n.ps.length : Int) == 0) = false := by rw [beq_eq_false_iff_ne]; have := HPZ.out.1; omega
  obtain ⟨s, hs⟩ : ∃ s, s = w.heap.size := ⟨_, rfl⟩
  rw [← hs]
  have HS := Lib.hid hs
  clear hs
  go_wp2_with fail
  refine Calls.mono HLE.out ?_
  rintro e w2 ⟨rfl, rfl⟩
  clear HLE
  have HN := Lib.hid (H.out.below BB.out.below)
  obtain ⟨gu, cu, A, cc, e1, l1, k1, k2, _⟩ := HN.out.cell (get_mid a c b i HA.out)
  obtain ⟨gn, cn, env, f3, hnl, hn0, v0, v1, v2, v3, _⟩ := HN.out.top.it HY.out
  have HKA := Lib.hid (And.intro k1 (And.intro k2 (And.intro hn0 (And.intro v0 (And.intro v1 v2)))))
  have HKE : Hid (∀ W2, Below w1.heap.size w1 W2 → W2.cell? ⟨n.p, 1, none⟩ = some (.slice (some ⟨gu, 0, none⟩) n.ps.length cu) ∧ W2.cell? ⟨gu, i, none⟩ = some (.pointer (some ⟨(root d c).p, 0, none⟩)) ∧ W2.cell? ⟨n.p, 0, none⟩ = some (.slice (some ⟨gn, 0, none⟩) n.is.length cn) ∧ W2.cell? ⟨gn, i * 4, none⟩ = some (.int .i64 y.c.v) ∧ W2.cell? ⟨gn, i * 4 + 1, none⟩ = some (.int .i64 y.c.s) ∧ W2.cell? ⟨gn, i * 4 + 2, none⟩ = some (.bool y.c.dead)) := Lib.hid fun W2 hb => by
    obtain ⟨q1, q2, q3, q4, q5, q6⟩ := HKA.out
    exact ⟨(hb.cell (World.block_lt_of_cell? _ _ q1)).trans q1, (hb.cell (World.block_lt_of_cell? _ _ q2)).trans q2, (hb.cell (World.block_lt_of_cell? _ _ q3)).trans q3, (hb.cell (World.block_lt_of_cell? _ _ q4)).trans q4, (hb.cell (World.block_lt_of_cell? _ _ q5)).trans q5, (hb.cell (World.block_lt_of_cell? _ _ q6)).trans q6⟩
  clear e1 env v0 v1 v2 v3 k1 k2 hn0 hnl HKA
  go_upto_region 12 with fail
  go_cut [11, 12] from 63 to 78 (fun r q wx => ∃ k k2, r = .pointer (some ⟨k, 0, none⟩) ∧ q = .pointer (some ⟨k2, 0, none⟩) ∧ Me w wx (n :: (a ++ c :: b).flatMap (nodes d)) (n :: (a ++ c :: b).flatMap (nodes d)) k s k2 y.c z)
  case first =>
    refine wp_region_noPanic ?_
    refine wp_region_abs 18 100 [
      .is (.pointer (some ⟨n.p, 0, none⟩)), .is (.pointer (some ⟨n.p, 0, none⟩)), .is (.pointer (some ⟨n.p, 0, none⟩)), .is (.slice (some ⟨gn, 0, none⟩) n.is.length cn), .is (.int .i64 (i : Int)), .is (.pointer (some ⟨gn, i * 4, none⟩)), .is (.pointer (some ⟨gn, i * 4, none⟩)), .is (.agg #[.int .i64 y.c.v, .int .i64 y.c.s, .bool y.c.dead]),
      .is (.pointer (some ⟨n.p, 0, none⟩)), .is (.pointer (some ⟨n.p, 0, none⟩)), .is (.pointer (some ⟨n.p, 1, none⟩)), .is (.slice (some ⟨gu, 0, none⟩) n.ps.length cu), .is (.int .i64 (i : Int)), .is (.pointer (some ⟨gu, i, none⟩)), .is (.pointer (some ⟨(root d c).p, 0, none⟩)), .is (.agg #[.int .i64 z.c.v, .int .i64 z.c.s, .bool z.c.dead, .int .i64 z.k]),
      .tells (fun _ v wb wa => v = .pointer (some ⟨wb.heap.size, 0, none⟩) ∧ wa = wb.alloc (.cells #[.int .i64 0, .int .i64 0, .bool false] 44)),
      .tells (fun _ v wb wa => v = .pointer (some ⟨wb.heap.size, 0, none⟩) ∧ wa = wb.alloc (.cells #[.int .i64 0, .int .i64 0, .bool false, .int .i64 0] 166))]
      [63, 64, 65, 66, 67, 68, 69, 70, 71, 72, 73, 74, 75, 76, 77, 78, 11, 12]
      [[], [0], [1], [2], [], [3, 4], [5], [6], [], [8], [9], [10], [], [11, 12], [13], [14], [], []] (by kernel_rfl) (by rfl) rfl rfl (by kernel_rfl) (fun _ _ _ _ h => h.elim) ?_ ?_
    · refine ⟨?_, ?_, ?_, ?_, ?_, ?_, ?_, ?_, ?_, ?_, ?_, ?_, ?_, ?_, ?_, ?_, ?_, ?_, trivial⟩
      · intro W2 hw K hK; go_simp; exact hK _ _ rfl (Below.refl _ _)
      · intro W2 hw K hK; go_simp; exact hK _ _ rfl (Below.refl _ _)
      · intro W2 hw K hK; go_simp; exact hK _ _ rfl (Below.refl _ _)
      · intro W2 hw K hK
        have c0 := (HKE.out W2 ((Below.refl _ w1).drew.trans hw)).2.2.1
        go_simp; exact hK _ _ rfl (Below.refl _ _)
      · intro W2 hw K hK; go_simp; exact hK _ _ rfl (Below.refl _ _)
      · intro W2 hw K hK; go_simp; exact hK _ _ rfl (Below.refl _ _)
      · intro W2 hw K hK; go_simp; exact hK _ _ rfl (Below.refl _ _)
      · intro W2 hw K hK
        obtain ⟨_, _, _, c0, c1, c2⟩ := HKE.out W2 ((Below.refl _ w1).drew.trans hw)
        go_simp; exact hK _ _ rfl (Below.refl _ _)
      · intro W2 hw K hK; go_simp; exact hK _ _ rfl (Below.refl _ _)
      · intro W2 hw K hK; go_simp; exact hK _ _ rfl (Below.refl _ _)
      · intro W2 hw K hK; go_simp; exact hK _ _ rfl (Below.refl _ _)
      · intro W2 hw K hK
        have c0 := (HKE.out W2 ((Below.refl _ w1).drew.trans hw)).1
        go_simp; exact hK _ _ rfl (Below.refl _ _)
      · intro W2 hw K hK; go_simp; exact hK _ _ rfl (Below.refl _ _)
      · intro W2 hw K hK; go_simp; exact hK _ _ rfl (Below.refl _ _)
      · intro W2 hw K hK
        have c0 := (HKE.out W2 ((Below.refl _ w1).drew.trans hw)).2.1
        go_simp; exact hK _ _ rfl (Below.refl _ _)
      · intro W2 hw K hK
        go_simp
        refine Calls.mono (last_any (HC.out.1 W2 ((kid_all HN.out.all).below ((Below.refl _ w1).drew.trans hw))) x0 HC.out.2) ?_
        rintro e9 w9 ⟨rfl, h9⟩
        exact hK _ _ rfl h9
      · intro W2 hw K hK; go_simp; exact hK _ _ ⟨rfl, rfl⟩ ((Below.refl _ _).alloc (Nat.le_refl _) _)
      · intro W2 hw K hK; go_simp; exact hK _ _ ⟨rfl, rfl⟩ ((Below.refl _ _).alloc (Nat.le_refl _) _)
    · intro W2 hw2
      simp only [Behind]
      rintro v6 wb wa ⟨rfl, rfl⟩ hx1 hx2 _ v7 wb7 wa7 ⟨rfl, rfl⟩ hy1 hy2 _
      have hb0 : Below w1.heap.size w1 W2 := (Below.refl _ w1).drew.trans hw2
      have hka : w1.heap.size ≤ wb.heap.size := ((Below.refl _ w1).drew.trans hx2).size
      have hkb : w1.heap.size ≤ wb7.heap.size := ((Below.refl _ w1).drew.trans hy2).size
      have h1 : W2.heap[wb.heap.size]? = some (.cells #[.int .i64 0, .int .i64 0, .bool false] 44 (0, 0)) := (hx1.block _ (by simp)).trans (heap_alloc_new wb _)
      have h2 : W2.heap[wb7.heap.size]? = some (.cells #[.int .i64 0, .int .i64 0, .bool false, .int .i64 0] 166 (0, 0)) := (hy1.block _ (by simp)).trans (heap_alloc_new wb7 _)
      obtain ⟨kk, hkk⟩ : ∃ kk, kk = wb.heap.size := ⟨_, rfl⟩
      obtain ⟨k2, hk2⟩ : ∃ k2, k2 = wb7.heap.size := ⟨_, rfl⟩
      rw [← hkk] at h1 hka ⊢
      rw [← hk2] at h2 hkb ⊢
      obtain ⟨hne, s1, s2⟩ := W7.spec y.c z h1 h2
      have HE := Lib.hid (Me.mk2 H.out.all BB.out (W7.below hb0 hka hkb y.c z) s1 s2 hka hkb)
      have c0 : W2.cell? ⟨kk, 0, none⟩ = some (.int .i64 0) := (cell_of_row _ _ 0 _ _ _ h1).trans rfl
      have c1 : W2.cell? ⟨kk, 1, none⟩ = some (.int .i64 0) := (cell_of_row _ _ 1 _ _ _ h1).trans rfl
      have c2 : W2.cell? ⟨kk, 2, none⟩ = some (.bool false) := (cell_of_row _ _ 2 _ _ _ h1).trans rfl
      have cf := frozen_of h1
      have d0 : W2.cell? ⟨k2, 0, none⟩ = some (.int .i64 0) := (cell_of_row _ _ 0 _ _ _ h2).trans rfl
      have d1 : W2.cell? ⟨k2, 1, none⟩ = some (.int .i64 0) := (cell_of_row _ _ 1 _ _ _ h2).trans rfl
      have d2 : W2.cell? ⟨k2, 2, none⟩ = some (.bool false) := (cell_of_row _ _ 2 _ _ _ h2).trans rfl
      have d3 : W2.cell? ⟨k2, 3, none⟩ = some (.int .i64 0) := (cell_of_row _ _ 3 _ _ _ h2).trans rfl
      have df := frozen_of h2
      have hne2 : k2 ≠ kk := Ne.symm hne
      unfold W7 at HE
      clear hw2 hx1 hx2 hy1 hy2 hkk hk2 hb0 hka hkb h1 h2 s1 s2 l1 f3
      simp only [List.drop, Act.put, List.setIfInBounds_toArray, List.set_cons_zero, List.set_cons_succ]
      go_wp2_with fail
      refine NoPanic.normal ?_
      refine ‹∀ (a' : Act) (w' : World), Met _ a' w' → _› _ _ ?_
      go_meet
      exact ⟨kk, k2, rfl, rfl, by rw [HS.out]; exact HE.out⟩
  case rest =>
    clear l1 f3 t0 HKE
    obtain ⟨kk, k2, rfl, rfl, hE⟩ := hcut
    rename World => wq
    have HE := Lib.hid hE
    have HN1 := Lib.hid (H.out.put hE.md.mv.all rfl rfl)
    have y0 : wq.cell? ⟨k2, 0, none⟩ = some (.int .i64 z.c.v) := by rw [cell_of_row _ _ 0 _ _ _ hE.nx]; rfl
    have y1 : wq.cell? ⟨k2, 1, none⟩ = some (.int .i64 z.c.s) := by rw [cell_of_row _ _ 1 _ _ _ hE.nx]; rfl
    have y2 : wq.cell? ⟨k2, 2, none⟩ = some (.bool z.c.dead) := by rw [cell_of_row _ _ 2 _ _ _ hE.nx]; rfl
    have y3 : wq.cell? ⟨k2, 3, none⟩ = some (.int .i64 z.k) := by rw [cell_of_row _ _ 3 _ _ _ hE.nx]; rfl
    obtain ⟨gn, cn, env, f3, hnl, hn0, _, _, _, _, hnz⟩ := HN1.out.top.it HY.out
    have HV := Lib.hid env
    clear env hE
    go_upto_region 13 with fail
    go_cut [] from 79 to 85 (fun wx => ∃ n' : Nd, n'.is = n.is.set i z ∧ (n'.ps = n.ps ∧ n'.p = n.p) ∧ Me w wx (n :: (a ++ c :: b).flatMap (nodes d)) (n' :: (a ++ c :: b).flatMap (nodes d)) kk s k2 y.c z)
    case first =>
      go_region_law (fail)
      all_goals (go_wp2_with fail; go_meet; (first | exact ⟨n.put0 n.v (n.is.set i z), rfl, ⟨rfl, rfl⟩, HE.out.step (Mv.frame (l := [n]) HN1.out.all (Mv.one (NdM.set (HN1.out.top.below (below_drewI (Below.refl _ _))) HPZ.out.2 HV.out z rfl)))⟩ | exact ⟨n.put0 n.v (n.is.set i z), rfl, ⟨rfl, rfl⟩, HE.out.step (Mv.frame (l := [n]) HN1.out.all (Mv.one (set_drew (NdM.set HN1.out.top HPZ.out.2 HV.out z rfl))))⟩))
    case rest =>
      clear y0 y1 y2 y3 hn0 hnz f3 hnl HV
      obtain ⟨n', q1, ⟨q2, q3⟩, hE⟩ := hcut
      rename World => wp
      have HE2 := Lib.hid hE
      have hN2 := H.out.put hE.md.mv.all q2 (by rw [q1, List.length_set])
      have y3 : wp.cell? ⟨k2, 3, none⟩ = some (.int .i64 z.k) := by rw [cell_of_row _ _ 3 _ _ _ hE.nx]; rfl
      obtain ⟨gu, cu, A, cc, e1, l1, u1, u2, _⟩ := hN2.cell (get_mid a c b i HA.out)
      rw [q3] at u1
      have HN2 := Lib.hid hN2
      have HQ := Lib.hid (And.intro q1 (And.intro q2 q3))
      have HCA := Lib.hid (kid_all (hN2.all.below (below_drewI (Below.refl _ _))))
      clear q1 q2 q3 hE hN2 e1
      go_upto_region 14 with fail
      go_cut [] from 86 to 95 (fun wx => ∃ c' : MT d, (pOf d c' = pOf d c ∧ trOf d c' = t' ∧ Lk d c') ∧ Me w wx (n :: (a ++ c :: b).flatMap (nodes d)) (n' :: (a ++ c' :: b).flatMap (nodes d)) kk s k2 y.c z)
      case first =>
        go_region_law (go_simp; go_at_call 107; refine Calls.mono (HI.out _ HCA.out) ?_; rintro e8 w8 ⟨c', rfl, p1, p2, p3, M8⟩; have HP := Lib.hid (And.intro p1 (And.intro p2 p3)); have HM := Lib.hid (HE2.out.step (Mv.trans (Mv.below HN2.out.all (below_drewI (Below.refl _ _))) (kid_mv (HN2.out.all.below (below_drewI (Below.refl _ _))) M8))); clear p1 p2 p3 M8)
        all_goals (go_wp2_with fail; go_meet; exact ⟨c', HP.out, HM.out⟩)
      case rest =>
        clear y3 u1 u2 l1
        obtain ⟨c', ⟨p1, p2, p3⟩, hM⟩ := hcut
        have hroot : (root d c').is.length = (its d t').length := by rw [← p2, its_tr]
        have hn' := HN2.out.kid p1 p3 ⟨by rw [p2]; exact HOK.out.1, by rw [hroot]; exact HOK.out.2⟩ hM.md.mv.all
        have HFL := Lib.hid (fill_node x0 hn' (by rw [HQ.out.1, List.length_set]; have := HPZ.out.2; omega) i HA.out)
        rw [HQ.out.2.2] at HFL
        have HM := Lib.hid hM
        have HP := Lib.hid (And.intro p1 (And.intro p2 p3))
        clear p1 p2 p3 hroot hn' hM
        go_wp2_with fail
        refine Calls.mono HFL.out ?_
        rintro e9 w9 ⟨n2, cs', rfl, q1, q2, q3, q4, q5, T⟩
        have hM := (HM.out.step T).md
        have Q := Lib.hid (And.intro q1 (And.intro q2 (And.intro q3 (And.intro q4 (And.intro q5 hM)))))
        have hk2 := hM.was
        have hr2 := hM.res
        clear q1 q2 q3 q4 q5 T hM
        have z0 : w9.cell? ⟨kk, 0, none⟩ = some (.int .i64 y.c.v) := by rw [cell_of_row _ _ 0 _ _ _ hk2]; rfl
        have z1 : w9.cell? ⟨kk, 1, none⟩ = some (.int .i64 y.c.s) := by rw [cell_of_row _ _ 1 _ _ _ hk2]; rfl
        have z2 : w9.cell? ⟨kk, 2, none⟩ = some (.bool y.c.dead) := by rw [cell_of_row _ _ 2 _ _ _ hk2]; rfl
        have r0 : w9.cell? ⟨s, 0, none⟩ = some (.int .i64 0) := by rw [cell_of_row _ _ 0 _ _ _ hr2]; rfl
        have r1 : w9.cell? ⟨s, 1, none⟩ = some (.int .i64 0) := by rw [cell_of_row _ _ 1 _ _ _ hr2]; rfl
        have r2 : w9.cell? ⟨s, 2, none⟩ = some (.bool false) := by rw [cell_of_row _ _ 2 _ _ _ hr2]; rfl
        have rf := frozen_of hr2
        have HR := Lib.hid (res3 hr2 (.int .i64 y.c.v) (.int .i64 y.c.s) (.bool y.c.dead))
        clear hk2 hr2
        go_wp2_with fail
        have hmp : (a ++ c' :: b).map (trOf d) = a.map (trOf d) ++ t' :: b.map (trOf d) := by simp [HP.out.2.1]
        refine bodyPost_ret (v := .tuple #[.agg #[.int .i64 y.c.v, .int .i64 y.c.s, .bool y.c.dead], .bool true]) (by simp [results, Try.results107, go_sem, HR.out.1, HR.out.2.1, HR.out.2.2]) rfl ⟨n2, cs', rfl, Q.out.1.trans HQ.out.2.2, ?_, ?_, Q.out.2.2.2.1, Q.out.2.2.2.2.1, ?_⟩
        · rw [Q.out.2.1, HRES.out, hmp, HQ.out.1]
        · rw [Q.out.2.2.1, HRES.out, hmp, HQ.out.1]
        · exact Mv.res2 Q.out.2.2.2.2.2.mv (((At.set _ _ _ _).more _ _).more _ _) (by rw [HS.out]; exact Nat.le_refl _) Q.out.2.2.2.2.2.a2
end Go.Proofs.Ytejpjbmbcdgomaa

/- A drop in a tree. -/
namespace Go.Proofs.Ytejpjbmbcdgomaa
set_option maxRecDepth 100000
open Go.RowKit

theorem drop_any (x0 : Ix) : ∀ (d : Nat) (m : MT d) (w : World) (k : Int), Lk d m → All w (nodes d m) → Ok d (trOf d m) → Up (flat d (trOf d m)) → (its d (trOf d m)).length ≤ 5 → (d = 0 ∨ 0 < (its d (trOf d m)).length) →
    Calls Try.prog 107 #[.pointer (some ⟨(root d m).p, 0, none⟩), .int .i64 k] w (KidPost w m (dropT x0 d (trOf d m) k).1 (cv (dropT x0 d (trOf d m) k).2) (dropT x0 d (trOf d m) k).2.isSome)
  | 0, m, w, k, hl, hA, _, hu, h5, _ => by
    have hn := hA.m m (List.mem_singleton.2 rfl)
    have hu : Up (Nd.is m) := hu
    have h5 : (Nd.is m).length ≤ 5 := h5
    cases hf : foundAt (Nd.is m) k with
    | some y =>
      have e : dropT x0 0 (trOf 0 m) k = ((List.eraseIdx (α := Ix) (Nd.is m) (place (Nd.is m) k) : List Ix), some y.c) := by
        show dropT x0 0 (Nd.is m) k = _
        simp only [dropT, hf]
        rfl
      rw [e]
      refine Calls.mono (drop_leaf hn hu (by omega) k hf hl) ?_
      rintro e9 w' ⟨n', rfl, q1, q2, q3, q4⟩
      exact ⟨n', rfl, q3, q1, q2.trans hl, q4⟩
    | none =>
      have e : dropT x0 0 (trOf 0 m) k = ((Nd.is m : List Ix), none) := by
        show dropT x0 0 (Nd.is m) k = _
        simp only [dropT, hf]
        rfl
      rw [e]
      refine Calls.mono (drop_none hn hu (by omega) k hf hl) ?_
      rintro e9 w' ⟨rfl, hb⟩
      exact ⟨m, rfl, rfl, rfl, hl, Mv.below hA hb⟩
  | d + 1, m, w, k, hl, hA, hok, hu, h5, hne => by
    have hN := node_in hl hA hok h5
    have hui := up_is hok hu
    have h5' : m.1.is.length ≤ 5 := h5
    have hne' : 0 < m.1.is.length := by
      rcases hne with e | e
      · cases e
      · exact e
    obtain ⟨a, c, b, hcs, ha⟩ := kid_cut hok (place m.1.is k) (place_le _ _)
    have hmem : trOf d c ∈ (trOf (d + 1) m).2 := List.mem_map.2 ⟨c, by rw [hcs]; simp, rfl⟩
    obtain ⟨o1, o2, o3⟩ := hok.2 _ hmem
    have huc := up_kid hok hu hmem
    have hlc : Lk d c := hl.2 c (by rw [hcs]; simp)
    have hg : (m.2.map (trOf d))[place m.1.is k]? = some (trOf d c) := by rw [hcs, List.map_append, List.map_cons]; exact get_mid _ _ _ _ (by simpa using ha)
    have hset : ∀ t', (m.2.map (trOf d)).set (place m.1.is k) t' = a.map (trOf d) ++ t' :: b.map (trOf d) := fun t' => by
      rw [hcs, List.map_append, List.map_cons]
      exact set_mid _ _ _ _ _ (by simpa using ha)
    rw [hcs] at hN
    cases hf : foundAt m.1.is k with
    | some y =>
      obtain ⟨z, hz⟩ : ∃ z, z = lastT x0 d (trOf d c) := ⟨_, rfl⟩
      obtain ⟨s1, s2, s3, s4, s5⟩ := drop_spec x0 d (trOf d c) z.k o1 huc o3 (.inr (by omega))
      have e : dropT x0 (d + 1) (trOf (d + 1) m) k = ((fillT x0 d (m.1.is.set (place m.1.is k) z) (a.map (trOf d) ++ (dropT x0 d (trOf d c) z.k).1 :: b.map (trOf d)) (place m.1.is k) : List Ix × List (Tr Cl d)), some y.c) := by
        show dropT x0 (d + 1) ((m.1.is, m.2.map (trOf d)) : Tr Cl (d + 1)) k = _
        simp only [dropT, hf, hg]
        rw [← hz, hset]
        rfl
      rw [e]
      refine Calls.mono (drop_mid x0 hN k hui hf rfl ha (fun w1 h1 => ⟨hlc, h1, o1, by rw [its_tr] at o2; omega, by rw [its_tr] at o3; omega⟩) hz (t' := (dropT x0 d (trOf d c) z.k).1) (yy := cv (dropT x0 d (trOf d c) z.k).2) (bo := (dropT x0 d (trOf d c) z.k).2.isSome) (fun w1 h1 => drop_any x0 d c w1 z.k hlc h1 o1 huc o3 (.inr (by omega))) s3 (by omega)) ?_
      rintro e9 w' ⟨n', cs', rfl, q1, q2, q3, q4, q5, q6⟩
      refine ⟨(n', cs'), rfl, q1, ?_, ⟨q4, q5⟩, ?_⟩
      · show (n'.is, cs'.map (trOf d)) = _
        rw [q2, q3]
      · show Mv w w' (m.1 :: m.2.flatMap (nodes d)) _
        rw [hcs]
        exact q6
    | none =>
      obtain ⟨s1, s2, s3, s4, s5⟩ := drop_spec x0 d (trOf d c) k o1 huc o3 (.inr (by omega))
      have e : dropT x0 (d + 1) (trOf (d + 1) m) k = ((fillT x0 d m.1.is (a.map (trOf d) ++ (dropT x0 d (trOf d c) k).1 :: b.map (trOf d)) (place m.1.is k) : List Ix × List (Tr Cl d)), (dropT x0 d (trOf d c) k).2) := by
        show dropT x0 (d + 1) ((m.1.is, m.2.map (trOf d)) : Tr Cl (d + 1)) k = _
        simp only [dropT, hf, hg]
        rw [hset]
        rfl
      rw [e]
      refine Calls.mono (drop_kid x0 hN k hui hf rfl ha hne' (t' := (dropT x0 d (trOf d c) k).1) (y := cv (dropT x0 d (trOf d c) k).2) (bo := (dropT x0 d (trOf d c) k).2.isSome) (fun w1 h1 => drop_any x0 d c w1 k hlc h1 o1 huc o3 (.inr (by omega))) s3 (by omega)) ?_
      rintro e9 w' ⟨n', cs', rfl, q1, q2, q3, q4, q5, q6⟩
      refine ⟨(n', cs'), rfl, q1, ?_, ⟨q4, q5⟩, ?_⟩
      · show (n'.is, cs'.map (trOf d)) = _
        rw [q2, q3]
      · show Mv w w' (m.1 :: m.2.flatMap (nodes d)) _
        rw [hcs]
        exact q6
end Go.Proofs.Ytejpjbmbcdgomaa

/- A tree as it lies; what it answers. -/
namespace Go.Proofs.Ytejpjbmbcdgomaa
set_option maxRecDepth 100000
open Go.RowKit

/-- A node's tree as the walks want it: rising, good. -/
structure Tu (w : World) (d : Nat) (m : MT d) : Prop where
  lk : Lk d m
  all : All w (nodes d m)
  ok : Ok d (trOf d m)
  up : Up (flat d (trOf d m))
  few : (root d m).is.length ≤ 5
section
variable {w w1 : World} {d : Nat}
theorem Tu.below {m : MT d} (h : Tu w d m) (hb : Below w.heap.size w w1) : Tu w1 d m := ⟨h.lk, h.all.below hb, h.ok, h.up, h.few⟩
theorem Tu.top {m : MT d} (h : Tu w d m) : NdM w (root d m) := h.all.m _ (by rw [nodes_eq]; exact List.mem_cons_self ..)
theorem Tu.upis : ∀ {d : Nat} {m : MT d}, Tu w d m → Up (root d m).is
  | 0, _, h => h.up
  | _ + 1, _, h => up_is h.ok h.up
theorem Tu.kid {m : MT (d + 1)} (h : Tu w (d + 1) m) {c : MT d} (hc : c ∈ m.2) : Tu w d c := by
  have hm : trOf d c ∈ (trOf (d + 1) m).2 := List.mem_map.2 ⟨c, hc, rfl⟩
  obtain ⟨h1, h2, h3⟩ := h.ok.2 (trOf d c) hm
  rw [its_tr] at h3
  obtain ⟨a, b, e⟩ := List.append_of_mem hc
  have hA : All w (m.1 :: m.2.flatMap (nodes d)) := h.all
  rw [e] at hA
  exact ⟨h.lk.2 c hc, kid_all hA, h1, up_kid h.ok h.up hm, h3⟩
theorem Tu.len {m : MT (d + 1)} (h : Tu w (d + 1) m) : m.2.length = m.1.is.length + 1 := by
  have h2 : (m.2.map (trOf d)).length = m.1.is.length + 1 := h.ok.1
  rwa [List.length_map] at h2
theorem Tu.pslen {m : MT (d + 1)} (h : Tu w (d + 1) m) : m.1.ps.length = m.1.is.length + 1 := by rw [h.lk.1, List.length_map, h.len]
theorem Tu.node {m : MT (d + 1)} (h : Tu w (d + 1) m) : NodeIn w m.1 m.2 := node_in h.lk h.all h.ok h.few
theorem Tu.leafb : ∀ {d : Nat} {m : MT d}, Tu w d m → (((root d m).ps.length : Int) == 0) = decide (d = 0)
  | 0, m, h => by
    have : (root 0 m).ps = [] := h.lk
    rw [this]; rfl
  | d + 1, m, h => by
    have : (root (d + 1) m).ps.length = (root (d + 1) m).is.length + 1 := h.pslen
    rw [decide_eq_false (by omega), beq_eq_false_iff_ne]; omega
end
/-- The tree: its block, its top. -/
structure TrM (w : World) (F : Nat → Prop) (tb : Nat) (T : Top Cl) (m : MT T.d) : Prop where
  ok : TOk T
  tr : trOf T.d m = T.t
  lk : Lk T.d m
  all : All w (nodes T.d m)
  block : w.heap[tb]? = some (.cells #[.pointer (some ⟨(root T.d m).p, 0, none⟩), .int .i64 (T.items.length : Int)] 157 (0, 0))
  own : ¬ BL (nodes T.d m) tb
  F : ∀ k, F k ↔ BL (nodes T.d m) k ∨ k = tb
/-- A tree that holds a rising list, d levels below its top. -/
def TL (w : World) (F : Nat → Prop) (tb : Nat) (l : List Ix) (d : Nat) : Prop := ∃ (T : Top Cl) (m : MT T.d), T.d = d ∧ T.items = l ∧ TrM w F tb T m
section
variable {w w1 : World} {F : Nat → Prop} {tb d : Nat} {l : List Ix}
theorem TrM.tu {T : Top Cl} {m : MT T.d} (h : TrM w F tb T m) : Tu w T.d m := ⟨h.lk, h.all, by rw [h.tr]; exact h.ok.ok, by rw [h.tr]; exact h.ok.up, by rw [← its_tr, h.tr]; exact h.ok.few⟩
theorem TL.up (h : TL w F tb l d) : Up l := by
  obtain ⟨T, m, _, rfl, hT⟩ := h
  exact hT.ok.up
theorem TL.lt (h : TL w F tb l d) {k : Nat} (hk : F k) : k < w.heap.size := by
  obtain ⟨T, m, _, rfl, hT⟩ := h
  rcases (hT.F k).1 hk with e | e
  · exact hT.all.lt e
  · rw [e]; exact (Array.getElem?_eq_some_iff.1 hT.block).1
/-- What is changed is not the tree's. -/
theorem TL.keep (h : TL w F tb l d) (hk : ∀ k, F k → w1.heap[k]? = w.heap[k]?) : TL w1 F tb l d := by
  obtain ⟨T, m, e1, e2, hT⟩ := h
  exact ⟨T, m, e1, e2, hT.ok, hT.tr, hT.lk, ⟨fun n hn => (hT.all.m n hn).keep fun k hb => hk k ((hT.F k).2 (.inl ⟨n, hn, hb⟩)), hT.all.ap⟩, (hk tb ((hT.F tb).2 (.inr rfl))).trans hT.block, hT.own, hT.F⟩
theorem TL.below (h : TL w F tb l d) (hb : Below w.heap.size w w1) : TL w1 F tb l d := h.keep fun k hk => hb.block k (h.lt hk)
theorem TL.deep (h : TL w F tb l d) (hd : 0 < d) : 2 * 3 ^ d ≤ l.length + 1 := by
  obtain ⟨T, m, rfl, rfl, hT⟩ := h
  exact top_deep T hT.ok hd
end
theorem get_none {d : Nat} {m : MT (d + 1)} {k : Int} (hf : foundAt m.1.is k = none) {a b : List (MT d)} {c : MT d} (hcs : m.2 = a ++ c :: b) (ha : a.length = place m.1.is k) : getT (d + 1) (trOf (d + 1) m) k = getT d (trOf d c) k := by
  show getT (d + 1) ((m.1.is, m.2.map (trOf d)) : Tr Cl (d + 1)) k = _
  have hg : (m.2.map (trOf d))[place m.1.is k]? = some (trOf d c) := by rw [hcs, List.map_append, List.map_cons]; exact get_mid _ _ _ _ (by simpa using ha)
  simp only [getT, hf, hg]
theorem get_found : ∀ {d : Nat} {m : MT d} {k : Int} {y : Ix}, foundAt (root d m).is k = some y → getT d (trOf d m) k = some y.c
  | 0, m, k, y, hf => by
    show (foundAt (root 0 m).is k).map It.c = _
    rw [hf]; rfl
  | d + 1, m, k, y, hf => by
    have hf : foundAt m.1.is k = some y := hf
    show getT (d + 1) ((m.1.is, m.2.map (trOf d)) : Tr Cl (d + 1)) k = _
    simp only [getT, hf]
theorem found_at {l : List Ix} {k : Int} {y : Ix} (hf : foundAt l k = some y) : l[place l k]? = some y := by
  unfold foundAt at hf
  cases hq : l[place l k]? with
  | none => rw [hq] at hf; cases hf
  | some z =>
    rw [hq] at hf
    dsimp only at hf
    split at hf
    · exact hf
    · cases hf
set_option maxHeartbeats 8000000 in
theorem get_any {w : World} {F : Nat → Prop} {tb d : Nat} {l : List Ix} (h : TL w F tb l d) (k : Int) : Calls Try.prog 96 #[.pointer (some ⟨tb, 0, none⟩), .int .i64 k] w fun e w' => e = .returned (.tuple #[.agg #[.int .i64 (cv (getC k l)).v, .int .i64 (cv (getC k l)).s, .bool (cv (getC k l)).dead], .bool (getC k l).isSome]) ∧ Below w.heap.size w w' := by
  obtain ⟨T, m, _, rfl, hT⟩ := h
  have hg := get_spec T.d T.t k hT.ok.ok hT.ok.up
  have hbl := hT.block
  obtain ⟨G, hG⟩ : ∃ G, G = getC k T.items := ⟨_, rfl⟩
  have hg2 : getT T.d (trOf T.d m) k = G := by rw [hT.tr, hg, hG]; rfl
  rw [← hG]
  obtain ⟨W1, hW1⟩ : ∃ W1, W1 = w.alloc (.cells #[.int .i64 0, .int .i64 0, .bool false] 44) := ⟨_, rfl⟩
  have hR1 : Rx w W1 := by rw [hW1]; exact Rx.start w
  have c0 : (w.alloc (.cells #[.int .i64 0, .int .i64 0, .bool false] 44)).cell? ⟨tb, 0, none⟩ = some (.pointer (some ⟨(root T.d m).p, 0, none⟩)) := by
    rw [← hW1, cell_of_row _ _ 0 _ _ _ ((hR1.below.block _ (Array.getElem?_eq_some_iff.1 hbl).1).trans hbl)]; rfl
  have HT := Lib.hid (hT.tu.below hR1.below)
  have HG := Lib.hid hg2
  have HR1 := Lib.hid hR1
  have HW := Lib.hid hW1
  obtain ⟨s, hs⟩ : ∃ s, s = w.heap.size := ⟨_, rfl⟩
  have HS := Lib.hid hs
  clear hT hg hbl hG hg2 hR1 hW1
  obtain ⟨dd, hdd⟩ : ∃ dd, dd = T.d := ⟨_, rfl⟩
  generalize T.d = dd at m HT HG c0
  obtain ⟨p, hp⟩ : ∃ p, p = (root dd m).p := ⟨_, rfl⟩
  have HP := Lib.hid hp
  rw [← hp] at c0
  clear hp hdd
  go_enter Try.func96, Try.ntmps96
  go_wp2_with fail
  rw [← hs, ← HW.out]
  clear hs c0
  go_loopg [6, 7, 8, 16, 17, 18, 19, 20, 21, 22, 23, 24, 25, 26, 27, 28, 29, 30, 31, 32, 33, 34, 35, 36, 37, 38, 39, 40] dd (fun k' p _ _ _ _ _ _ _ _ _ _ _ _ _ _ _ _ _ _ _ _ _ _ _ _ _ _ _ wr => ∃ m' : MT k', p = .pointer (some ⟨(root k' m').p, 0, none⟩) ∧ Tu wr k' m' ∧ getT k' (trOf k' m') k = G ∧ Below W1.heap.size W1 wr)
  case atStart => exact ⟨m, by rw [HP.out], HT.out, HG.out, Below.refl _ _⟩
  case round =>
    obtain ⟨m', rfl, hT, hL, hb⟩ := hrel
    have HT2 := Lib.hid hT
    have HL := Lib.hid hL
    have HR := Lib.hid (HR1.out.later hb)
    have HB := Lib.hid hb
    have HF := Lib.hid (find_any hT.top hT.upis (by have := hT.few; omega) k)
    have hpl := place_le (root gk m').is k
    obtain ⟨i, hi⟩ : ∃ i, i = place (root gk m').is k := ⟨_, rfl⟩
    obtain ⟨fb, hfb⟩ : ∃ fb, fb = foundB (root gk m').is k := ⟨_, rfl⟩
    rw [← hfb, ← hi] at HF
    rw [← hi] at hpl
    have HI := Lib.hid (And.intro hi hpl)
    have HFB := Lib.hid hfb
    obtain ⟨q, hq⟩ : ∃ q, q = (root gk m').p := ⟨_, rfl⟩
    have HQ := Lib.hid hq
    rw [← hq] at HF ⊢
    clear hT hL hb hi hfb hpl hq
    go_wp2_with fail
    refine Calls.mono HF.out ?_
    rintro e w1 ⟨rfl, hb1⟩
    have HTX := Lib.hid (HT2.out.below hb1)
    have HRX := Lib.hid (HR.out.later hb1)
    have HBX := Lib.hid (HB.out.trans (hb1.mono HB.out.size))
    have hr := HRX.out.res
    rw [← HS.out] at hr
    have r0 : w1.cell? ⟨s, 0, none⟩ = some (.int .i64 0) := by rw [cell_of_row _ _ 0 _ _ _ hr]; rfl
    have r1 : w1.cell? ⟨s, 1, none⟩ = some (.int .i64 0) := by rw [cell_of_row _ _ 1 _ _ _ hr]; rfl
    have r2 : w1.cell? ⟨s, 2, none⟩ = some (.bool false) := by rw [cell_of_row _ _ 2 _ _ _ hr]; rfl
    have rf := frozen_of hr
    have HRR := Lib.hid (fun x y z => res3 hr x y z)
    have HSB := Lib.hid (⟨by rw [HS.out]; omega, HRX.out.below⟩ : Sb w w1 s)
    clear hb1 hr HF HB HR
    cases hf : foundAt (root gk m').is k with
    | some y =>
      obtain rfl : fb = true := by rw [HFB.out]; unfold foundB; rw [hf]; rfl
      obtain ⟨gn, cn, env, f3, hnl, hn0, x0, x1, x2, x3, _⟩ := HTX.out.top.it (show (root gk m').is[i]? = some y from by rw [HI.out.1]; exact found_at hf)
      rw [← HQ.out] at hn0
      have HGG := Lib.hid (show G = some y.c from by rw [← HL.out]; exact get_found hf)
      clear env hf
      go_wp2_with fail
      refine bodyPost_ret (v := .tuple #[.agg #[.int .i64 y.c.v, .int .i64 y.c.s, .bool y.c.dead], .bool true]) (by simp [results, Try.results96, go_sem, (HRR.out (.int .i64 y.c.v) (.int .i64 y.c.s) (.bool y.c.dead)).1, (HRR.out (.int .i64 y.c.v) (.int .i64 y.c.s) (.bool y.c.dead)).2.1, (HRR.out (.int .i64 y.c.v) (.int .i64 y.c.s) (.bool y.c.dead)).2.2]) rfl ⟨by rw [HGG.out]; rfl, (((HSB.out.s1 0 _).s1 1 _).s1 2 _).b⟩
    | none =>
      obtain rfl : fb = false := by rw [HFB.out]; unfold foundB; rw [hf]; rfl
      have HLE := Lib.hid (leaf_any HTX.out.top)
      rw [← HQ.out, HTX.out.leafb] at HLE
      cases gk with
      | zero =>
        have HGG := Lib.hid (show G = none from by
          rw [← HL.out]
          show (foundAt (root 0 m').is k).map It.c = none
          rw [hf]; rfl)
        rw [show decide (0 = 0) = true from rfl] at HLE
        clear hf
        go_wp2_with fail
        refine Calls.mono HLE.out ?_
        rintro e w2 ⟨rfl, rfl⟩
        go_wp2_with fail
        refine bodyPost_ret (v := .tuple #[.agg #[.int .i64 0, .int .i64 0, .bool false], .bool false]) (by simp [results, Try.results96, go_sem, (HRR.out (.int .i64 0) (.int .i64 0) (.bool false)).1, (HRR.out (.int .i64 0) (.int .i64 0) (.bool false)).2.1, (HRR.out (.int .i64 0) (.int .i64 0) (.bool false)).2.2]) rfl ⟨by rw [HGG.out]; rfl, (((HSB.out.s1 0 _).s1 1 _).s1 2 _).b⟩
      | succ k' =>
        rw [show decide (k' + 1 = 0) = false from rfl] at HLE
        obtain ⟨a, c, b, hcs, ha⟩ := kid_cut HTX.out.ok i HI.out.2
        obtain ⟨gu, cu, A, cc, e1, l1, k1, k2, _⟩ := (show NodeIn w1 m'.1 m'.2 from HTX.out.node).cell (j := i) (z := c) (by rw [hcs]; exact get_mid a c b i ha)
        change w1.cell? ⟨(root (k' + 1) m').p, 1, none⟩ = _ at k1
        rw [← HQ.out] at k1
        have HC := Lib.hid (And.intro hcs ha)
        have HGN := Lib.hid (get_none hf hcs (by rw [ha]; exact HI.out.1))
        clear hf e1 hcs ha
        go_wp2_with fail
        refine Calls.mono HLE.out ?_
        rintro e w2 ⟨rfl, rfl⟩
        go_wp2_with fail
        go_roundg k'
        case measure => omega
        case rel => exact ⟨c, rfl, HTX.out.kid (by rw [HC.out.1]; simp), by rw [← HGN.out]; exact HL.out, HBX.out⟩
end Go.Proofs.Ytejpjbmbcdgomaa
