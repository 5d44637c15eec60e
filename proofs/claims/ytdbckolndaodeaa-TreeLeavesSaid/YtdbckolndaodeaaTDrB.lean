/- A drop below a node. -/
import Derived.Test.YtdbckolndaodeaaTDrA
namespace Go.Proofs.Ytdbckolndaodeaa
set_option maxRecDepth 100000
open Go.RowKit

set_option maxHeartbeats 8000000 in
theorem drop_kid {w : World} {d : Nat} {n : Nd} {a b : List (MT d)} {c : MT d} (x0 : Ix) (h : NodeIn w n (a ++ c :: b)) (k : Int) (hu : Up n.is) (hf : foundAt n.is k = none) {i : Nat} (hi : i = place n.is k) (ha : a.length = i) (hne : 0 < n.is.length) {t' : Tr Cl d} {y : Cl} {bo : Bool}
    (IH : ∀ w1, All w1 (nodes d c) → Calls Try.prog 29 #[.pointer (some ⟨(root d c).p, 0, none⟩), .int .i64 k] w1 (KidPost w1 c t' y bo))
    (hok : Ok d t') (h6 : (its d t').length ≤ 6) :
    Calls Try.prog 29 #[.pointer (some ⟨n.p, 0, none⟩), .int .i64 k] w
      (NodeOut w n (a ++ c :: b) (fillT x0 d n.is (a.map (trOf d) ++ t' :: b.map (trOf d)) i) y bo) := by
  have HF := Lib.hid (find_any (h.top.below (Rx.start w).below) hu (by have := h.few; omega) k)
  have hfb : foundB n.is k = false := by unfold foundB; rw [hf]; rfl
  rw [hfb, ← hi] at HF
  have hlen := h.len
  obtain ⟨res, hres⟩ : ∃ res, res = fillT x0 d n.is (a.map (trOf d) ++ t' :: b.map (trOf d)) i := ⟨_, rfl⟩
  rw [← hres]
  have HRES := Lib.hid hres
  clear hres
  have HA := Lib.hid ha
  have hpz : 0 < n.ps.length := by rw [h.ps, List.length_map, hlen]; omega
  have HPZ := Lib.hid (And.intro hpz hne)
  have HI := Lib.hid IH
  have HOK := Lib.hid (And.intro hok h6)
  have H := Lib.hid h
  clear h hu hf hfb hi hlen ha IH hok h6 hpz hne
  go_enter Try.func29, Try.ntmps29
  go_wp2_with fail
  refine Calls.mono HF.out ?_
  rintro e w1 ⟨rfl, hb1⟩
  have BB := Lib.hid ((Rx.start w).later hb1)
  clear hb1 HF
  have HLE := Lib.hid (leaf_any (H.out.top.below BB.out.below))
  have t0 : ((n.ps.length : Int) == 0) = false := by rw [beq_eq_false_iff_ne]; have := HPZ.out.1; omega
  obtain ⟨s, hs⟩ : ∃ s, s = w.heap.size := ⟨_, rfl⟩
  rw [← hs]
  have HS := Lib.hid hs
  clear hs
  go_wp2_with fail
  refine Calls.mono HLE.out ?_
  rintro e w2 ⟨rfl, rfl⟩
  clear HLE
  have HN := Lib.hid (H.out.below BB.out.below)
  obtain ⟨gu, cu, A, cc, e1, l1, k1, k2, _⟩ := HN.out.cell (get_mid a c b i HA.out)
  clear e1
  go_upto_region 9 with fail
  go_cut [9, 10] from 46 to 57 (fun r q wx => ∃ k c', r = .pointer (some ⟨k, 0, none⟩) ∧ q = .bool bo ∧ (pOf d c' = pOf d c ∧ trOf d c' = t' ∧ Lk d c') ∧ Md w wx (n :: (a ++ c :: b).flatMap (nodes d)) (n :: (a ++ c' :: b).flatMap (nodes d)) k s y)
  case first =>
    go_wp2_with fail
    refine Calls.mono (HI.out _ (kid_all HN.out.all)) ?_
    rintro e8 w8 ⟨c', rfl, p1, p2, p3, M8⟩
    have HP := Lib.hid (And.intro p1 (And.intro p2 p3))
    have HM := Lib.hid (Md.fresh H.out.all BB.out (kid_mv HN.out.all M8) y)
    clear p1 p2 p3 M8
    go_wp2_with fail
    go_meet
    exact ⟨_, c', rfl, rfl, HP.out, by rw [HS.out]; exact HM.out⟩
  case rest =>
    clear k1 k2 l1 t0
    obtain ⟨kk, c', rfl, rfl, ⟨p1, p2, p3⟩, hM⟩ := hcut
    have hroot : (root d c').is.length = (its d t').length := by rw [← p2, its_tr]
    have hn' := H.out.kid p1 p3 ⟨by rw [p2]; exact HOK.out.1, by rw [hroot]; exact HOK.out.2⟩ hM.mv.all
    have HFL := Lib.hid (fill_node x0 hn' HPZ.out.2 i HA.out)
    have HM := Lib.hid hM
    have HP := Lib.hid (And.intro p1 (And.intro p2 p3))
    clear p1 p2 p3 hroot hn' hM
    go_wp2_with fail
    refine Calls.mono HFL.out ?_
    rintro e9 w9 ⟨n', cs', rfl, q1, q2, q3, q4, q5, T⟩
    have hM := HM.out.step T
    have Q := Lib.hid (And.intro q1 (And.intro q2 (And.intro q3 (And.intro q4 (And.intro q5 hM)))))
    have hk2 := hM.was
    have hr2 := hM.res
    clear q1 q2 q3 q4 q5 T hM
    have z0 : w9.cell? ⟨kk, 0, none⟩ = some (.int .i64 y.v) := by rw [cell_of_row _ _ 0 _ _ _ hk2]; rfl
    have z1 : w9.cell? ⟨kk, 1, none⟩ = some (.int .i64 y.s) := by rw [cell_of_row _ _ 1 _ _ _ hk2]; rfl
    have z2 : w9.cell? ⟨kk, 2, none⟩ = some (.bool y.dead) := by rw [cell_of_row _ _ 2 _ _ _ hk2]; rfl
    have r0 : w9.cell? ⟨s, 0, none⟩ = some (.int .i64 0) := by rw [cell_of_row _ _ 0 _ _ _ hr2]; rfl
    have r1 : w9.cell? ⟨s, 1, none⟩ = some (.int .i64 0) := by rw [cell_of_row _ _ 1 _ _ _ hr2]; rfl
    have r2 : w9.cell? ⟨s, 2, none⟩ = some (.bool false) := by rw [cell_of_row _ _ 2 _ _ _ hr2]; rfl
    have rf := frozen_of hr2
    have HR := Lib.hid (res3 hr2 (.int .i64 y.v) (.int .i64 y.s) (.bool y.dead))
    clear hk2 hr2
    go_wp2_with fail
    have hmp : (a ++ c' :: b).map (trOf d) = a.map (trOf d) ++ t' :: b.map (trOf d) := by simp [HP.out.2.1]
    refine bodyPost_ret (v := .tuple #[.agg #[.int .i64 y.v, .int .i64 y.s, .bool y.dead], .bool bo]) (by simp [results, Try.results29, go_sem, HR.out.1, HR.out.2.1, HR.out.2.2]) rfl ⟨n', cs', rfl, Q.out.1, ?_, ?_, Q.out.2.2.2.1, Q.out.2.2.2.2.1, ?_⟩
    · rw [Q.out.2.1, HRES.out, hmp]
    · rw [Q.out.2.2.1, HRES.out, hmp]
    · exact Mv.res2 Q.out.2.2.2.2.2.mv (((At.set _ _ _ _).more _ _).more _ _) (by rw [HS.out]; exact Nat.le_refl _) Q.out.2.2.2.2.2.a2
end Go.Proofs.Ytdbckolndaodeaa
