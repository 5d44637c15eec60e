/- TDropT: put together. -/
import Derived.Test.YtejpjbmbcdgomaaPc14
/- Tree.Drop. -/
namespace Go.Proofs.Ytejpjbmbcdgomaa
set_option maxRecDepth 100000
open Go.RowKit

theorem cut_stay : ∀ (d : Nat) (m : MT d), Lk d m → Ok d (trOf d m) → ((root d m).is.length ≠ 0 ∨ (root d m).ps.length = 0) → ∃ m2 : MT (cutTop d (trOf d m)).d, trOf _ m2 = (cutTop d (trOf d m)).t ∧ Lk _ m2 ∧ (root _ m2).p = (root d m).p ∧ nodes _ m2 = nodes d m
  | 0, m, hl, _, _ => ⟨m, rfl, hl, rfl, rfl⟩
  | d + 1, m, hl, hok, h => by
    have hne : ¬ m.1.is.length = 0 := by
      rcases h with h | h
      · exact h
      · have h1 : m.1.ps.length = 0 := h
        have h2 : m.1.ps.length = m.2.length := by rw [hl.1, List.length_map]
        have h3 : (m.2.map (trOf d)).length = m.1.is.length + 1 := hok.1
        rw [List.length_map] at h3
        omega
    have e : cutTop (d + 1) (trOf (d + 1) m) = ⟨d + 1, trOf (d + 1) m⟩ := if_neg hne
    rw [e]
    exact ⟨m, rfl, hl, rfl, rfl⟩
theorem cut_kid : ∀ (d : Nat) (m : MT d) {q0 : Nat}, Lk d m → (root d m).is.length = 0 → (root d m).ps[0]? = some q0 → ∃ m2 : MT (cutTop d (trOf d m)).d, trOf _ m2 = (cutTop d (trOf d m)).t ∧ Lk _ m2 ∧ (root _ m2).p = q0 ∧ (nodes _ m2).Sublist (nodes d m)
  | 0, m, q0, hl, _, hq => by
    have hl : (root 0 m).ps = [] := hl
    rw [hl] at hq
    cases hq
  | d + 1, m, q0, hl, hz, hq => by
    have e : cutTop (d + 1) (trOf (d + 1) m) = ⟨d, (trOf (d + 1) m).2.headD (emptyT d)⟩ := if_pos hz
    rw [e]
    have hq : m.1.ps[0]? = some q0 := hq
    rw [hl.1, List.getElem?_map] at hq
    cases hc : m.2 with
    | nil => rw [hc] at hq; cases hq
    | cons c b =>
      rw [hc] at hq
      have hq : some (pOf d c) = some q0 := hq
      injection hq with hq
      refine ⟨c, ?_, hl.2 c (by rw [hc]; simp), hq, ?_⟩
      · show _ = (m.2.map (trOf d)).headD (emptyT d)
        rw [hc]
        rfl
      · show (nodes d c).Sublist (m.1 :: m.2.flatMap (nodes d))
        rw [hc, List.flatMap_cons]
        exact .cons _ (List.sublist_append_left _ _)
set_option maxHeartbeats 8000000 in
theorem tdrop_any {w : World} {F : Nat → Prop} {tb d : Nat} {l : List Ix} (h : TL w F tb l d) (k : Int) (hl : l.length ≤ 100000) : Calls Try.prog 85 #[.pointer (some ⟨tb, 0, none⟩), .int .i64 k] w fun e w' => e = .returned (.tuple #[.agg #[.int .i64 (cv (getC k l)).v, .int .i64 (cv (getC k l)).s, .bool (cv (getC k l)).dead], .bool (getC k l).isSome]) ∧ ∃ F' d', TL w' F' tb (del k l) d' ∧ Cg w w' F F' := by
  obtain ⟨T, m, _, rfl, hT⟩ := h
  obtain ⟨x0, _⟩ : ∃ x0 : Ix, x0 = ⟨0, ⟨0, 0, false⟩⟩ := ⟨_, rfl⟩
  have hts := top_drop T hT.ok x0 k
  have hlen := del_len hT.ok.up k
  have hss := drop_spec x0 T.d T.t k hT.ok.ok hT.ok.up hT.ok.few hT.ok.some
  have hu := hT.tu
  have hsome : T.d = 0 ∨ 0 < (its T.d (trOf T.d m)).length := by rw [hT.tr]; exact hT.ok.some
  have HSA := Lib.hid (fun (w1 : World) (h1 : All w1 (nodes T.d m)) => drop_any x0 T.d m w1 k hu.lk h1 hu.ok hu.up (by rw [its_tr]; exact hu.few) hsome)
  rw [hT.tr] at HSA
  have hgc : (dropT x0 T.d T.t k).2 = getC k T.items := hss.2.1
  rw [hgc] at HSA
  obtain ⟨y, hy⟩ : ∃ y, y = cv (getC k T.items) := ⟨_, rfl⟩
  obtain ⟨bo, hbo⟩ : ∃ bo, bo = (getC k T.items).isSome := ⟨_, rfl⟩
  rw [← hy, ← hbo] at HSA ⊢
  rw [← hbo] at hlen
  have H := Lib.hid hT
  have HT := Lib.hid (And.intro hts (And.intro hlen (And.intro hss hl)))
  have BB := Lib.hid (Rx.start w)
  have HCA := Lib.hid (hT.all.below BB.out.below)
  have k0 : (w.alloc (.cells #[.int .i64 0, .int .i64 0, .bool false] 44)).cell? ⟨tb, 0, none⟩ = some (.pointer (some ⟨(root T.d m).p, 0, none⟩)) := by
    rw [cell_of_row _ _ 0 _ _ _ ((BB.out.below.block _ (Array.getElem?_eq_some_iff.1 hT.block).1).trans hT.block)]; rfl
  obtain ⟨s, hs⟩ : ∃ s, s = w.heap.size := ⟨_, rfl⟩
  have HS := Lib.hid hs
  clear hT hts hlen hss hu hgc hy hbo hl hsome
  go_enter Try.func85, Try.ntmps85
  go_upto_region 3 with fail
  rw [← hs]
  clear hs
  go_cut [6, 7] from 11 to 19 (fun r q wx => ∃ (kx : Nat) (m' : MT T.d), r = .pointer (some ⟨kx, 0, none⟩) ∧ q = .bool bo ∧ (pOf T.d m' = pOf T.d m ∧ trOf T.d m' = (dropT x0 T.d T.t k).1 ∧ Lk T.d m') ∧ Mt w wx (nodes T.d m) (nodes T.d m') tb kx s (root T.d m).p (T.items.length : Int) y)
  case first =>
    have HMT := Lib.hid (fun (k : Nat) (W : World) (m' : MT T.d) (hk : w.heap.size ≤ k) (M : Md w W (nodes T.d m) (nodes T.d m') k w.heap.size y) => M.mt H.out.all H.out.own H.out.block hk (Nat.le_refl _))
    go_wp2_with fail
    refine Calls.mono (HSA.out _ HCA.out) ?_
    rintro e8 w8 ⟨m', rfl, p1, p2, p3, M8⟩
    have HP := Lib.hid (And.intro p1 (And.intro p2 p3))
    have HM := Lib.hid (HMT.out _ _ m' (Nat.le_trans BB.out.below.size M8.ch.size) (Md.fresh H.out.all BB.out M8 y))
    clear p1 p2 p3 M8
    go_wp2_with fail
    go_meet
    exact ⟨_, m', rfl, rfl, HP.out, by rw [HS.out]; exact HM.out⟩
  case rest =>
    clear k0 HSA HCA
    obtain ⟨kk, m', rfl, rfl, ⟨p1, p2, p3⟩, hM⟩ := hcut
    rename World => wq
    have hp : (root T.d m').p = (root T.d m).p := p1
    rw [← hp] at hM
    obtain ⟨pt, hpt⟩ : ∃ pt, pt = (root T.d m').p := ⟨_, rfl⟩
    rw [← hpt] at hM
    have HM := Lib.hid hM
    have HP := Lib.hid (And.intro p2 (And.intro p3 hpt))
    obtain ⟨many, hmany⟩ : ∃ many, many = T.items.length := ⟨_, rfl⟩
    rw [← hmany] at hM HM
    have hml : many ≤ 100000 := by rw [hmany]; exact HT.out.2.2.2
    have t1 : wq.cell? ⟨tb, 1, none⟩ = some (.int .i64 (many : Int)) := by rw [cell_of_row _ _ 1 _ _ _ hM.tree]; rfl
    have tf := frozen_of hM.tree
    obtain ⟨many2, hm2⟩ : ∃ many2, many2 = (del k T.items).length := ⟨_, rfl⟩
    have hm3 : many2 + (if bo then 1 else 0) = many := by rw [hm2, hmany]; exact HT.out.2.1
    have HM2 := Lib.hid (And.intro hm2 hm3)
    clear hp hpt p1 p2 p3 hM hmany hm2 hm3
    go_upto_if 20 with fail
    go_cut [] from 21 to 27 (fun wx => Mt w wx (nodes T.d m) (nodes T.d m') tb kk s pt (many2 : Int) y)
    case first =>
      cases bo with
      | false =>
        have e2 : many2 = many := HM2.out.2
        go_wp2_with fail
        go_meet
        rw [e2]
        exact HM.out
      | true =>
        have e2 : (many2 : Int) = (many : Int) - 1 := by have := HM2.out.2; simp at this; omega
        have HE2 := Lib.hid e2
        clear e2
        go_wp2_with fail
        go_meet
        exact HM.out.store (At.set _ _ _ _) (by rw [HE2.out]; exact heap_set _ _ 1 _ HM.out.tree)
    case rest =>
      clear t1 tf HM
      rename World => wp
      have HM := Lib.hid hcut
      have t0 : wp.cell? ⟨tb, 0, none⟩ = some (.pointer (some ⟨pt, 0, none⟩)) := by rw [cell_of_row _ _ 0 _ _ _ hcut.tree]; rfl
      have tf := frozen_of hcut.tree
      have hroot := hcut.all.m (root T.d m') (by rw [nodes_eq]; exact List.mem_cons_self ..)
      obtain ⟨A, cc, ev, _⟩ := hroot.items
      have r0 := hroot.c0
      rw [ev, ← HP.out.2.2] at r0
      obtain ⟨Au, cu, eu, _, _, _⟩ := rdv_own hroot.kids
      have r1 := hroot.c1
      rw [eu, ← HP.out.2.2] at r1
      have hok' : Ok T.d (trOf T.d m') := by rw [HP.out.1]; exact HT.out.2.2.1.2.2.1
      have HOK := Lib.hid hok'
      have HRT := Lib.hid hroot
      have HEU := Lib.hid eu
      obtain ⟨ni, hni⟩ : ∃ ni, ni = (root T.d m').is.length := ⟨_, rfl⟩
      obtain ⟨np, hnp⟩ : ∃ np, np = (root T.d m').ps.length := ⟨_, rfl⟩
      rw [← hni] at r0
      rw [← hnp] at r1
      have HNN := Lib.hid (And.intro hni hnp)
      clear hcut hroot ev eu hok' hni hnp
      have HTD : Hid ((T.drop x0 k).1 = cutTop T.d (trOf T.d m')) := Lib.hid (by rw [HP.out.1]; rfl)
      by_cases hz : ni = 0
      · by_cases hnp : 0 < np
        · obtain ⟨q0, hq0⟩ : ∃ q0, (root T.d m').ps[0]? = some q0 := ⟨_, List.getElem?_eq_getElem (by rw [← HNN.out.2]; exact hnp)⟩
          have HCUT := Lib.hid (cut_kid T.d m' HP.out.2.1 (by rw [← HNN.out.1]; exact hz) hq0)
          obtain ⟨gu, cu2, eu2, l1, _, _, u2⟩ := HRT.out.kd hq0
          have e9 := HEU.out
          rw [eu2] at e9
          injection e9 with e9 _ e10
          subst e9 e10
          subst hz
          have d1 : decide ((0 : Int) < (np : Int)) = true := decide_eq_true (by omega)
          have d2 : decide (0 < np) = true := decide_eq_true hnp
          have l2 : (0 : Int) < (np : Int) := by omega
          clear eu2 l1 hq0
          go_upto_if 47 with fail
          go_upto_region 8 with fail
          have HM8 := Lib.hid (HM.out.store (At.set wp tb 0 (.pointer (some ⟨q0, 0, none⟩))) (heap_set _ tb 0 _ HM.out.tree))
          clear t0 tf r0 r1 u2 d1 d2 l2 hnp
          obtain ⟨m2, g1, g2, g3, g4⟩ := HCUT.out
          have hk2 := HM8.out.was
          have hr2 := HM8.out.res
          have z0 : (wp.setCell ⟨tb, 0, none⟩ (.pointer (some ⟨q0, 0, none⟩))).cell? ⟨kk, 0, none⟩ = some (.int .i64 y.v) := by rw [cell_of_row _ _ 0 _ _ _ hk2]; rfl
          have z1 : (wp.setCell ⟨tb, 0, none⟩ (.pointer (some ⟨q0, 0, none⟩))).cell? ⟨kk, 1, none⟩ = some (.int .i64 y.s) := by rw [cell_of_row _ _ 1 _ _ _ hk2]; rfl
          have z2 : (wp.setCell ⟨tb, 0, none⟩ (.pointer (some ⟨q0, 0, none⟩))).cell? ⟨kk, 2, none⟩ = some (.bool y.dead) := by rw [cell_of_row _ _ 2 _ _ _ hk2]; rfl
          have w0 : (wp.setCell ⟨tb, 0, none⟩ (.pointer (some ⟨q0, 0, none⟩))).cell? ⟨s, 0, none⟩ = some (.int .i64 0) := by rw [cell_of_row _ _ 0 _ _ _ hr2]; rfl
          have w1 : (wp.setCell ⟨tb, 0, none⟩ (.pointer (some ⟨q0, 0, none⟩))).cell? ⟨s, 1, none⟩ = some (.int .i64 0) := by rw [cell_of_row _ _ 1 _ _ _ hr2]; rfl
          have w2 : (wp.setCell ⟨tb, 0, none⟩ (.pointer (some ⟨q0, 0, none⟩))).cell? ⟨s, 2, none⟩ = some (.bool false) := by rw [cell_of_row _ _ 2 _ _ _ hr2]; rfl
          have rf := frozen_of hr2
          have HR := Lib.hid (res3 hr2 (.int .i64 y.v) (.int .i64 y.s) (.bool y.dead))
          have HG := Lib.hid (And.intro g1 (And.intro g2 (And.intro g3 g4)))
          clear hk2 hr2 g1 g2 g3 g4
          go_wp2_with fail
          refine bodyPost_ret (v := .tuple #[.agg #[.int .i64 y.v, .int .i64 y.s, .bool y.dead], .bool bo]) (by simp [results, Try.results85, go_sem, HR.out.1, HR.out.2.1, HR.out.2.2]) rfl ⟨rfl, ?_⟩
          have hit : (cutTop T.d (trOf T.d m')).items = del k T.items := by rw [← HTD.out]; exact HT.out.1.1
          have hd := (HM8.out.sub HG.out.2.2.2).done (T := cutTop T.d (trOf T.d m')) (m := m2) (((At.set _ _ 0 (.int .i64 y.v)).more 1 (.int .i64 y.s)).more 2 (.bool y.dead)) (by rw [← HTD.out]; exact HT.out.1.2.2) HG.out.1 HG.out.2.1 rfl HG.out.2.2.1 (by rw [hit, ← HM2.out.1]) H.out.F
          obtain ⟨F', j1, j2⟩ := hd
          rw [hit] at j1
          first | exact ⟨F', _, j1, j2⟩ | exact ⟨F', ⟨_, j1⟩, j2⟩
        · have HCUT := Lib.hid (cut_stay T.d m' HP.out.2.1 HOK.out (.inr (by rw [← HNN.out.2]; omega)))
          obtain rfl : np = 0 := by omega
          subst hz
          clear hnp
          go_upto_if 47 with fail
          go_upto_region 8 with fail
          clear t0 tf r0 r1
          obtain ⟨m2, g1, g2, g3, g4⟩ := HCUT.out
          have hk2 := HM.out.was
          have hr2 := HM.out.res
          have z0 : wp.cell? ⟨kk, 0, none⟩ = some (.int .i64 y.v) := by rw [cell_of_row _ _ 0 _ _ _ hk2]; rfl
          have z1 : wp.cell? ⟨kk, 1, none⟩ = some (.int .i64 y.s) := by rw [cell_of_row _ _ 1 _ _ _ hk2]; rfl
          have z2 : wp.cell? ⟨kk, 2, none⟩ = some (.bool y.dead) := by rw [cell_of_row _ _ 2 _ _ _ hk2]; rfl
          have w0 : wp.cell? ⟨s, 0, none⟩ = some (.int .i64 0) := by rw [cell_of_row _ _ 0 _ _ _ hr2]; rfl
          have w1 : wp.cell? ⟨s, 1, none⟩ = some (.int .i64 0) := by rw [cell_of_row _ _ 1 _ _ _ hr2]; rfl
          have w2 : wp.cell? ⟨s, 2, none⟩ = some (.bool false) := by rw [cell_of_row _ _ 2 _ _ _ hr2]; rfl
          have rf := frozen_of hr2
          have HR := Lib.hid (res3 hr2 (.int .i64 y.v) (.int .i64 y.s) (.bool y.dead))
          have HG := Lib.hid (And.intro g1 (And.intro g2 (And.intro g3 g4)))
          clear hk2 hr2 g1 g2 g3 g4
          go_wp2_with fail
          refine bodyPost_ret (v := .tuple #[.agg #[.int .i64 y.v, .int .i64 y.s, .bool y.dead], .bool bo]) (by simp [results, Try.results85, go_sem, HR.out.1, HR.out.2.1, HR.out.2.2]) rfl ⟨rfl, ?_⟩
          have hit : (cutTop T.d (trOf T.d m')).items = del k T.items := by rw [← HTD.out]; exact HT.out.1.1
          have hd := (HM.out.sub (by rw [HG.out.2.2.2]; exact List.Sublist.refl _)).done (T := cutTop T.d (trOf T.d m')) (m := m2) (((At.set _ _ 0 (.int .i64 y.v)).more 1 (.int .i64 y.s)).more 2 (.bool y.dead)) (by rw [← HTD.out]; exact HT.out.1.2.2) HG.out.1 HG.out.2.1 rfl (HG.out.2.2.1.trans HP.out.2.2.symm) (by rw [hit, ← HM2.out.1]) H.out.F
          obtain ⟨F', j1, j2⟩ := hd
          rw [hit] at j1
          first | exact ⟨F', _, j1, j2⟩ | exact ⟨F', ⟨_, j1⟩, j2⟩
      · have HCUT := Lib.hid (cut_stay T.d m' HP.out.2.1 HOK.out (.inl (by rw [← HNN.out.1]; exact hz)))
        have d1 : ((ni : Int) == 0) = false := by rw [beq_eq_false_iff_ne]; omega
        clear hz
        go_upto_if 47 with fail
        go_upto_region 8 with fail
        clear t0 tf r0 r1 d1
        obtain ⟨m2, g1, g2, g3, g4⟩ := HCUT.out
        have hk2 := HM.out.was
        have hr2 := HM.out.res
        have z0 : wp.cell? ⟨kk, 0, none⟩ = some (.int .i64 y.v) := by rw [cell_of_row _ _ 0 _ _ _ hk2]; rfl
        have z1 : wp.cell? ⟨kk, 1, none⟩ = some (.int .i64 y.s) := by rw [cell_of_row _ _ 1 _ _ _ hk2]; rfl
        have z2 : wp.cell? ⟨kk, 2, none⟩ = some (.bool y.dead) := by rw [cell_of_row _ _ 2 _ _ _ hk2]; rfl
        have w0 : wp.cell? ⟨s, 0, none⟩ = some (.int .i64 0) := by rw [cell_of_row _ _ 0 _ _ _ hr2]; rfl
        have w1 : wp.cell? ⟨s, 1, none⟩ = some (.int .i64 0) := by rw [cell_of_row _ _ 1 _ _ _ hr2]; rfl
        have w2 : wp.cell? ⟨s, 2, none⟩ = some (.bool false) := by rw [cell_of_row _ _ 2 _ _ _ hr2]; rfl
        have rf := frozen_of hr2
        have HR := Lib.hid (res3 hr2 (.int .i64 y.v) (.int .i64 y.s) (.bool y.dead))
        have HG := Lib.hid (And.intro g1 (And.intro g2 (And.intro g3 g4)))
        clear hk2 hr2 g1 g2 g3 g4
        go_wp2_with fail
        refine bodyPost_ret (v := .tuple #[.agg #[.int .i64 y.v, .int .i64 y.s, .bool y.dead], .bool bo]) (by simp [results, Try.results85, go_sem, HR.out.1, HR.out.2.1, HR.out.2.2]) rfl ⟨rfl, ?_⟩
        have hit : (cutTop T.d (trOf T.d m')).items = del k T.items := by rw [← HTD.out]; exact HT.out.1.1
        have hd := (HM.out.sub (by rw [HG.out.2.2.2]; exact List.Sublist.refl _)).done (T := cutTop T.d (trOf T.d m')) (m := m2) (((At.set _ _ 0 (.int .i64 y.v)).more 1 (.int .i64 y.s)).more 2 (.bool y.dead)) (by rw [← HTD.out]; exact HT.out.1.2.2) HG.out.1 HG.out.2.1 rfl (HG.out.2.2.1.trans HP.out.2.2.symm) (by rw [hit, ← HM2.out.1]) H.out.F
        obtain ⟨F', j1, j2⟩ := hd
        rw [hit] at j1
        first | exact ⟨F', _, j1, j2⟩ | exact ⟨F', ⟨_, j1⟩, j2⟩
end Go.Proofs.Ytejpjbmbcdgomaa
