/- TMrg: put together. -/
import Derived.Test.YtejpjbmbcdgomaaPa10
/- Two nodes made one. -/
namespace Go.Proofs.Ytejpjbmbcdgomaa
set_option maxRecDepth 100000
open Go.RowKit

set_option maxHeartbeats 4000000 in
theorem merge_any {w : World} {n0 L0 R0 : Nd} (T0 : Tri w w n0 L0 R0 n0 L0 R0) (i : Nat) {x : Ix} (hx : n0.is[i]? = some x) (hl : n0.ps[i]? = some L0.p) (hr : n0.ps[i + 1]? = some R0.p)
    (b1 : n0.is.length ≤ 100) (b2 : n0.ps.length ≤ 100) (b3 : L0.is.length ≤ 100) (b4 : L0.ps.length ≤ 100) (b5 : R0.is.length ≤ 100) (b6 : R0.ps.length ≤ 100) :
    Calls Try.prog 130 #[.pointer (some ⟨n0.p, 0, none⟩), .int .i64 (i : Int)] w fun e w' => ∃ n L, e = .returned (.tuple #[]) ∧ n.is = n0.is.eraseIdx i ∧ n.ps = n0.ps.eraseIdx (i + 1) ∧ L.is = L0.is ++ x :: R0.is ∧ L.ps = L0.ps ++ R0.ps ∧ Tri w w' n0 L0 R0 n L R0 := by
  have hi : i < n0.is.length := (List.getElem?_eq_some_iff.1 hx).1
  have hi2 : i + 1 < n0.ps.length := (List.getElem?_eq_some_iff.1 hr).1
  obtain ⟨j, hj⟩ : ∃ j, j = i + 1 := ⟨_, rfl⟩
  obtain ⟨j2, hj2⟩ : ∃ j2, j2 = j + 1 := ⟨_, rfl⟩
  rw [← hj] at hr hi2 ⊢
  have HJ := Lib.hid (And.intro hj hj2)
  have HI := Lib.hid (And.intro hi hi2)
  have HX := Lib.hid hx
  have f6 : IntKind.i64.wrap ((i : Int) + 1) = (j : Int) := by rw [IntKind.wrap_i64]; omega
  have f7 : IntKind.i64.wrap ((i : Int) + 2) = (j2 : Int) := by rw [IntKind.wrap_i64]; omega
  have HB := Lib.hid (And.intro b1 (And.intro b2 (And.intro b3 (And.intro b4 (And.intro b5 b6)))))
  have T := Lib.hid T0
  obtain ⟨gu, cu, enu, f2, hul, hn1, k0⟩ := T.out.hn.kd hl
  obtain ⟨gu2, cu2, enu2, f1, _, _, k1⟩ := T.out.hn.kd hr
  obtain rfl := same_u enu enu2
  clear enu enu2 hx hl hr hi hi2 b1 b2 b3 b4 b5 b6 hj hj2 T0
  go_enter Try.func130, Try.ntmps130
  go_upto_region 0 with fail
  go_cut [4, 5] from 6 to 20 (fun a b wx => a = .pointer (some ⟨L0.p, 0, none⟩) ∧ b = .pointer (some ⟨R0.p, 0, none⟩) ∧ Tri w wx n0 L0 R0 n0 L0 R0)
  case first => go_region_law (fail); all_goals (go_wp2_with fail; go_meet; exact ⟨rfl, rfl, T.out.drew⟩)
  case rest =>
    clear T k0 k1 hn1 f1 f2 hul
    obtain ⟨rfl, rfl, hT⟩ := hcut
    have T := Lib.hid hT
    clear hT
    have hL0 := T.out.hL.c0
    have hL1 := T.out.hL.c1
    have hLf := T.out.hL.fr
    have lL := T.out.hL.lt (.inl rfl)
    rw [T.out.fL.p] at hL0 hL1 hLf lL
    obtain ⟨gn, cn, env, f3, hnl, hn0, x0, x1, x2, x3, hnz⟩ := T.out.hn.it HX.out
    rw [T.out.fn.p] at hn0
    have g0 : ∀ o, (wc.drew.alloc o).cell? ⟨L0.p, 0, none⟩ = some L0.v := fun o => ((Below.refl _ wc).alloc (Nat.le_refl _) o).cell (p := ⟨L0.p, 0, none⟩) lL ▸ hL0
    go_upto_region 1 with fail
    go_cut [] from 21 to 36 (fun wx => ∃ X : Nd, X.is = L0.is ++ [x] ∧ (X.ps = L0.ps ∧ X.p = L0.p) ∧ Tri w wx n0 L0 R0 n0 X R0)
    case first =>
      go_region_law (first | (refine step_append_rowg elemIx (by simp [Region.wanted]) (.tmp 25) (.tmp 33) rfl 0 L0.v L0.is.length (rowV Ix.vals L0.is) (by simp [Act.eval]) (T.out.hL.below ((Below.refl _ wc).alloc (Nat.le_refl _) _)).own (some ⟨wc.heap.size, 0, none⟩) 1 1 (x.vals) (by simp [Act.eval]) (rdv_freshI wc.drew x 166) (ix1 x) (fun h => by cases h) (by have := HB.out.2.2.1; unfold maxLen; omega) (by have := HB.out.2.2.1; omega) (Nat.zero_le _) ?_; intro v' w' ho hg hq; obtain ⟨A9, c9, rfl⟩ := own_form ho; obtain ⟨k8, k9⟩ := T.out.hL.after0 (grown_drew (grown_alloc hg)); rw [T.out.fL.p] at k8 k9; have HO := Lib.hid ho; have HG := Lib.hid (grown_drew (grown_alloc hg)); have HQ := Lib.hid hq; clear ho hg hq))
      all_goals (go_wp2_with fail; go_meet; exact ⟨L0.put0 _ (L0.is ++ [x]), rfl, ⟨rfl, rfl⟩, T.out.moveL (T.out.hL.put0 T.out.fL.p (m := L0.is.length + 1) (is := L0.is ++ [x]) (by simp) (by rw [rowV_append]; simpa [rowV] using HO.out) HG.out (fun q e => (HQ.out q e).imp id fun e => by simp at e; omega))⟩)
    case rest =>
      clear T hL0 hL1 hLf lL hn0 x0 x1 x2 x3 hnz hnl f3 g0 env
      obtain ⟨L1, qL11, ⟨qL12, qL13⟩, hT⟩ := hcut
      have T := Lib.hid hT
      clear hT
      have B3 := Lib.hid (show L1.is.length ≤ 101 by rw [qL11]; have := HB.out.2.2.1; simp; omega)
      have Q1 := Lib.hid (And.intro qL11 (And.intro qL12 qL13))
      clear qL11 qL12 qL13
      have hL0 := T.out.hL.c0
      have hL1 := T.out.hL.c1
      have hLf := T.out.hL.fr
      have lL := T.out.hL.lt (.inl rfl)
      rw [T.out.fL.p] at hL0 hL1 hLf lL
      have hR0 := T.out.hR.c0
      have hR1 := T.out.hR.c1
      have hRf := T.out.hR.fr
      have lR := T.out.hR.lt (.inl rfl)
      rw [T.out.fR.p] at hR0 hR1 hRf lR
      obtain ⟨A8, c8, e8, hr8, hn8, _⟩ := rdv_own T.out.hR.own
      rw [e8] at hR0
      have HR8 := Lib.hid (And.intro hr8 hn8)
      clear hr8 hn8 e8
      go_upto_region 2 with fail
      go_cut [] from 37 to 48 (fun wx => ∃ X : Nd, X.is = L1.is ++ R0.is ∧ (X.ps = L1.ps ∧ X.p = L1.p) ∧ Tri w wx n0 L0 R0 n0 X R0)
      case first =>
        go_region_law (first | (refine step_append_rowg elemIx (by simp [Region.wanted]) (.tmp 41) (.tmp 45) rfl 0 L1.v L1.is.length (rowV Ix.vals L1.is) (by simp [Act.eval]) T.out.hL.own A8 R0.is.length c8 (rowV Ix.vals R0.is) (by simp [Act.eval]) HR8.out.1 (ix_one _) HR8.out.2 (by have := And.intro B3.out HB.out.2.2.2.2.1; unfold maxLen; omega) (by have := And.intro B3.out HB.out.2.2.2.2.1; omega) (Nat.zero_le _) ?_; intro v' w' ho hg hq; obtain ⟨A9, c9, rfl⟩ := own_form ho; obtain ⟨k8, k9⟩ := T.out.hL.after0 (grown_drew hg); rw [T.out.fL.p] at k8 k9; have HO := Lib.hid ho; have HG := Lib.hid (grown_drew hg); have HQ := Lib.hid hq; clear ho hg hq))
        all_goals (go_wp2_with fail; go_meet; exact ⟨L1.put0 _ (L1.is ++ R0.is), rfl, ⟨rfl, rfl⟩, T.out.moveL (T.out.hL.put0 T.out.fL.p (m := L1.is.length + R0.is.length) (is := L1.is ++ R0.is) (by simp) (by rw [rowV_append]; exact HO.out) HG.out (fun q e => HQ.out q e))⟩)
      case rest =>
        clear T hL0 hL1 hLf lL hR0 hR1 hRf lR
        obtain ⟨L2, qL21, ⟨qL22, qL23⟩, hT⟩ := hcut
        have T := Lib.hid hT
        clear hT
        have Q2 := Lib.hid (And.intro qL21 (And.intro qL22 qL23))
        clear qL21 qL22 qL23
        have B4 := Lib.hid (show L2.ps.length ≤ 100 by rw [Q2.out.2.1, Q1.out.2.1]; exact HB.out.2.2.2.1)
        have hL0 := T.out.hL.c0
        have hL1 := T.out.hL.c1
        have hLf := T.out.hL.fr
        have lL := T.out.hL.lt (.inl rfl)
        rw [T.out.fL.p] at hL0 hL1 hLf lL
        have hR0 := T.out.hR.c0
        have hR1 := T.out.hR.c1
        have hRf := T.out.hR.fr
        have lR := T.out.hR.lt (.inl rfl)
        rw [T.out.fR.p] at hR0 hR1 hRf lR
        obtain ⟨A8, c8, e8, hr8, hn8, _⟩ := rdv_own T.out.hR.kids
        rw [e8] at hR1
        have HR8 := Lib.hid (And.intro hr8 hn8)
        clear hr8 hn8 e8
        go_upto_region 3 with fail
        go_cut [] from 49 to 60 (fun wx => ∃ X : Nd, X.ps = L2.ps ++ R0.ps ∧ (X.is = L2.is ∧ X.p = L2.p) ∧ Tri w wx n0 L0 R0 n0 X R0)
        case first =>
          go_region_law (first | (refine step_append_rowg elemPt (by simp [Region.wanted]) (.tmp 53) (.tmp 57) rfl 0 L2.u L2.ps.length (rowV PV L2.ps) (by simp [Act.eval]) T.out.hL.kids A8 R0.ps.length c8 (rowV PV R0.ps) (by simp [Act.eval]) HR8.out.1 (pt_one _) HR8.out.2 (by have := And.intro B4.out HB.out.2.2.2.2.2; unfold maxLen; omega) (by have := And.intro B4.out HB.out.2.2.2.2.2; omega) (Nat.zero_le _) ?_; intro v' w' ho hg hq; obtain ⟨A9, c9, rfl⟩ := own_form ho; obtain ⟨k8, k9⟩ := T.out.hL.after1 (grown_drew hg); rw [T.out.fL.p] at k8 k9; have HO := Lib.hid ho; have HG := Lib.hid (grown_drew hg); have HQ := Lib.hid hq; clear ho hg hq))
          all_goals (go_wp2_with fail; go_meet; exact ⟨L2.put1 _ (L2.ps ++ R0.ps), rfl, ⟨rfl, rfl⟩, T.out.moveL (T.out.hL.put1 T.out.fL.p (m := L2.ps.length + R0.ps.length) (ps := L2.ps ++ R0.ps) (by simp) (by rw [rowV_append]; exact HO.out) HG.out (fun q e => HQ.out q e))⟩)
        case rest =>
          clear T hL0 hL1 hLf lL hR0 hR1 hRf lR
          obtain ⟨L3, qL31, ⟨qL32, qL33⟩, hT⟩ := hcut
          have T := Lib.hid hT
          clear hT
          have Q3 := Lib.hid (And.intro qL31 (And.intro qL32 qL33))
          clear qL31 qL32 qL33
          have hn0 := T.out.hn.c0
          have hn1 := T.out.hn.c1
          have hnf := T.out.hn.fr
          have ln := T.out.hn.lt (.inl rfl)
          rw [T.out.fn.p] at hn0 hn1 hnf ln
          obtain ⟨g7, c7, e7⟩ := own_has T.out.hn.own (by have := HI.out.1; omega)
          rw [e7] at hn0
          have ho7 := T.out.hn.own
          rw [e7] at ho7
          have HD := Lib.hid (del_atI ho7 rfl (i) HI.out.1 HJ.out.1 (by have := HB.out.1; omega))
          have HE7 := Lib.hid e7
          clear ho7 e7
          go_upto_region 4 with fail
          go_cut [] from 61 to 71 (fun wx => ∃ X : Nd, X.is = n0.is.eraseIdx (i) ∧ (X.ps = n0.ps ∧ X.p = n0.p) ∧ Tri w wx n0 L0 R0 X L3 R0)
          case first =>
            go_wp2_with fail
            refine Calls.mono HD.out ?_
            rintro e w' ⟨rfl, ho, hg⟩
            have hg : wc.grownBy w' n0.v.ownBlock := by rw [HE7.out]; exact hg
            obtain ⟨k8, k9⟩ := T.out.hn.after0 hg
            rw [T.out.fn.p] at k8 k9
            have HO := Lib.hid ho
            have HG := Lib.hid hg
            clear ho hg
            go_wp2_with fail
            go_meet
            exact ⟨n0.put0 _ (n0.is.eraseIdx i), rfl, ⟨rfl, rfl⟩, T.out.moveN (T.out.hn.put0 T.out.fn.p (List.length_eraseIdx_of_lt HI.out.1) HO.out HG.out (fun q e => .inl (by rw [HE7.out]; exact e)))⟩
          case rest =>
            clear T hn0 hn1 hnf ln
            obtain ⟨n1, qn11, ⟨qn12, qn13⟩, hT⟩ := hcut
            have T := Lib.hid hT
            clear hT
            have Q4 := Lib.hid (And.intro qn11 (And.intro qn12 qn13))
            clear qn11 qn12 qn13
            have HI2 := Lib.hid (show j < n1.ps.length by rw [Q4.out.2.1]; exact HI.out.2)
            have B2 := Lib.hid (show n1.ps.length ≤ 100 by rw [Q4.out.2.1]; exact HB.out.2.1)
            have hn0 := T.out.hn.c0
            have hn1 := T.out.hn.c1
            have hnf := T.out.hn.fr
            have ln := T.out.hn.lt (.inl rfl)
            rw [T.out.fn.p] at hn0 hn1 hnf ln
            obtain ⟨g7, c7, e7⟩ := own_has T.out.hn.kids (by have := HI2.out; omega)
            rw [e7] at hn1
            have ho7 := T.out.hn.kids
            rw [e7] at ho7
            have HD := Lib.hid (del_atN ho7 rfl (j) HI2.out HJ.out.2 (by have := B2.out; omega))
            have HE7 := Lib.hid e7
            clear ho7 e7
            go_upto_region 5 with fail
            go_wp2_with fail
            refine Calls.mono HD.out ?_
            rintro e w' ⟨rfl, ho, hg⟩
            have hg : wc.grownBy w' n1.u.ownBlock := by rw [HE7.out]; exact hg
            obtain ⟨k8, k9⟩ := T.out.hn.after1 hg
            rw [T.out.fn.p] at k8 k9
            have HO := Lib.hid ho
            have HG := Lib.hid hg
            clear ho hg
            go_wp2_with fail
            refine bodyPost_end (v := .tuple #[]) (by simp [results, Try.results130, go_sem]) rfl ⟨n1.put1 _ (n1.ps.eraseIdx j), L3, rfl, ?_, ?_, ?_, ?_, T.out.moveN (T.out.hn.put1 T.out.fn.p (List.length_eraseIdx_of_lt HI2.out) HO.out HG.out (fun q e => .inl (by rw [HE7.out]; exact e)))⟩
            · show n1.is = _
              rw [Q4.out.1]
            · show n1.ps.eraseIdx j = _
              rw [Q4.out.2.1]
            · rw [Q3.out.2.1, Q2.out.1, Q1.out.1]; simp
            · rw [Q3.out.1, Q2.out.2.1, Q1.out.2.1]
end Go.Proofs.Ytejpjbmbcdgomaa
