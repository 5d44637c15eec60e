/- TFr: put together. -/
import Derived.Test.YtejpjbmbcdgomaaPa12
/- The first of the right one handed on to the left one. -/
namespace Go.Proofs.Ytejpjbmbcdgomaa
set_option maxRecDepth 100000
open Go.RowKit

set_option maxHeartbeats 4000000 in
theorem fromright_any {w : World} {n0 L0 R0 : Nd} (T0 : Tri w w n0 L0 R0 n0 L0 R0) (i j e : Nat) {x y : Ix} (hj : j = i + 1) (hx : n0.is[i]? = some x) (hl : n0.ps[i]? = some L0.p) (hr : n0.ps[j]? = some R0.p)
    (he : R0.is.length = e + 1) (hy : R0.is[0]? = some y) (hleaf : R0.ps = [] ∨ R0.ps.length = e + 2)
    (b1 : n0.is.length ≤ 100) (b2 : n0.ps.length ≤ 100) (b3 : L0.is.length ≤ 100) (b4 : L0.ps.length ≤ 100) (b5 : R0.is.length ≤ 100) (b6 : R0.ps.length ≤ 100) :
    Calls Try.prog 129 #[.pointer (some ⟨n0.p, 0, none⟩), .int .i64 (i : Int)] w fun e w' => ∃ n L R, e = .returned (.tuple #[]) ∧ n.is = n0.is.set i y ∧ n.ps = n0.ps ∧ L.is = L0.is ++ [x] ∧ L.ps = L0.ps ++ R0.ps.head?.toList ∧ R.is = R0.is.tail ∧ R.ps = R0.ps.tail ∧ Tri w w' n0 L0 R0 n L R := by
  have hi : i < n0.is.length := (List.getElem?_eq_some_iff.1 hx).1
  have HE := Lib.hid (And.intro he hj)
  have HLT := Lib.hid (show 0 < R0.is.length from by omega)
  have HI := Lib.hid hi
  have HX := Lib.hid hx
  have HY := Lib.hid hy
  have HLF := Lib.hid hleaf
  have f6 : IntKind.i64.wrap ((i : Int) + 1) = (j : Int) := by rw [IntKind.wrap_i64]; omega
  have HB := Lib.hid (And.intro b1 (And.intro b2 (And.intro b3 (And.intro b4 (And.intro b5 b6)))))
  have T := Lib.hid T0
  obtain ⟨gu, cu, enu, f2, hul, hn1, k0⟩ := T.out.hn.kd hl
  obtain ⟨gu2, cu2, enu2, f1, _, _, k1⟩ := T.out.hn.kd hr
  obtain rfl := same_u enu enu2
  clear enu enu2 hx hy hleaf hl hr hi b1 b2 b3 b4 b5 b6 he hj T0
  go_enter Try.func129, Try.ntmps129
  go_upto_region 0 with fail
  go_cut [4, 5] from 6 to 20 (fun a b wx => a = .pointer (some ⟨L0.p, 0, none⟩) ∧ b = .pointer (some ⟨R0.p, 0, none⟩) ∧ Tri w wx n0 L0 R0 n0 L0 R0)
  case first => go_region_law (fail); all_goals (go_wp2_with fail; go_meet; exact ⟨rfl, rfl, T.out.drew⟩)
  case rest =>
    clear T k0 k1 hn1 f1 f2 hul
    obtain ⟨rfl, rfl, hT⟩ := hcut
    have T := Lib.hid hT
    clear hT
    have hL0 := T.out.hL.c0
    have hL1 := T.out.hL.c1
    have hLf := T.out.hL.fr
    have lL := T.out.hL.lt (.inl rfl)
    rw [T.out.fL.p] at hL0 hL1 hLf lL

    obtain ⟨gn, cn, env, f3, hnl, hn0, x0, x1, x2, x3, hnz⟩ := T.out.hn.it HX.out
    rw [T.out.fn.p] at hn0
    have g0 : ∀ o, (wc.drew.alloc o).cell? ⟨L0.p, 0, none⟩ = some L0.v := fun o => ((Below.refl _ wc).alloc (Nat.le_refl _) o).cell (p := ⟨L0.p, 0, none⟩) lL ▸ hL0
    go_upto_region 1 with fail
    go_cut [] from 21 to 36 (fun wx => ∃ X : Nd, X.is = L0.is ++ [x] ∧ (X.ps = L0.ps ∧ X.p = L0.p) ∧ Tri w wx n0 L0 R0 n0 X R0)
    case first =>
      go_region_law (first | (refine step_append_rowg elemIx (by simp [Region.wanted]) (.tmp 25) (.tmp 33) rfl 0 L0.v L0.is.length (rowV Ix.vals L0.is) (by simp [Act.eval]) (T.out.hL.below ((Below.refl _ wc).alloc (Nat.le_refl _) _)).own (some ⟨wc.heap.size, 0, none⟩) 1 1 (x.vals) (by simp [Act.eval]) (rdv_freshI wc.drew x 166) (ix1 x) (fun h => by cases h) (by have := HB.out.2.2.1; unfold maxLen; omega) (by have := HB.out.2.2.1; omega) (Nat.zero_le _) ?_; intro v' w' ho hg hq; obtain ⟨A9, c9, rfl⟩ := own_form ho; obtain ⟨k8, k9⟩ := T.out.hL.after0 (grown_drew (grown_alloc hg)); rw [T.out.fL.p] at k8 k9; have HO := Lib.hid ho; have HG := Lib.hid (grown_drew (grown_alloc hg)); have HQ := Lib.hid hq; clear ho hg hq))
      all_goals (go_wp2_with fail; go_meet; exact ⟨L0.put0 _ (L0.is ++ [x]), rfl, ⟨rfl, rfl⟩, T.out.moveL (T.out.hL.put0 T.out.fL.p (m := L0.is.length + 1) (is := L0.is ++ [x]) (by simp) (by rw [rowV_append]; simpa [rowV] using HO.out) HG.out (fun q e => (HQ.out q e).imp id fun e => by simp at e; omega))⟩)
    case rest =>
      clear T g0 hn0 x0 x1 x2 x3 hnz hnl f3 env
      clear hL0 hL1 hLf lL

      obtain ⟨L1, qL11, ⟨qL12, qL13⟩, hT⟩ := hcut
      have T := Lib.hid hT
      clear hT
      have QL1 := Lib.hid (And.intro qL11 (And.intro qL12 qL13))
      clear qL11 qL12 qL13

      obtain ⟨gn, cn, env, f3, hnl, hn0, _, _, _, _, hnz⟩ := T.out.hn.it HX.out
      rw [T.out.fn.p] at hn0
      obtain ⟨gL, cL, evL, f4, hLl, hL0, x0, x1, x2, x3, _⟩ := T.out.hR.it HY.out
      rw [T.out.fR.p] at hL0
      simp only [Nat.zero_mul, Nat.zero_add] at x0 x1 x2 x3
      have f5 : 0 < R0.is.length := HLT.out
      have HV := Lib.hid env
      clear env evL
      go_upto_region 2 with fail
      go_cut [] from 37 to 48 (fun wx => ∃ X : Nd, X.is = n0.is.set i y ∧ (X.ps = n0.ps ∧ X.p = n0.p) ∧ Tri w wx n0 L0 R0 X L1 R0)
      case first =>
        go_region_law (fail)
        all_goals (go_wp2_with fail; go_meet; exact ⟨n0.put0 n0.v (n0.is.set i y), rfl, ⟨rfl, rfl⟩, T.out.drew.moveN (T.out.drew.hn.set HI.out HV.out y rfl)⟩)
      case rest =>
        clear T HV hn0 hnz hnl f3 f4 f5 hLl hL0 x0 x1 x2 x3

        obtain ⟨n1, qn11, ⟨qn12, qn13⟩, hT⟩ := hcut
        have T := Lib.hid hT
        clear hT
        have Qn1 := Lib.hid (And.intro qn11 (And.intro qn12 qn13))
        clear qn11 qn12 qn13

        have hR0 := T.out.hR.c0
        have hR1 := T.out.hR.c1
        have hRf := T.out.hR.fr
        have lR := T.out.hR.lt (.inl rfl)
        rw [T.out.fR.p] at hR0 hR1 hRf lR

        obtain ⟨g7, c7, e7⟩ := own_has T.out.hR.own (by have := (HLT.out); omega)
        rw [e7] at hR0
        have ho7 := T.out.hR.own
        rw [e7] at ho7
        have HD := Lib.hid (del_firstI ho7 rfl  (HLT.out)  (by have := HB.out.2.2.2.2.1; omega))
        have HE7 := Lib.hid e7
        clear ho7 e7
        go_upto_region 3 with fail
        go_cut [] from 49 to 56 (fun wx => ∃ X : Nd, X.is = R0.is.eraseIdx 0 ∧ (X.ps = R0.ps ∧ X.p = R0.p) ∧ Tri w wx n0 L0 R0 n1 L1 X)
        case first =>
          go_wp2_with fail
          refine Calls.mono HD.out ?_
          rintro e w' ⟨rfl, ho, hg⟩
          have hg : wc.grownBy w' R0.v.ownBlock := by rw [HE7.out]; exact hg
          obtain ⟨k8, k9⟩ := T.out.hR.after0 hg
          rw [T.out.fR.p] at k8 k9
          have HO := Lib.hid ho
          have HG := Lib.hid hg
          clear ho hg
          go_wp2_with fail
          go_meet
          exact ⟨R0.put0 _ (R0.is.eraseIdx 0), rfl, ⟨rfl, rfl⟩, T.out.moveR (T.out.hR.put0 T.out.fR.p (List.length_eraseIdx_of_lt (HLT.out)) HO.out HG.out (fun q e => .inl (by rw [HE7.out]; exact e)))⟩
        case rest =>
          clear T HD HE7
          clear hR0 hR1 hRf lR

          obtain ⟨R1, qR11, ⟨qR12, qR13⟩, hT⟩ := hcut
          have T := Lib.hid hT
          clear hT
          have QR1 := Lib.hid (And.intro qR11 (And.intro qR12 qR13))
          clear qR11 qR12 qR13

          have hL0 := T.out.hL.c0
          have hL1 := T.out.hL.c1
          have hLf := T.out.hL.fr
          have lL := T.out.hL.lt (.inl rfl)
          rw [T.out.fL.p] at hL0 hL1 hLf lL

          have hR0 := T.out.hR.c0
          have hR1 := T.out.hR.c1
          have hRf := T.out.hR.fr
          have lR := T.out.hR.lt (.inl rfl)
          rw [T.out.fR.p] at hR0 hR1 hRf lR

          have HLE := Lib.hid (leaf_any T.out.hR)
          rw [T.out.fR.p] at HLE
          have HYE := Lib.hid (show R0.is.eraseIdx 0 = R0.is.tail from by cases R0.is <;> rfl)
          rcases HLF.out with hl0 | hl0
          · have HL0 := Lib.hid hl0
            have t0 : ((R1.ps.length : Int) == 0) = true := by rw [QR1.out.2.1, hl0]; rfl
            clear hl0
            go_wp2_with fail
            refine Calls.mono HLE.out ?_
            rintro e3 w3 ⟨rfl, rfl⟩
            go_wp2_with fail
            refine bodyPost_end (v := .tuple #[]) (by simp [results, Try.results129, go_sem]) rfl ⟨n1, L1, R1, rfl, Qn1.out.1, Qn1.out.2.1, QL1.out.1, ?_, ?_, ?_, T.out⟩
            · rw [QL1.out.2.1, HL0.out]; simp
            · rw [QR1.out.1, HYE.out]
            · rw [QR1.out.2.1, HL0.out]; rfl
          · have HL0 := Lib.hid hl0
            obtain ⟨z, hz⟩ : ∃ z, R0.ps[0]? = some z := ⟨_, List.getElem?_eq_getElem (by rw [hl0]; omega)⟩
            have HZ := Lib.hid (And.intro hz (show R1.ps[0]? = some z by rw [QR1.out.2.1]; exact hz))
            have t0 : ((R1.ps.length : Int) == 0) = false := by rw [QR1.out.2.1, hl0]; simp; omega
            have HPE := Lib.hid (show R0.ps.eraseIdx 0 = R0.ps.tail from by cases R0.ps <;> rfl)
            have HZL := Lib.hid (show R0.ps.head? = some z from by rw [List.head?_eq_getElem?]; exact hz)
            have HLT1 := Lib.hid (show 0 < R1.ps.length from by rw [QR1.out.2.1, hl0]; omega)
            have HLB1 := Lib.hid (show R1.ps.length ≤ 100 from by rw [QR1.out.2.1]; exact HB.out.2.2.2.2.2)
            have HLB2 := Lib.hid (show L1.ps.length ≤ 100 from by rw [QL1.out.2.1]; exact HB.out.2.2.2.1)
            clear hl0 hz
            go_wp2_with fail
            refine Calls.mono HLE.out ?_
            rintro e3 w3 ⟨rfl, rfl⟩
            clear hR0 hR1 hRf lR
            obtain ⟨gk, ck, evk, f4, hLl, hR1, k3⟩ := T.out.hR.kd HZ.out.2
            rw [T.out.fR.p] at hR1
            have f5 : 0 < R1.ps.length := HLT1.out
            clear evk
            have g0 : ∀ o, (wc.drew.alloc o).cell? ⟨L0.p, 1, none⟩ = some L1.u := fun o => ((Below.refl _ wc).alloc (Nat.le_refl _) o).cell (p := ⟨L0.p, 1, none⟩) lL ▸ hL1
            go_upto_region 5 with fail
            go_cut [] from 60 to 74 (fun wx => ∃ X : Nd, X.ps = L1.ps ++ [z] ∧ (X.is = L1.is ∧ X.p = L1.p) ∧ Tri w wx n0 L0 R0 n1 X R1)
            case first =>
              go_region_law (first | (refine step_append_rowg elemPt (by simp [Region.wanted]) (.tmp 64) (.tmp 71) rfl 0 L1.u L1.ps.length (rowV PV L1.ps) (by simp [Act.eval]) (T.out.hL.below ((Below.refl _ wc).alloc (Nat.le_refl _) _)).kids (some ⟨wc.heap.size, 0, none⟩) 1 1 (PV z) (by simp [Act.eval]) (rdv_freshN wc.drew z 151) (pt1 z) (fun h => by cases h) (by have := HLB2.out; unfold maxLen; omega) (by have := HLB2.out; omega) (Nat.zero_le _) ?_; intro v' w' ho hg hq; obtain ⟨A9, c9, rfl⟩ := own_form ho; obtain ⟨k8, k9⟩ := T.out.hL.after1 (grown_drew (grown_alloc hg)); rw [T.out.fL.p] at k8 k9; have HO := Lib.hid ho; have HG := Lib.hid (grown_drew (grown_alloc hg)); have HQ := Lib.hid hq; clear ho hg hq))
              all_goals (go_wp2_with fail; go_meet; exact ⟨L1.put1 _ (L1.ps ++ [z]), rfl, ⟨rfl, rfl⟩, T.out.moveL (T.out.hL.put1 T.out.fL.p (m := L1.ps.length + 1) (ps := L1.ps ++ [z]) (by simp) (by rw [rowV_append]; simpa [rowV] using HO.out) HG.out (fun q e => (HQ.out q e).imp id fun e => by simp at e; omega))⟩)
            case rest =>
              clear T HLE g0 hR1 k3 f4 f5 hLl
              clear hL0 hL1 hLf lL

              obtain ⟨L2, qL21, ⟨qL22, qL23⟩, hT⟩ := hcut
              have T := Lib.hid hT
              clear hT
              have QL2 := Lib.hid (And.intro qL21 (And.intro qL22 qL23))
              clear qL21 qL22 qL23

              have hR0 := T.out.hR.c0
              have hR1 := T.out.hR.c1
              have hRf := T.out.hR.fr
              have lR := T.out.hR.lt (.inl rfl)
              rw [T.out.fR.p] at hR0 hR1 hRf lR

              obtain ⟨g7, c7, e7⟩ := own_has T.out.hR.kids (by have := (HLT1.out); omega)
              rw [e7] at hR1
              have ho7 := T.out.hR.kids
              rw [e7] at ho7
              have HD := Lib.hid (del_firstN ho7 rfl  (HLT1.out)  (by have := HLB1.out; omega))
              have HE7 := Lib.hid e7
              clear ho7 e7
              go_upto_region 6 with fail

              go_wp2_with fail
              refine Calls.mono HD.out ?_
              rintro e w' ⟨rfl, ho, hg⟩
              have hg : wc.grownBy w' R1.u.ownBlock := by rw [HE7.out]; exact hg
              obtain ⟨k8, k9⟩ := T.out.hR.after1 hg
              rw [T.out.fR.p] at k8 k9
              have HO := Lib.hid ho
              have HG := Lib.hid hg
              clear ho hg
              go_wp2_with fail
              refine bodyPost_end (v := .tuple #[]) (by simp [results, Try.results129, go_sem]) rfl ⟨n1, L2, R1.put1 _ (R1.ps.eraseIdx 0), rfl, Qn1.out.1, Qn1.out.2.1, ?_, ?_, ?_, ?_, T.out.moveR (T.out.hR.put1 T.out.fR.p (List.length_eraseIdx_of_lt (HLT1.out)) HO.out HG.out (fun q e => .inl (by rw [HE7.out]; exact e)))⟩
              · rw [QL2.out.2.1, QL1.out.1]
              · rw [QL2.out.1, QL1.out.2.1, HZL.out]; rfl
              · show R1.is = _
                rw [QR1.out.1, HYE.out]
              · show R1.ps.eraseIdx 0 = _
                rw [QR1.out.2.1]
                exact HPE.out
end Go.Proofs.Ytejpjbmbcdgomaa
