/- TFl, TFr: put together. -/
import Derived.Test.YtejpjbmbcdgomaaPe05
/- The last of the left one handed on to the right one. -/
namespace Go.Proofs.Ytejpjbmbcdgomaa
set_option maxRecDepth 100000
open Go.RowKit

/-- What goes over: the last one below, where there is one. -/
theorem del_firstI {w : World} {B g n c : Nat} {l : List Ix} (h : w.ownsRow B 166 4 (.slice (some ⟨g, 0, none⟩) n c) n (rowV Ix.vals l)) (hl : l.length = n) (hi : 0 < n) (hn : n ≤ 1000000) :
    Calls Try.prog 118 #[.slice (some ⟨g, 0, none⟩) n c, .int .i64 0, .int .i64 1] w fun e w' => e = .returned (.slice (some ⟨g, 0, none⟩) (n - 1) c) ∧ w'.ownsRow B 166 4 (.slice (some ⟨g, 0, none⟩) (n - 1) c) (n - 1) (rowV Ix.vals (l.eraseIdx 0)) ∧ w.grownBy w' (some g) :=
  del_atI h hl 0 hi (j := 1) rfl hn
theorem del_firstN {w : World} {B g n c : Nat} {l : List Nat} (h : w.ownsRow B 151 1 (.slice (some ⟨g, 0, none⟩) n c) n (rowV PV l)) (hl : l.length = n) (hi : 0 < n) (hn : n ≤ 1000000) :
    Calls Try.prog 136 #[.slice (some ⟨g, 0, none⟩) n c, .int .i64 0, .int .i64 1] w fun e w' => e = .returned (.slice (some ⟨g, 0, none⟩) (n - 1) c) ∧ w'.ownsRow B 151 1 (.slice (some ⟨g, 0, none⟩) (n - 1) c) (n - 1) (rowV PV (l.eraseIdx 0)) ∧ w.grownBy w' (some g) :=
  del_atN h hl 0 hi (j := 1) rfl hn
theorem insert_headI {w : World} {v : Value} {n : Nat} {l : List Ix} (h : w.ownsRow 0 166 4 v n (rowV Ix.vals l)) (hl : l.length = n) (hn : n ≤ 100000) (x : Ix) (T : TypeId) :
    Calls Try.prog 123 #[v, .int .i64 0, .slice (some ⟨w.heap.size, 0, none⟩) 1 1] (w.alloc (.cells #[.int .i64 x.c.v, .int .i64 x.c.s, .bool x.c.dead, .int .i64 x.k] T)) fun e w' => ∃ v', e = .returned v' ∧ w'.ownsRow 0 166 4 v' (n + 1) (rowV Ix.vals (x :: l)) ∧ w.grownBy w' v.ownBlock ∧ ∀ q, v'.ownBlock = some q → v.ownBlock = some q ∨ w.heap.size ≤ q := by
  have h := insert_newI h hl 0 (Nat.zero_le _) hn x T
  rw [List.take_zero, List.drop_zero, List.nil_append] at h
  exact h
theorem insert_headN {w : World} {v : Value} {n : Nat} {l : List Nat} (h : w.ownsRow 0 151 1 v n (rowV PV l)) (hl : l.length = n) (hn : n ≤ 100000) (x : Nat) (T : TypeId) :
    Calls Try.prog 125 #[v, .int .i64 0, .slice (some ⟨w.heap.size, 0, none⟩) 1 1] (w.alloc (.cells #[.pointer (some ⟨x, 0, none⟩)] T)) fun e w' => ∃ v', e = .returned v' ∧ w'.ownsRow 0 151 1 v' (n + 1) (rowV PV (x :: l)) ∧ w.grownBy w' v.ownBlock ∧ ∀ q, v'.ownBlock = some q → v.ownBlock = some q ∨ w.heap.size ≤ q := by
  have h := insert_newN h hl 0 (Nat.zero_le _) hn x T
  rw [List.take_zero, List.drop_zero, List.nil_append] at h
  exact h
set_option maxHeartbeats 4000000 in
theorem fromleft_any {w : World} {n0 L0 R0 : Nd} (T0 : Tri w w n0 L0 R0 n0 L0 R0) (i e j : Nat) {x y : Ix} (hj : j = i + 1) (hx : n0.is[i]? = some x) (hl : n0.ps[i]? = some L0.p) (hr : n0.ps[j]? = some R0.p)
    (he : L0.is.length = e + 1) (hy : L0.is[e]? = some y) (hleaf : L0.ps = [] ∨ L0.ps.length = e + 2)
    (b1 : n0.is.length ≤ 100) (b2 : n0.ps.length ≤ 100) (b3 : L0.is.length ≤ 100) (b4 : L0.ps.length ≤ 100) (b5 : R0.is.length ≤ 100) (b6 : R0.ps.length ≤ 100) :
    Calls Try.prog 128 #[.pointer (some ⟨n0.p, 0, none⟩), .int .i64 (j : Int)] w fun e w' => ∃ n L R, e = .returned (.tuple #[]) ∧ n.is = n0.is.set i y ∧ n.ps = n0.ps ∧ L.is = L0.is.dropLast ∧ L.ps = L0.ps.dropLast ∧ R.is = x :: R0.is ∧ R.ps = L0.ps.getLast?.toList ++ R0.ps ∧ Tri w w' n0 L0 R0 n L R := by
  have hi : i < n0.is.length := (List.getElem?_eq_some_iff.1 hx).1
  have hye : L0.is.dropLast = L0.is.eraseIdx e := by rw [List.eraseIdx_eq_dropLast (by omega)]
  obtain ⟨e1, he1⟩ : ∃ e1, e1 = e + 1 := ⟨_, rfl⟩
  obtain ⟨e2, he2⟩ : ∃ e2, e2 = e + 2 := ⟨_, rfl⟩
  have HE := Lib.hid (And.intro he1 (And.intro he2 (And.intro he hj)))
  have HLT := Lib.hid (show e < L0.is.length from by omega)
  have HI := Lib.hid hi
  have he9 : e ≤ 100 := by omega
  have HX := Lib.hid hx
  have HY := Lib.hid hy
  have HYE := Lib.hid hye
  have HLF := Lib.hid hleaf
  have f6 : IntKind.i64.wrap ((j : Int) - 1) = (i : Int) := by rw [IntKind.wrap_i64]; omega
  have f7 : IntKind.i64.wrap ((e : Int) + 1) = (e1 : Int) := by rw [IntKind.wrap_i64]; omega
  have f8 : IntKind.i64.wrap ((e : Int) + 2) = (e2 : Int) := by rw [IntKind.wrap_i64]; omega
  have HB := Lib.hid (And.intro b1 (And.intro b2 (And.intro b3 (And.intro b4 (And.intro b5 b6)))))
  have T := Lib.hid T0
  obtain ⟨gu, cu, enu, f2, hul, hn1, k0⟩ := T.out.hn.kd hl
  obtain ⟨gu2, cu2, enu2, f1, _, _, k1⟩ := T.out.hn.kd hr
  obtain rfl := same_u enu enu2
  clear enu enu2 hx hy hye hleaf hl hr hi b1 b2 b3 b4 b5 b6 he he1 he2 hj T0
  go_enter Try.func128, Try.ntmps128
  go_upto_region 0 with fail
  go_cut [4, 5] from 7 to 21 (fun a b wx => a = .pointer (some ⟨L0.p, 0, none⟩) ∧ b = .pointer (some ⟨R0.p, 0, none⟩) ∧ Tri w wx n0 L0 R0 n0 L0 R0)
  case first => go_region_law (fail); all_goals (go_wp2_with fail; go_meet; exact ⟨rfl, rfl, T.out.drew⟩)
  case rest =>
    clear T k0 k1 hn1 f1 f2 hul
    obtain ⟨rfl, rfl, hT⟩ := hcut
    have T := Lib.hid hT
    clear hT
    have hL0 := T.out.hL.c0
    have hL1 := T.out.hL.c1
    have hLf := T.out.hL.fr
    have lL := T.out.hL.lt (.inl rfl)
    rw [T.out.fL.p] at hL0 hL1 hLf lL

    obtain ⟨gL, cL, evL, _, _, hL0', _, _, _, _, _⟩ := T.out.hL.it HY.out
    rw [T.out.fL.p, HE.out.2.2.1] at hL0'
    clear evL hL0
    go_upto_region 1 with fail
    go_cut [6] from 22 to 27 (fun a wx => a = .int .i64 (e : Int) ∧ Tri w wx n0 L0 R0 n0 L0 R0)
    case first =>
      go_wp2_with fail
      go_meet
      exact ⟨by go_num, T.out⟩
    case rest =>
      clear T hL0' hL1 hLf lL
      obtain ⟨rfl, hT⟩ := hcut
      have T := Lib.hid hT
      clear hT

      have hR0 := T.out.hR.c0
      have hR1 := T.out.hR.c1
      have hRf := T.out.hR.fr
      have lR := T.out.hR.lt (.inl rfl)
      rw [T.out.fR.p] at hR0 hR1 hRf lR

      obtain ⟨gn, cn, env, f3, hnl, hn0, x0, x1, x2, x3, hnz⟩ := T.out.hn.it HX.out
      rw [T.out.fn.p] at hn0
      have g0 : ∀ o, (wc.drew.alloc o).cell? ⟨R0.p, 0, none⟩ = some R0.v := fun o => ((Below.refl _ wc).alloc (Nat.le_refl _) o).cell (p := ⟨R0.p, 0, none⟩) lR ▸ hR0
      have HC := Lib.hid (insert_headI (w := wc.drew) T.out.drew.hR.own rfl (by have := HB.out.2.2.2.2.1; omega) x 166)
      go_upto_region 2 with fail
      go_cut [] from 28 to 44 (fun wx => ∃ X : Nd, X.is = x :: R0.is ∧ (X.ps = R0.ps ∧ X.p = R0.p) ∧ Tri w wx n0 L0 R0 n0 L0 X)
      case first =>
        go_region_law (go_simp; go_at_call 123; refine Calls.mono HC.out ?_; rintro e8 w8 ⟨v8, rfl, ho, hg, hq⟩; obtain ⟨A9, c9, rfl⟩ := own_form ho; obtain ⟨k8, k9⟩ := T.out.hR.after0 (grown_drew hg); rw [T.out.fR.p] at k8 k9; have HO := Lib.hid ho; have HG := Lib.hid (grown_drew hg); have HQ := Lib.hid hq; clear ho hg hq)
        all_goals (go_wp2_with fail; go_meet; exact ⟨R0.put0 _ (x :: R0.is), rfl, ⟨rfl, rfl⟩, T.out.moveR (T.out.hR.put0 T.out.fR.p (m := R0.is.length + 1) (is := x :: R0.is) rfl HO.out HG.out (fun q e => HQ.out q e))⟩)
      case rest =>
        clear T HC g0 hn0 x0 x1 x2 x3 hnz hnl f3 env
        clear hR0 hR1 hRf lR

        obtain ⟨R1, qR11, ⟨qR12, qR13⟩, hT⟩ := hcut
        have T := Lib.hid hT
        clear hT
        have QR1 := Lib.hid (And.intro qR11 (And.intro qR12 qR13))
        clear qR11 qR12 qR13

        obtain ⟨gn, cn, env, f3, hnl, hn0, _, _, _, _, hnz⟩ := T.out.hn.it HX.out
        rw [T.out.fn.p] at hn0
        obtain ⟨gL, cL, evL, f4, hLl, hL0, x0, x1, x2, x3, _⟩ := T.out.hL.it HY.out
        rw [T.out.fL.p] at hL0
        have HV := Lib.hid env
        clear env evL
        go_upto_region 3 with fail
        go_cut [] from 45 to 58 (fun wx => ∃ X : Nd, X.is = n0.is.set i y ∧ (X.ps = n0.ps ∧ X.p = n0.p) ∧ Tri w wx n0 L0 R0 X L0 R1)
        case first =>
          go_region_law (fail)
          all_goals (go_wp2_with fail; go_meet; exact ⟨n0.put0 n0.v (n0.is.set i y), rfl, ⟨rfl, rfl⟩, T.out.drew.moveN (T.out.drew.hn.set HI.out HV.out y rfl)⟩)
        case rest =>
          clear T HV hn0 hnz hnl f3 f4 hLl hL0 x0 x1 x2 x3

          obtain ⟨n1, qn11, ⟨qn12, qn13⟩, hT⟩ := hcut
          have T := Lib.hid hT
          clear hT
          have Qn1 := Lib.hid (And.intro qn11 (And.intro qn12 qn13))
          clear qn11 qn12 qn13

          have hL0 := T.out.hL.c0
          have hL1 := T.out.hL.c1
          have hLf := T.out.hL.fr
          have lL := T.out.hL.lt (.inl rfl)
          rw [T.out.fL.p] at hL0 hL1 hLf lL

          obtain ⟨g7, c7, e7⟩ := own_has T.out.hL.own (by have := (HLT.out); omega)
          rw [e7] at hL0
          have ho7 := T.out.hL.own
          rw [e7] at ho7
          have HD := Lib.hid (del_atI ho7 rfl (e) (HLT.out) (HE.out.1) (by have := HB.out.2.2.1; omega))
          have HE7 := Lib.hid e7
          clear ho7 e7
          go_upto_region 4 with fail
          go_cut [] from 59 to 72 (fun wx => ∃ X : Nd, X.is = L0.is.eraseIdx e ∧ (X.ps = L0.ps ∧ X.p = L0.p) ∧ Tri w wx n0 L0 R0 n1 X R1)
          case first =>
            go_wp2_with fail
            refine Calls.mono HD.out ?_
            rintro e w' ⟨rfl, ho, hg⟩
            have hg : wc.grownBy w' L0.v.ownBlock := by rw [HE7.out]; exact hg
            obtain ⟨k8, k9⟩ := T.out.hL.after0 hg
            rw [T.out.fL.p] at k8 k9
            have HO := Lib.hid ho
            have HG := Lib.hid hg
            clear ho hg
            go_wp2_with fail
            go_meet
            exact ⟨L0.put0 _ (L0.is.eraseIdx e), rfl, ⟨rfl, rfl⟩, T.out.moveL (T.out.hL.put0 T.out.fL.p (List.length_eraseIdx_of_lt (HLT.out)) HO.out HG.out (fun q e => .inl (by rw [HE7.out]; exact e)))⟩
          case rest =>
            clear T HD HE7
            clear hL0 hL1 hLf lL

            obtain ⟨L1, qL11, ⟨qL12, qL13⟩, hT⟩ := hcut
            have T := Lib.hid hT
            clear hT
            have QL1 := Lib.hid (And.intro qL11 (And.intro qL12 qL13))
            clear qL11 qL12 qL13

            have hL0 := T.out.hL.c0
            have hL1 := T.out.hL.c1
            have hLf := T.out.hL.fr
            have lL := T.out.hL.lt (.inl rfl)
            rw [T.out.fL.p] at hL0 hL1 hLf lL

            have hR0 := T.out.hR.c0
            have hR1 := T.out.hR.c1
            have hRf := T.out.hR.fr
            have lR := T.out.hR.lt (.inl rfl)
            rw [T.out.fR.p] at hR0 hR1 hRf lR

            have HLE := Lib.hid (leaf_any T.out.hL)
            rw [T.out.fL.p] at HLE
            rcases HLF.out with hl0 | hl0
            · have HL0 := Lib.hid hl0
              have t0 : ((L1.ps.length : Int) == 0) = true := by rw [QL1.out.2.1, hl0]; rfl
              clear hl0
              go_wp2_with fail
              refine Calls.mono HLE.out ?_
              rintro e3 w3 ⟨rfl, rfl⟩
              go_wp2_with fail
              refine bodyPost_end (v := .tuple #[]) (by simp [results, Try.results128, go_sem]) rfl ⟨n1, L1, R1, rfl, Qn1.out.1, Qn1.out.2.1, ?_, ?_, QR1.out.1, ?_, T.out⟩
              · rw [QL1.out.1, HYE.out]
              · rw [QL1.out.2.1, HL0.out]; rfl
              · rw [QR1.out.2.1, HL0.out]; rfl
            · have HL0 := Lib.hid hl0
              obtain ⟨z, hz⟩ : ∃ z, L0.ps[e1]? = some z := ⟨_, List.getElem?_eq_getElem (by rw [hl0, HE.out.1]; omega)⟩
              have HZ := Lib.hid (And.intro hz (show L1.ps[e1]? = some z by rw [QL1.out.2.1]; exact hz))
              have t0 : ((L1.ps.length : Int) == 0) = false := by rw [QL1.out.2.1, hl0]; simp; omega
              have HPE := Lib.hid (show L0.ps.eraseIdx e1 = L0.ps.dropLast from by rw [List.eraseIdx_eq_dropLast (by rw [hl0, HE.out.1])])
              have HZL := Lib.hid (show L0.ps.getLast? = some z from by rw [List.getLast?_eq_getElem?, hl0, ← hz, HE.out.1]; rfl)
              have HLT1 := Lib.hid (show e1 < L1.ps.length from by rw [QL1.out.2.1, hl0, HE.out.1]; omega)
              have HLB1 := Lib.hid (show L1.ps.length ≤ 100 from by rw [QL1.out.2.1]; exact HB.out.2.2.2.1)
              have HE1 := Lib.hid (show e2 = e1 + 1 from by rw [HE.out.1, HE.out.2.1])
              clear hl0 hz
              go_wp2_with fail
              refine Calls.mono HLE.out ?_
              rintro e3 w3 ⟨rfl, rfl⟩
              clear hL0 hL1 hLf lL
              obtain ⟨gk, ck, evk, f4, hLl, hL1, k3⟩ := T.out.hL.kd HZ.out.2
              rw [T.out.fL.p] at hL1
              clear evk
              have g0 : ∀ o, (wc.drew.alloc o).cell? ⟨R0.p, 1, none⟩ = some R1.u := fun o => ((Below.refl _ wc).alloc (Nat.le_refl _) o).cell (p := ⟨R0.p, 1, none⟩) lR ▸ hR1
              have HC := Lib.hid (insert_headN (w := wc.drew) T.out.drew.hR.kids rfl (by rw [QR1.out.2.1]; have := HB.out.2.2.2.2.2; omega) z 151)
              go_upto_region 6 with fail
              go_cut [] from 73 to 89 (fun wx => ∃ X : Nd, X.ps = z :: R1.ps ∧ (X.is = R1.is ∧ X.p = R1.p) ∧ Tri w wx n0 L0 R0 n1 L1 X)
              case first =>
                go_region_law (go_simp; go_at_call 125; refine Calls.mono HC.out ?_; rintro e8 w8 ⟨v8, rfl, ho, hg, hq⟩; obtain ⟨A9, c9, rfl⟩ := own_form ho; obtain ⟨k8, k9⟩ := T.out.hR.after1 (grown_drew hg); rw [T.out.fR.p] at k8 k9; have HO := Lib.hid ho; have HG := Lib.hid (grown_drew hg); have HQ := Lib.hid hq; clear ho hg hq)
                all_goals (go_wp2_with fail; go_meet; exact ⟨R1.put1 _ (z :: R1.ps), rfl, ⟨rfl, rfl⟩, T.out.moveR (T.out.hR.put1 T.out.fR.p (m := R1.ps.length + 1) (ps := z :: R1.ps) rfl HO.out HG.out (fun q e => HQ.out q e))⟩)
              case rest =>
                clear T HC HLE g0 hL1 k3 f4 hLl
                clear hR0 hR1 hRf lR

                obtain ⟨R2, qR21, ⟨qR22, qR23⟩, hT⟩ := hcut
                have T := Lib.hid hT
                clear hT
                have QR2 := Lib.hid (And.intro qR21 (And.intro qR22 qR23))
                clear qR21 qR22 qR23

                have hL0 := T.out.hL.c0
                have hL1 := T.out.hL.c1
                have hLf := T.out.hL.fr
                have lL := T.out.hL.lt (.inl rfl)
                rw [T.out.fL.p] at hL0 hL1 hLf lL

                obtain ⟨g7, c7, e7⟩ := own_has T.out.hL.kids (by have := (HLT1.out); omega)
                rw [e7] at hL1
                have ho7 := T.out.hL.kids
                rw [e7] at ho7
                have HD := Lib.hid (del_atN ho7 rfl (e1) (HLT1.out) (HE1.out) (by have := HLB1.out; omega))
                have HE7 := Lib.hid e7
                clear ho7 e7
                go_upto_region 7 with fail

                go_wp2_with fail
                refine Calls.mono HD.out ?_
                rintro e w' ⟨rfl, ho, hg⟩
                have hg : wc.grownBy w' L1.u.ownBlock := by rw [HE7.out]; exact hg
                obtain ⟨k8, k9⟩ := T.out.hL.after1 hg
                rw [T.out.fL.p] at k8 k9
                have HO := Lib.hid ho
                have HG := Lib.hid hg
                clear ho hg
                go_wp2_with fail
                refine bodyPost_end (v := .tuple #[]) (by simp [results, Try.results128, go_sem]) rfl ⟨n1, L1.put1 _ (L1.ps.eraseIdx e1), R2, rfl, Qn1.out.1, Qn1.out.2.1, ?_, ?_, ?_, ?_, T.out.moveL (T.out.hL.put1 T.out.fL.p (List.length_eraseIdx_of_lt (HLT1.out)) HO.out HG.out (fun q e => .inl (by rw [HE7.out]; exact e)))⟩
                · show L1.is = _
                  rw [QL1.out.1, HYE.out]
                · show L1.ps.eraseIdx e1 = _
                  rw [QL1.out.2.1]
                  exact HPE.out
                · rw [QR2.out.2.1, QR1.out.1]
                · rw [QR2.out.1, QR1.out.2.1, HZL.out]; rfl
end Go.Proofs.Ytejpjbmbcdgomaa

/- The first of the right one handed on to the left one. -/
namespace Go.Proofs.Ytejpjbmbcdgomaa
set_option maxRecDepth 100000
open Go.RowKit

set_option maxHeartbeats 4000000 in
theorem fromright_any {w : World} {n0 L0 R0 : Nd} (T0 : Tri w w n0 L0 R0 n0 L0 R0) (i j e : Nat) {x y : Ix} (hj : j = i + 1) (hx : n0.is[i]? = some x) (hl : n0.ps[i]? = some L0.p) (hr : n0.ps[j]? = some R0.p)
    (he : R0.is.length = e + 1) (hy : R0.is[0]? = some y) (hleaf : R0.ps = [] ∨ R0.ps.length = e + 2)
    (b1 : n0.is.length ≤ 100) (b2 : n0.ps.length ≤ 100) (b3 : L0.is.length ≤ 100) (b4 : L0.ps.length ≤ 100) (b5 : R0.is.length ≤ 100) (b6 : R0.ps.length ≤ 100) :
    Calls Try.prog 129 #[.pointer (some ⟨n0.p, 0, none⟩), .int .i64 (i : Int)] w fun e w' => ∃ n L R, e = .returned (.tuple #[]) ∧ n.is = n0.is.set i y ∧ n.ps = n0.ps ∧ L.is = L0.is ++ [x] ∧ L.ps = L0.ps ++ R0.ps.head?.toList ∧ R.is = R0.is.tail ∧ R.ps = R0.ps.tail ∧ Tri w w' n0 L0 R0 n L R := by
  have hi : i < n0.is.length := (List.getElem?_eq_some_iff.1 hx).1
  have HE := Lib.hid (And.intro he hj)
  have HLT := Lib.hid (show 0 < R0.is.length from by omega)
  have HI := Lib.hid hi
  have HX := Lib.hid hx
  have HY := Lib.hid hy
  have HLF := Lib.hid hleaf
  have f6 : IntKind.i64.wrap ((i : Int) + 1) = (j : Int) := by rw [IntKind.wrap_i64]; omega
  have HB := Lib.hid (And.intro b1 (And.intro b2 (And.intro b3 (And.intro b4 (And.intro b5 b6)))))
  have T := Lib.hid T0
  obtain ⟨gu, cu, enu, f2, hul, hn1, k0⟩ := T.out.hn.kd hl
  obtain ⟨gu2, cu2, enu2, f1, _, _, k1⟩ := T.out.hn.kd hr
  obtain rfl := same_u enu enu2
  clear enu enu2 hx hy hleaf hl hr hi b1 b2 b3 b4 b5 b6 he hj T0
  go_enter Try.func129, Try.ntmps129
  go_upto_region 0 with fail
  go_cut [4, 5] from 6 to 20 (fun a b wx => a = .pointer (some ⟨L0.p, 0, none⟩) ∧ b = .pointer (some ⟨R0.p, 0, none⟩) ∧ Tri w wx n0 L0 R0 n0 L0 R0)
  case first => go_region_law (fail); all_goals (go_wp2_with fail; go_meet; exact ⟨rfl, rfl, T.out.drew⟩)
  case rest =>
    clear T k0 k1 hn1 f1 f2 hul
    obtain ⟨rfl, rfl, hT⟩ := hcut
    have T := Lib.hid hT
    clear hT
    have hL0 := T.out.hL.c0
    have hL1 := T.out.hL.c1
    have hLf := T.out.hL.fr
    have lL := T.out.hL.lt (.inl rfl)
    rw [T.out.fL.p] at hL0 hL1 hLf lL

    obtain ⟨gn, cn, env, f3, hnl, hn0, x0, x1, x2, x3, hnz⟩ := T.out.hn.it HX.out
    rw [T.out.fn.p] at hn0
    have g0 : ∀ o, (wc.drew.alloc o).cell? ⟨L0.p, 0, none⟩ = some L0.v := fun o => ((Below.refl _ wc).alloc (Nat.le_refl _) o).cell (p := ⟨L0.p, 0, none⟩) lL ▸ hL0
    go_upto_region 1 with fail
    go_cut [] from 21 to 36 (fun wx => ∃ X : Nd, X.is = L0.is ++ [x] ∧ (X.ps = L0.ps ∧ X.p = L0.p) ∧ Tri w wx n0 L0 R0 n0 X R0)
    case first =>
      go_region_law (first | (refine step_append_rowg elemIx (by simp [Region.wanted]) (.tmp 25) (.tmp 33) rfl 0 L0.v L0.is.length (rowV Ix.vals L0.is) (by simp [Act.eval]) (T.out.hL.below ((Below.refl _ wc).alloc (Nat.le_refl _) _)).own (some ⟨wc.heap.size, 0, none⟩) 1 1 (x.vals) (by simp [Act.eval]) (rdv_freshI wc.drew x 166) (ix1 x) (fun h => by cases h) (by have := HB.out.2.2.1; unfold maxLen; omega) (by have := HB.out.2.2.1; omega) (Nat.zero_le _) ?_; intro v' w' ho hg hq; obtain ⟨A9, c9, rfl⟩ := own_form ho; obtain ⟨k8, k9⟩ := T.out.hL.after0 (grown_drew (grown_alloc hg)); rw [T.out.fL.p] at k8 k9; have HO := Lib.hid ho; have HG := Lib.hid (grown_drew (grown_alloc hg)); have HQ := Lib.hid hq; clear ho hg hq))
      all_goals (go_wp2_with fail; go_meet; exact ⟨L0.put0 _ (L0.is ++ [x]), rfl, ⟨rfl, rfl⟩, T.out.moveL (T.out.hL.put0 T.out.fL.p (m := L0.is.length + 1) (is := L0.is ++ [x]) (by simp) (by rw [rowV_append]; simpa [rowV] using HO.out) HG.out (fun q e => (HQ.out q e).imp id fun e => by simp at e; omega))⟩)
    case rest =>
      clear T g0 hn0 x0 x1 x2 x3 hnz hnl f3 env
      clear hL0 hL1 hLf lL

      obtain ⟨L1, qL11, ⟨qL12, qL13⟩, hT⟩ := hcut
      have T := Lib.hid hT
      clear hT
      have QL1 := Lib.hid (And.intro qL11 (And.intro qL12 qL13))
      clear qL11 qL12 qL13

      obtain ⟨gn, cn, env, f3, hnl, hn0, _, _, _, _, hnz⟩ := T.out.hn.it HX.out
      rw [T.out.fn.p] at hn0
      obtain ⟨gL, cL, evL, f4, hLl, hL0, x0, x1, x2, x3, _⟩ := T.out.hR.it HY.out
      rw [T.out.fR.p] at hL0
      simp only [Nat.zero_mul, Nat.zero_add] at x0 x1 x2 x3
      have f5 : 0 < R0.is.length := HLT.out
      have HV := Lib.hid env
      clear env evL
      go_upto_region 2 with fail
      go_cut [] from 37 to 48 (fun wx => ∃ X : Nd, X.is = n0.is.set i y ∧ (X.ps = n0.ps ∧ X.p = n0.p) ∧ Tri w wx n0 L0 R0 X L1 R0)
      case first =>
        go_region_law (fail)
        all_goals (go_wp2_with fail; go_meet; exact ⟨n0.put0 n0.v (n0.is.set i y), rfl, ⟨rfl, rfl⟩, T.out.drew.moveN (T.out.drew.hn.set HI.out HV.out y rfl)⟩)
      case rest =>
        clear T HV hn0 hnz hnl f3 f4 f5 hLl hL0 x0 x1 x2 x3

        obtain ⟨n1, qn11, ⟨qn12, qn13⟩, hT⟩ := hcut
        have T := Lib.hid hT
        clear hT
        have Qn1 := Lib.hid (And.intro qn11 (And.intro qn12 qn13))
        clear qn11 qn12 qn13

        have hR0 := T.out.hR.c0
        have hR1 := T.out.hR.c1
        have hRf := T.out.hR.fr
        have lR := T.out.hR.lt (.inl rfl)
        rw [T.out.fR.p] at hR0 hR1 hRf lR

        obtain ⟨g7, c7, e7⟩ := own_has T.out.hR.own (by have := (HLT.out); omega)
        rw [e7] at hR0
        have ho7 := T.out.hR.own
        rw [e7] at ho7
        have HD := Lib.hid (del_firstI ho7 rfl  (HLT.out)  (by have := HB.out.2.2.2.2.1; omega))
        have HE7 := Lib.hid e7
        clear ho7 e7
        go_upto_region 3 with fail
        go_cut [] from 49 to 56 (fun wx => ∃ X : Nd, X.is = R0.is.eraseIdx 0 ∧ (X.ps = R0.ps ∧ X.p = R0.p) ∧ Tri w wx n0 L0 R0 n1 L1 X)
        case first =>
          go_wp2_with fail
          refine Calls.mono HD.out ?_
          rintro e w' ⟨rfl, ho, hg⟩
          have hg : wc.grownBy w' R0.v.ownBlock := by rw [HE7.out]; exact hg
          obtain ⟨k8, k9⟩ := T.out.hR.after0 hg
          rw [T.out.fR.p] at k8 k9
          have HO := Lib.hid ho
          have HG := Lib.hid hg
          clear ho hg
          go_wp2_with fail
          go_meet
          exact ⟨R0.put0 _ (R0.is.eraseIdx 0), rfl, ⟨rfl, rfl⟩, T.out.moveR (T.out.hR.put0 T.out.fR.p (List.length_eraseIdx_of_lt (HLT.out)) HO.out HG.out (fun q e => .inl (by rw [HE7.out]; exact e)))⟩
        case rest =>
          clear T HD HE7
          clear hR0 hR1 hRf lR

          obtain ⟨R1, qR11, ⟨qR12, qR13⟩, hT⟩ := hcut
          have T := Lib.hid hT
          clear hT
          have QR1 := Lib.hid (And.intro qR11 (And.intro qR12 qR13))
          clear qR11 qR12 qR13

          have hL0 := T.out.hL.c0
          have hL1 := T.out.hL.c1
          have hLf := T.out.hL.fr
          have lL := T.out.hL.lt (.inl rfl)
          rw [T.out.fL.p] at hL0 hL1 hLf lL

          have hR0 := T.out.hR.c0
          have hR1 := T.out.hR.c1
          have hRf := T.out.hR.fr
          have lR := T.out.hR.lt (.inl rfl)
          rw [T.out.fR.p] at hR0 hR1 hRf lR

          have HLE := Lib.hid (leaf_any T.out.hR)
          rw [T.out.fR.p] at HLE
          have HYE := Lib.hid (show R0.is.eraseIdx 0 = R0.is.tail from by cases R0.is <;> rfl)
          rcases HLF.out with hl0 | hl0
          · have HL0 := Lib.hid hl0
            have t0 : ((R1.ps.length : Int) == 0) = true := by rw [QR1.out.2.1, hl0]; rfl
            clear hl0
            go_wp2_with fail
            refine Calls.mono HLE.out ?_
            rintro e3 w3 ⟨rfl, rfl⟩
            go_wp2_with fail
            refine bodyPost_end (v := .tuple #[]) (by simp [results, Try.results129, go_sem]) rfl ⟨n1, L1, R1, rfl, Qn1.out.1, Qn1.out.2.1, QL1.out.1, ?_, ?_, ?_, T.out⟩
            · rw [QL1.out.2.1, HL0.out]; simp
            · rw [QR1.out.1, HYE.out]
            · rw [QR1.out.2.1, HL0.out]; rfl
          · have HL0 := Lib.hid hl0
            obtain ⟨z, hz⟩ : ∃ z, R0.ps[0]? = some z := ⟨_, List.getElem?_eq_getElem (by rw [hl0]; omega)⟩
            have HZ := Lib.hid (And.intro hz (show R1.ps[0]? = some z by rw [QR1.out.2.1]; exact hz))
            have t0 : ((R1.ps.length : Int) == 0) = false := by rw [QR1.out.2.1, hl0]; simp; omega
            have HPE := Lib.hid (show R0.ps.eraseIdx 0 = R0.ps.tail from by cases R0.ps <;> rfl)
            have HZL := Lib.hid (show R0.ps.head? = some z from by rw [List.head?_eq_getElem?]; exact hz)
            have HLT1 := Lib.hid (show 0 < R1.ps.length from by rw [QR1.out.2.1, hl0]; omega)
            have HLB1 := Lib.hid (show R1.ps.length ≤ 100 from by rw [QR1.out.2.1]; exact HB.out.2.2.2.2.2)
            have HLB2 := Lib.hid (show L1.ps.length ≤ 100 from by rw [QL1.out.2.1]; exact HB.out.2.2.2.1)
            clear hl0 hz
            go_wp2_with fail
            refine Calls.mono HLE.out ?_
            rintro e3 w3 ⟨rfl, rfl⟩
            clear hR0 hR1 hRf lR
            obtain ⟨gk, ck, evk, f4, hLl, hR1, k3⟩ := T.out.hR.kd HZ.out.2
            rw [T.out.fR.p] at hR1
            have f5 : 0 < R1.ps.length := HLT1.out
            clear evk
            have g0 : ∀ o, (wc.drew.alloc o).cell? ⟨L0.p, 1, none⟩ = some L1.u := fun o => ((Below.refl _ wc).alloc (Nat.le_refl _) o).cell (p := ⟨L0.p, 1, none⟩) lL ▸ hL1
            go_upto_region 5 with fail
            go_cut [] from 60 to 74 (fun wx => ∃ X : Nd, X.ps = L1.ps ++ [z] ∧ (X.is = L1.is ∧ X.p = L1.p) ∧ Tri w wx n0 L0 R0 n1 X R1)
            case first =>
              go_region_law (first | (refine step_append_rowg elemPt (by simp [Region.wanted]) (.tmp 64) (.tmp 71) rfl 0 L1.u L1.ps.length (rowV PV L1.ps) (by simp [Act.eval]) (T.out.hL.below ((Below.refl _ wc).alloc (Nat.le_refl _) _)).kids (some ⟨wc.heap.size, 0, none⟩) 1 1 (PV z) (by simp [Act.eval]) (rdv_freshN wc.drew z 151) (pt1 z) (fun h => by cases h) (by have := HLB2.out; unfold maxLen; omega) (by have := HLB2.out; omega) (Nat.zero_le _) ?_; intro v' w' ho hg hq; obtain ⟨A9, c9, rfl⟩ := own_form ho; obtain ⟨k8, k9⟩ := T.out.hL.after1 (grown_drew (grown_alloc hg)); rw [T.out.fL.p] at k8 k9; have HO := Lib.hid ho; have HG := Lib.hid (grown_drew (grown_alloc hg)); have HQ := Lib.hid hq; clear ho hg hq))
              all_goals (go_wp2_with fail; go_meet; exact ⟨L1.put1 _ (L1.ps ++ [z]), rfl, ⟨rfl, rfl⟩, T.out.moveL (T.out.hL.put1 T.out.fL.p (m := L1.ps.length + 1) (ps := L1.ps ++ [z]) (by simp) (by rw [rowV_append]; simpa [rowV] using HO.out) HG.out (fun q e => (HQ.out q e).imp id fun e => by simp at e; omega))⟩)
            case rest =>
              clear T HLE g0 hR1 k3 f4 f5 hLl
              clear hL0 hL1 hLf lL

              obtain ⟨L2, qL21, ⟨qL22, qL23⟩, hT⟩ := hcut
              have T := Lib.hid hT
              clear hT
              have QL2 := Lib.hid (And.intro qL21 (And.intro qL22 qL23))
              clear qL21 qL22 qL23

              have hR0 := T.out.hR.c0
              have hR1 := T.out.hR.c1
              have hRf := T.out.hR.fr
              have lR := T.out.hR.lt (.inl rfl)
              rw [T.out.fR.p] at hR0 hR1 hRf lR

              obtain ⟨g7, c7, e7⟩ := own_has T.out.hR.kids (by have := (HLT1.out); omega)
              rw [e7] at hR1
              have ho7 := T.out.hR.kids
              rw [e7] at ho7
              have HD := Lib.hid (del_firstN ho7 rfl  (HLT1.out)  (by have := HLB1.out; omega))
              have HE7 := Lib.hid e7
              clear ho7 e7
              go_upto_region 6 with fail

              go_wp2_with fail
              refine Calls.mono HD.out ?_
              rintro e w' ⟨rfl, ho, hg⟩
              have hg : wc.grownBy w' R1.u.ownBlock := by rw [HE7.out]; exact hg
              obtain ⟨k8, k9⟩ := T.out.hR.after1 hg
              rw [T.out.fR.p] at k8 k9
              have HO := Lib.hid ho
              have HG := Lib.hid hg
              clear ho hg
              go_wp2_with fail
              refine bodyPost_end (v := .tuple #[]) (by simp [results, Try.results129, go_sem]) rfl ⟨n1, L2, R1.put1 _ (R1.ps.eraseIdx 0), rfl, Qn1.out.1, Qn1.out.2.1, ?_, ?_, ?_, ?_, T.out.moveR (T.out.hR.put1 T.out.fR.p (List.length_eraseIdx_of_lt (HLT1.out)) HO.out HG.out (fun q e => .inl (by rw [HE7.out]; exact e)))⟩
              · rw [QL2.out.2.1, QL1.out.1]
              · rw [QL2.out.1, QL1.out.2.1, HZL.out]; rfl
              · show R1.is = _
                rw [QR1.out.1, HYE.out]
              · show R1.ps.eraseIdx 0 = _
                rw [QR1.out.2.1]
                exact HPE.out
end Go.Proofs.Ytejpjbmbcdgomaa
