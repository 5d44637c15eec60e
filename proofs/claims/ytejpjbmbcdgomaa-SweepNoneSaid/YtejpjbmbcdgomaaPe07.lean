/- TSpl: put together. -/
import Derived.Test.YtejpjbmbcdgomaaPe06
/- A node of six made two. -/
namespace Go.Proofs.Ytejpjbmbcdgomaa
set_option maxRecDepth 100000
open Go.RowKit

theorem rdv_sub {α : Type} {f : α → List Value} {k : Nat} (hf : ∀ x, (f x).length = k) {w : World} {B e g n c : Nat} {l : List α} (h : w.ownsRow B e k (.slice (some ⟨g, 0, none⟩) n c) n (rowV f l)) (hl : l.length = n) (a m o : Nat) (ham : a + m ≤ n) (ho : o = a * k) : Rdv w (some ⟨g, o, none⟩) m k (rowV f ((l.drop a).take m)) := by
  have e1 : rowV f ((l.drop a).take m) = ((rowV f l).drop o).take (m * k) := by rw [← rowV_take hf, ← rowV_drop hf, ho]
  refine ⟨by rw [rowV_length f k hf, List.length_take, List.length_drop, hl, Nat.min_eq_left (by omega)], fun _ => ⟨g, o, rfl, fun j u hj => ?_⟩⟩
  rw [e1, List.getElem?_take] at hj
  split at hj
  · rw [List.getElem?_drop] at hj
    exact own_cell h _ u hj
  · cases hj
theorem own_ge {w : World} {B e size n : Nat} {v : Value} {xs : List Value} (h : w.ownsRow B e size v n xs) {q : Nat} (hq : v.ownBlock = some q) : B ≤ q := by
  rcases h.2 with ⟨rfl, _⟩ | ⟨g, c, _, rfl, h1, _⟩
  · cases hq
  · have e : g = q := by simpa [Value.ownBlock] using hq
    subst e
    exact h1
theorem own_zero {w : World} {B e size n : Nat} {v : Value} {xs : List Value} (h : w.ownsRow B e size v n xs) : w.ownsRow 0 e size v n xs := by
  refine ⟨h.1, ?_⟩
  rcases h.2 with h0 | ⟨g, c, cur, e, h1, h2⟩
  · exact .inl h0
  · exact .inr ⟨g, c, cur, e, Nat.zero_le _, h2⟩
set_option maxHeartbeats 4000000 in
theorem split_any {w : World} {n0 L0 : Nd} (hn : NdM w n0) (hL : NdM w L0) (ha : Ap n0 L0) (i j : Nat) {m : Ix} (hj : j = i + 1) (hi : i ≤ n0.is.length) (hl : n0.ps[i]? = some L0.p)
    (h6 : L0.is.length = 6) (hm : L0.is[3]? = some m) (hleaf : L0.ps = [] ∨ L0.ps.length = 7)
    (b1 : n0.is.length ≤ 100) (b2 : n0.ps.length ≤ 100) :
    Calls Try.prog 111 #[.pointer (some ⟨n0.p, 0, none⟩), .int .i64 (i : Int)] w fun e w' => ∃ n L R, e = .returned (.tuple #[]) ∧ n.is = n0.is.take i ++ m :: n0.is.drop i ∧ n.ps = n0.ps.take j ++ R.p :: n0.ps.drop j ∧ L.is = L0.is.take 3 ∧ L.ps = L0.ps.take 4 ∧ R.is = L0.is.drop 4 ∧ R.ps = L0.ps.drop 4 ∧
      ∃ w1 R1, Below w.heap.size w w1 ∧ (∀ k, R1.B k → w.heap.size ≤ k) ∧ Tri w1 w' n0 L0 R1 n L R := by
  have HJ := Lib.hid (And.intro hj hi)
  have HJ2 := Lib.hid (show j ≤ n0.ps.length from by have := (List.getElem?_eq_some_iff.1 hl).1; omega)
  have HM := Lib.hid hm
  have H6 := Lib.hid h6
  have HLF := Lib.hid hleaf
  have f6 : IntKind.i64.wrap ((i : Int) + 1) = (j : Int) := by rw [IntKind.wrap_i64]; have := (List.getElem?_eq_some_iff.1 hl).1; omega
  have HB := Lib.hid (And.intro b1 b2)
  have HN := Lib.hid hn
  have HL := Lib.hid hL
  have HA := Lib.hid ha
  obtain ⟨gu, cu, enu, f2, hul, hn1, k0⟩ := HN.out.kd hl
  obtain ⟨gL, cL, evL, _, hLl, hL0, _⟩ := HL.out.it hm
  rw [h6] at hL0 hLl evL
  have HO := HL.out.own
  rw [evL, h6] at HO
  have HC := Lib.hid (clone_anyI (rdv_sub Ix.vlen HO h6 4 2 16 (by omega) rfl) (fun h => by cases h) (show 2 ≤ cL - 4 by omega) (by omega))
  have HLT := Lib.hid (And.intro (HN.out.lt (.inl rfl)) (HL.out.lt (.inl rfl)))
  have hc4 : ¬ (4 = cL) := by omega
  have HLV := Lib.hid evL
  clear hn hL ha hj hi hl h6 hm hleaf b1 b2 enu evL HO
  go_enter Try.func111, Try.ntmps111
  go_upto_region 2 with fail
  go_cut [6] from 20 to 29 (fun r wx => ∃ R1 : Nd, r = .pointer (some ⟨R1.p, 0, none⟩) ∧ (R1.is = L0.is.drop 4 ∧ R1.ps = []) ∧ Below w.heap.size w wx ∧ (∀ k, R1.B k → w.heap.size ≤ k) ∧ Tri wx wx n0 L0 R1 n0 L0 R1)
  case first =>
    go_wp2_with fail
    refine Calls.mono HC.out ?_
    rintro e1 w1 ⟨v1, rfl, ho1, hb1⟩
    obtain ⟨A1, c1, rfl⟩ := own_form ho1
    have HO1 := Lib.hid ho1
    have HB1 := Lib.hid hb1
    clear ho1 hb1
    go_wp2_with fail
    go_meet
    have hs1 := HB1.out.size
    have hbx := HB1.out.alloc hs1 (.cells #[.slice A1 2 c1, .slice none 0 0] 155)
    have e4 : (L0.is.drop 4).take 2 = L0.is.drop 4 := List.take_of_length_le (by rw [List.length_drop, H6.out]; omega)
    have ho := HO1.out
    rw [e4] at ho
    have hnew : NdM (w1.alloc (.cells #[.slice A1 2 c1, .slice none 0 0] 155)) ⟨w1.heap.size, .slice A1 2 c1, .slice none 0 0, L0.is.drop 4, []⟩ := by
      refine ⟨heap_alloc_new w1 _, ?_, World.ownsRow_nil _ _ _ _⟩
      show World.ownsRow _ 0 166 4 (.slice A1 2 c1) (L0.is.drop 4).length _
      rw [List.length_drop, H6.out]
      refine own_same (own_zero ho) fun q hq => ?_
      obtain ⟨_, e⟩ := own_at ho hq
      exact ((Below.refl _ w1).alloc (Nat.le_refl _) _).block q (Array.getElem?_eq_some_iff.1 e).1
    have hge : ∀ k, Nd.B ⟨w1.heap.size, .slice A1 2 c1, .slice none 0 0, L0.is.drop 4, []⟩ k → w.heap.size ≤ k := fun k hk => by
      rcases hk with rfl | hk | hk
      · exact hs1
      · exact own_ge ho hk
      · cases hk
    refine ⟨⟨w1.heap.size, .slice A1 2 c1, .slice none 0 0, L0.is.drop 4, []⟩, rfl, ⟨rfl, rfl⟩, hbx, hge, ?_⟩
    refine Tri.refl (HN.out.below hbx) (HL.out.below hbx) hnew HA.out ?_ ?_
    · exact fun k h1 h2 => by have := HN.out.lt h1; have := hge k h2; omega
    · exact fun k h1 h2 => by have := HL.out.lt h1; have := hge k h2; omega
  case rest =>
    clear hL0 hLl HC hc4 HLV f2 hul hn1 k0
    obtain ⟨R1, rfl, ⟨hr1, hr2⟩, hb, hnw, hT⟩ := hcut
    have T := Lib.hid hT
    have HR1 := Lib.hid (And.intro hr1 hr2)
    have HNW := Lib.hid (And.intro hb hnw)
    obtain ⟨w0, hw0⟩ : ∃ w0, w0 = wc := ⟨_, rfl⟩
    rw [← hw0] at hT HNW
    have T := Lib.hid (show Tri w0 wc n0 L0 R1 n0 L0 R1 by rw [hw0]; rw [hw0] at hT; exact hT)
    clear hT hr1 hr2 hb hnw hw0
    have hn0 := T.out.hn.c0
    have hn1 := T.out.hn.c1
    have hnf := T.out.hn.fr
    have ln := T.out.hn.lt (.inl rfl)
    obtain ⟨gL, cL, evL, _, hLl, hL0, x0, x1, x2, x3, _⟩ := T.out.hL.it HM.out
    rw [H6.out] at hL0 hLl evL
    change wc.cell? ⟨gL, 12, none⟩ = _ at x0
    change wc.cell? ⟨gL, 13, none⟩ = _ at x1
    change wc.cell? ⟨gL, 14, none⟩ = _ at x2
    change wc.cell? ⟨gL, 15, none⟩ = _ at x3
    have g0 : ∀ o, (wc.drew.alloc o).cell? ⟨n0.p, 0, none⟩ = some n0.v := fun o => ((Below.refl _ wc).alloc (Nat.le_refl _) o).cell (p := ⟨n0.p, 0, none⟩) ln ▸ hn0
    have HC := Lib.hid (insert_newI (w := wc.drew) T.out.drew.hn.own rfl i HJ.out.2 (by have := HB.out.1; omega) m 166)
    clear evL
    go_upto_region 3 with fail
    go_cut [] from 30 to 46 (fun wx => ∃ X : Nd, X.is = n0.is.take i ++ m :: n0.is.drop i ∧ (X.ps = n0.ps ∧ X.p = n0.p) ∧ Tri w0 wx n0 L0 R1 X L0 R1)
    case first =>
      go_region_law (go_simp; go_at_call 123; refine Calls.mono HC.out ?_; rintro e8 w8 ⟨v8, rfl, ho, hg, hq⟩; obtain ⟨A9, c9, rfl⟩ := own_form ho; obtain ⟨k8, k9⟩ := T.out.hn.after0 (grown_drew hg); have HO := Lib.hid ho; have HG := Lib.hid (grown_drew hg); have HQ := Lib.hid hq; clear ho hg hq)
      all_goals (go_wp2_with fail; go_meet; exact ⟨n0.put0 _ (n0.is.take i ++ m :: n0.is.drop i), rfl, ⟨rfl, rfl⟩, T.out.moveN (T.out.hn.put0 T.out.fn.p (m := n0.is.length + 1) (is := n0.is.take i ++ m :: n0.is.drop i) (by simp; have := HJ.out.2; omega) HO.out HG.out (fun q e => HQ.out q e))⟩)
    case rest =>
      clear T HC g0 hn0 hn1 hnf ln x0 x1 x2 x3 hL0 hLl
      obtain ⟨n1, qn1, ⟨qn2, qn3⟩, hT⟩ := hcut
      have T := Lib.hid hT
      have Qn1 := Lib.hid (And.intro qn1 (And.intro qn2 qn3))
      clear hT qn1 qn2 qn3
      obtain ⟨gL, cL, evL, q1, hLl, hL0, q2⟩ := T.out.hL.it HM.out
      rw [H6.out] at hL0 hLl evL
      have ho := T.out.hL.own
      rw [evL, H6.out] at ho
      have HC := Lib.hid (clone_anyI (rdv_sub Ix.vlen ho H6.out 0 3 0 (by omega) rfl) (fun h => by cases h) (show 3 ≤ cL by omega) (by omega))
      clear ho evL q1 q2
      go_upto_region 4 with fail
      go_cut [] from 47 to 56 (fun wx => ∃ X : Nd, X.is = L0.is.take 3 ∧ (X.ps = L0.ps ∧ X.p = L0.p) ∧ Tri w0 wx n0 L0 R1 n1 X R1)
      case first =>
        go_wp2_with fail
        refine Calls.mono HC.out ?_
        rintro e1 w1 ⟨v1, rfl, ho1, hb1⟩
        obtain ⟨A1, c1, rfl⟩ := own_form ho1
        obtain ⟨k8, k9⟩ := T.out.hL.after0 (grown_below hb1 _)
        have HO1 := Lib.hid ho1
        have HB1 := Lib.hid hb1
        clear ho1 hb1
        go_wp2_with fail
        go_meet
        exact ⟨L0.put0 _ (L0.is.take 3), rfl, ⟨rfl, rfl⟩, T.out.moveL (T.out.hL.put0 rfl (m := 3) (is := L0.is.take 3) (by rw [List.length_take, H6.out]; rfl) (own_zero HO1.out) (grown_below HB1.out _) (fun q e => .inr (own_ge HO1.out e)))⟩
      case rest =>
        clear T HC hL0 hLl
        obtain ⟨L1, qn1, ⟨qn2, qn3⟩, hT⟩ := hcut
        have T := Lib.hid hT
        have QL1 := Lib.hid (And.intro qn1 (And.intro qn2 qn3))
        clear hT qn1 qn2 qn3
        have HLE := Lib.hid (leaf_any T.out.hL)
        rw [T.out.fL.p] at HLE
        obtain ⟨b, hb⟩ : ∃ b, b = ((L1.ps.length : Int) == 0) := ⟨_, rfl⟩
        rw [← hb] at HLE
        have HBB := Lib.hid hb
        clear hb
        go_wp2_with fail
        refine Calls.mono HLE.out ?_
        rintro e3 w3 ⟨rfl, rfl⟩
        clear HLE
        go_upto_if 59 with fail
        go_cut [] from 60 to 81 (fun wx => ∃ X Y : Nd, (X.is = L1.is ∧ X.p = L1.p ∧ X.ps = L0.ps.take 4) ∧ (Y.is = R1.is ∧ Y.p = R1.p ∧ Y.ps = L0.ps.drop 4) ∧ Tri w0 wx n0 L0 R1 n1 X Y)
        case first =>
          rcases HLF.out with hl0 | hl0
          · have HL0 := Lib.hid hl0
            obtain rfl : b = true := by rw [HBB.out, QL1.out.2.1, hl0]; rfl
            clear hl0
            go_wp2_with fail
            go_meet
            exact ⟨L1, R1, ⟨rfl, rfl, by rw [QL1.out.2.1, HL0.out]; rfl⟩, ⟨rfl, rfl, by rw [HR1.out.2, HL0.out]; rfl⟩, T.out⟩
          · have HL0 := Lib.hid hl0
            obtain rfl : b = false := by rw [HBB.out, QL1.out.2.1, hl0]; rfl
            have hL7 : L1.ps.length = 7 := by rw [QL1.out.2.1, HL0.out]
            clear hl0
            have H7 := Lib.hid hL7
            obtain ⟨gk, ck, evk, q1, hkl, hL1, q2⟩ := T.out.hL.kd (j := 0) (List.getElem?_eq_getElem (by omega))
            rw [T.out.fL.p, hL7] at hL1
            rw [hL7] at hkl evk
            have ho := T.out.hL.kids
            rw [evk, hL7] at ho
            have HC := Lib.hid (clone_anyN (rdv_sub PV.len ho hL7 4 3 4 (by omega) rfl) (fun h => by cases h) (show 3 ≤ ck - 4 by omega) (by omega))
            have hc4 : ¬ (4 = ck) := by omega
            clear ho evk hL7 q1 q2
            go_upto_region 6 with fail
            go_cut [] from 60 to 70 (fun wx => ∃ X : Nd, X.ps = L1.ps.drop 4 ∧ (X.is = R1.is ∧ X.p = R1.p) ∧ Tri w0 wx n0 L0 R1 n1 L1 X)
            case first =>
              go_wp2_with fail
              refine Calls.mono HC.out ?_
              rintro e1 w1 ⟨v1, rfl, ho1, hb1⟩
              obtain ⟨A1, c1, rfl⟩ := own_form ho1
              obtain ⟨k8, k9⟩ := T.out.hR.after1 (grown_below hb1 _)
              have e4 : (L1.ps.drop 4).take 3 = L1.ps.drop 4 := List.take_of_length_le (by rw [List.length_drop, H7.out]; omega)
              rw [e4] at ho1
              have HO1 := Lib.hid ho1
              have HB1 := Lib.hid hb1
              clear ho1 hb1 e4
              go_wp2_with fail
              go_meet
              exact ⟨R1.put1 _ (L1.ps.drop 4), rfl, ⟨rfl, rfl⟩, T.out.moveR (T.out.hR.put1 rfl (m := 3) (ps := L1.ps.drop 4) (by rw [List.length_drop, H7.out]) (own_zero HO1.out) (grown_below HB1.out _) (fun q e => .inr (own_ge HO1.out e)))⟩
            case rest =>
              clear T HC hL1 hkl hc4
              obtain ⟨R2, qn1, ⟨qn2, qn3⟩, hT⟩ := hcut
              have T := Lib.hid hT
              have QR2 := Lib.hid (And.intro qn1 (And.intro qn2 qn3))
              clear hT qn1 qn2 qn3
              obtain ⟨gk, ck, evk, q1, hkl, hL1, q2⟩ := T.out.hL.kd (j := 0) (List.getElem?_eq_getElem (by rw [H7.out]; omega))
              rw [T.out.fL.p, H7.out] at hL1
              rw [H7.out] at hkl evk
              have ho := T.out.hL.kids
              rw [evk, H7.out] at ho
              have HC := Lib.hid (clone_anyN (rdv_sub PV.len ho H7.out 0 4 0 (by omega) rfl) (fun h => by cases h) (show 4 ≤ ck by omega) (by omega))
              clear ho evk q1 q2
              go_wp2_with fail
              refine Calls.mono HC.out ?_
              rintro e1 w1 ⟨v1, rfl, ho1, hb1⟩
              obtain ⟨A1, c1, rfl⟩ := own_form ho1
              obtain ⟨k8, k9⟩ := T.out.hL.after1 (grown_below hb1 _)
              rw [T.out.fL.p] at k8 k9
              have HO1 := Lib.hid ho1
              have HB1 := Lib.hid hb1
              clear ho1 hb1
              go_wp2_with fail
              go_meet
              exact ⟨L1.put1 _ (L1.ps.take 4), R2, ⟨rfl, rfl, by show L1.ps.take 4 = _; rw [QL1.out.2.1]⟩, ⟨QR2.out.2.1, QR2.out.2.2, by rw [QR2.out.1, QL1.out.2.1]⟩, T.out.moveL (T.out.hL.put1 T.out.fL.p (m := 4) (ps := L1.ps.take 4) (by rw [List.length_take, H7.out]; rfl) (own_zero HO1.out) (grown_below HB1.out _) (fun q e => .inr (own_ge HO1.out e)))⟩
        case rest =>
          clear T
          obtain ⟨L2, R2, ⟨ql1, ql2, ql3⟩, ⟨qr1, qr2, qr3⟩, hT⟩ := hcut
          have T := Lib.hid hT
          have QL2 := Lib.hid (And.intro ql1 (And.intro ql2 ql3))
          have QR2 := Lib.hid (And.intro qr1 (And.intro qr2 qr3))
          clear hT ql1 ql2 ql3 qr1 qr2 qr3
          have hn1 := T.out.hn.c1
          have ln := T.out.hn.lt (.inl rfl)
          rw [T.out.fn.p] at hn1 ln
          have HN1 := Lib.hid (show j ≤ n1.ps.length ∧ n1.ps.length ≤ 100 from by rw [Qn1.out.2.1]; exact ⟨HJ2.out, HB.out.2⟩)
          have HC := Lib.hid (insert_newN (w := wc) T.out.hn.kids rfl j HN1.out.1 (by have := HN1.out.2; omega) R1.p 151)
          go_upto_region 8 with fail
          go_wp2_with fail
          refine Calls.mono HC.out ?_
          rintro e1 w1 ⟨v1, rfl, ho, hg, hq⟩
          obtain ⟨A9, c9, rfl⟩ := own_form ho
          obtain ⟨k8, k9⟩ := T.out.hn.after1 hg
          rw [T.out.fn.p] at k8 k9
          have HO := Lib.hid ho
          have HG := Lib.hid hg
          have HQ := Lib.hid hq
          clear ho hg hq
          go_wp2_with fail
          refine bodyPost_end (v := .tuple #[]) (by simp [results, Try.results111, go_sem]) rfl ⟨n1.put1 _ (n1.ps.take j ++ R1.p :: n1.ps.drop j), L2, R2, rfl, Qn1.out.1, ?_, ?_, QL2.out.2.2, ?_, QR2.out.2.2, w0, R1, HNW.out.1, HNW.out.2, T.out.moveN (T.out.hn.put1 T.out.fn.p (m := n1.ps.length + 1) (ps := n1.ps.take j ++ R1.p :: n1.ps.drop j) (by simp; have := HN1.out.1; omega) HO.out HG.out (fun q e => HQ.out q e))⟩
          · show n1.ps.take j ++ R1.p :: n1.ps.drop j = _
            rw [Qn1.out.2.1, QR2.out.2.1]
          · rw [QL2.out.1, QL1.out.1]
          · rw [QR2.out.1, HR1.out.1]
end Go.Proofs.Ytejpjbmbcdgomaa
