/- TSpl, ZS: put together. -/
import Derived.Test.YtejpjbmbcdgomaaPt06
import Derived.Test.YtejpjbmbcdgomaaPt00
/- A node of six made two. -/
namespace Go.Proofs.Ytejpjbmbcdgomaa
set_option maxRecDepth 100000
open Go.RowKit

theorem rdv_sub {α : Type} {f : α → List Value} {k : Nat} (hf : ∀ x, (f x).length = k) {w : World} {B e g n c : Nat} {l : List α} (h : w.ownsRow B e k (.slice (some ⟨g, 0, none⟩) n c) n (rowV f l)) (hl : l.length = n) (a m o : Nat) (ham : a + m ≤ n) (ho : o = a * k) : Rdv w (some ⟨g, o, none⟩) m k (rowV f ((l.drop a).take m)) := by
  have e1 : rowV f ((l.drop a).take m) = ((rowV f l).drop o).take (m * k) := by rw [← rowV_take hf, ← rowV_drop hf, ho]
  refine ⟨by rw [rowV_length f k hf, List.length_take, List.length_drop, hl, Nat.min_eq_left (by omega)], fun _ => ⟨g, o, rfl, fun j u hj => ?_⟩⟩
  rw [e1, List.getElem?_take] at hj
  split at hj
  · rw [List.getElem?_drop] at hj
    exact own_cell h _ u hj
  · cases hj
theorem own_ge {w : World} {B e size n : Nat} {v : Value} {xs : List Value} (h : w.ownsRow B e size v n xs) {q : Nat} (hq : v.ownBlock = some q) : B ≤ q := by
  rcases h.2 with ⟨rfl, _⟩ | ⟨g, c, _, rfl, h1, _⟩
  · cases hq
  · have e : g = q := by simpa [Value.ownBlock] using hq
    subst e
    exact h1
theorem own_zero {w : World} {B e size n : Nat} {v : Value} {xs : List Value} (h : w.ownsRow B e size v n xs) : w.ownsRow 0 e size v n xs := by
  refine ⟨h.1, ?_⟩
  rcases h.2 with h0 | ⟨g, c, cur, e, h1, h2⟩
  · exact .inl h0
  · exact .inr ⟨g, c, cur, e, Nat.zero_le _, h2⟩
set_option maxHeartbeats 4000000 in
theorem split_any {w : World} {n0 L0 : Nd} (hn : NdM w n0) (hL : NdM w L0) (ha : Ap n0 L0) (i j : Nat) {m : Ix} (hj : j = i + 1) (hi : i ≤ n0.is.length) (hl : n0.ps[i]? = some L0.p)
    (h6 : L0.is.length = 6) (hm : L0.is[3]? = some m) (hleaf : L0.ps = [] ∨ L0.ps.length = 7)
    (b1 : n0.is.length ≤ 100) (b2 : n0.ps.length ≤ 100) :
    Calls Try.prog 111 #[.pointer (some ⟨n0.p, 0, none⟩), .int .i64 (i : Int)] w fun e w' => ∃ n L R, e = .returned (.tuple #[]) ∧ n.is = n0.is.take i ++ m :: n0.is.drop i ∧ n.ps = n0.ps.take j ++ R.p :: n0.ps.drop j ∧ L.is = L0.is.take 3 ∧ L.ps = L0.ps.take 4 ∧ R.is = L0.is.drop 4 ∧ R.ps = L0.ps.drop 4 ∧
      ∃ w1 R1, Below w.heap.size w w1 ∧ (∀ k, R1.B k → w.heap.size ≤ k) ∧ Tri w1 w' n0 L0 R1 n L R := by
  have HJ := Lib.hid (And.intro hj hi)
  have HJ2 := Lib.hid (show j ≤ n0.ps.length from by have := (List.getElem?_eq_some_iff.1 hl).1; omega)
  have HM := Lib.hid hm
  have H6 := Lib.hid h6
  have HLF := Lib.hid hleaf
  have f6 : IntKind.i64.wrap ((i : Int) + 1) = (j : Int) := by rw [IntKind.wrap_i64]; have := (List.getElem?_eq_some_iff.1 hl).1; omega
  have HB := Lib.hid (And.intro b1 b2)
  have HN := Lib.hid hn
  have HL := Lib.hid hL
  have HA := Lib.hid ha
  obtain ⟨gu, cu, enu, f2, hul, hn1, k0⟩ := HN.out.kd hl
  obtain ⟨gL, cL, evL, _, hLl, hL0, _⟩ := HL.out.it hm
  rw [h6] at hL0 hLl evL
  have HO := HL.out.own
  rw [evL, h6] at HO
  have HC := Lib.hid (clone_anyI (rdv_sub Ix.vlen HO h6 4 2 16 (by omega) rfl) (fun h => by cases h) (show 2 ≤ cL - 4 by omega) (by omega))
  have HLT := Lib.hid (And.intro (HN.out.lt (.inl rfl)) (HL.out.lt (.inl rfl)))
  have hc4 : ¬ (4 = cL) := by omega
  have HLV := Lib.hid evL
  clear hn hL ha hj hi hl h6 hm hleaf b1 b2 enu evL HO
  go_enter Try.func111, Try.ntmps111
  go_upto_region 2 with fail
  go_cut [6] from 20 to 29 (fun r wx => ∃ R1 : Nd, r = .pointer (some ⟨R1.p, 0, none⟩) ∧ (R1.is = L0.is.drop 4 ∧ R1.ps = []) ∧ Below w.heap.size w wx ∧ (∀ k, R1.B k → w.heap.size ≤ k) ∧ Tri wx wx n0 L0 R1 n0 L0 R1)
  case first =>
    go_wp2_with fail
    refine Calls.mono HC.out ?_
    rintro e1 w1 ⟨v1, rfl, ho1, hb1⟩
    obtain ⟨A1, c1, rfl⟩ := own_form ho1
    have HO1 := Lib.hid ho1
    have HB1 := Lib.hid hb1
    clear ho1 hb1
    go_wp2_with fail
    go_meet
    have hs1 := HB1.out.size
    have hbx := HB1.out.alloc hs1 (.cells #[.slice A1 2 c1, .slice none 0 0] 155)
    have e4 : (L0.is.drop 4).take 2 = L0.is.drop 4 := List.take_of_length_le (by rw [List.length_drop, H6.out]; omega)
    have ho := HO1.out
    rw [e4] at ho
    have hnew : NdM (w1.alloc (.cells #[.slice A1 2 c1, .slice none 0 0] 155)) ⟨w1.heap.size, .slice A1 2 c1, .slice none 0 0, L0.is.drop 4, []⟩ := by
      refine ⟨heap_alloc_new w1 _, ?_, World.ownsRow_nil _ _ _ _⟩
      show World.ownsRow _ 0 166 4 (.slice A1 2 c1) (L0.is.drop 4).length _
      rw [List.length_drop, H6.out]
      refine own_same (own_zero ho) fun q hq => ?_
      obtain ⟨_, e⟩ := own_at ho hq
      exact ((Below.refl _ w1).alloc (Nat.le_refl _) _).block q (Array.getElem?_eq_some_iff.1 e).1
    have hge : ∀ k, Nd.B ⟨w1.heap.size, .slice A1 2 c1, .slice none 0 0, L0.is.drop 4, []⟩ k → w.heap.size ≤ k := fun k hk => by
      rcases hk with rfl | hk | hk
      · exact hs1
      · exact own_ge ho hk
      · cases hk
    refine ⟨⟨w1.heap.size, .slice A1 2 c1, .slice none 0 0, L0.is.drop 4, []⟩, rfl, ⟨rfl, rfl⟩, hbx, hge, ?_⟩
    refine Tri.refl (HN.out.below hbx) (HL.out.below hbx) hnew HA.out ?_ ?_
    · exact fun k h1 h2 => by have := HN.out.lt h1; have := hge k h2; omega
    · exact fun k h1 h2 => by have := HL.out.lt h1; have := hge k h2; omega
  case rest =>
    clear hL0 hLl HC hc4 HLV f2 hul hn1 k0
    obtain ⟨R1, rfl, ⟨hr1, hr2⟩, hb, hnw, hT⟩ := hcut
    have T := Lib.hid hT
    have HR1 := Lib.hid (And.intro hr1 hr2)
    have HNW := Lib.hid (And.intro hb hnw)
    obtain ⟨w0, hw0⟩ : ∃ w0, w0 = wc := ⟨_, rfl⟩
    rw [← hw0] at hT HNW
    have T := Lib.hid (show Tri w0 wc n0 L0 R1 n0 L0 R1 by rw [hw0]; rw [hw0] at hT; exact hT)
    clear hT hr1 hr2 hb hnw hw0
    have hn0 := T.out.hn.c0
    have hn1 := T.out.hn.c1
    have hnf := T.out.hn.fr
    have ln := T.out.hn.lt (.inl rfl)
    obtain ⟨gL, cL, evL, _, hLl, hL0, x0, x1, x2, x3, _⟩ := T.out.hL.it HM.out
    rw [H6.out] at hL0 hLl evL
    change wc.cell? ⟨gL, 12, none⟩ = _ at x0
    change wc.cell? ⟨gL, 13, none⟩ = _ at x1
    change wc.cell? ⟨gL, 14, none⟩ = _ at x2
    change wc.cell? ⟨gL, 15, none⟩ = _ at x3
    have g0 : ∀ o, (wc.drew.alloc o).cell? ⟨n0.p, 0, none⟩ = some n0.v := fun o => ((Below.refl _ wc).alloc (Nat.le_refl _) o).cell (p := ⟨n0.p, 0, none⟩) ln ▸ hn0
    have HC := Lib.hid (insert_newI (w := wc.drew) T.out.drew.hn.own rfl i HJ.out.2 (by have := HB.out.1; omega) m 166)
    clear evL
    go_upto_region 3 with fail
    go_cut [] from 30 to 46 (fun wx => ∃ X : Nd, X.is = n0.is.take i ++ m :: n0.is.drop i ∧ (X.ps = n0.ps ∧ X.p = n0.p) ∧ Tri w0 wx n0 L0 R1 X L0 R1)
    case first =>
      go_region_law (go_simp; go_at_call 123; refine Calls.mono HC.out ?_; rintro e8 w8 ⟨v8, rfl, ho, hg, hq⟩; obtain ⟨A9, c9, rfl⟩ := own_form ho; obtain ⟨k8, k9⟩ := T.out.hn.after0 (grown_drew hg); have HO := Lib.hid ho; have HG := Lib.hid (grown_drew hg); have HQ := Lib.hid hq; clear ho hg hq)
      all_goals (go_wp2_with fail; go_meet; exact ⟨n0.put0 _ (n0.is.take i ++ m :: n0.is.drop i), rfl, ⟨rfl, rfl⟩, T.out.moveN (T.out.hn.put0 T.out.fn.p (m := n0.is.length + 1) (is := n0.is.take i ++ m :: n0.is.drop i) (by simp; have := HJ.out.2; omega) HO.out HG.out (fun q e => HQ.out q e))⟩)
    case rest =>
      clear T HC g0 hn0 hn1 hnf ln x0 x1 x2 x3 hL0 hLl
      obtain ⟨n1, qn1, ⟨qn2, qn3⟩, hT⟩ := hcut
      have T := Lib.hid hT
      have Qn1 := Lib.hid (And.intro qn1 (And.intro qn2 qn3))
      clear hT qn1 qn2 qn3
      obtain ⟨gL, cL, evL, q1, hLl, hL0, q2⟩ := T.out.hL.it HM.out
      rw [H6.out] at hL0 hLl evL
      have ho := T.out.hL.own
      rw [evL, H6.out] at ho
      have HC := Lib.hid (clone_anyI (rdv_sub Ix.vlen ho H6.out 0 3 0 (by omega) rfl) (fun h => by cases h) (show 3 ≤ cL by omega) (by omega))
      clear ho evL q1 q2
      go_upto_region 4 with fail
      go_cut [] from 47 to 56 (fun wx => ∃ X : Nd, X.is = L0.is.take 3 ∧ (X.ps = L0.ps ∧ X.p = L0.p) ∧ Tri w0 wx n0 L0 R1 n1 X R1)
      case first =>
        go_wp2_with fail
        refine Calls.mono HC.out ?_
        rintro e1 w1 ⟨v1, rfl, ho1, hb1⟩
        obtain ⟨A1, c1, rfl⟩ := own_form ho1
        obtain ⟨k8, k9⟩ := T.out.hL.after0 (grown_below hb1 _)
        have HO1 := Lib.hid ho1
        have HB1 := Lib.hid hb1
        clear ho1 hb1
        go_wp2_with fail
        go_meet
        exact ⟨L0.put0 _ (L0.is.take 3), rfl, ⟨rfl, rfl⟩, T.out.moveL (T.out.hL.put0 rfl (m := 3) (is := L0.is.take 3) (by rw [List.length_take, H6.out]; rfl) (own_zero HO1.out) (grown_below HB1.out _) (fun q e => .inr (own_ge HO1.out e)))⟩
      case rest =>
        clear T HC hL0 hLl
        obtain ⟨L1, qn1, ⟨qn2, qn3⟩, hT⟩ := hcut
        have T := Lib.hid hT
        have QL1 := Lib.hid (And.intro qn1 (And.intro qn2 qn3))
        clear hT qn1 qn2 qn3
        have HLE := Lib.hid (leaf_any T.out.hL)
        rw [T.out.fL.p] at HLE
        obtain ⟨b, hb⟩ : ∃ b, b = ((L1.ps.length : Int) == 0) := ⟨_, rfl⟩
        rw [← hb] at HLE
        have HBB := Lib.hid hb
        clear hb
        go_wp2_with fail
        refine Calls.mono HLE.out ?_
        rintro e3 w3 ⟨rfl, rfl⟩
        clear HLE
        go_upto_if 59 with fail
        go_cut [] from 60 to 81 (fun wx => ∃ X Y : Nd, (X.is = L1.is ∧ X.p = L1.p ∧ X.ps = L0.ps.take 4) ∧ (Y.is = R1.is ∧ Y.p = R1.p ∧ Y.ps = L0.ps.drop 4) ∧ Tri w0 wx n0 L0 R1 n1 X Y)
        case first =>
          rcases HLF.out with hl0 | hl0
          · have HL0 := Lib.hid hl0
            obtain rfl : b = true := by rw [HBB.out, QL1.out.2.1, hl0]; rfl
            clear hl0
            go_wp2_with fail
            go_meet
            exact ⟨L1, R1, ⟨rfl, rfl, by rw [QL1.out.2.1, HL0.out]; rfl⟩, ⟨rfl, rfl, by rw [HR1.out.2, HL0.out]; rfl⟩, T.out⟩
          · have HL0 := Lib.hid hl0
            obtain rfl : b = false := by rw [HBB.out, QL1.out.2.1, hl0]; rfl
            have hL7 : L1.ps.length = 7 := by rw [QL1.out.2.1, HL0.out]
            clear hl0
            have H7 := Lib.hid hL7
            obtain ⟨gk, ck, evk, q1, hkl, hL1, q2⟩ := T.out.hL.kd (j := 0) (List.getElem?_eq_getElem (by omega))
            rw [T.out.fL.p, hL7] at hL1
            rw [hL7] at hkl evk
            have ho := T.out.hL.kids
            rw [evk, hL7] at ho
            have HC := Lib.hid (clone_anyN (rdv_sub PV.len ho hL7 4 3 4 (by omega) rfl) (fun h => by cases h) (show 3 ≤ ck - 4 by omega) (by omega))
            have hc4 : ¬ (4 = ck) := by omega
            clear ho evk hL7 q1 q2
            go_upto_region 6 with fail
            go_cut [] from 60 to 70 (fun wx => ∃ X : Nd, X.ps = L1.ps.drop 4 ∧ (X.is = R1.is ∧ X.p = R1.p) ∧ Tri w0 wx n0 L0 R1 n1 L1 X)
            case first =>
              go_wp2_with fail
              refine Calls.mono HC.out ?_
              rintro e1 w1 ⟨v1, rfl, ho1, hb1⟩
              obtain ⟨A1, c1, rfl⟩ := own_form ho1
              obtain ⟨k8, k9⟩ := T.out.hR.after1 (grown_below hb1 _)
              have e4 : (L1.ps.drop 4).take 3 = L1.ps.drop 4 := List.take_of_length_le (by rw [List.length_drop, H7.out]; omega)
              rw [e4] at ho1
              have HO1 := Lib.hid ho1
              have HB1 := Lib.hid hb1
              clear ho1 hb1 e4
              go_wp2_with fail
              go_meet
              exact ⟨R1.put1 _ (L1.ps.drop 4), rfl, ⟨rfl, rfl⟩, T.out.moveR (T.out.hR.put1 rfl (m := 3) (ps := L1.ps.drop 4) (by rw [List.length_drop, H7.out]) (own_zero HO1.out) (grown_below HB1.out _) (fun q e => .inr (own_ge HO1.out e)))⟩
            case rest =>
              clear T HC hL1 hkl hc4
              obtain ⟨R2, qn1, ⟨qn2, qn3⟩, hT⟩ := hcut
              have T := Lib.hid hT
              have QR2 := Lib.hid (And.intro qn1 (And.intro qn2 qn3))
              clear hT qn1 qn2 qn3
              obtain ⟨gk, ck, evk, q1, hkl, hL1, q2⟩ := T.out.hL.kd (j := 0) (List.getElem?_eq_getElem (by rw [H7.out]; omega))
              rw [T.out.fL.p, H7.out] at hL1
              rw [H7.out] at hkl evk
              have ho := T.out.hL.kids
              rw [evk, H7.out] at ho
              have HC := Lib.hid (clone_anyN (rdv_sub PV.len ho H7.out 0 4 0 (by omega) rfl) (fun h => by cases h) (show 4 ≤ ck by omega) (by omega))
              clear ho evk q1 q2
              go_wp2_with fail
              refine Calls.mono HC.out ?_
              rintro e1 w1 ⟨v1, rfl, ho1, hb1⟩
              obtain ⟨A1, c1, rfl⟩ := own_form ho1
              obtain ⟨k8, k9⟩ := T.out.hL.after1 (grown_below hb1 _)
              rw [T.out.fL.p] at k8 k9
              have HO1 := Lib.hid ho1
              have HB1 := Lib.hid hb1
              clear ho1 hb1
              go_wp2_with fail
              go_meet
              exact ⟨L1.put1 _ (L1.ps.take 4), R2, ⟨rfl, rfl, by show L1.ps.take 4 = _; rw [QL1.out.2.1]⟩, ⟨QR2.out.2.1, QR2.out.2.2, by rw [QR2.out.1, QL1.out.2.1]⟩, T.out.moveL (T.out.hL.put1 T.out.fL.p (m := 4) (ps := L1.ps.take 4) (by rw [List.length_take, H7.out]; rfl) (own_zero HO1.out) (grown_below HB1.out _) (fun q e => .inr (own_ge HO1.out e)))⟩
        case rest =>
          clear T
          obtain ⟨L2, R2, ⟨ql1, ql2, ql3⟩, ⟨qr1, qr2, qr3⟩, hT⟩ := hcut
          have T := Lib.hid hT
          have QL2 := Lib.hid (And.intro ql1 (And.intro ql2 ql3))
          have QR2 := Lib.hid (And.intro qr1 (And.intro qr2 qr3))
          clear hT ql1 ql2 ql3 qr1 qr2 qr3
          have hn1 := T.out.hn.c1
          have ln := T.out.hn.lt (.inl rfl)
          rw [T.out.fn.p] at hn1 ln
          have HN1 := Lib.hid (show j ≤ n1.ps.length ∧ n1.ps.length ≤ 100 from by rw [Qn1.out.2.1]; exact ⟨HJ2.out, HB.out.2⟩)
          have HC := Lib.hid (insert_newN (w := wc) T.out.hn.kids rfl j HN1.out.1 (by have := HN1.out.2; omega) R1.p 151)
          go_upto_region 8 with fail
          go_wp2_with fail
          refine Calls.mono HC.out ?_
          rintro e1 w1 ⟨v1, rfl, ho, hg, hq⟩
          obtain ⟨A9, c9, rfl⟩ := own_form ho
          obtain ⟨k8, k9⟩ := T.out.hn.after1 hg
          rw [T.out.fn.p] at k8 k9
          have HO := Lib.hid ho
          have HG := Lib.hid hg
          have HQ := Lib.hid hq
          clear ho hg hq
          go_wp2_with fail
          refine bodyPost_end (v := .tuple #[]) (by simp [results, Try.results111, go_sem]) rfl ⟨n1.put1 _ (n1.ps.take j ++ R1.p :: n1.ps.drop j), L2, R2, rfl, Qn1.out.1, ?_, ?_, QL2.out.2.2, ?_, QR2.out.2.2, w0, R1, HNW.out.1, HNW.out.2, T.out.moveN (T.out.hn.put1 T.out.fn.p (m := n1.ps.length + 1) (ps := n1.ps.take j ++ R1.p :: n1.ps.drop j) (by simp; have := HN1.out.1; omega) HO.out HG.out (fun q e => HQ.out q e))⟩
          · show n1.ps.take j ++ R1.p :: n1.ps.drop j = _
            rw [Qn1.out.2.1, QR2.out.2.1]
          · rw [QL2.out.1, QL1.out.1]
          · rw [QR2.out.1, HR1.out.1]
end Go.Proofs.Ytejpjbmbcdgomaa

/- TMem, TPair, TFillM: put together. -/
/- Trees in memory: nodes apart; what is changed. -/
namespace Go.Proofs.Ytejpjbmbcdgomaa
set_option maxRecDepth 100000
open Go.RowKit

structure All (w : World) (l : List Nd) : Prop where
  m : ∀ n ∈ l, NdM w n
  ap : l.Pairwise Ap
def BL (l : List Nd) (k : Nat) : Prop := ∃ n ∈ l, n.B k
/-- Nodes became others. -/
structure Mv (w w' : World) (l l' : List Nd) : Prop where
  all : All w' l'
  ch : Ch w w' (BL l)
  fr : ∀ k, BL l' k → BL l k ∨ w.heap.size ≤ k
section
variable {w w' w1 w2 : World} {l l' l1 l2 r : List Nd}
theorem All.perm (h : All w l) (hp : l.Perm l') : All w l' := ⟨fun n hn => h.m n (hp.mem_iff.2 hn), (hp.pairwise_iff (fun e => Ap.symm e)).1 h.ap⟩
theorem BL.perm (hp : l.Perm l') {k : Nat} (h : BL l k) : BL l' k := by
  obtain ⟨n, h1, h2⟩ := h
  exact ⟨n, hp.mem_iff.1 h1, h2⟩
theorem All.sub (h : All w l) (hs : l'.Sublist l) : All w l' := ⟨fun n hn => h.m n (hs.subset hn), h.ap.sublist hs⟩
theorem BL.sub (hs : l'.Sublist l) {k : Nat} (h : BL l' k) : BL l k := by
  obtain ⟨n, h1, h2⟩ := h
  exact ⟨n, hs.subset h1, h2⟩
theorem All.lt (h : All w l) {k : Nat} (hk : BL l k) : k < w.heap.size := by
  obtain ⟨n, h1, h2⟩ := hk
  exact (h.m n h1).lt h2
theorem BL.app {k : Nat} : BL (l ++ r) k ↔ BL l k ∨ BL r k := by
  unfold BL
  constructor
  · rintro ⟨n, h1, h2⟩
    rcases List.mem_append.1 h1 with e | e
    · exact .inl ⟨n, e, h2⟩
    · exact .inr ⟨n, e, h2⟩
  · rintro (⟨n, h1, h2⟩ | ⟨n, h1, h2⟩)
    · exact ⟨n, List.mem_append_left _ h1, h2⟩
    · exact ⟨n, List.mem_append_right _ h1, h2⟩
theorem All.apart (h : All w (l ++ r)) {k : Nat} (h1 : BL l k) : ¬ BL r k := fun h2 => by
  obtain ⟨a, ha, e1⟩ := h1
  obtain ⟨b, hb, e2⟩ := h2
  exact (List.pairwise_append.1 h.ap).2.2 a ha b hb k e1 e2
theorem All.left (h : All w (l ++ r)) : All w l := h.sub (List.sublist_append_left l r)
theorem All.right (h : All w (l ++ r)) : All w r := h.sub (List.sublist_append_right l r)
theorem All.below (h : All w l) (hb : Below w.heap.size w w') : All w' l := ⟨fun n hn => (h.m n hn).below hb, h.ap⟩
theorem Mv.below (h : All w l) (hb : Below w.heap.size w w') : Mv w w' l l := ⟨h.below hb, Ch.of_below hb _, fun _ e => .inl e⟩
theorem Mv.refl (h : All w l) : Mv w w l l := Mv.below h (Below.refl _ _)
theorem Mv.trans (h : Mv w w1 l l1) (k : Mv w1 w2 l1 l2) : Mv w w2 l l2 :=
  ⟨k.all, h.ch.trans k.ch h.fr, fun q e => by
    rcases k.fr q e with e | e
    · exact h.fr q e
    · exact .inr (Nat.le_trans h.ch.size e)⟩
theorem Mv.perm (h : Mv w w' l l') (hp : l.Perm l1) (hq : l'.Perm l2) : Mv w w' l1 l2 :=
  ⟨h.all.perm hq, h.ch.mono fun _ e => BL.perm hp e, fun k e => (h.fr k (BL.perm hq.symm e)).imp (BL.perm hp) id⟩
theorem Mv.sub (h : Mv w w' l l') (hs : l1.Sublist l') : Mv w w' l l1 := ⟨h.all.sub hs, h.ch, fun k e => h.fr k (BL.sub hs e)⟩
theorem Mv.frame (h : All w (l ++ r)) (k : Mv w w' l l') : Mv w w' (l ++ r) (l' ++ r) := by
  refine ⟨⟨fun n hn => ?_, List.pairwise_append.2 ⟨k.all.ap, h.right.ap, fun a ha b hb q e1 e2 => ?_⟩⟩, k.ch.mono fun _ e => BL.app.2 (.inl e), fun q e => ?_⟩
  · rcases List.mem_append.1 hn with e | e
    · exact k.all.m n e
    · exact (h.right.m n e).keep fun q hq => k.ch.block q ((h.right.m n e).lt hq) fun e2 => h.apart e2 ⟨n, e, hq⟩
  · rcases k.fr q ⟨a, ha, e1⟩ with e | e
    · exact h.apart e ⟨b, hb, e2⟩
    · have := (h.right.m b hb).lt e2
      omega
  · rcases BL.app.1 e with e | e
    · exact (k.fr q e).imp (fun e => BL.app.2 (.inl e)) id
    · exact .inl (BL.app.2 (.inr e))
theorem bl3 {a b c : Nd} {k : Nat} : BL [a, b, c] k ↔ a.B k ∨ b.B k ∨ c.B k := by
  unfold BL
  simp
theorem bl2 {a b : Nd} {k : Nat} : BL [a, b] k ↔ a.B k ∨ b.B k := by
  unfold BL
  simp
theorem all3 {n L R : Nd} (hn : NdM w n) (hL : NdM w L) (hR : NdM w R) (a1 : Ap n L) (a2 : Ap n R) (a3 : Ap L R) : All w [n, L, R] :=
  ⟨fun m hm => by
    simp at hm
    rcases hm with rfl | rfl | rfl <;> assumption, by simp [a1, a2, a3]⟩
/-- One node alone. -/
theorem Mv.one {n n' : Nd} (h : NdM w' n' ∧ Ch w w' n.B ∧ Fr w n n') : Mv w w' [n] [n'] :=
  ⟨⟨fun m hm => by rw [List.mem_singleton.1 hm]; exact h.1, List.pairwise_singleton _ _⟩, h.2.1.mono fun _ e => ⟨n, by simp, e⟩, fun k ⟨m, hm, e⟩ => by
    rw [List.mem_singleton.1 hm] at e
    exact (h.2.2.new k e).imp (fun e => ⟨n, by simp, e⟩) id⟩
end
/-- A tree in memory whose leaves lie d levels below. -/
def MT : Nat → Type
  | 0 => Nd
  | d + 1 => Nd × List (MT d)
def root : (d : Nat) → MT d → Nd
  | 0, n => n
  | _ + 1, m => m.1
def kid : (d : Nat) → MT d → List (MT (d - 1))
  | 0, _ => []
  | _ + 1, m => m.2
def mkT : (d : Nat) → Nd → List (MT (d - 1)) → MT d
  | 0, n, _ => n
  | _ + 1, n, cs => (n, cs)
def nodes : (d : Nat) → MT d → List Nd
  | 0, n => [n]
  | d + 1, m => m.1 :: m.2.flatMap (nodes d)
def trOf : (d : Nat) → MT d → Tr Cl d
  | 0, n => n.is
  | d + 1, m => (m.1.is, m.2.map (trOf d))
def pOf (d : Nat) (m : MT d) : Nat := (root d m).p
def Lk : (d : Nat) → MT d → Prop
  | 0, n => n.ps = []
  | d + 1, m => m.1.ps = m.2.map (pOf d) ∧ ∀ c ∈ m.2, Lk d c
theorem mk_eta : ∀ (d : Nat) (m : MT d), mkT d (root d m) (kid d m) = m
  | 0, _ => rfl
  | _ + 1, _ => rfl
theorem kid_zero (d : Nat) (m : MT d) (h : d = 0) : kid d m = [] := by
  subst h
  rfl
theorem nodes_mk : ∀ (d : Nat) (n : Nd) (cs : List (MT (d - 1))), (d = 0 → cs = []) → nodes d (mkT d n cs) = n :: cs.flatMap (nodes (d - 1))
  | 0, n, cs, h => by rw [h rfl]; rfl
  | _ + 1, _, _, _ => rfl
theorem root_mk : ∀ (d : Nat) (n : Nd) (cs : List (MT (d - 1))), root d (mkT d n cs) = n
  | 0, _, _ => rfl
  | _ + 1, _, _ => rfl
theorem lk_mk : ∀ (d : Nat) (n : Nd) (cs : List (MT (d - 1))), (d = 0 → cs = []) → (Lk d (mkT d n cs) ↔ n.ps = cs.map (pOf (d - 1)) ∧ ∀ c ∈ cs, Lk (d - 1) c)
  | 0, n, cs, h => by
    rw [h rfl]
    show n.ps = [] ↔ _
    simp
  | _ + 1, _, _, _ => Iff.rfl
theorem nodes_eq (d : Nat) (m : MT d) : nodes d m = root d m :: (kid d m).flatMap (nodes (d - 1)) := by
  conv => lhs; rw [← mk_eta d m]
  exact nodes_mk d _ _ (kid_zero d m)
theorem lk_eq (d : Nat) (m : MT d) : Lk d m ↔ (root d m).ps = (kid d m).map (pOf (d - 1)) ∧ ∀ c ∈ kid d m, Lk (d - 1) c := by
  conv => lhs; rw [← mk_eta d m]
  exact lk_mk d _ _ (kid_zero d m)
theorem its_tr : ∀ (d : Nat) (m : MT d), its d (trOf d m) = (root d m).is
  | 0, _ => rfl
  | _ + 1, _ => rfl
/-- How many lie below a node. -/
theorem kids_len : ∀ (d : Nat) (m : MT d), Lk d m → Ok d (trOf d m) → (root d m).ps = [] ∨ (root d m).ps.length = (root d m).is.length + 1
  | 0, _, h, _ => .inl h
  | d + 1, m, h, hok => .inr (by
    have h1 : m.1.ps.length = m.2.length := by rw [h.1, List.length_map]
    have h2 : (m.2.map (trOf d)).length = m.1.is.length + 1 := hok.1
    rw [List.length_map] at h2
    show m.1.ps.length = m.1.is.length + 1
    omega)
end Go.Proofs.Ytejpjbmbcdgomaa

/- Two neighbours below a node, changed: the whole again. -/
namespace Go.Proofs.Ytejpjbmbcdgomaa
set_option maxRecDepth 100000
open Go.RowKit

section
variable {w w' : World} {d : Nat} {n n' L' R' : Nd} {a b : List (MT d)} {l r : MT d} {kl kr : List (MT (d - 1))}
open Classical in
theorem pair_perm (kl kr : List (MT (d - 1))) (hkl : d = 0 → kl = []) (hkr : d = 0 → kr = []) (n L R : Nd) (a b : List (MT d)) : (n :: (a ++ mkT d L kl :: mkT d R kr :: b).flatMap (nodes d)).Perm ([n, L, R] ++ ((kl ++ kr).flatMap (nodes (d - 1)) ++ (a ++ b).flatMap (nodes d))) := by
  rw [List.perm_iff_count]
  intro z
  simp only [List.flatMap_append, List.flatMap_cons, nodes_mk d _ _ hkl, nodes_mk d _ _ hkr, List.count_append, List.count_cons, List.count_nil]
  omega
open Classical in
theorem one_perm (kl : List (MT (d - 1))) (hkl : d = 0 → kl = []) (n L : Nd) (a b : List (MT d)) : (n :: (a ++ mkT d L kl :: b).flatMap (nodes d)).Perm ([n, L] ++ (kl.flatMap (nodes (d - 1)) ++ (a ++ b).flatMap (nodes d))) := by
  rw [List.perm_iff_count]
  intro z
  simp only [List.flatMap_append, List.flatMap_cons, nodes_mk d _ _ hkl, List.count_append, List.count_cons, List.count_nil]
  omega
end
theorem six_of {β : Type} (l : List β) (h : l.length = 6) : ∃ a b c e f g : β, l = [a, b, c, e, f, g] := by
  match l, h with
  | [a, b, c, e, f, g], _ => exact ⟨a, b, c, e, f, g, rfl⟩
theorem split_tr (x0 m : Ix) : ∀ (d : Nat) (c : MT d) (L' R' : Nd), (root d c).is.length = 6 → (root d c).is[3]? = some m → L'.is = (root d c).is.take 3 → R'.is = (root d c).is.drop 4 →
    splitT x0 d (trOf d c) = (trOf d (mkT d L' ((kid d c).take 4)), m, trOf d (mkT d R' ((kid d c).drop 4)))
  | 0, c, L', R', h6, hm, h1, h2 => by
    show splitT x0 0 ((root 0 c).is : List Ix) = ((L'.is : List Ix), m, (R'.is : List Ix))
    rw [h1, h2]
    generalize (root 0 c).is = l at h6 hm
    obtain ⟨y1, y2, y3, y4, y5, y6, rfl⟩ := six_of l h6
    simp at hm
    subst hm
    simp [splitT]
    rfl
  | d + 1, (cn, cc), L', R', h6, hm, h1, h2 => by
    have h6 : cn.is.length = 6 := h6
    have hm : cn.is[3]? = some m := hm
    have h1 : L'.is = cn.is.take 3 := h1
    have h2 : R'.is = cn.is.drop 4 := h2
    show splitT x0 (d + 1) ((cn.is, cc.map (trOf d)) : Tr Cl (d + 1)) = ((L'.is, List.map (trOf d) (cc.take 4)), m, (R'.is, List.map (trOf d) (cc.drop 4)))
    rw [h1, h2]
    generalize cn.is = l at h6 hm
    obtain ⟨y1, y2, y3, y4, y5, y6, rfl⟩ := six_of l h6
    simp at hm
    subst hm
    simp [splitT]
    rfl
end Go.Proofs.Ytejpjbmbcdgomaa

/- What a fill comes to, road by road; two neighbours' deeds as a node's. -/
namespace Go.Proofs.Ytejpjbmbcdgomaa
set_option maxRecDepth 100000
open Go.RowKit

section
variable {α : Type} {d : Nat}
end
/-- A node and those below it became others. -/
def NodePost {d : Nat} (w : World) (n : Nd) (cs : List (MT d)) (res : List Ix × List (Tr Cl d)) (e : Ending) (w' : World) : Prop :=
  ∃ (n' : Nd) (cs' : List (MT d)), e = .returned (.tuple #[]) ∧ n'.p = n.p ∧ n'.is = res.1 ∧ cs'.map (trOf d) = res.2 ∧ n'.ps = cs'.map (pOf d) ∧ (∀ z ∈ cs', Lk d z) ∧ Mv w w' (n :: cs.flatMap (nodes d)) (n' :: cs'.flatMap (nodes d))
structure NodeIn {d : Nat} (w : World) (n : Nd) (cs : List (MT d)) : Prop where
  all : All w (n :: cs.flatMap (nodes d))
  ps : n.ps = cs.map (pOf d)
  lk : ∀ z ∈ cs, Lk d z
  len : cs.length = n.is.length + 1
  few : n.is.length ≤ 6
  ok : ∀ z ∈ cs, Ok d (trOf d z) ∧ (root d z).is.length ≤ 6
section
variable {w : World} {d : Nat} {n : Nd} {a b : List (MT d)} {l r : MT d}
theorem ps_kid {z : MT d} (h : Lk d z) : (root d z).ps = (kid d z).map (pOf (d - 1)) := ((lk_eq d z).1 h).1
theorem lk_sub {z : MT d} (h : Lk d z) {kl : List (MT (d - 1))} {L' : Nd} (hs : ∀ c ∈ kl, c ∈ kid d z) (hk : d = 0 → kl = []) (hp : L'.ps = kl.map (pOf (d - 1))) : Lk d (mkT d L' kl) :=
  (lk_mk d L' kl hk).2 ⟨hp, fun c hc => ((lk_eq d z).1 h).2 c (hs c hc)⟩
theorem p_same {L' : Nd} {kl : List (MT (d - 1))} (h : L'.p = (root d l).p) : pOf d (mkT d L' kl) = pOf d l := by
  unfold pOf
  rw [root_mk, h]
end
end Go.Proofs.Ytejpjbmbcdgomaa
