/- DevCopies: the law. -/
import Derived.Test.YthmebgpleegonaaDTwo
namespace Go.Proofs.Ythmebgpleegonaa
set_option maxRecDepth 100000
open Go.RowKit

set_option maxHeartbeats 16000000 in
theorem copies_law (A : Option Addr) (c : Nat) (l : List Opx) (B : Option Addr) (cb : Nat) (lb : List Opx) (i0 : Int) (w : World) (h : Ops w A l) (hl : l.length ≤ 9223372036854775807) (hok : ∀ o ∈ l, OpOk w o) (hB : Ops w B lb) (hlb : lb.length ≤ 9223372036854775807) (hokb : ∀ o ∈ lb, OpOk w o) :
    Calls Try.prog 7 #[.slice A l.length c, .slice B lb.length cb, .int .i64 i0] w fun e w' => e = .returned (.bool true) ∧ Below w.heap.size w w' := by
  have HH := Lib.hid h
  have HB0 := Lib.hid hB
  have HOK := Lib.hid hok
  have HOKB := Lib.hid hokb
  have hl' := hl
  have hlb' := hlb
  obtain ⟨n, hn⟩ : ∃ n, n = l.length := ⟨_, rfl⟩
  obtain ⟨nb, hnb⟩ : ∃ n, n = lb.length := ⟨_, rfl⟩
  have HN := Lib.hid hn
  have HNB := Lib.hid hnb
  rw [← hn] at hl' ⊢
  rw [← hnb] at hlb' ⊢
  clear h hn hnb hok hB hokb
  go_enter Try.func7, Try.ntmps7
  go_wp2_with fail
  refine Calls.mono (alive_true w) ?_
  rintro e w1 ⟨rfl, b1⟩
  have B1 := Lib.hid b1
  have HLG := Lib.hid (long_any A c l w1 (RowAt.below HH.out b1) hl)
  rw [← HN.out] at HLG
  clear b1
  go_wp2_with fail
  refine Calls.mono HLG.out ?_
  rintro e w2 ⟨r, rfl, hr, b2⟩
  have B2 := Lib.hid (B1.out.trans (b2.mono B1.out.size))
  clear b2 HLG B1
  cases r with
  | true =>
    clear hr
    go_wp2_with fail
    go_ret
    exact ⟨rfl, B2.out⟩
  | false =>
  have HSH := Lib.hid (hr rfl)
  clear hr
  have HLG := Lib.hid (long_any B cb lb w2 (RowAt.below HB0.out B2.out) hlb)
  rw [← HNB.out] at HLG
  go_wp2_with fail
  refine Calls.mono HLG.out ?_
  rintro e w3 ⟨r, rfl, hr, b3⟩
  have B3 := Lib.hid (B2.out.trans (b3.mono B2.out.size))
  clear b3 HLG B2
  cases r with
  | true =>
    clear hr
    go_wp2_with fail
    go_ret
    exact ⟨rfl, B3.out⟩
  | false =>
  have HSB := Lib.hid (hr rfl)
  clear hr
  have hbk : Below w3.heap.size w3 (w3.alloc (.cells #[.int .i64 4, .int .i64 3] 3)) := (Below.refl _ _).alloc (Nat.le_refl _) _
  have HNW := Lib.hid (st_new _ 2 [4, 3] _ (sz_two w3 4 3) (by decide) (by decide))
  have CK := Lib.hid (Chg.of_below (B3.out.trans (hbk.mono B3.out.size)) (fun _ => False))
  clear hbk B3
  go_wp2_with fail
  refine Calls.mono HNW.out ?_
  rintro e w4 ⟨F, g, rfl, s4, c4⟩
  have S4 := Lib.hid s4
  have C4 := Lib.hid (CK.out.trans c4)
  have hbk : Below w4.heap.size w4 (w4.alloc (.cells #[.int .i64 4, .int .i64 3] 3)) := (Below.refl _ _).alloc (Nat.le_refl _) _
  have HNR := Lib.hid (refnew_yes _ 2 [4, 3] _ (sz_two w4 4 3) (by decide) (by decide))
  have HBK := Lib.hid hbk
  clear s4 c4 HNW CK hbk
  go_wp2_with fail
  refine Calls.mono HNR.out ?_
  rintro e w5 ⟨X, Ax, cx, rfl, r5, x5, b5⟩
  have b45 := HBK.out.trans (b5.mono HBK.out.size)
  have S5 := Lib.hid (S4.out.below b45)
  have R5 := Lib.hid (And.intro r5 (show ∀ k, X k → ¬ F k from fun k e e2 => by have h7 : w4.heap.size ≤ k := Nat.le_trans HBK.out.size (x5 k e); have := S4.out.lt k e2; omega))
  have C5 := Lib.hid (C4.out.trans (Chg.of_below b45 F))
  clear r5 x5 b45 b5 HNR S4 C4 HBK
  unfold rsV pw0
  go_upto_region 9 with fail
  have B5s := Lib.hid (show w.heap.size ≤ w5.heap.size from C5.out.size)
  have P5 := Lib.hid (show PMid w (w5.alloc (.cells #[.slice Ax 2 cx, .int .i64 0, .int .i64 0, .bool false, .bool false] 33)) w5.heap.size g 0 2 F X pw0 ([4, 3].map Dk.new) Ax cx 0 ∧ (w5.alloc (.cells #[.slice Ax 2 cx, .int .i64 0, .int .i64 0, .bool false, .bool false] 33)).heap[w5.heap.size]? = some (.cells #[.slice Ax 2 cx, .int .i64 0, .int .i64 0, .bool false, .bool false] 33 (0, 0)) from by
    have hba : Below w5.heap.size w5 (w5.alloc (.cells #[.slice Ax 2 cx, .int .i64 0, .int .i64 0, .bool false, .bool false] 33)) := (Below.refl _ _).alloc (Nat.le_refl _) _
    refine ⟨⟨(S5.out.mono (Nat.zero_le _)).below hba, R5.out.1.below hba, fun _ => rfl, R5.out.2, by simp, B5s.out, fun e => absurd (S5.out.lt _ e) (Nat.lt_irrefl _), fun e => absurd (R5.out.1.lt _ e) (Nat.lt_irrefl _), OkN.new (l := [4, 3]) (by decide), rfl, Nat.le_refl _, Nat.zero_le _, C5.out.trans (Chg.of_below hba F)⟩, heap_alloc_new w5 _⟩)
  clear S5 R5 C5 B5s
  obtain ⟨z, hz⟩ : ∃ z, z = w5.heap.size := ⟨_, rfl⟩
  rw [← hz] at P5 ⊢
  clear hz
  revert P5
  generalize World.alloc w5 _ = w6
  intro P5
  go_wp2_with fail
  have HB3 := Lib.hid (show n ≤ 81 ∧ nb ≤ 81 from by rw [HN.out, HNB.out]; exact ⟨HSH.out.1, HSB.out.1⟩)
  go_loopw [48] (fun i wr => ∃ (q : Nat) (F X : Nat → Prop) (p : Pw) (ds : List Dk) (A1 : Option Addr) (c1 : Nat) (left : Int), i = .int .i64 (q : Int) ∧ q ≤ n ∧ PMid w wr z g q 2 F X p ds A1 c1 left ∧ wr.heap[z]? = some (.cells #[.slice A1 2 c1, .int .i64 (p.steps : Int), .int .i64 left, .bool p.ia, .bool p.gone] 33 (0, 0))) (fun i _ => n - (intOf i).toNat)
  case atStart => exact ⟨0, F, X, pw0, _, Ax, cx, 0, rfl, by omega, P5.out.1, P5.out.2⟩
  case round =>
    obtain ⟨q, F1, X1, p, ds, A1, c1, left, rfl, hq, hP, k0⟩ := hrel
    by_cases hlt : q < n
    · have hql : q < l.length := by rw [← HN.out]; exact hlt
      obtain ⟨b, off, rfl, hc⟩ := Ops.cell (Ops.later HH.out hP.ch) (by omega)
      obtain ⟨y0, y1, y2, y3, y4⟩ := hc q hql
      obtain ⟨o, ho⟩ : ∃ o, o = l[q] := ⟨_, rfl⟩
      have hoo := HOK.out _ (List.getElem_mem hql)
      have hom := HSH.out.2 _ (List.getElem_mem hql)
      rw [← ho] at y0 y1 y2 y3 y4 hoo hom
      have hba : Below wr.heap.size wr (wr.alloc (.cells #[.int .i64 o.kind, .int .i64 o.dev, .int .i64 o.n, .int .u8 (o.b : Int), .slice o.A o.m o.c] 40)) := (Below.refl _ _).alloc (Nat.le_refl _) _
      have HQ := Lib.hid (And.intro (hP.below hba) (And.intro ((hba.block z hP.zl).trans k0) (heap_alloc_new wr (.cells #[.int .i64 o.kind, .int .i64 o.dev, .int .i64 o.n, .int .u8 (o.b : Int), .slice o.A o.m o.c] 40))))
      have HO := Lib.hid (And.intro hoo hom)
      clear hc ho hP k0 hba hoo hom
      go_upto_region 12 with fail
      clear y0 y1 y2 y3 y4
      obtain ⟨v, hv⟩ : ∃ v, v = wr.heap.size := ⟨_, rfl⟩
      rw [← hv] at HQ ⊢
      clear hv
      revert HQ
      generalize World.alloc wr _ = wq
      intro HQ
      have k0 := HQ.out.2.1
      have k1 := HQ.out.2.2
      have q0 := (cell_of_row _ _ 0 _ _ (0, 0) k0).trans rfl
      have q1 := (cell_of_row _ _ 1 _ _ (0, 0) k0).trans rfl
      have q2 := (cell_of_row _ _ 2 _ _ (0, 0) k0).trans rfl
      have q3 := (cell_of_row _ _ 3 _ _ (0, 0) k0).trans rfl
      have q4 := (cell_of_row _ _ 4 _ _ (0, 0) k0).trans rfl
      have f0 := frozen_at k0 0
      have f1 := frozen_at k0 1
      have f2 := frozen_at k0 2
      have f3 := frozen_at k0 3
      have f4 := frozen_at k0 4
      have y0 := (cell_of_row _ _ 0 _ _ (0, 0) k1).trans rfl
      have y1 := (cell_of_row _ _ 1 _ _ (0, 0) k1).trans rfl
      have y2 := (cell_of_row _ _ 2 _ _ (0, 0) k1).trans rfl
      have y3 := (cell_of_row _ _ 3 _ _ (0, 0) k1).trans rfl
      have y4 := (cell_of_row _ _ 4 _ _ (0, 0) k1).trans rfl
      have e0 := frozen_at k1 0
      have e1 := frozen_at k1 1
      have e2 := frozen_at k1 2
      have e3 := frozen_at k1 3
      have e4 := frozen_at k1 4
      clear k0 k1
      obtain ⟨p2, ds2, hcall⟩ := HQ.out.1.act2 (by omega) (by have := HB3.out.1; omega) o HO.out.1 HO.out.2
      have HC := Lib.hid hcall
      clear hcall HO
      go_wp2_with fail
      refine Calls.mono HC.out ?_
      rintro e w7 ⟨F2, X2, A2, c2, left2, rfl, hp7, hc7, hx7⟩
      clear HC
      have k7 := (hc7.block z HQ.out.1.zl HQ.out.1.fz).trans HQ.out.2.1
      have H8 := Lib.hid (And.intro hp7 k7)
      clear q0 q1 q2 q3 q4 f0 f1 f2 f3 f4 y0 y1 y2 y3 y4 e0 e1 e2 e3 e4 HQ hp7 hc7 hx7
      have q0 := (cell_of_row _ _ 0 _ _ (0, 0) k7).trans rfl
      have q1 := (cell_of_row _ _ 1 _ _ (0, 0) k7).trans rfl
      have q2 := (cell_of_row _ _ 2 _ _ (0, 0) k7).trans rfl
      have q3 := (cell_of_row _ _ 3 _ _ (0, 0) k7).trans rfl
      have q4 := (cell_of_row _ _ 4 _ _ (0, 0) k7).trans rfl
      have f0 := frozen_at k7 0
      have f1 := frozen_at k7 1
      have f2 := frozen_at k7 2
      have f3 := frozen_at k7 3
      have f4 := frozen_at k7 4
      have hz5 : z < w7.heap.size := H8.out.1.zl
      clear k7
      go_upto_region 13 with fail
      have HS := Lib.hid (H8.out.1.set z H8.out.1.fz H8.out.1.xz H8.out.1.zw (.slice A2 2 c2) (.int .i64 (p2.steps : Int)) (.int .i64 left2) (.bool p2.ia) (.bool p2.gone))
      have HT := Lib.hid (set5 w7 z 33 _ _ _ _ _ (.slice A2 2 c2) (.int .i64 (p2.steps : Int)) (.int .i64 left2) (.bool p2.ia) (.bool p2.gone) H8.out.2).1
      clear q0 q1 q2 q3 q4 f0 f1 f2 f3 f4 hz5 H8
      revert HS HT
      generalize World.setCell (World.setCell _ _ _) _ _ = w9
      intro HS HT
      go_wp2_with fail
      go_roundw
      case rel => exact ⟨q + 1, F2, X2, p2, ds2, A2, c2, left2, by go_num, by omega, HS.out, HT.out⟩
      case measure => simp [intOf]; omega
    · obtain rfl : q = n := by omega
      have HP := Lib.hid (And.intro hP k0)
      clear P5 hP k0 hlt hq
      go_upto_region 14 with fail
      obtain ⟨n1, hn1⟩ : ∃ y, y = q := ⟨_, rfl⟩
      rw [← hn1] at HP
      have hn81 : n1 ≤ 81 := by rw [hn1]; exact HB3.out.1
      clear hn1
      have HA := Lib.hid (show ∀ W2, Below wr.drew.heap.size wr.drew W2 → Below wr.heap.size wr W2 ∧ W2.heap[z]? = some (.cells #[.slice A1 2 c1, .int .i64 (p.steps : Int), .int .i64 left, .bool p.ia, .bool p.gone] 33 (0, 0)) from fun W2 hw => by
        have hb2 : Below wr.heap.size wr W2 := (Below.refl _ wr).drew.trans hw
        exact ⟨hb2, (hb2.block z HP.out.1.zl).trans HP.out.2⟩)
      refine wp_region_noPanic ?_
      refine wp_region_abs 5 157 [
        .is (.pointer (some ⟨g, 0, none⟩)),
        .tells (fun _ v _ wa => ∃ F' g', v = .pointer (some ⟨g', 0, none⟩) ∧ St wa F' g' p ds n1 ∧ ∀ k, F' k → wr.heap.size ≤ k),
        .is (.agg #[.slice A1 2 c1, .int .i64 (p.steps : Int), .int .i64 left, .bool p.ia, .bool p.gone]),
        .tells (fun _ v _ wa => ∃ z2, v = .pointer (some ⟨z2, 0, none⟩) ∧ wa.heap[z2]? = some (.cells #[.slice none 0 0, .int .i64 0, .int .i64 0, .bool false, .bool false] 33 (0, 0)) ∧ wr.heap.size ≤ z2),
        .tells (fun d v _ _ => ∃ p1, d = [p1] ∧ v = p1.1)]
        [60, 61, 62, 14, 13]
        [[], [0], [], [], [1]] (by kernel_rfl) (by rfl) rfl rfl (by kernel_rfl) (fun _ _ _ _ h => h.elim) ?_ ?_
      · refine ⟨?_, ?_, ?_, ?_, ?_, trivial⟩
        · intro W2 hw K hK
          go_simp
          exact hK _ _ rfl (Below.refl _ _)
        · intro W2 hw K hK
          have hb2 := (HA.out W2 hw).1
          have hcc := st_copy (HP.out.1.st.below hb2) (by rw [HP.out.1.len]; omega) (by omega)
          go_simp
          refine Calls.mono hcc ?_
          rintro e9 w5 ⟨F', g', rfl, h5, hb5⟩
          exact hK _ _ ⟨F', g', rfl, h5, fun k e => by
            rcases hb5.new k e with e2 | e2
            · exact e2.elim
            · exact Nat.le_trans hb2.size e2⟩ (hb5.below (Nat.le_refl _) fun k e => e.elim)
        · intro W2 hw K hK
          have k0 := (HA.out W2 hw).2
          have q0 := (cell_of_row _ _ 0 _ _ (0, 0) k0).trans rfl
          have q1 := (cell_of_row _ _ 1 _ _ (0, 0) k0).trans rfl
          have q2 := (cell_of_row _ _ 2 _ _ (0, 0) k0).trans rfl
          have q3 := (cell_of_row _ _ 3 _ _ (0, 0) k0).trans rfl
          have q4 := (cell_of_row _ _ 4 _ _ (0, 0) k0).trans rfl
          clear k0
          go_simp
          exact hK _ _ rfl (Below.refl _ _)
        · intro W2 hw K hK
          have hb2 := (HA.out W2 hw).1.size
          go_simp
          exact hK _ _ ⟨_, rfl, heap_alloc_new _ _, hb2⟩ ((Below.refl _ _).alloc (Nat.le_refl _) _)
        · rintro W2 hw v1 wb1 wa1 ⟨_, F', g', rfl, _, _⟩ x1 K hK
          go_simp
          exact hK _ _ ⟨_, rfl, rfl⟩ (Below.refl _ _)
      · intro W2 hw2
        intro v1 wb1 wa1 h1 x1 _ _ v3 wb3 wa3 h3 x3 _ _ v4 wb4 wa4 h4 _ _ _
        simp only [List.map_cons, List.map_nil, List.getD_cons_zero, List.getD_cons_succ, List.nil_append, List.cons_append] at h4
        simp only [Behind, List.drop, Act.put, List.setIfInBounds_toArray, List.set_cons_zero, List.set_cons_succ]
        obtain ⟨p4, hp4, rfl⟩ := h4
        obtain ⟨F', g2, rfl, s1, hF1⟩ := h1
        obtain ⟨z2, rfl, hz2, hzl⟩ := h3
        obtain rfl : _ = p4 := (List.cons.inj hp4).1
        simp only []
        have hb2 := (HA.out W2 hw2).1
        have hz2' := (x3.block z2 (Array.getElem?_eq_some_iff.1 hz2).1).trans hz2
        have hz5 : z2 < W2.heap.size := (Array.getElem?_eq_some_iff.1 hz2').1
        have s2 := (s1.below x1).minus hz2' (by decide) (by decide) (by decide)
        have hwr : w.heap.size ≤ wr.heap.size := HP.out.1.ch.size
        have hbw : Below w.heap.size w W2 := (HP.out.1.ch.below (Nat.le_refl _) (fun k e => e.elim)).trans (hb2.mono hwr)
        have hFl := HP.out.1.st.lt
        have hXl := HP.out.1.rs.lt
        have hzz := HP.out.1.zl
        have SD := Lib.hid (show Side w W2 z g n1 F1 X1 p ds A1 c1 left (fun k => F' k ∧ k ≠ z2) X1 z2 from
          ⟨HP.out.1.below hb2, (HA.out W2 hw2).2, fun k e e2 => by have := hFl k e; have := hF1 k e2.1; omega, fun k e e2 => by have := hXl k e; have := hF1 k e2.1; omega, fun e => by have := hF1 z e.1; omega, HP.out.1.xz, by omega, fun e => by have := hFl z2 e; omega, fun e => by have := hXl z2 e; omega⟩)
        have MD := Lib.hid (show PMid w W2 z2 g2 n1 2 (fun k => F' k ∧ k ≠ z2) X1 p ds A1 c1 left ∧ W2.heap[z2]? = some (.cells #[.slice none 0 0, .int .i64 0, .int .i64 0, .bool false, .bool false] 33 (0, 0)) from
          ⟨⟨s2, HP.out.1.rs.below hb2, HP.out.1.lf, fun k e e2 => by have := hXl k e; have := hF1 k e2.1; omega, hz5, by omega, fun e => e.2 rfl, fun e => by have := hXl z2 e; omega, HP.out.1.ok, HP.out.1.len, HP.out.1.ps, HP.out.1.pa, ⟨hbw.os, hbw.tape, hbw.output, hbw.size, fun k hk _ => hbw.block k hk, fun k e => .inr (by have := hF1 k e.1; omega)⟩⟩, hz2'⟩)
        have q0 := (cell_of_row _ _ 0 _ _ (0, 0) hz2').trans rfl
        have q1 := (cell_of_row _ _ 1 _ _ (0, 0) hz2').trans rfl
        have q2 := (cell_of_row _ _ 2 _ _ (0, 0) hz2').trans rfl
        have q3 := (cell_of_row _ _ 3 _ _ (0, 0) hz2').trans rfl
        have q4 := (cell_of_row _ _ 4 _ _ (0, 0) hz2').trans rfl
        have f0 := frozen_at hz2' 0
        have f1 := frozen_at hz2' 1
        have f2 := frozen_at hz2' 2
        have f3 := frozen_at hz2' 3
        have f4 := frozen_at hz2' 4
        clear hz2 hz2' s1 s2 x1 x3 hF1 hFl hXl hp4 hzz hzl hb2 hw2 hbw hwr HA
        go_wp2_with fail
        have HS := Lib.hid (SD.out.set MD.out.1.zw (.slice A1 2 c1) (.int .i64 (p.steps : Int)) (.int .i64 left) (.bool p.ia) (.bool p.gone))
        have HM := Lib.hid (MD.out.1.set z2 MD.out.1.fz MD.out.1.xz MD.out.1.zw (.slice A1 2 c1) (.int .i64 (p.steps : Int)) (.int .i64 left) (.bool p.ia) (.bool p.gone))
        have HT := Lib.hid (set5 W2 z2 33 _ _ _ _ _ (.slice A1 2 c1) (.int .i64 (p.steps : Int)) (.int .i64 left) (.bool p.ia) (.bool p.gone) MD.out.2).1
        clear q0 q1 q2 q3 q4 f0 f1 f2 f3 f4 hz5 MD SD HP
        revert HS HM HT
        generalize World.setCell (World.setCell _ _ _) _ _ = w9
        generalize (fun k => F' k ∧ k ≠ z2) = F2
        intro HS HM HT
        refine NoPanic.normal ?_
        go_wp2_with fail
        go_loopw [65] (fun i wr => ∃ (q : Nat) (F2 X2 : Nat → Prop) (p2 : Pw) (ds2 : List Dk) (A2 : Option Addr) (c2 : Nat) (left2 : Int), i = .int .i64 (q : Int) ∧ q ≤ nb ∧ PMid w wr z2 g2 (n1 + q) 2 F2 X2 p2 ds2 A2 c2 left2 ∧ wr.heap[z2]? = some (.cells #[.slice A2 2 c2, .int .i64 (p2.steps : Int), .int .i64 left2, .bool p2.ia, .bool p2.gone] 33 (0, 0)) ∧ Side w wr z g n1 F1 X1 p ds A1 c1 left F2 X2 z2) (fun i _ => nb - (intOf i).toNat)
        case atStart => exact ⟨0, F2, X1, p, ds, A1, c1, left, rfl, by omega, HM.out, HT.out, HS.out⟩
        case round =>
          clear HS HM HT
          obtain ⟨q, F3, X3, p3, ds3, A3, c3, left3, rfl, hq, hP, k0, hS⟩ := hrel
          by_cases hlt : q < nb
          · have hql : q < lb.length := by rw [← HNB.out]; exact hlt
            obtain ⟨b, off, rfl, hc⟩ := Ops.cell (Ops.later HB0.out hP.ch) (by omega)
            obtain ⟨y0, y1, y2, y3, y4⟩ := hc q hql
            obtain ⟨o, ho⟩ : ∃ o, o = lb[q] := ⟨_, rfl⟩
            have hoo := HOKB.out _ (List.getElem_mem hql)
            have hom := HSB.out.2 _ (List.getElem_mem hql)
            rw [← ho] at y0 y1 y2 y3 y4 hoo hom
            have hba : Below wr.heap.size wr (wr.alloc (.cells #[.int .i64 o.kind, .int .i64 o.dev, .int .i64 o.n, .int .u8 (o.b : Int), .slice o.A o.m o.c] 40)) := (Below.refl _ _).alloc (Nat.le_refl _) _
            have HQ := Lib.hid (And.intro (hP.below hba) (And.intro ((hba.block z2 hP.zl).trans k0) (And.intro (heap_alloc_new wr (.cells #[.int .i64 o.kind, .int .i64 o.dev, .int .i64 o.n, .int .u8 (o.b : Int), .slice o.A o.m o.c] 40)) (hS.below hba))))
            have HO := Lib.hid (And.intro hoo hom)
            clear hc ho hP k0 hba hoo hom hS
            go_upto_region 18 with fail
            clear y0 y1 y2 y3 y4
            obtain ⟨v, hv⟩ : ∃ v, v = wr.heap.size := ⟨_, rfl⟩
            rw [← hv] at HQ ⊢
            clear hv
            revert HQ
            generalize World.alloc wr _ = wq
            intro HQ
            have k0 := HQ.out.2.1
            have k1 := HQ.out.2.2.1
            have q0 := (cell_of_row _ _ 0 _ _ (0, 0) k0).trans rfl
            have q1 := (cell_of_row _ _ 1 _ _ (0, 0) k0).trans rfl
            have q2 := (cell_of_row _ _ 2 _ _ (0, 0) k0).trans rfl
            have q3 := (cell_of_row _ _ 3 _ _ (0, 0) k0).trans rfl
            have q4 := (cell_of_row _ _ 4 _ _ (0, 0) k0).trans rfl
            have f0 := frozen_at k0 0
            have f1 := frozen_at k0 1
            have f2 := frozen_at k0 2
            have f3 := frozen_at k0 3
            have f4 := frozen_at k0 4
            have y0 := (cell_of_row _ _ 0 _ _ (0, 0) k1).trans rfl
            have y1 := (cell_of_row _ _ 1 _ _ (0, 0) k1).trans rfl
            have y2 := (cell_of_row _ _ 2 _ _ (0, 0) k1).trans rfl
            have y3 := (cell_of_row _ _ 3 _ _ (0, 0) k1).trans rfl
            have y4 := (cell_of_row _ _ 4 _ _ (0, 0) k1).trans rfl
            have e0 := frozen_at k1 0
            have e1 := frozen_at k1 1
            have e2 := frozen_at k1 2
            have e3 := frozen_at k1 3
            have e4 := frozen_at k1 4
            clear k0 k1
            obtain ⟨p4, ds4, hcall⟩ := HQ.out.1.act2 (by omega) (by have := HB3.out.2; omega) o HO.out.1 HO.out.2
            have HC := Lib.hid hcall
            clear hcall HO
            go_wp2_with fail
            refine Calls.mono HC.out ?_
            rintro e w7 ⟨F4, X4, A4, c4, left4, rfl, hp7, hc7, hx7⟩
            clear HC
            have k7 := (hc7.block z2 HQ.out.1.zl HQ.out.1.fz).trans HQ.out.2.1
            have H8 := Lib.hid (And.intro hp7 (And.intro k7 (HQ.out.2.2.2.act hc7 hx7 HQ.out.1.Flow)))
            clear q0 q1 q2 q3 q4 f0 f1 f2 f3 f4 y0 y1 y2 y3 y4 e0 e1 e2 e3 e4 HQ hp7 hc7 hx7
            have q0 := (cell_of_row _ _ 0 _ _ (0, 0) k7).trans rfl
            have q1 := (cell_of_row _ _ 1 _ _ (0, 0) k7).trans rfl
            have q2 := (cell_of_row _ _ 2 _ _ (0, 0) k7).trans rfl
            have q3 := (cell_of_row _ _ 3 _ _ (0, 0) k7).trans rfl
            have q4 := (cell_of_row _ _ 4 _ _ (0, 0) k7).trans rfl
            have f0 := frozen_at k7 0
            have f1 := frozen_at k7 1
            have f2 := frozen_at k7 2
            have f3 := frozen_at k7 3
            have f4 := frozen_at k7 4
            have hz5 : z2 < w7.heap.size := H8.out.1.zl
            clear k7
            go_upto_region 19 with fail
            have HS := Lib.hid (H8.out.1.set z2 H8.out.1.fz H8.out.1.xz H8.out.1.zw (.slice A4 2 c4) (.int .i64 (p4.steps : Int)) (.int .i64 left4) (.bool p4.ia) (.bool p4.gone))
            have HT := Lib.hid (set5 w7 z2 33 _ _ _ _ _ (.slice A4 2 c4) (.int .i64 (p4.steps : Int)) (.int .i64 left4) (.bool p4.ia) (.bool p4.gone) H8.out.2.1).1
            have HD := Lib.hid (H8.out.2.2.set H8.out.1.zw (.slice A4 2 c4) (.int .i64 (p4.steps : Int)) (.int .i64 left4) (.bool p4.ia) (.bool p4.gone))
            clear q0 q1 q2 q3 q4 f0 f1 f2 f3 f4 hz5 H8
            revert HS HT HD
            generalize World.setCell (World.setCell _ _ _) _ _ = w9
            intro HS HT HD
            go_wp2_with fail
            go_roundw
            case rel => exact ⟨q + 1, F4, X4, p4, ds4, A4, c4, left4, by go_num, by omega, HS.out, HT.out, HD.out⟩
            case measure => simp [intOf]; omega
          · obtain rfl : q = nb := by omega
            have HT := Lib.hid (And.intro hP (And.intro k0 hS))
            clear hP k0 hS hlt hq
            go_wp2_with fail
            have HTB := Lib.hid (fun (W : World) (hb : Below wr.heap.size wr W) => And.intro (HT.out.1.below hb) (And.intro ((hb.block z2 HT.out.1.zl).trans HT.out.2.1) (HT.out.2.2.below hb)))
            have HBW := Lib.hid (HT.out.1.ch.below (Nat.le_refl _) (fun k e => e.elim))
            clear HT
            refine Calls.mono (nil_crash _ _) ?_
            rintro e w10 ⟨rfl, b10⟩
            have B10 := Lib.hid (show Below wr.heap.size wr w10 from ((Below.refl wr.heap.size wr).alloc (Nat.le_refl _) _).trans (b10.mono (by rw [World.size_alloc]; omega)))
            clear b10
            go_wp2_with fail
            refine Calls.mono (nil_read i0 i0 w10) ?_
            rintro e w11 ⟨rfl, b11⟩
            have hst := store_newS w11 Sx.zero
            have B11 := B10.out.trans (b11.mono B10.out.size)
            have B12 := Lib.hid (B11.alloc B11.size (.cells Sx.zero.arr 50))
            clear b11 B10 B11
            go_upto_region 23 with (refine wpList_store_val rfl (.tmp 18) (.tmp 86) rfl rfl Sx.zero.val rfl hst ?_)
            clear hst
            revert B12
            generalize World.alloc w11 _ = w12
            intro B12
            have hnw := nil_write i0 i0 Sx.zero w12
            unfold Sx.val eDown at hnw
            rw [← zero_arr] at hnw
            have HNW := Lib.hid hnw
            clear hnw
            go_wp2_with fail
            refine Calls.mono HNW.out ?_
            rintro e w13 ⟨rfl, b13⟩
            have B13 := Lib.hid (B12.out.trans (b13.mono B12.out.size))
            have hnf := nil_flush i0 w13
            have hna := nil_arm i0 w13
            unfold eDown at hnf hna
            have HNF := Lib.hid hnf
            have HNA := Lib.hid hna
            clear hnf hna b13 HNW B12
            go_wp2_with fail
            refine Calls.mono HNF.out ?_
            rintro e w14 ⟨rfl, rfl⟩
            go_wp2_with fail
            refine Calls.mono HNA.out ?_
            rintro e w14 ⟨rfl, rfl⟩
            have B14 := Lib.hid (B13.out.alloc B13.out.size (.cells #[.iface 71 (.int .i64 3), .iface 71 (.int .i64 3), .iface 71 (.int .i64 3), .iface 71 (.int .i64 3)] 28))
            have X14 := Lib.hid (heap_alloc_new w13 (.cells #[.iface 71 (.int .i64 3), .iface 71 (.int .i64 3), .iface 71 (.int .i64 3), .iface 71 (.int .i64 3)] 28))
            clear HNF HNA B13
            go_wp2_with fail
            obtain ⟨b, hb⟩ : ∃ y, y = w13.heap.size := ⟨_, rfl⟩
            rw [← hb] at X14 ⊢
            clear hb
            revert B14 X14
            generalize World.alloc w13 _ = w14
            intro B14 X14
            go_loopw [102] (fun i wr => ∃ q : Nat, i = .int .i64 (q : Int) ∧ q ≤ 4 ∧ wr = w14) (fun i _ => 4 - (intOf i).toNat)
            case atStart => exact ⟨0, rfl, by omega, rfl⟩
            case round =>
              obtain ⟨q3, rfl, hq3, rfl⟩ := hrel
              by_cases hlt : q3 < 4
              · have x0 : wr.cell? ⟨b, q3, none⟩ = some (.iface 71 (.int .i64 3)) := by
                  rw [cell_of_row _ b q3 _ _ (0, 0) X14.out]
                  rcases q3 with _ | _ | _ | _ | q3
                  · rfl
                  · rfl
                  · rfl
                  · rfl
                  · omega
                go_wp2_with fail
                refine Calls.mono (is_down _) ?_
                rintro e w15 ⟨rfl, rfl⟩
                go_wp2_with fail
                go_roundw
                case rel => exact ⟨q3 + 1, by go_num, by omega, trivial⟩
                case measure => simp [intOf]; omega
              · obtain rfl : q3 = 4 := by omega
                clear hlt hq3
                have T := HTB.out _ B14.out
                have HST := Lib.hid (T.2.2.mid.stands (by omega) (by omega))
                have k0 := T.2.2.box
                have q0 := (cell_of_row _ _ 0 _ _ (0, 0) k0).trans rfl
                have q1 := (cell_of_row _ _ 1 _ _ (0, 0) k0).trans rfl
                have q2 := (cell_of_row _ _ 2 _ _ (0, 0) k0).trans rfl
                have q3 := (cell_of_row _ _ 3 _ _ (0, 0) k0).trans rfl
                have q4 := (cell_of_row _ _ 4 _ _ (0, 0) k0).trans rfl
                clear k0 T X14
                go_wp2_with fail
                refine Calls.mono HST.out ?_
                rintro e w15 ⟨rfl, b15⟩
                have B15 := Lib.hid (B14.out.trans (b15.mono B14.out.size))
                clear b15 B14 q0 q1 q2 q3 q4 HST
                have T := HTB.out _ B15.out
                have HST := Lib.hid (T.1.stands (by omega) (by have := HB3.out.2; omega))
                have k0 := T.2.1
                have q0 := (cell_of_row _ _ 0 _ _ (0, 0) k0).trans rfl
                have q1 := (cell_of_row _ _ 1 _ _ (0, 0) k0).trans rfl
                have q2 := (cell_of_row _ _ 2 _ _ (0, 0) k0).trans rfl
                have q3 := (cell_of_row _ _ 3 _ _ (0, 0) k0).trans rfl
                have q4 := (cell_of_row _ _ 4 _ _ (0, 0) k0).trans rfl
                clear k0 T
                go_wp2_with fail
                refine Calls.mono HST.out ?_
                rintro e w16 ⟨rfl, b16⟩
                have B16 := Lib.hid (B15.out.trans (b16.mono B15.out.size))
                clear b16 B15 q0 q1 q2 q3 q4 HST HTB
                go_wp2_with fail
                refine Calls.mono (nil_sure i0 i0 w16) ?_
                rintro e w17 ⟨rfl, b17⟩
                have B17 := Lib.hid (B16.out.trans (b17.mono B16.out.size))
                have he1 : ∀ V, V = Sx.zero.val → (binOp .eql 50 V Sx.zero.val).run Try.prog w17 = .ok (.bool true) w17 := by
                  rintro V rfl
                  have h9 := eql_sx Sx.zero Sx.zero w17
                  rwa [decide_eq_true rfl] at h9
                have he2 : ∀ V, V = Sx.zero.val → (eqGuard .eql 50 (.tmp 122) (.tmp 123) V Sx.zero.val).run Try.prog w17 = .ok () w17 := by
                  rintro V rfl
                  exact guard_sx .eql (.tmp 122) (.tmp 123) Sx.zero Sx.zero w17
                unfold Sx.val at he1 he2
                rw [← zero_arr] at he1 he2
                have he3 := he1 Sx.zero.val (congrArg Value.agg zero_arr.symm)
                have he4 := he2 Sx.zero.val (congrArg Value.agg zero_arr.symm)
                clear b17 B16 he1 he2
                go_wp2_with fail
                refine Calls.mono (nil_many w17) ?_
                rintro e w18 ⟨rfl, rfl⟩
                clear he3 he4
                go_wp2_with fail
                refine Calls.mono (nil_size i0 w17) ?_
                rintro e w18 ⟨rfl, rfl⟩
                go_wp2_with fail
                refine Calls.mono (nil_waiting i0 w17) ?_
                rintro e w18 ⟨rfl, rfl⟩
                go_wp2_with fail
                refine Calls.mono (nil_steps w17) ?_
                rintro e w18 ⟨rfl, rfl⟩
                go_wp2_with fail
                refine Calls.mono (nil_down w17) ?_
                rintro e w18 ⟨rfl, rfl⟩
                go_wp2_with fail
                refine Calls.mono (nil_copy w17) ?_
                rintro e w18 ⟨rfl, rfl⟩
                go_wp2_with fail
                go_ret
                exact ⟨rfl, HBW.out.trans (B17.out.mono HBW.out.size)⟩
end Go.Proofs.Ythmebgpleegonaa
