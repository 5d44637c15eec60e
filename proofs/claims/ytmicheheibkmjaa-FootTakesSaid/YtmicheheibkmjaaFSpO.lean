/- foot's spans in order: the walk. -/
import Derived.Test.YtmicheheibkmjaaFSpI
namespace Go.Proofs.Ytmicheheibkmjaa
set_option maxRecDepth 100000
open Go.RowKit Go.Shelf

theorem own_low {w : World} {B B' e size n : Nat} {v : Value} {xs : List Value} (h : w.ownsRow B e size v n xs) (hB : B' ≤ B) : w.ownsRow B' e size v n xs := by
  obtain ⟨h1, h2⟩ := h
  refine ⟨h1, ?_⟩
  rcases h2 with q | ⟨g, cap, cur, hv, hb, r⟩
  · exact .inl q
  · exact .inr ⟨g, cap, cur, hv, Nat.le_trans hB hb, r⟩
theorem ownv_below {w w' : World} {B e size n : Nat} {v : Value} {xs : List Value} (h : w.ownsRow B e size v n xs) (hb : Below w.heap.size w w') : w'.ownsRow B e size v n xs := by
  rcases h.2 with ⟨rfl, rfl⟩ | ⟨g, cap, cur, rfl, _⟩
  · exact ⟨h.1, .inl ⟨rfl, rfl⟩⟩
  · exact own_below h hb
theorem rdv_one3 (w : World) (a b c : Value) (t : TypeId) : Rdv (w.alloc (.cells #[a, b, c] t)) (some ⟨w.heap.size, 0, none⟩) 1 3 [a, b, c] :=
  ⟨rfl, fun _ => ⟨_, _, rfl, fun j u hj => by
    rcases j with _ | _ | _ | j
    · simp at hj; subst hj; rw [cell_of_row _ _ _ _ _ (0, 0) (heap_alloc_new w _)]; rfl
    · simp at hj; subst hj; rw [cell_of_row _ _ _ _ _ (0, 0) (heap_alloc_new w _)]; rfl
    · simp at hj; subst hj; rw [cell_of_row _ _ _ _ _ (0, 0) (heap_alloc_new w _)]; rfl
    · simp at hj⟩⟩
set_option maxHeartbeats 8000000 in
theorem spansinorder_any (v : Value) (n B : Nat) (l : List Sp) (w : World) (h : w.ownsRow B 54 3 v n (rowV Sp.vals l)) (hl : l.length = n) (hn : n ≤ 1000000) (_ : B ≤ w.heap.size) (hfit : ∀ x ∈ l, FitS x) :
    Calls Try.prog 34 #[v] w fun e w' => ∃ v', e = .returned v' ∧ ∃ m, (addAll [] l).length = m ∧ m ≤ n ∧ w'.ownsRow w.heap.size 54 3 v' m (rowV Sp.vals (addAll [] l)) ∧ w.grownBy w' v.ownBlock ∧ ∀ e ∈ addAll [] l, FitS e := by
  have hcase := h.2
  rcases hcase with ⟨rfl, rfl⟩ | ⟨g, cap, cur, rfl, _⟩
  · obtain rfl : l = [] := List.eq_nil_of_length_eq_zero hl
    have H1 := Lib.hid (delete_none w)
    clear h
    go_enter Try.func34, Try.ntmps34
    go_wp2_with fail
    refine Calls.mono H1.out ?_
    rintro e w1 ⟨rfl, hb1⟩
    have H2 := Lib.hid (sortspans_none 0 w1)
    have HB1 := Lib.hid hb1
    clear hb1
    go_wp2_with fail
    refine Calls.mono H2.out ?_
    rintro e w2 ⟨rfl, rfl⟩
    go_wp2_with fail
    refine wp_loop_rounds 1 ?_
    rw [rounds_succ]
    go_wp2_with fail
    go_ret
    exact ⟨_, rfl, 0, rfl, by omega, World.ownsRow_nil _ _ _ _, grown_below HB1.out _, fun e he => by simp [addAll] at he⟩
  · have H1 := Lib.hid (delete_any g n cap B l w h hl hn)
    have hfl : ∀ x ∈ l.filter keepB, FitS x := fun x hx => hfit x (List.mem_filter.1 hx).1
    have HPL := Lib.hid (show ∀ x, x ∈ l.filter keepB ↔ x ∈ l ∧ x.lo ≤ x.hi from fun x => by
      rw [List.mem_filter]
      refine and_congr Iff.rfl ?_
      simp [keepB, empB])
    have hgw := (own_lt h).2.1
    have HFL := Lib.hid hfl
    have hml := List.length_filter_le keepB l
    rw [hl] at hml
    clear h hl hfit hfl
    go_enter Try.func34, Try.ntmps34
    go_wp2_with fail
    refine Calls.mono H1.out ?_
    rintro e w1 ⟨m, rfl, hm, ho1, hg1⟩
    rw [hm] at hml
    have H2 := Lib.hid (sortspans_any g m cap B _ w1 ho1 hm (by omega))
    have HG1 := Lib.hid hg1
    clear ho1 hg1 hm
    go_wp2_with fail
    refine Calls.mono H2.out ?_
    rintro e w2 ⟨rfl, s, hs1, hs2, hs3, ho2, hg2⟩
    have HJ := Lib.hid (spans_join (l := l) (s := s) (fun x => by rw [hs2, HPL.out]) hs3)
    have HFS := Lib.hid (show ∀ x ∈ s, FitS x from fun x hx => HFL.out x ((hs2 x).1 hx))
    have HG2 := Lib.hid (grown_trans HG1.out hg2)
    have HSP := Lib.hid (SP.spans (w := w2) (B := B) (g := g) (n := m) (c := cap) (r := s) ⟨ho2, grown_refl _ _, hs1⟩)
    have HSL := Lib.hid hs1
    have hsz := hg2.size
    have hsz2 := HG1.out.size
    clear hs1 hs2 hs3 ho2 hg2
    go_wp2_with fail
    rename World => w2
    go_loopw [3, 5, 6, 13] (fun vo _ _ i wx => ∃ (q k : Nat) (o : List Sp), i = .int .i64 (q : Int) ∧ q ≤ m ∧ Hid (o = (s.take q).foldl mrg []) ∧ o.length = k ∧ k ≤ q ∧ wx.ownsRow w2.heap.size 54 3 vo k (rowV Sp.vals o) ∧ Below w2.heap.size w2 wx ∧ Hid (∀ e ∈ o, FitS e)) (fun _ _ _ i _ => m - (intOf i).toNat)
    case atStart => exact ⟨0, 0, [], rfl, by omega, by rfl, rfl, by omega, World.ownsRow_nil _ _ _ _, Below.refl _ _, fun e he => by simp at he⟩
    case round =>
      obtain ⟨q, k, o, rfl, hq, ho, hok, hkq, hown, hbx, hof⟩ := hrel
      have HO := Lib.hid hown
      have HBX := Lib.hid hbx
      by_cases hlt : q < m
      · have hqs : q < s.length := by rw [HSL.out]; exact hlt
        obtain ⟨_, _, hA, hc⟩ := Spans.cells (HSP.out.below hbx) (by omega)
        injection hA with hA
        injection hA with hA1 hA2
        subst hA1 hA2
        obtain ⟨c0, c1, c2⟩ := hc q hqs
        have HM := Lib.hid (show (s.take (q + 1)).foldl mrg [] = mrg o s[q] by
          rw [List.take_succ_eq_append_getElem hqs, List.foldl_append, ho.out]; rfl)
        have HFX := Lib.hid (HFS.out s[q] (List.getElem_mem hqs))
        obtain ⟨x, hx⟩ : ∃ x, x = s[q] := ⟨_, rfl⟩
        rw [← hx] at c0 c1 c2 HM HFX
        simp only [Nat.zero_add] at c0 c1 c2
        have hsx := HBX.out.size
        obtain ⟨Ao, co, rfl, hr, hnil, hkc⟩ := rdv_own hown
        clear hc hx hown hbx
        rcases List.eq_nil_or_concat o with rfl | ⟨p, e, rfl⟩
        · obtain rfl : k = 0 := by simpa using hok.symm
          have HUW := Lib.hid (show Below wr.heap.size wr (wr.alloc (.cells #[.int .i64 x.t, .int .i64 x.lo, .int .i64 x.hi] 54)) from (Below.refl wr.heap.size wr).alloc (Nat.le_refl _) _)
          clear hr hnil hkc
          go_wp2_with fail
          refine wp_region_noPanic ?_
          refine wp_region_abs 9 48 [.is (.int .i64 (-1)), .is (.bool true), .is (.bool true), .is undef, .is undef, .is undef, .is undef, .is undef, .is undef]
            [20, 21, 22, 23, 24, 25, 26, 27, 28]
            [[], [0], [1], [2], [2], [3, 4, 2], [5, 2], [2], [6, 7, 2]] (by kernel_rfl) (by rfl) rfl rfl (by kernel_rfl) (fun _ _ _ _ h => h.elim) ?_ ?_
          · refine ⟨?_, ?_, ?_, ?_, ?_, ?_, ?_, ?_, ?_, trivial⟩
            · intro W2 hw K hK
              go_simp
              exact hK _ _ rfl (Below.refl _ _)
            · intro W2 hw K hK
              go_simp
              exact hK _ _ rfl (Below.refl _ _)
            · intro W2 hw K hK
              go_simp
              exact hK _ _ rfl (Below.refl _ _)
            · intro W2 hw K hK
              go_simp
              exact hK _ _ rfl (Below.refl _ _)
            · intro W2 hw K hK
              go_simp
              exact hK _ _ rfl (Below.refl _ _)
            · intro W2 hw K hK
              go_simp
              exact hK _ _ rfl (Below.refl _ _)
            · intro W2 hw K hK
              go_simp
              exact hK _ _ rfl (Below.refl _ _)
            · intro W2 hw K hK
              go_simp
              exact hK _ _ rfl (Below.refl _ _)
            · intro W2 hw K hK
              go_simp
              exact hK _ _ rfl (Below.refl _ _)
          · intro W2 hw2
            simp only [Behind]
            have hw3 : Below (wr.alloc (.cells #[.int .i64 x.t, .int .i64 x.lo, .int .i64 x.hi] 54)).heap.size (wr.alloc (.cells #[.int .i64 x.t, .int .i64 x.lo, .int .i64 x.hi] 54)) W2 := (Below.refl _ _).drew.trans hw2
            obtain ⟨b0, b1, b2⟩ := sbox hw3
            have HWX := Lib.hid (HUW.out.trans (hw3.mono (by simp)))
            have HO3 := Lib.hid ((ownv_below HO.out HWX.out).alloc (.cells #[.int .i64 x.t, .int .i64 x.lo, .int .i64 x.hi] 54))
            have HR3 := Lib.hid (rdv_one3 W2 (.int .i64 x.t) (.int .i64 x.lo) (.int .i64 x.hi) 54)
            have HB6 := Lib.hid ((HBX.out.trans (HWX.out.mono HBX.out.size)).alloc (Nat.le_trans HBX.out.size HWX.out.size) (.cells #[.int .i64 x.t, .int .i64 x.lo, .int .i64 x.hi] 54))
            have hsz5 : w2.heap.size ≤ W2.heap.size := Nat.le_trans HBX.out.size HWX.out.size
            clear hw2 hw3
            simp only [List.drop, Act.put, List.setIfInBounds_toArray, List.set_cons_zero, List.set_cons_succ]
            go_wp2_with fail
            refine NoPanic.normal ?_
            go_wp2_with (at_builtin; refine wpList_append_rowv elem28 rfl (.tmp 30) (.tmp 32) rfl w2.heap.size _ 0 _ rfl HO3.out (some ⟨W2.heap.size, 0, none⟩) 1 1 [.int .i64 x.t, .int .i64 x.lo, .int .i64 x.hi] rfl HR3.out (svals_one x) (fun h => by cases h) (by unfold maxLen; omega) (by omega) (by rw [World.size_alloc]; omega) ?_; intro v3 w3 hown3 hg3 _; have HO7 := Lib.hid hown3; have HB7 := Lib.hid (HB6.out.grown hg3 (by rw [World.size_alloc]; omega) (fun k hk => (HO3.out.lt k hk).1)); clear hown3 hg3)
            go_roundw
            case rel =>
              refine ⟨q + 1, 1, [x], by go_num, by omega, ?_, rfl, by omega, ?_, HB7.out, ?_⟩
              · rw [HM.out]; rfl
              · have := HO7.out
                rwa [show [Value.int .i64 x.t, .int .i64 x.lo, .int .i64 x.hi] = rowV Sp.vals [x] from rfl, ← rowV_append Sp.vals [] [x], List.nil_append] at this
              · intro e he
                simp at he
                rw [he]; exact HFX.out
            case measure => simp [intOf]; omega
        · simp only [List.concat_eq_append] at ho hof hok HO HM
          obtain rfl : k = p.length + 1 := by simpa using hok.symm
          obtain ⟨go, rfl⟩ : ∃ go, Ao = some ⟨go, 0, none⟩ := by
            rcases HO.out.2 with ⟨hv, _⟩ | ⟨g', cap', cur', hv, _⟩
            · injection hv with _ a2
              omega
            · injection hv with a1
              exact ⟨g', a1⟩
          have HFE := Lib.hid (hof.out e (by simp))
          have HX1 := Lib.hid (show SP w2 w2.heap.size go (p.length + 1) co (p ++ [e]) wr from ⟨HO.out, ⟨HBX.out.os, HBX.out.tape, HBX.out.output, HBX.out.size, fun k hk _ => HBX.out.block k hk⟩, by simp⟩)
          have HGO := Lib.hid (own_lt HO.out)
          have hel : (p ++ [e])[p.length]'(by simp) = e := by simp
          have HUW := Lib.hid (show Below wr.heap.size wr (wr.alloc (.cells #[.int .i64 x.t, .int .i64 x.lo, .int .i64 x.hi] 54)) from (Below.refl wr.heap.size wr).alloc (Nat.le_refl _) _)
          have HX2 := Lib.hid (show ∀ W2, Below (wr.alloc (.cells #[.int .i64 x.t, .int .i64 x.lo, .int .i64 x.hi] 54)).drew.heap.size (wr.alloc (.cells #[.int .i64 x.t, .int .i64 x.lo, .int .i64 x.hi] 54)).drew W2 → (W2.cell? ⟨go, p.length * 3, none⟩ = some (.int .i64 e.t) ∧ W2.cell? ⟨go, p.length * 3 + 1, none⟩ = some (.int .i64 e.lo) ∧ W2.cell? ⟨go, p.length * 3 + 2, none⟩ = some (.int .i64 e.hi)) ∧ (W2.cell? ⟨wr.heap.size, 0, none⟩ = some (.int .i64 x.t) ∧ W2.cell? ⟨wr.heap.size, 1, none⟩ = some (.int .i64 x.lo) ∧ W2.cell? ⟨wr.heap.size, 2, none⟩ = some (.int .i64 x.hi)) from fun W2 hw => by
            have hw3 : Below (wr.alloc (.cells #[.int .i64 x.t, .int .i64 x.lo, .int .i64 x.hi] 54)).heap.size (wr.alloc (.cells #[.int .i64 x.t, .int .i64 x.lo, .int .i64 x.hi] 54)) W2 := (Below.refl _ _).drew.trans hw
            refine ⟨?_, sbox hw3⟩
            have q := ((HX1.out.below HUW.out).below hw3).cells p.length (by simp)
            rwa [hel] at q)
          have HAP := Lib.hid (apart_any e x HFE.out HFX.out)
          unfold Sp.val at HAP
          have hpm : (p.length : Int) < 9223372036854775807 := by omega
          have hlt1 : (p.length : Int) < (p.length : Int) + 1 := by omega
          have hp0 : decide ((p.length : Int) < 0) = false := by rw [decide_eq_false_iff_not]; omega
          clear hr hnil hkc
          go_wp2_with fail
          refine wp_region_noPanic ?_
          refine wp_region_abs 9 48 [.is (.int .i64 (p.length : Int)), .is (.bool false), .is (.bool false), .is (.slice (some ⟨go, 0, none⟩) (p.length + 1) co), .is (.int .i64 (p.length : Int)), .is (.pointer (some ⟨go, p.length * 3, none⟩)), .is (.agg #[.int .i64 e.t, .int .i64 e.lo, .int .i64 e.hi]), .is (.agg #[.int .i64 x.t, .int .i64 x.lo, .int .i64 x.hi]), .tells fun _ v wb wa => v = .bool (decide (ap e x)) ∧ Below wb.heap.size wb wa]
            [20, 21, 22, 23, 24, 25, 26, 27, 28]
            [[], [0], [1], [2], [2], [3, 4, 2], [5, 2], [2], [6, 7, 2]] (by kernel_rfl) (by rfl) rfl rfl (by kernel_rfl) (fun _ _ _ _ h => h.elim) ?_ ?_
          · refine ⟨?_, ?_, ?_, ?_, ?_, ?_, ?_, ?_, ?_, trivial⟩
            · intro W2 hw K hK
              obtain ⟨⟨o0, o1, o2⟩, b0, b1, b2⟩ := HX2.out W2 hw
              go_simp
              exact hK _ _ rfl (Below.refl _ _)
            · intro W2 hw K hK
              obtain ⟨⟨o0, o1, o2⟩, b0, b1, b2⟩ := HX2.out W2 hw
              go_simp
              exact hK _ _ rfl (Below.refl _ _)
            · intro W2 hw K hK
              obtain ⟨⟨o0, o1, o2⟩, b0, b1, b2⟩ := HX2.out W2 hw
              go_simp
              exact hK _ _ rfl (Below.refl _ _)
            · intro W2 hw K hK
              obtain ⟨⟨o0, o1, o2⟩, b0, b1, b2⟩ := HX2.out W2 hw
              go_simp
              exact hK _ _ rfl (Below.refl _ _)
            · intro W2 hw K hK
              obtain ⟨⟨o0, o1, o2⟩, b0, b1, b2⟩ := HX2.out W2 hw
              go_simp
              exact hK _ _ rfl (Below.refl _ _)
            · intro W2 hw K hK
              obtain ⟨⟨o0, o1, o2⟩, b0, b1, b2⟩ := HX2.out W2 hw
              go_simp
              exact hK _ _ rfl (Below.refl _ _)
            · intro W2 hw K hK
              obtain ⟨⟨o0, o1, o2⟩, b0, b1, b2⟩ := HX2.out W2 hw
              go_simp
              exact hK _ _ rfl (Below.refl _ _)
            · intro W2 hw K hK
              obtain ⟨⟨o0, o1, o2⟩, b0, b1, b2⟩ := HX2.out W2 hw
              go_simp
              exact hK _ _ rfl (Below.refl _ _)
            · intro W2 hw K hK
              go_simp
              refine Calls.mono (HAP.out W2) ?_
              rintro e9 w5 ⟨rfl, hb5⟩
              exact hK _ _ ⟨rfl, hb5⟩ hb5
          · intro W2 hw2
            simp only [Behind]
            intro v8 wb8 wa8 h8 x8 y8 r8
            obtain ⟨h8, _⟩ := h8
            subst h8
            have hw3 : Below (wr.alloc (.cells #[.int .i64 x.t, .int .i64 x.lo, .int .i64 x.hi] 54)).heap.size (wr.alloc (.cells #[.int .i64 x.t, .int .i64 x.lo, .int .i64 x.hi] 54)) W2 := (Below.refl _ _).drew.trans hw2
            obtain ⟨b0, b1, b2⟩ := sbox hw3
            have HWX := Lib.hid (HUW.out.trans (hw3.mono (by simp)))
            have hsz5 : w2.heap.size ≤ W2.heap.size := Nat.le_trans HBX.out.size HWX.out.size
            have HX3 := Lib.hid (HX1.out.below HWX.out)
            clear hw2 hw3 x8 y8 r8
            simp only [List.drop, Act.put, List.setIfInBounds_toArray, List.set_cons_zero, List.set_cons_succ]
            by_cases hap : ap e x
            · rw [decide_eq_true hap]
              have HMA := Lib.hid (show mrg (p ++ [e]) x = p ++ [e] ++ [x] by rw [mrg_snoc, if_pos hap])
              have HO3 := Lib.hid (HX3.out.own.alloc (.cells #[.int .i64 x.t, .int .i64 x.lo, .int .i64 x.hi] 54))
              have HR3 := Lib.hid (rdv_one3 W2 (.int .i64 x.t) (.int .i64 x.lo) (.int .i64 x.hi) 54)
              have HB6 := Lib.hid ((HBX.out.trans (HWX.out.mono HBX.out.size)).alloc (Nat.le_trans HBX.out.size HWX.out.size) (.cells #[.int .i64 x.t, .int .i64 x.lo, .int .i64 x.hi] 54))
              clear hap
              go_wp2_with fail
              refine NoPanic.normal ?_
              go_wp2_with (at_builtin; refine wpList_append_rowv elem28 rfl (.tmp 30) (.tmp 32) rfl w2.heap.size _ (p.length + 1) _ rfl HO3.out (some ⟨W2.heap.size, 0, none⟩) 1 1 [.int .i64 x.t, .int .i64 x.lo, .int .i64 x.hi] rfl HR3.out (svals_one x) (fun h => by cases h) (by unfold maxLen; omega) (by omega) (by rw [World.size_alloc]; omega) ?_; intro v3 w3 hown3 hg3 _; have HO7 := Lib.hid hown3; have HB7 := Lib.hid (HB6.out.grown hg3 (by rw [World.size_alloc]; omega) (fun k hk => (HO3.out.lt k hk).1)); clear hown3 hg3)
              go_roundw
              case rel =>
                refine ⟨q + 1, p.length + 2, p ++ [e] ++ [x], by go_num, by omega, ?_, by simp, by omega, ?_, HB7.out, ?_⟩
                · exact (HM.out.trans HMA.out).symm
                · have := HO7.out
                  rwa [show [Value.int .i64 x.t, .int .i64 x.lo, .int .i64 x.hi] = rowV Sp.vals [x] from rfl, ← rowV_append Sp.vals (p ++ [e]) [x]] at this
                · intro y hy
                  rcases List.mem_append.1 hy with r | r
                  · exact hof.out y r
                  · simp at r; rw [r]; exact HFX.out
              case measure => simp [intOf]; omega
            · rw [decide_eq_false hap]
              have HMA := Lib.hid (show mrg (p ++ [e]) x = p ++ [{ e with hi := max e.hi x.hi }] by rw [mrg_snoc, if_neg hap])
              have HX4 := Lib.hid (show ∀ W3, Below W2.drew.heap.size W2.drew W3 → W3.cell? ⟨go, p.length * 3 + 2, none⟩ = some (.int .i64 e.hi) ∧ W3.cell? ⟨wr.heap.size, 2, none⟩ = some (.int .i64 x.hi) from fun W3 hw => by
                have hw3 : Below W2.heap.size W2 W3 := (Below.refl _ _).drew.trans hw
                have q := ((HX3.out.below hw3).cells p.length (by simp)).2.2
                rw [hel] at q
                exact ⟨q, (stays_w hw3 _ (World.block_lt_of_cell? _ _ b2)).trans b2⟩)
              clear hap
              go_wp2_with fail
              refine NoPanic.normal ?_
              go_wp2_with fail
              refine wp_region_noPanic ?_
              refine wp_region_abs 10 48 [.is (.slice (some ⟨go, 0, none⟩) (p.length + 1) co), .is (.int .i64 (p.length : Int)), .is (.slice (some ⟨go, 0, none⟩) (p.length + 1) co), .is (.int .i64 (p.length : Int)), .is (.pointer (some ⟨go, p.length * 3, none⟩)), .is (.pointer (some ⟨go, p.length * 3 + 2, none⟩)), .is (.int .i64 e.hi), .is (.pointer (some ⟨wr.heap.size, 2, none⟩)), .is (.int .i64 x.hi), .is (.int .i64 (max e.hi x.hi))]
                [34, 35, 36, 37, 38, 39, 40, 41, 42, 43]
                [[], [], [], [], [2, 3], [4], [5], [], [7], [6, 8]] (by kernel_rfl) (by rfl) rfl rfl (by kernel_rfl) (fun _ _ _ _ h => h.elim) ?_ ?_
              · refine ⟨?_, ?_, ?_, ?_, ?_, ?_, ?_, ?_, ?_, ?_, trivial⟩
                · intro W3 hw K hK
                  obtain ⟨o2, b2⟩ := HX4.out W3 hw
                  go_simp
                  exact hK _ _ rfl (Below.refl _ _)
                · intro W3 hw K hK
                  obtain ⟨o2, b2⟩ := HX4.out W3 hw
                  go_simp
                  exact hK _ _ rfl (Below.refl _ _)
                · intro W3 hw K hK
                  obtain ⟨o2, b2⟩ := HX4.out W3 hw
                  go_simp
                  exact hK _ _ rfl (Below.refl _ _)
                · intro W3 hw K hK
                  obtain ⟨o2, b2⟩ := HX4.out W3 hw
                  go_simp
                  exact hK _ _ rfl (Below.refl _ _)
                · intro W3 hw K hK
                  obtain ⟨o2, b2⟩ := HX4.out W3 hw
                  go_simp
                  exact hK _ _ rfl (Below.refl _ _)
                · intro W3 hw K hK
                  obtain ⟨o2, b2⟩ := HX4.out W3 hw
                  go_simp
                  exact hK _ _ rfl (Below.refl _ _)
                · intro W3 hw K hK
                  obtain ⟨o2, b2⟩ := HX4.out W3 hw
                  go_simp
                  exact hK _ _ rfl (Below.refl _ _)
                · intro W3 hw K hK
                  obtain ⟨o2, b2⟩ := HX4.out W3 hw
                  go_simp
                  exact hK _ _ rfl (Below.refl _ _)
                · intro W3 hw K hK
                  obtain ⟨o2, b2⟩ := HX4.out W3 hw
                  go_simp
                  exact hK _ _ rfl (Below.refl _ _)
                · intro W3 hw K hK
                  obtain ⟨o2, b2⟩ := HX4.out W3 hw
                  go_simp
                  exact hK _ _ rfl (Below.refl _ _)
              · intro W3 hw2
                simp only [Behind]
                have hw3 : Below W2.heap.size W2 W3 := (Below.refl _ _).drew.trans hw2
                have HX5 := Lib.hid (HX3.out.below hw3)
                have f2 := own_frozen HX5.out.own (p.length * 3 + 2)
                obtain ⟨d0, d1, d2⟩ := HX5.out.cells p.length (by simp)
                have HW5 := Lib.hid (HWX.out.trans (hw3.mono HWX.out.size))
                clear hw2 hw3
                simp only [List.drop, Act.put, List.setIfInBounds_toArray, List.set_cons_zero, List.set_cons_succ]
                go_wp2_with fail
                refine NoPanic.normal ?_
                go_wp2_with fail
                go_roundw
                case rel =>
                  refine ⟨q + 1, p.length + 1, p ++ [{ e with hi := max e.hi x.hi }], by go_num, by omega, Lib.hid (HM.out.trans HMA.out).symm, by simp, by omega, ?_, below_grown2 (grown_trans HX5.out.grown (grown_setCell _ _ _ _)) HGO.out.1 (Nat.le_refl _), ?_⟩
                  · have h1 := own_set1 HX5.out.own (p.length * 3 + 2) (.int .i64 (max e.hi x.hi))
                    rw [rowS_hi (p ++ [e]) p.length (by simp), hel] at h1
                    rw [List.set_append_right _ _ (Nat.le_refl _), Nat.sub_self] at h1
                    exact h1
                  · intro y hy
                    have hm := mrg_fit (o := p ++ [e]) (x := x) hof.out HFX.out y
                    rw [HMA.out] at hm
                    exact hm hy
                case measure => simp [intOf]; omega
      · obtain rfl : m = q := by omega
        have HE := Lib.hid (show o = addAll [] l by rw [ho.out, ← HJ.out, ← HSL.out, List.take_length])
        clear hbx hown
        go_wp2_with fail
        go_ret
        refine ⟨_, rfl, k, by rw [← HE.out]; exact hok, by omega, ?_, grown_trans HG2.out (grown_below (HBX.out.mono (Nat.le_refl _)) _), by rw [← HE.out]; exact hof.out⟩
        rw [← HE.out]
        exact own_low HO.out (Nat.le_trans hsz2 hsz)
end Go.Proofs.Ytmicheheibkmjaa
