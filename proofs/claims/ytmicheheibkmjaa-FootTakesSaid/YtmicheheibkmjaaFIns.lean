/- The document's insert. -/
import Derived.Test.YtmicheheibkmjaaFJoinW
import Derived.Test.YtmicheheibkmjaaFCompact
import Derived.Test.YtmicheheibkmjaaReg
namespace Go.Proofs.Ytmicheheibkmjaa
set_option maxRecDepth 100000
open Go.RowKit Go.Shelf

theorem rdv_two (w : World) (a b : Value) (t : TypeId) : Rdv (w.alloc (.cells #[a, b] t)) (some ⟨w.heap.size, 0, none⟩) 1 2 [a, b] :=
  ⟨rfl, fun _ => ⟨_, _, rfl, fun j u hj => by
    rcases j with _ | _ | j
    · simp at hj; subst hj; rw [cell_of_row _ _ _ _ _ (0, 0) (heap_alloc_new w _)]; rfl
    · simp at hj; subst hj; rw [cell_of_row _ _ _ _ _ (0, 0) (heap_alloc_new w _)]; rfl
    · simp at hj⟩⟩
/-- A row of keys under way, beside a key in a box. -/
structure II (w W : World) (k : K) (v : Value) (pre : List K) : Prop where
  below : Below w.heap.size w W
  box : KBox W w.heap.size k
  own : W.ownsRow (w.heap.size + 1) 24 2 v pre.length (rowV K.vals pre)
section
variable {w W W' : World} {k : K} {v v' : Value} {pre : List K}
theorem II.low (h : II w W k v pre) : w.heap.size + 1 ≤ W.heap.size := (Array.getElem?_eq_some_iff.1 h.box).1
theorem II.later (h : II w W k v pre) (hb : Below W.heap.size W W') : II w W' k v pre :=
  ⟨h.below.trans (hb.mono h.below.size), h.box.below hb, ownv_below h.own hb⟩
theorem II.push (h : II w W k v pre) (y : K) (ho : W'.ownsRow (w.heap.size + 1) 24 2 v' (pre.length + 1) (rowV K.vals pre ++ [.int .i64 y.t, .int .i64 y.k])) (hg : (W.alloc (.cells #[.int .i64 y.t, .int .i64 y.k] 24)).grownBy W' v.ownBlock) : II w W' k v' (pre ++ [y]) := by
  have hlow := h.low
  have hb : Below (w.heap.size + 1) W (W.alloc (.cells #[.int .i64 y.t, .int .i64 y.k] 24)) := (Below.refl _ W).alloc hlow _
  have hb2 : Below (w.heap.size + 1) W W' := hb.grown hg (by rw [World.size_alloc]; omega) (fun q hq => (h.own.lt q hq).1)
  refine ⟨h.below.trans (hb2.mono (by omega)), (hb2.block _ (by omega)).trans h.box, ?_⟩
  rw [List.length_append, rowV_append]
  exact ho
end
set_option maxHeartbeats 8000000 in
theorem insert_any (A : Option Addr) (n c : Nat) (l : List K) (k : K) (w : World) (h : Keys w A n l) (hn : n ≤ 100000) :
    Calls Try.prog 36 #[.slice A n c, k.val] w fun e w' => ∃ v, e = .returned v ∧ w'.ownsRow (w.heap.size + 1) 24 2 v (ins l k).length (rowV K.vals (ins l k)) ∧ Below w.heap.size w w' := by
  have hbx := (Below.refl w.heap.size w).alloc (Nat.le_refl _) (.cells #[.int .i64 k.t, .int .i64 k.k] 24)
  have HH := Lib.hid h
  have HL := Lib.hid h.len
  have HI0 := Lib.hid (show II w (w.alloc (.cells #[.int .i64 k.t, .int .i64 k.k] 24)) k (.slice none 0 0) [] from ⟨hbx, heap_alloc_new w _, World.ownsRow_nil _ _ _ _⟩)
  unfold K.val
  clear h hbx
  go_enter Try.func36, Try.ntmps36
  go_wp2_with fail
  revert HI0
  generalize World.alloc w _ = W0
  intro HI0
  go_loopw [5, 6, 7] (fun v d i wr => ∃ (q : Nat) (pre : List K) (dd : Bool), i = .int .i64 (q : Int) ∧ d = .bool dd ∧ q ≤ n ∧ pre.length ≤ 2 * q ∧ Hid (pre ++ insA k (l.drop q) dd = ins l k) ∧ II w wr k v pre) (fun _ _ i _ => n - (intOf i).toNat)
  case atStart => exact ⟨0, [], false, rfl, rfl, by omega, by simp, by rfl, HI0.out⟩
  case round =>
    obtain ⟨q, pre, dd, rfl, rfl, hq, hlen, hpre, hii⟩ := hrel
    have HI := Lib.hid hii
    by_cases hlt : q < n
    · have hql : q < l.length := by rw [HL.out]; exact hlt
      obtain ⟨b, off, rfl, hc⟩ := Keys.cells HH.out (by omega)
      obtain ⟨c0, c1⟩ := hc q hql
      have hdr : l.drop q = l[q] :: l.drop (q + 1) := List.drop_eq_getElem_cons hql
      have hst := hpre.out
      rw [hdr] at hst
      obtain ⟨u, hu⟩ : ∃ u, u = l[q] := ⟨_, rfl⟩
      rw [← hu] at c0 c1 hst
      have HST := Lib.hid hst
      have HC9 := Lib.hid (show ∀ W2, Below w.heap.size w W2 → W2.cell? ⟨b, off + q * 2, none⟩ = some (.int .i64 u.t) ∧ W2.cell? ⟨b, off + q * 2 + 1, none⟩ = some (.int .i64 u.k) from fun W2 hw =>
        ⟨(stays_w hw _ (World.block_lt_of_cell? _ _ c0)).trans c0, (stays_w hw _ (World.block_lt_of_cell? _ _ c1)).trans c1⟩)
      have HC := Lib.hid (show ∀ W2, Below wr.drew.heap.size wr.drew W2 → W2.cell? ⟨b, off + q * 2, none⟩ = some (.int .i64 u.t) ∧ W2.cell? ⟨b, off + q * 2 + 1, none⟩ = some (.int .i64 u.k) ∧ W2.cell? ⟨w.heap.size, 0, none⟩ = some (.int .i64 k.t) ∧ W2.cell? ⟨w.heap.size, 1, none⟩ = some (.int .i64 k.k) from fun W2 hw => by
        have hi := HI.out.later ((Below.refl _ wr).drew.trans hw)
        exact ⟨(HC9.out W2 hi.below).1, (HC9.out W2 hi.below).2, hi.box.c0, hi.box.c1⟩)
      have hne := fun W => neq_key W u k
      have hcl := fun W => less22 u k W
      unfold K.val at hne hcl
      obtain ⟨r, hr⟩ : ∃ r, r = lessK u k := ⟨_, rfl⟩
      rw [← hr] at hcl
      have HRR := Lib.hid hr
      have HCL := Lib.hid hcl
      have hqi : (q : Int) < n := by omega
      clear hc hu hst hdr hii hr hcl c0 c1
      have hs := HST.out
      unfold insA at hs
      rw [← HRR.out] at hs
      cases dd with
      | true =>
        have HSE := Lib.hid (show u = k → pre ++ insA k (l.drop (q + 1)) true = ins l k from fun e => by simpa [e] using hs)
        have HSN := Lib.hid (show u ≠ k → pre ++ [u] ++ insA k (l.drop (q + 1)) true = ins l k from fun e => by simpa [e] using hs)
        clear hs
        go_wp2_with fail
        refine wp_region_noPanic ?_
        refine wp_region_abs 10 49 [.is (.bool true), .is (.bool false), .is (.bool false), .is undef, .is undef, .is undef, .is undef, .is undef, .is undef, .is undef]
          [14, 15, 16, 17, 18, 19, 20, 21, 22, 23]
          [[], [0], [1], [2], [2], [3, 4, 2], [5, 2], [2], [6, 7, 2], [8, 2]] (by kernel_rfl) (by rfl) rfl rfl (by kernel_rfl) (fun _ _ _ _ h => h.elim) ?_ ?_
        · refine ⟨?_, ?_, ?_, ?_, ?_, ?_, ?_, ?_, ?_, ?_, trivial⟩
          · intro W2 hw K hK
            go_simp
            exact hK _ _ rfl (Below.refl _ _)
          · intro W2 hw K hK
            go_simp
            exact hK _ _ rfl (Below.refl _ _)
          · intro W2 hw K hK
            go_simp
            exact hK _ _ rfl (Below.refl _ _)
          · intro W2 hw K hK
            go_simp
            exact hK _ _ rfl (Below.refl _ _)
          · intro W2 hw K hK
            go_simp
            exact hK _ _ rfl (Below.refl _ _)
          · intro W2 hw K hK
            go_simp
            exact hK _ _ rfl (Below.refl _ _)
          · intro W2 hw K hK
            go_simp
            exact hK _ _ rfl (Below.refl _ _)
          · intro W2 hw K hK
            go_simp
            exact hK _ _ rfl (Below.refl _ _)
          · intro W2 hw K hK
            go_simp
            exact hK _ _ rfl (Below.refl _ _)
          · intro W2 hw K hK
            go_simp
            exact hK _ _ rfl (Below.refl _ _)
        · intro W2 hw2
          simp only [Behind]
          have hw3 : Below wr.heap.size wr W2 := (Below.refl _ _).drew.trans hw2
          have HIX := Lib.hid (HI.out.later hw3)
          clear hw2 hw3
          simp only [List.drop, Act.put, List.setIfInBounds_toArray, List.set_cons_zero, List.set_cons_succ]
          go_wp2_with fail
          refine NoPanic.normal ?_
          have hpl : (pre).length ≤ 2 * q + 1 := by omega
          obtain ⟨f0, f1⟩ := HC9.out W2 HIX.out.below
          have g0 := HIX.out.box.c0
          have g1 := HIX.out.box.c1
          by_cases he : u = k
          · rw [decide_eq_true he] at hne
            have HQ := Lib.hid (HSE.out he)
            clear he
            try go_wp2_with fail
            go_quiet (fail)
            go_wp2_with fail
            go_roundw
            case rel => exact ⟨q + 1, pre, true, by go_num, rfl, by omega, by omega, HQ.out, HIX.out.later (below_drewN' (Below.refl _ _) _)⟩
            case measure => simp [intOf]; omega
          · rw [decide_eq_false he] at hne
            have HQ := Lib.hid (HSN.out he)
            clear he
            try go_wp2_with fail
            go_quiet (fail)
            rename Nat => nq
            have HI9 := Lib.hid (HIX.out.later (below_drewN' (Below.refl _ _) nq))
            revert HI9
            generalize World.drewN W2 nq = W9
            intro HI9
            clear f0 f1 g0 g1
            obtain ⟨f0, f1⟩ := HC9.out W9 HI9.out.below
            go_wp2_with (at_builtin; refine wpList_append_rowv elem27 rfl (.tmp 35) (.tmp 40) rfl (w.heap.size + 1) _ _ _ rfl (HI9.out.own.alloc (.cells #[.int .i64 u.t, .int .i64 u.k] 24)) (some ⟨W9.heap.size, 0, none⟩) 1 1 [.int .i64 u.t, .int .i64 u.k] rfl (rdv_two W9 _ _ 24) (vals_one u) (fun h => by cases h) (by unfold maxLen; omega) (by omega) (by have := HI9.out.low; rw [World.size_alloc]; omega) ?_; intro HIAv wA hown hg _; have HIA := Lib.hid (HI9.out.push u hown hg); clear hown hg)
            go_roundw
            case rel => exact ⟨q + 1, pre ++ [u], true, by go_num, rfl, by omega, by (simp only [List.length_append, List.length_cons, List.length_nil]; omega), HQ.out, HIA.out⟩
            case measure => simp [intOf]; omega
      | false =>
        cases r with
        | true =>
          have HSE := Lib.hid (show u = k → pre ++ insA k (l.drop (q + 1)) false = ins l k from fun e => by simpa [e] using hs)
          have HSN := Lib.hid (show u ≠ k → pre ++ [u] ++ insA k (l.drop (q + 1)) false = ins l k from fun e => by simpa [e] using hs)
          clear hs
          go_wp2_with fail
          refine wp_region_noPanic ?_
          refine wp_region_abs 10 49 [.is (.bool false), .is (.bool true), .is (.bool true), .is (.slice (some ⟨b, off, none⟩) n c), .is (.int .i64 (q : Int)), .is (.pointer (some ⟨b, off + q * 2, none⟩)), .is (.agg #[.int .i64 u.t, .int .i64 u.k]), .is (.agg #[.int .i64 k.t, .int .i64 k.k]), .is (.bool true), .is (.bool false)]
            [14, 15, 16, 17, 18, 19, 20, 21, 22, 23]
            [[], [0], [1], [2], [2], [3, 4, 2], [5, 2], [2], [6, 7, 2], [8, 2]] (by kernel_rfl) (by rfl) rfl rfl (by kernel_rfl) (fun _ _ _ _ h => h.elim) ?_ ?_
          · refine ⟨?_, ?_, ?_, ?_, ?_, ?_, ?_, ?_, ?_, ?_, trivial⟩
            · intro W2 hw K hK
              obtain ⟨a0, a1, b0, b1⟩ := HC.out W2 hw
              go_simp
              exact hK _ _ rfl (Below.refl _ _)
            · intro W2 hw K hK
              obtain ⟨a0, a1, b0, b1⟩ := HC.out W2 hw
              go_simp
              exact hK _ _ rfl (Below.refl _ _)
            · intro W2 hw K hK
              obtain ⟨a0, a1, b0, b1⟩ := HC.out W2 hw
              go_simp
              exact hK _ _ rfl (Below.refl _ _)
            · intro W2 hw K hK
              obtain ⟨a0, a1, b0, b1⟩ := HC.out W2 hw
              go_simp
              exact hK _ _ rfl (Below.refl _ _)
            · intro W2 hw K hK
              obtain ⟨a0, a1, b0, b1⟩ := HC.out W2 hw
              go_simp
              exact hK _ _ rfl (Below.refl _ _)
            · intro W2 hw K hK
              obtain ⟨a0, a1, b0, b1⟩ := HC.out W2 hw
              go_simp
              exact hK _ _ rfl (Below.refl _ _)
            · intro W2 hw K hK
              obtain ⟨a0, a1, b0, b1⟩ := HC.out W2 hw
              go_simp
              exact hK _ _ rfl (Below.refl _ _)
            · intro W2 hw K hK
              obtain ⟨a0, a1, b0, b1⟩ := HC.out W2 hw
              go_simp
              exact hK _ _ rfl (Below.refl _ _)
            · intro W2 hw K hK
              have hcc := HCL.out W2
              go_simp
              refine Calls.mono hcc ?_
              rintro e9 w5 ⟨rfl, hb5⟩
              exact hK _ _ rfl hb5
            · intro W2 hw K hK
              obtain ⟨a0, a1, b0, b1⟩ := HC.out W2 hw
              go_simp
              exact hK _ _ rfl (Below.refl _ _)
          · intro W2 hw2
            simp only [Behind]
            have hw3 : Below wr.heap.size wr W2 := (Below.refl _ _).drew.trans hw2
            have HIX := Lib.hid (HI.out.later hw3)
            clear hw2 hw3
            simp only [List.drop, Act.put, List.setIfInBounds_toArray, List.set_cons_zero, List.set_cons_succ]
            go_wp2_with fail
            refine NoPanic.normal ?_
            have hpl : (pre).length ≤ 2 * q + 1 := by omega
            obtain ⟨f0, f1⟩ := HC9.out W2 HIX.out.below
            have g0 := HIX.out.box.c0
            have g1 := HIX.out.box.c1
            by_cases he : u = k
            · rw [decide_eq_true he] at hne
              have HQ := Lib.hid (HSE.out he)
              clear he
              try go_wp2_with fail
              go_quiet (fail)
              go_wp2_with fail
              go_roundw
              case rel => exact ⟨q + 1, pre, false, by go_num, rfl, by omega, by omega, HQ.out, HIX.out.later (below_drewN' (Below.refl _ _) _)⟩
              case measure => simp [intOf]; omega
            · rw [decide_eq_false he] at hne
              have HQ := Lib.hid (HSN.out he)
              clear he
              try go_wp2_with fail
              go_quiet (fail)
              rename Nat => nq
              have HI9 := Lib.hid (HIX.out.later (below_drewN' (Below.refl _ _) nq))
              revert HI9
              generalize World.drewN W2 nq = W9
              intro HI9
              clear f0 f1 g0 g1
              obtain ⟨f0, f1⟩ := HC9.out W9 HI9.out.below
              go_wp2_with (at_builtin; refine wpList_append_rowv elem27 rfl (.tmp 35) (.tmp 40) rfl (w.heap.size + 1) _ _ _ rfl (HI9.out.own.alloc (.cells #[.int .i64 u.t, .int .i64 u.k] 24)) (some ⟨W9.heap.size, 0, none⟩) 1 1 [.int .i64 u.t, .int .i64 u.k] rfl (rdv_two W9 _ _ 24) (vals_one u) (fun h => by cases h) (by unfold maxLen; omega) (by omega) (by have := HI9.out.low; rw [World.size_alloc]; omega) ?_; intro HIAv wA hown hg _; have HIA := Lib.hid (HI9.out.push u hown hg); clear hown hg)
              go_roundw
              case rel => exact ⟨q + 1, pre ++ [u], false, by go_num, rfl, by omega, by (simp only [List.length_append, List.length_cons, List.length_nil]; omega), HQ.out, HIA.out⟩
              case measure => simp [intOf]; omega
        | false =>
          have HSE := Lib.hid (show u = k → pre ++ [k] ++ insA k (l.drop (q + 1)) true = ins l k from fun e => by simpa [e] using hs)
          have HSN := Lib.hid (show u ≠ k → pre ++ [k] ++ [u] ++ insA k (l.drop (q + 1)) true = ins l k from fun e => by simpa [e] using hs)
          clear hs
          go_wp2_with fail
          refine wp_region_noPanic ?_
          refine wp_region_abs 10 49 [.is (.bool false), .is (.bool true), .is (.bool true), .is (.slice (some ⟨b, off, none⟩) n c), .is (.int .i64 (q : Int)), .is (.pointer (some ⟨b, off + q * 2, none⟩)), .is (.agg #[.int .i64 u.t, .int .i64 u.k]), .is (.agg #[.int .i64 k.t, .int .i64 k.k]), .is (.bool false), .is (.bool true)]
            [14, 15, 16, 17, 18, 19, 20, 21, 22, 23]
            [[], [0], [1], [2], [2], [3, 4, 2], [5, 2], [2], [6, 7, 2], [8, 2]] (by kernel_rfl) (by rfl) rfl rfl (by kernel_rfl) (fun _ _ _ _ h => h.elim) ?_ ?_
          · refine ⟨?_, ?_, ?_, ?_, ?_, ?_, ?_, ?_, ?_, ?_, trivial⟩
            · intro W2 hw K hK
              obtain ⟨a0, a1, b0, b1⟩ := HC.out W2 hw
              go_simp
              exact hK _ _ rfl (Below.refl _ _)
            · intro W2 hw K hK
              obtain ⟨a0, a1, b0, b1⟩ := HC.out W2 hw
              go_simp
              exact hK _ _ rfl (Below.refl _ _)
            · intro W2 hw K hK
              obtain ⟨a0, a1, b0, b1⟩ := HC.out W2 hw
              go_simp
              exact hK _ _ rfl (Below.refl _ _)
            · intro W2 hw K hK
              obtain ⟨a0, a1, b0, b1⟩ := HC.out W2 hw
              go_simp
              exact hK _ _ rfl (Below.refl _ _)
            · intro W2 hw K hK
              obtain ⟨a0, a1, b0, b1⟩ := HC.out W2 hw
              go_simp
              exact hK _ _ rfl (Below.refl _ _)
            · intro W2 hw K hK
              obtain ⟨a0, a1, b0, b1⟩ := HC.out W2 hw
              go_simp
              exact hK _ _ rfl (Below.refl _ _)
            · intro W2 hw K hK
              obtain ⟨a0, a1, b0, b1⟩ := HC.out W2 hw
              go_simp
              exact hK _ _ rfl (Below.refl _ _)
            · intro W2 hw K hK
              obtain ⟨a0, a1, b0, b1⟩ := HC.out W2 hw
              go_simp
              exact hK _ _ rfl (Below.refl _ _)
            · intro W2 hw K hK
              have hcc := HCL.out W2
              go_simp
              refine Calls.mono hcc ?_
              rintro e9 w5 ⟨rfl, hb5⟩
              exact hK _ _ rfl hb5
            · intro W2 hw K hK
              obtain ⟨a0, a1, b0, b1⟩ := HC.out W2 hw
              go_simp
              exact hK _ _ rfl (Below.refl _ _)
          · intro W2 hw2
            simp only [Behind]
            have hw3 : Below wr.heap.size wr W2 := (Below.refl _ _).drew.trans hw2
            have HIX := Lib.hid (HI.out.later hw3)
            clear hw2 hw3
            simp only [List.drop, Act.put, List.setIfInBounds_toArray, List.set_cons_zero, List.set_cons_succ]
            go_wp2_with fail
            refine NoPanic.normal ?_
            have b0 := HIX.out.box.c0
            have b1 := HIX.out.box.c1
            go_wp2_with (at_builtin; refine wpList_append_rowv elem27 rfl (.tmp 25) (.tmp 27) rfl (w.heap.size + 1) _ _ _ rfl (HIX.out.own.alloc (.cells #[.int .i64 k.t, .int .i64 k.k] 24)) (some ⟨W2.heap.size, 0, none⟩) 1 1 [.int .i64 k.t, .int .i64 k.k] rfl (rdv_two W2 _ _ 24) (vals_one k) (fun h => by cases h) (by unfold maxLen; omega) (by omega) (by have := HIX.out.low; rw [World.size_alloc]; omega) ?_; intro HI7v w6 hown hg _; have HI7 := Lib.hid (HIX.out.push k hown hg); clear hown hg)
            clear b0 b1
            have hpl : ((pre ++ [k])).length ≤ 2 * q + 1 := by (simp only [List.length_append, List.length_cons, List.length_nil]; omega)
            obtain ⟨f0, f1⟩ := HC9.out w6 HI7.out.below
            have g0 := HI7.out.box.c0
            have g1 := HI7.out.box.c1
            by_cases he : u = k
            · rw [decide_eq_true he] at hne
              have HQ := Lib.hid (HSE.out he)
              clear he
              try go_wp2_with fail
              go_quiet (fail)
              go_wp2_with fail
              go_roundw
              case rel => exact ⟨q + 1, (pre ++ [k]), true, by go_num, rfl, by omega, by omega, HQ.out, HI7.out.later (below_drewN' (Below.refl _ _) _)⟩
              case measure => simp [intOf]; omega
            · rw [decide_eq_false he] at hne
              have HQ := Lib.hid (HSN.out he)
              clear he
              try go_wp2_with fail
              go_quiet (fail)
              rename Nat => nq
              have HI9 := Lib.hid (HI7.out.later (below_drewN' (Below.refl _ _) nq))
              revert HI9
              generalize World.drewN w6 nq = W9
              intro HI9
              clear f0 f1 g0 g1
              obtain ⟨f0, f1⟩ := HC9.out W9 HI9.out.below
              go_wp2_with (at_builtin; refine wpList_append_rowv elem27 rfl (.tmp 35) (.tmp 40) rfl (w.heap.size + 1) _ _ _ rfl (HI9.out.own.alloc (.cells #[.int .i64 u.t, .int .i64 u.k] 24)) (some ⟨W9.heap.size, 0, none⟩) 1 1 [.int .i64 u.t, .int .i64 u.k] rfl (rdv_two W9 _ _ 24) (vals_one u) (fun h => by cases h) (by unfold maxLen; omega) (by omega) (by have := HI9.out.low; rw [World.size_alloc]; omega) ?_; intro HIAv wA hown hg _; have HIA := Lib.hid (HI9.out.push u hown hg); clear hown hg)
              go_roundw
              case rel => exact ⟨q + 1, (pre ++ [k]) ++ [u], true, by go_num, rfl, by omega, by (simp only [List.length_append, List.length_cons, List.length_nil]; omega), HQ.out, HIA.out⟩
              case measure => simp [intOf]; omega
    · obtain rfl : n = q := by omega
      have hd : l.drop n = [] := by rw [← HL.out]; exact List.drop_length
      have hs := hpre.out
      rw [hd] at hs
      cases dd with
      | true =>
        have HE := Lib.hid (show pre = ins l k by simpa [insA] using hs)
        clear hs hd hii
        go_wp2_with fail
        go_ret
        exact ⟨_, rfl, by rw [← HE.out]; exact HI.out.own, HI.out.below⟩
      | false =>
        have HE := Lib.hid (show pre ++ [k] = ins l k by simpa [insA] using hs)
        have b0 := hii.box.c0
        have b1 := hii.box.c1
        clear hs hd hii
        go_wp2_with (at_builtin; refine wpList_append_rowv elem27 rfl (.tmp 44) (.tmp 46) rfl (w.heap.size + 1) _ _ _ rfl (HI.out.own.alloc (.cells #[.int .i64 k.t, .int .i64 k.k] 24)) (some ⟨wr.heap.size, 0, none⟩) 1 1 [.int .i64 k.t, .int .i64 k.k] rfl (rdv_two wr _ _ 24) (vals_one k) (fun h => by cases h) (by unfold maxLen; omega) (by omega) (by have := HI.out.low; rw [World.size_alloc]; omega) ?_; intro HI7v w6 hown hg _; have HI7 := Lib.hid (HI.out.push k hown hg); clear hown hg)
        go_ret
        exact ⟨_, rfl, by rw [← HE.out]; exact HI7.out.own, HI7.out.below⟩
end Go.Proofs.Ytmicheheibkmjaa
