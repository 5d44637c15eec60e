/- The document's add. -/
import Derived.Test.YtmicheheibkmjaaFAddD
import Derived.Test.YtmicheheibkmjaaFTch
namespace Go.Proofs.Ytmicheheibkmjaa
set_option maxRecDepth 100000
open Go.RowKit Go.Shelf

/-- A row of spans under way, all else as it was. -/
structure BI (W0 W : World) (v : Value) (pre : List Sp) : Prop where
  below : Below W0.heap.size W0 W
  own : W.ownsRow W0.heap.size 54 3 v pre.length (rowV Sp.vals pre)
section
variable {W0 W W' : World} {v v' : Value} {pre : List Sp}
theorem BI.later (h : BI W0 W v pre) (hb : Below W.heap.size W W') : BI W0 W' v pre := ⟨h.below.trans (hb.mono h.below.size), ownv_below h.own hb⟩
theorem BI.push (h : BI W0 W v pre) (y : Sp) (ho : W'.ownsRow W0.heap.size 54 3 v' (pre.length + 1) (rowV Sp.vals pre ++ [.int .i64 y.t, .int .i64 y.lo, .int .i64 y.hi])) (hg : (W.alloc (.cells #[.int .i64 y.t, .int .i64 y.lo, .int .i64 y.hi] 54)).grownBy W' v.ownBlock) : BI W0 W' v' (pre ++ [y]) := by
  have hb : Below W0.heap.size W (W.alloc (.cells #[.int .i64 y.t, .int .i64 y.lo, .int .i64 y.hi] 54)) := (Below.refl _ W).alloc h.below.size _
  have hb2 := hb.grown hg (by rw [World.size_alloc]; have := h.below.size; omega) (fun q hq => (h.own.lt q hq).1)
  refine ⟨h.below.trans hb2, ?_⟩
  rw [List.length_append, rowV_append]
  exact ho
end
theorem rdv_z (w : World) (o : Obj) (a b c : Value) (t : TypeId) : Rdv ((w.alloc o).alloc (.cells #[a, b, c] t)) (some ⟨w.heap.size + 1, 0, none⟩) 1 3 [a, b, c] := by
  have h := rdv_one3 (w.alloc o) a b c t
  rw [World.size_alloc] at h
  exact h
theorem hull_fit {x y : Sp} (hx : FitS x) (hy : FitS y) : FitS (hull x y) := by
  unfold FitS at *
  unfold hull
  simp only
  split <;> split <;> omega
set_option maxHeartbeats 16000000 in
theorem add_any (A : Option Addr) (n c : Nat) (l : List Sp) (s : Sp) (w : World) (h : Spans w A n l) (hn : n ≤ 100000) (hfl : ∀ e ∈ l, FitS e) (hfs : FitS s) (hne : ¬ s.lo > s.hi) :
    Calls Try.prog 37 #[.slice A n c, s.val] w fun e w' => ∃ v, e = .returned v ∧ w'.ownsRow (w.heap.size + 1) 54 3 v (add l s).length (rowV Sp.vals (add l s)) ∧ Below w.heap.size w w' := by
  have hbx := (Below.refl w.heap.size w).alloc (Nat.le_refl _) (.cells #[.int .i64 s.t, .int .i64 s.lo, .int .i64 s.hi] 54)
  have HH := Lib.hid h
  have HL := Lib.hid h.len
  have HFL := Lib.hid hfl
  have HI0 := Lib.hid (show AI w (w.alloc (.cells #[.int .i64 s.t, .int .i64 s.lo, .int .i64 s.hi] 54)) s (.slice none 0 0) [] from ⟨hbx, heap_alloc_new w _, World.ownsRow_nil _ _ _ _⟩)
  have HAD0 := Lib.hid (show add l s = putA (near l s) (far l s) false by unfold add; rw [if_neg hne])
  have HI1 := Lib.hid (show [] ++ far (l.drop 0) s = far l s by simp)
  have HI2 := Lib.hid (show near (l.drop 0) s = near l s by simp)
  obtain ⟨FL, hFL⟩ : ∃ F, F = far l s := ⟨_, rfl⟩
  obtain ⟨NL, hNL⟩ : ∃ F, F = near l s := ⟨_, rfl⟩
  have HAD := HAD0
  rw [← hFL, ← hNL] at HAD
  rw [← hFL] at HI1
  rw [← hNL] at HI2
  clear HAD0 hFL hNL
  have e0 : decide (s.hi < s.lo) = false := decide_eq_false (by omega)
  unfold Sp.val
  clear h hbx hfl
  go_enter Try.func37, Try.ntmps37
  go_wp2_with fail
  revert HI0
  generalize World.alloc w _ = W0
  intro HI0
  go_loopw [5, 6] (fun v i wr => ∃ (q : Nat) (x : Sp) (pre : List Sp), i = .int .i64 (q : Int) ∧ q ≤ n ∧ pre.length ≤ q ∧ Hid (pre ++ far (l.drop q) x = FL) ∧ Hid (near (l.drop q) x = NL) ∧ Hid (FitS x) ∧ AI w wr x v pre) (fun _ i _ => n - (intOf i).toNat)
  case atStart => exact ⟨0, s, [], rfl, by omega, by simp, HI1, HI2, Lib.hid hfs, HI0.out⟩
  case round =>
    obtain ⟨q, x, pre, rfl, hq, hlen, hfar, hnear, hfx, hii⟩ := hrel
    have HI := Lib.hid hii
    by_cases hlt : q < n
    · have hql : q < l.length := by rw [HL.out]; exact hlt
      obtain ⟨b, off, rfl, hc⟩ := Spans.cells HH.out (by omega)
      obtain ⟨c0, c1, c2⟩ := hc q hql
      have hdr : l.drop q = l[q] :: l.drop (q + 1) := List.drop_eq_getElem_cons hql
      have hs1 := hfar.out
      have hs2 := hnear.out
      rw [hdr] at hs1 hs2
      unfold far at hs1
      unfold near at hs2
      have HFY := Lib.hid (HFL.out _ (List.getElem_mem hql))
      obtain ⟨y, hy⟩ : ∃ y, y = l[q] := ⟨_, rfl⟩
      rw [← hy] at c0 c1 c2 hs1 hs2 HFY
      have HC9 := Lib.hid (show ∀ W2, Below w.heap.size w W2 → W2.cell? ⟨b, off + q * 3, none⟩ = some (.int .i64 y.t) ∧ W2.cell? ⟨b, off + q * 3 + 1, none⟩ = some (.int .i64 y.lo) ∧ W2.cell? ⟨b, off + q * 3 + 2, none⟩ = some (.int .i64 y.hi) from fun W2 hw =>
        ⟨(stays_w hw _ (World.block_lt_of_cell? _ _ c0)).trans c0, (stays_w hw _ (World.block_lt_of_cell? _ _ c1)).trans c1, (stays_w hw _ (World.block_lt_of_cell? _ _ c2)).trans c2⟩)
      have HC := Lib.hid (show ∀ W2, Below wr.drew.heap.size wr.drew W2 → (W2.cell? ⟨b, off + q * 3, none⟩ = some (.int .i64 y.t) ∧ W2.cell? ⟨b, off + q * 3 + 1, none⟩ = some (.int .i64 y.lo) ∧ W2.cell? ⟨b, off + q * 3 + 2, none⟩ = some (.int .i64 y.hi)) ∧ W2.cell? ⟨w.heap.size, 0, none⟩ = some (.int .i64 x.t) ∧ W2.cell? ⟨w.heap.size, 1, none⟩ = some (.int .i64 x.lo) ∧ W2.cell? ⟨w.heap.size, 2, none⟩ = some (.int .i64 x.hi) from fun W2 hw => by
        have hi := HI.out.later ((Below.refl _ wr).drew.trans hw)
        exact ⟨HC9.out W2 hi.below, hi.box.c⟩)
      have hcl := touchS_any y x HFY.out hfx.out
      unfold Sp.val at hcl
      have HTC := Lib.hid hcl
      have hqi : (q : Int) < n := by omega
      clear hc hy hdr hii hcl c0 c1 c2
      by_cases ht : tch y x
      · rw [if_pos ht] at hs1 hs2
        have HF0 := Lib.hid hs1
        have HN0 := Lib.hid hs2
        have HFH0 := Lib.hid (hull_fit hfx.out HFY.out)
        rw [decide_eq_true ht] at HTC
        clear ht hs1 hs2
        go_wp2_with fail
        refine wp_region_noPanic ?_
        refine wp_region_abs 6 113 [.is (.slice (some ⟨b, off, none⟩) n c), .is (.int .i64 (q : Int)), .is (.pointer (some ⟨b, off + q * 3, none⟩)), .is (.agg #[.int .i64 y.t, .int .i64 y.lo, .int .i64 y.hi]), .is (.agg #[.int .i64 x.t, .int .i64 x.lo, .int .i64 x.hi]), .is (.bool true)]
          [23, 24, 25, 26, 27, 28]
          [[], [], [0, 1], [2], [], [3, 4]] (by kernel_rfl) (by rfl) rfl rfl (by kernel_rfl) (fun _ _ _ _ h => h.elim) ?_ ?_
        · refine ⟨?_, ?_, ?_, ?_, ?_, ?_, trivial⟩
          · intro W2 hw K hK
            obtain ⟨⟨f0, f1, f2⟩, g0, g1, g2⟩ := HC.out W2 hw
            go_simp
            exact hK _ _ rfl (Below.refl _ _)
          · intro W2 hw K hK
            obtain ⟨⟨f0, f1, f2⟩, g0, g1, g2⟩ := HC.out W2 hw
            go_simp
            exact hK _ _ rfl (Below.refl _ _)
          · intro W2 hw K hK
            obtain ⟨⟨f0, f1, f2⟩, g0, g1, g2⟩ := HC.out W2 hw
            go_simp
            exact hK _ _ rfl (Below.refl _ _)
          · intro W2 hw K hK
            obtain ⟨⟨f0, f1, f2⟩, g0, g1, g2⟩ := HC.out W2 hw
            go_simp
            exact hK _ _ rfl (Below.refl _ _)
          · intro W2 hw K hK
            obtain ⟨⟨f0, f1, f2⟩, g0, g1, g2⟩ := HC.out W2 hw
            go_simp
            exact hK _ _ rfl (Below.refl _ _)
          · intro W2 hw K hK
            have hcc := HTC.out W2
            go_simp
            refine Calls.mono hcc ?_
            rintro e9 w5 ⟨rfl, hb5⟩
            exact hK _ _ rfl hb5
        · intro W2 hw2
          simp only [Behind]
          have hw3 : Below wr.heap.size wr W2 := (Below.refl _ _).drew.trans hw2
          have HIX := Lib.hid (HI.out.later hw3)
          clear hw2 hw3
          simp only [List.drop, Act.put, List.setIfInBounds_toArray, List.set_cons_zero, List.set_cons_succ]
          go_wp2_with fail
          refine NoPanic.normal ?_
          obtain ⟨f0, f1, f2⟩ := HC9.out W2 HIX.out.below
          by_cases ha : y.lo < x.lo
          · have d0 : decide (y.lo < x.lo) = true := decide_eq_true ha
            by_cases hb : x.hi < y.hi
            · have d1 : decide (x.hi < y.hi) = true := decide_eq_true hb
              have eh : hull x y = ⟨x.t, y.lo, y.hi⟩ := by simp [hull, ha, hb]
              have HF1 := Lib.hid (eh ▸ HF0.out)
              have HN1 := Lib.hid (eh ▸ HN0.out)
              have HFH := Lib.hid (Lib.hid (eh ▸ HFH0.out))
              clear ha hb eh
              clear f0 f1 f2
              obtain ⟨f0, f1, f2⟩ := HC9.out W2 HIX.out.below
              obtain ⟨g0, g1, g2⟩ := HIX.out.box.c
              have fr1 := HIX.out.fr 1
              have fr2 := HIX.out.fr 2
              try go_wp2_with fail
              go_quiet (fail)
              rename Nat => nq
              have HG9 := Lib.hid (HIX.out.later (below_drewN' (Below.refl _ _) nq))
              revert HG9
              generalize World.drewN W2 nq = V9
              intro HG9
              clear f0 f1 f2 g0 g1 g2 fr1 fr2
              obtain ⟨f0, f1, f2⟩ := HC9.out V9 HG9.out.below
              obtain ⟨g0, g1, g2⟩ := HG9.out.box.c
              have fr1 := HG9.out.fr 1
              have fr2 := HG9.out.fr 2
              go_wp2_with fail
              have HSA := Lib.hid (HG9.out.set 1 y.lo ⟨x.t, y.lo, x.hi⟩ rfl)
              revert HSA
              generalize World.setCell V9 _ _ = VA
              intro HSA
              clear f0 f1 f2 g0 g1 g2 fr1 fr2
              obtain ⟨f0, f1, f2⟩ := HC9.out VA HSA.out.below
              obtain ⟨g0, g1, g2⟩ := HSA.out.box.c
              have fr1 := HSA.out.fr 1
              have fr2 := HSA.out.fr 2
              try go_wp2_with fail
              go_quiet (fail)
              rename Nat => nq
              have HGB := Lib.hid (HSA.out.later (below_drewN' (Below.refl _ _) nq))
              revert HGB
              generalize World.drewN VA nq = VB
              intro HGB
              clear f0 f1 f2 g0 g1 g2 fr1 fr2
              obtain ⟨f0, f1, f2⟩ := HC9.out VB HGB.out.below
              obtain ⟨g0, g1, g2⟩ := HGB.out.box.c
              have fr1 := HGB.out.fr 1
              have fr2 := HGB.out.fr 2
              go_wp2_with fail
              have HSB := Lib.hid (HGB.out.set 2 y.hi ⟨x.t, y.lo, y.hi⟩ rfl)
              go_roundw
              case rel => exact ⟨q + 1, ⟨x.t, y.lo, y.hi⟩, pre, by go_num, by omega, by omega, HF1, HN1, HFH.out, HSB.out⟩
              case measure => simp [intOf]; omega
            · have d1 : decide (x.hi < y.hi) = false := decide_eq_false hb
              have eh : hull x y = ⟨x.t, y.lo, x.hi⟩ := by simp [hull, ha, hb]
              have HF1 := Lib.hid (eh ▸ HF0.out)
              have HN1 := Lib.hid (eh ▸ HN0.out)
              have HFH := Lib.hid (Lib.hid (eh ▸ HFH0.out))
              clear ha hb eh
              clear f0 f1 f2
              obtain ⟨f0, f1, f2⟩ := HC9.out W2 HIX.out.below
              obtain ⟨g0, g1, g2⟩ := HIX.out.box.c
              have fr1 := HIX.out.fr 1
              have fr2 := HIX.out.fr 2
              try go_wp2_with fail
              go_quiet (fail)
              rename Nat => nq
              have HG9 := Lib.hid (HIX.out.later (below_drewN' (Below.refl _ _) nq))
              revert HG9
              generalize World.drewN W2 nq = V9
              intro HG9
              clear f0 f1 f2 g0 g1 g2 fr1 fr2
              obtain ⟨f0, f1, f2⟩ := HC9.out V9 HG9.out.below
              obtain ⟨g0, g1, g2⟩ := HG9.out.box.c
              have fr1 := HG9.out.fr 1
              have fr2 := HG9.out.fr 2
              go_wp2_with fail
              have HSA := Lib.hid (HG9.out.set 1 y.lo ⟨x.t, y.lo, x.hi⟩ rfl)
              revert HSA
              generalize World.setCell V9 _ _ = VA
              intro HSA
              clear f0 f1 f2 g0 g1 g2 fr1 fr2
              obtain ⟨f0, f1, f2⟩ := HC9.out VA HSA.out.below
              obtain ⟨g0, g1, g2⟩ := HSA.out.box.c
              have fr1 := HSA.out.fr 1
              have fr2 := HSA.out.fr 2
              try go_wp2_with fail
              go_quiet (fail)
              rename Nat => nq
              have HGB := Lib.hid (HSA.out.later (below_drewN' (Below.refl _ _) nq))
              revert HGB
              generalize World.drewN VA nq = VB
              intro HGB
              clear f0 f1 f2 g0 g1 g2 fr1 fr2
              obtain ⟨f0, f1, f2⟩ := HC9.out VB HGB.out.below
              obtain ⟨g0, g1, g2⟩ := HGB.out.box.c
              have fr1 := HGB.out.fr 1
              have fr2 := HGB.out.fr 2
              go_wp2_with fail
              go_roundw
              case rel => exact ⟨q + 1, ⟨x.t, y.lo, x.hi⟩, pre, by go_num, by omega, by omega, HF1, HN1, HFH.out, HGB.out⟩
              case measure => simp [intOf]; omega
          · have d0 : decide (y.lo < x.lo) = false := decide_eq_false ha
            by_cases hb : x.hi < y.hi
            · have d1 : decide (x.hi < y.hi) = true := decide_eq_true hb
              have eh : hull x y = ⟨x.t, x.lo, y.hi⟩ := by simp [hull, ha, hb]
              have HF1 := Lib.hid (eh ▸ HF0.out)
              have HN1 := Lib.hid (eh ▸ HN0.out)
              have HFH := Lib.hid (Lib.hid (eh ▸ HFH0.out))
              clear ha hb eh
              clear f0 f1 f2
              obtain ⟨f0, f1, f2⟩ := HC9.out W2 HIX.out.below
              obtain ⟨g0, g1, g2⟩ := HIX.out.box.c
              have fr1 := HIX.out.fr 1
              have fr2 := HIX.out.fr 2
              try go_wp2_with fail
              go_quiet (fail)
              rename Nat => nq
              have HG9 := Lib.hid (HIX.out.later (below_drewN' (Below.refl _ _) nq))
              revert HG9
              generalize World.drewN W2 nq = V9
              intro HG9
              clear f0 f1 f2 g0 g1 g2 fr1 fr2
              obtain ⟨f0, f1, f2⟩ := HC9.out V9 HG9.out.below
              obtain ⟨g0, g1, g2⟩ := HG9.out.box.c
              have fr1 := HG9.out.fr 1
              have fr2 := HG9.out.fr 2
              go_wp2_with fail
              clear f0 f1 f2 g0 g1 g2 fr1 fr2
              obtain ⟨f0, f1, f2⟩ := HC9.out V9 HG9.out.below
              obtain ⟨g0, g1, g2⟩ := HG9.out.box.c
              have fr1 := HG9.out.fr 1
              have fr2 := HG9.out.fr 2
              try go_wp2_with fail
              go_quiet (fail)
              rename Nat => nq
              have HGB := Lib.hid (HG9.out.later (below_drewN' (Below.refl _ _) nq))
              revert HGB
              generalize World.drewN V9 nq = VB
              intro HGB
              clear f0 f1 f2 g0 g1 g2 fr1 fr2
              obtain ⟨f0, f1, f2⟩ := HC9.out VB HGB.out.below
              obtain ⟨g0, g1, g2⟩ := HGB.out.box.c
              have fr1 := HGB.out.fr 1
              have fr2 := HGB.out.fr 2
              go_wp2_with fail
              have HSB := Lib.hid (HGB.out.set 2 y.hi ⟨x.t, x.lo, y.hi⟩ rfl)
              go_roundw
              case rel => exact ⟨q + 1, ⟨x.t, x.lo, y.hi⟩, pre, by go_num, by omega, by omega, HF1, HN1, HFH.out, HSB.out⟩
              case measure => simp [intOf]; omega
            · have d1 : decide (x.hi < y.hi) = false := decide_eq_false hb
              have eh : hull x y = ⟨x.t, x.lo, x.hi⟩ := by simp [hull, ha, hb]
              have HF1 := Lib.hid (eh ▸ HF0.out)
              have HN1 := Lib.hid (eh ▸ HN0.out)
              have HFH := Lib.hid (Lib.hid (eh ▸ HFH0.out))
              clear ha hb eh
              clear f0 f1 f2
              obtain ⟨f0, f1, f2⟩ := HC9.out W2 HIX.out.below
              obtain ⟨g0, g1, g2⟩ := HIX.out.box.c
              have fr1 := HIX.out.fr 1
              have fr2 := HIX.out.fr 2
              try go_wp2_with fail
              go_quiet (fail)
              rename Nat => nq
              have HG9 := Lib.hid (HIX.out.later (below_drewN' (Below.refl _ _) nq))
              revert HG9
              generalize World.drewN W2 nq = V9
              intro HG9
              clear f0 f1 f2 g0 g1 g2 fr1 fr2
              obtain ⟨f0, f1, f2⟩ := HC9.out V9 HG9.out.below
              obtain ⟨g0, g1, g2⟩ := HG9.out.box.c
              have fr1 := HG9.out.fr 1
              have fr2 := HG9.out.fr 2
              go_wp2_with fail
              clear f0 f1 f2 g0 g1 g2 fr1 fr2
              obtain ⟨f0, f1, f2⟩ := HC9.out V9 HG9.out.below
              obtain ⟨g0, g1, g2⟩ := HG9.out.box.c
              have fr1 := HG9.out.fr 1
              have fr2 := HG9.out.fr 2
              try go_wp2_with fail
              go_quiet (fail)
              rename Nat => nq
              have HGB := Lib.hid (HG9.out.later (below_drewN' (Below.refl _ _) nq))
              revert HGB
              generalize World.drewN V9 nq = VB
              intro HGB
              clear f0 f1 f2 g0 g1 g2 fr1 fr2
              obtain ⟨f0, f1, f2⟩ := HC9.out VB HGB.out.below
              obtain ⟨g0, g1, g2⟩ := HGB.out.box.c
              have fr1 := HGB.out.fr 1
              have fr2 := HGB.out.fr 2
              go_wp2_with fail
              go_roundw
              case rel => exact ⟨q + 1, ⟨x.t, x.lo, x.hi⟩, pre, by go_num, by omega, by omega, HF1, HN1, HFH.out, HGB.out⟩
              case measure => simp [intOf]; omega
      · rw [if_neg ht] at hs1 hs2
        have HF1 := Lib.hid (show pre ++ [y] ++ far (l.drop (q + 1)) x = FL by rw [List.append_assoc]; exact hs1)
        have HN1 := Lib.hid hs2
        rw [decide_eq_false ht] at HTC
        clear ht hs1 hs2
        go_wp2_with fail
        refine wp_region_noPanic ?_
        refine wp_region_abs 6 113 [.is (.slice (some ⟨b, off, none⟩) n c), .is (.int .i64 (q : Int)), .is (.pointer (some ⟨b, off + q * 3, none⟩)), .is (.agg #[.int .i64 y.t, .int .i64 y.lo, .int .i64 y.hi]), .is (.agg #[.int .i64 x.t, .int .i64 x.lo, .int .i64 x.hi]), .is (.bool false)]
          [23, 24, 25, 26, 27, 28]
          [[], [], [0, 1], [2], [], [3, 4]] (by kernel_rfl) (by rfl) rfl rfl (by kernel_rfl) (fun _ _ _ _ h => h.elim) ?_ ?_
        · refine ⟨?_, ?_, ?_, ?_, ?_, ?_, trivial⟩
          · intro W2 hw K hK
            obtain ⟨⟨f0, f1, f2⟩, g0, g1, g2⟩ := HC.out W2 hw
            go_simp
            exact hK _ _ rfl (Below.refl _ _)
          · intro W2 hw K hK
            obtain ⟨⟨f0, f1, f2⟩, g0, g1, g2⟩ := HC.out W2 hw
            go_simp
            exact hK _ _ rfl (Below.refl _ _)
          · intro W2 hw K hK
            obtain ⟨⟨f0, f1, f2⟩, g0, g1, g2⟩ := HC.out W2 hw
            go_simp
            exact hK _ _ rfl (Below.refl _ _)
          · intro W2 hw K hK
            obtain ⟨⟨f0, f1, f2⟩, g0, g1, g2⟩ := HC.out W2 hw
            go_simp
            exact hK _ _ rfl (Below.refl _ _)
          · intro W2 hw K hK
            obtain ⟨⟨f0, f1, f2⟩, g0, g1, g2⟩ := HC.out W2 hw
            go_simp
            exact hK _ _ rfl (Below.refl _ _)
          · intro W2 hw K hK
            have hcc := HTC.out W2
            go_simp
            refine Calls.mono hcc ?_
            rintro e9 w5 ⟨rfl, hb5⟩
            exact hK _ _ rfl hb5
        · intro W2 hw2
          simp only [Behind]
          have hw3 : Below wr.heap.size wr W2 := (Below.refl _ _).drew.trans hw2
          have HIX := Lib.hid (HI.out.later hw3)
          clear hw2 hw3
          simp only [List.drop, Act.put, List.setIfInBounds_toArray, List.set_cons_zero, List.set_cons_succ]
          go_wp2_with fail
          refine NoPanic.normal ?_
          obtain ⟨f0, f1, f2⟩ := HC9.out W2 HIX.out.below
          go_wp2_with (at_builtin; refine wpList_append_rowv elem28 rfl (.tmp 30) (.tmp 35) rfl (w.heap.size + 1) _ _ _ rfl (HIX.out.own.alloc (.cells #[.int .i64 y.t, .int .i64 y.lo, .int .i64 y.hi] 54)) (some ⟨W2.heap.size, 0, none⟩) 1 1 [.int .i64 y.t, .int .i64 y.lo, .int .i64 y.hi] rfl (rdv_one3 W2 _ _ _ 54) (svals_one y) (fun h => by cases h) (by unfold maxLen; omega) (by omega) (by have := HIX.out.low; rw [World.size_alloc]; omega) ?_; intro HIAv wA hown hg _; have HIA := Lib.hid (HIX.out.push y hown hg); clear hown hg)
          go_roundw
          case rel => exact ⟨q + 1, x, pre ++ [y], by go_num, by omega, by (simp only [List.length_append, List.length_cons, List.length_nil]; omega), HF1, HN1, hfx, HIA.out⟩
          case measure => simp [intOf]; omega
    · obtain rfl : n = q := by omega
      have hd : l.drop n = [] := by rw [← HL.out]; exact List.drop_length
      have hs1 := hfar.out
      have hs2 := hnear.out
      rw [hd] at hs1 hs2
      simp only [far, near, List.append_nil] at hs1 hs2
      rw [← hs1, ← hs2] at HAD
      have HAD2 := Lib.hid HAD.out
      obtain ⟨A5, c5, rfl, hr5, _, _⟩ := rdv_own hii.own
      have HSRC := Lib.hid (show Spans wr A5 pre.length pre from ⟨rfl, hr5⟩)
      have HXB := Lib.hid (show ∀ W2, Below wr.heap.size wr W2 → W2.cell? ⟨w.heap.size, 0, none⟩ = some (.int .i64 x.t) ∧ W2.cell? ⟨w.heap.size, 1, none⟩ = some (.int .i64 x.lo) ∧ W2.cell? ⟨w.heap.size, 2, none⟩ = some (.int .i64 x.hi) from fun W2 hw => (HI.out.later hw).box.c)
      have HB0 := Lib.hid (show BI wr wr (.slice none 0 0) [] from ⟨Below.refl _ _, World.ownsRow_nil _ _ _ _⟩)
      have HBW := Lib.hid hii.below
      have hlowr := hii.low
      obtain ⟨PR, hPR⟩ : ∃ P, P = pre := ⟨_, rfl⟩
      rw [← hPR] at HSRC HAD2 hlen ⊢
      have hml : PR.length ≤ 100000 := by omega
      obtain ⟨m, hm⟩ : ∃ m, m = PR.length := ⟨_, rfl⟩
      have HM := Lib.hid hm
      rw [← hm] at HSRC hml ⊢
      clear hd hs1 hs2 hr5 hii hfar hnear HI HAD hPR hm hlen
      go_wp2_with fail
      rename World => wr
      go_loopw [7, 8, 9, 10] (fun v d i _ wx => ∃ (q : Nat) (pre : List Sp) (dd : Bool), i = .int .i64 (q : Int) ∧ d = .bool dd ∧ q ≤ m ∧ pre.length ≤ 2 * q ∧ Hid (pre ++ putA x (PR.drop q) dd = add l s) ∧ BI wr wx v pre) (fun _ _ i _ _ => m - (intOf i).toNat)
      case atStart => exact ⟨0, [], false, rfl, rfl, by omega, by simp, (by (show [] ++ putA x (PR.drop 0) false = add l s); rw [HAD2.out]; rfl), HB0.out⟩
      case round =>
        obtain ⟨q, pre, dd, rfl, rfl, hq, hlen, hpre, hbi⟩ := hrel
        rename World => wx
        have HI := Lib.hid hbi
        by_cases hlt : q < m
        · have hql : q < PR.length := by rw [← HM.out]; exact hlt
          obtain ⟨b, off, rfl, hc⟩ := Spans.cells HSRC.out (by omega)
          obtain ⟨c0, c1, c2⟩ := hc q hql
          replace c0 := (stays_w hbi.below _ (World.block_lt_of_cell? _ _ c0)).trans c0
          replace c1 := (stays_w hbi.below _ (World.block_lt_of_cell? _ _ c1)).trans c1
          replace c2 := (stays_w hbi.below _ (World.block_lt_of_cell? _ _ c2)).trans c2
          have hdr : PR.drop q = PR[q] :: PR.drop (q + 1) := List.drop_eq_getElem_cons hql
          have hs := hpre.out
          rw [hdr] at hs
          obtain ⟨ADD, hADD⟩ : ∃ a, a = add l s := ⟨_, rfl⟩
          rw [← hADD] at hs
          unfold putA at hs
          rw [hADD] at hs
          obtain ⟨y, hy⟩ : ∃ y, y = PR[q] := ⟨_, rfl⟩
          rw [← hy] at c0 c1 c2 hs
          have hyb : Below wx.heap.size wx (wx.alloc (.cells #[.int .i64 y.t, .int .i64 y.lo, .int .i64 y.hi] 54)) := (Below.refl _ wx).alloc (Nat.le_refl _) _
          have HZ := Lib.hid (hbi.later hyb)
          obtain ⟨g0, g1, g2⟩ := HXB.out _ HZ.out.below
          clear hc hy hdr hADD hbi hyb
          cases dd with
          | true =>
            have HQ := Lib.hid (show pre ++ [y] ++ putA x (PR.drop (q + 1)) true = add l s by simpa using hs)
            clear hs
            go_wp2_with (at_builtin; refine wpList_append_rowv elem28 rfl (.tmp 102) (.tmp 104) rfl wr.heap.size _ _ _ rfl (HZ.out.own.alloc (.cells #[.int .i64 y.t, .int .i64 y.lo, .int .i64 y.hi] 54)) (some ⟨wx.heap.size + 1, 0, none⟩) 1 1 [.int .i64 y.t, .int .i64 y.lo, .int .i64 y.hi] rfl (rdv_z wx _ _ _ _ 54) (svals_one y) (fun h => by cases h) (by unfold maxLen; omega) (by omega) (by have := HZ.out.below.size; rw [World.size_alloc]; omega) ?_; intro HP2v w7 hown hg _; have HP2 := Lib.hid (HZ.out.push y hown hg); clear hown hg)
            go_roundw
            case rel => exact ⟨q + 1, pre ++ [y], true, by go_num, rfl, by omega, by (simp only [List.length_append, List.length_cons, List.length_nil]; omega), HQ, HP2.out⟩
            case measure => simp [intOf]; omega
          | false =>
            by_cases h1 : x.t < y.t
            · have d1 : decide (x.t < y.t) = true := decide_eq_true h1
              have ha : aft y x = true := by simp [aft, h1]
              rw [ha] at hs
              have HQ := Lib.hid (show pre ++ [x] ++ [y] ++ putA x (PR.drop (q + 1)) true = add l s by simpa using hs)
              clear hs ha h1
              have hl2 : (pre ++ [x]).length ≤ 2 * q + 1 := by (simp only [List.length_append, List.length_cons, List.length_nil]; omega)
              go_upto_region 22 with (at_builtin; refine wpList_append_rowv elem28 rfl (.tmp 98) (.tmp 100) rfl wr.heap.size _ _ _ rfl (HZ.out.own.alloc (.cells #[.int .i64 x.t, .int .i64 x.lo, .int .i64 x.hi] 54)) (some ⟨wx.heap.size + 1, 0, none⟩) 1 1 [.int .i64 x.t, .int .i64 x.lo, .int .i64 x.hi] rfl (rdv_z wx _ _ _ _ 54) (svals_one x) (fun h => by cases h) (by unfold maxLen; omega) (by omega) (by have := HZ.out.below.size; rw [World.size_alloc]; omega) ?_; intro HP1v w6 hown hg _; have HY6 := Lib.hid (show SBox w6 wx.heap.size y from (hg.block wx.heap.size (by simp; omega) (fun e => by have := (HI.out.own.lt _ e.symm).2; omega)).trans ((heap_alloc_old _ _ (by simp)).trans (heap_alloc_new wx _))); have HP1 := Lib.hid (HZ.out.push x hown hg); clear hown hg)
              clear g0 g1 g2
              obtain ⟨z0, z1, z2⟩ := HY6.out.c
              go_wp2_with (at_builtin; refine wpList_append_rowv elem28 rfl (.tmp 102) (.tmp 104) rfl wr.heap.size _ _ _ rfl (HP1.out.own.alloc (.cells #[.int .i64 y.t, .int .i64 y.lo, .int .i64 y.hi] 54)) (some ⟨w6.heap.size, 0, none⟩) 1 1 [.int .i64 y.t, .int .i64 y.lo, .int .i64 y.hi] rfl (rdv_one3 w6 _ _ _ 54) (svals_one y) (fun h => by cases h) (by unfold maxLen; omega) (by omega) (by have := HP1.out.below.size; rw [World.size_alloc]; omega) ?_; intro HP2v w7 hown hg _; have HP2 := Lib.hid (HP1.out.push y hown hg); clear hown hg)
              go_roundw
              case rel => exact ⟨q + 1, pre ++ [x] ++ [y], true, by go_num, rfl, by omega, by (simp only [List.length_append, List.length_cons, List.length_nil]; omega), HQ, HP2.out⟩
              case measure => simp [intOf]; omega
            · have d1 : decide (x.t < y.t) = false := decide_eq_false h1
              by_cases h2 : y.t = x.t
              · have e2 : (y.t == x.t) = true := beq_iff_eq.2 h2
                by_cases h3 : x.lo < y.lo
                · have d3 : decide (x.lo < y.lo) = true := decide_eq_true h3
                  have ha : aft y x = true := by simp [aft, h2, h3]
                  rw [ha] at hs
                  have HQ := Lib.hid (show pre ++ [x] ++ [y] ++ putA x (PR.drop (q + 1)) true = add l s by simpa using hs)
                  have H2 := Lib.hid h2
                  clear hs ha h1 h2 h3
                  have hl2 : (pre ++ [x]).length ≤ 2 * q + 1 := by (simp only [List.length_append, List.length_cons, List.length_nil]; omega)
                  go_upto_region 22 with (at_builtin; refine wpList_append_rowv elem28 rfl (.tmp 98) (.tmp 100) rfl wr.heap.size _ _ _ rfl (HZ.out.own.alloc (.cells #[.int .i64 x.t, .int .i64 x.lo, .int .i64 x.hi] 54)) (some ⟨wx.heap.size + 1, 0, none⟩) 1 1 [.int .i64 x.t, .int .i64 x.lo, .int .i64 x.hi] rfl (rdv_z wx _ _ _ _ 54) (svals_one x) (fun h => by cases h) (by unfold maxLen; omega) (by omega) (by have := HZ.out.below.size; rw [World.size_alloc]; omega) ?_; intro HP1v w6 hown hg _; have HY6 := Lib.hid (show SBox w6 wx.heap.size y from (hg.block wx.heap.size (by simp; omega) (fun e => by have := (HI.out.own.lt _ e.symm).2; omega)).trans ((heap_alloc_old _ _ (by simp)).trans (heap_alloc_new wx _))); have HP1 := Lib.hid (HZ.out.push x hown hg); clear hown hg)
                  clear g0 g1 g2
                  obtain ⟨z0, z1, z2⟩ := HY6.out.c
                  go_wp2_with (at_builtin; refine wpList_append_rowv elem28 rfl (.tmp 102) (.tmp 104) rfl wr.heap.size _ _ _ rfl (HP1.out.own.alloc (.cells #[.int .i64 y.t, .int .i64 y.lo, .int .i64 y.hi] 54)) (some ⟨w6.heap.size, 0, none⟩) 1 1 [.int .i64 y.t, .int .i64 y.lo, .int .i64 y.hi] rfl (rdv_one3 w6 _ _ _ 54) (svals_one y) (fun h => by cases h) (by unfold maxLen; omega) (by omega) (by have := HP1.out.below.size; rw [World.size_alloc]; omega) ?_; intro HP2v w7 hown hg _; have HP2 := Lib.hid (HP1.out.push y hown hg); clear hown hg)
                  go_roundw
                  case rel => exact ⟨q + 1, pre ++ [x] ++ [y], true, by go_num, rfl, by omega, by (simp only [List.length_append, List.length_cons, List.length_nil]; omega), HQ, HP2.out⟩
                  case measure => simp [intOf]; omega
                · have d3 : decide (x.lo < y.lo) = false := decide_eq_false h3
                  have ha : aft y x = false := by simp [aft, h2, h3]
                  rw [ha] at hs
                  have HQ := Lib.hid (show pre ++ [y] ++ putA x (PR.drop (q + 1)) false = add l s by simpa using hs)
                  have H2 := Lib.hid h2
                  clear hs ha h1 h2 h3
                  go_wp2_with (at_builtin; refine wpList_append_rowv elem28 rfl (.tmp 102) (.tmp 104) rfl wr.heap.size _ _ _ rfl (HZ.out.own.alloc (.cells #[.int .i64 y.t, .int .i64 y.lo, .int .i64 y.hi] 54)) (some ⟨wx.heap.size + 1, 0, none⟩) 1 1 [.int .i64 y.t, .int .i64 y.lo, .int .i64 y.hi] rfl (rdv_z wx _ _ _ _ 54) (svals_one y) (fun h => by cases h) (by unfold maxLen; omega) (by omega) (by have := HZ.out.below.size; rw [World.size_alloc]; omega) ?_; intro HP2v w7 hown hg _; have HP2 := Lib.hid (HZ.out.push y hown hg); clear hown hg)
                  go_roundw
                  case rel => exact ⟨q + 1, pre ++ [y], false, by go_num, rfl, by omega, by (simp only [List.length_append, List.length_cons, List.length_nil]; omega), HQ, HP2.out⟩
                  case measure => simp [intOf]; omega
              · have e2 : (y.t == x.t) = false := beq_eq_false_iff_ne.2 h2
                have ha : aft y x = false := by simp [aft, h1, h2]
                rw [ha] at hs
                have HQ := Lib.hid (show pre ++ [y] ++ putA x (PR.drop (q + 1)) false = add l s by simpa using hs)
                clear hs ha h1 h2
                go_wp2_with (at_builtin; refine wpList_append_rowv elem28 rfl (.tmp 102) (.tmp 104) rfl wr.heap.size _ _ _ rfl (HZ.out.own.alloc (.cells #[.int .i64 y.t, .int .i64 y.lo, .int .i64 y.hi] 54)) (some ⟨wx.heap.size + 1, 0, none⟩) 1 1 [.int .i64 y.t, .int .i64 y.lo, .int .i64 y.hi] rfl (rdv_z wx _ _ _ _ 54) (svals_one y) (fun h => by cases h) (by unfold maxLen; omega) (by omega) (by have := HZ.out.below.size; rw [World.size_alloc]; omega) ?_; intro HP2v w7 hown hg _; have HP2 := Lib.hid (HZ.out.push y hown hg); clear hown hg)
                go_roundw
                case rel => exact ⟨q + 1, pre ++ [y], false, by go_num, rfl, by omega, by (simp only [List.length_append, List.length_cons, List.length_nil]; omega), HQ, HP2.out⟩
                case measure => simp [intOf]; omega
        · obtain rfl : m = q := by omega
          have hd : PR.drop m = [] := by rw [HM.out]; exact List.drop_length
          have hs := hpre.out
          rw [hd] at hs
          obtain ⟨g0, g1, g2⟩ := HXB.out wx hbi.below
          cases dd with
          | true =>
            have HE := Lib.hid (show pre = add l s by simpa [putA] using hs)
            clear hs hd hbi
            go_wp2_with fail
            go_ret
            exact ⟨_, rfl, own_low (by rw [← HE.out]; exact HI.out.own) hlowr, HBW.out.trans (HI.out.below.mono HBW.out.size)⟩
          | false =>
            have HE := Lib.hid (show pre ++ [x] = add l s by simpa [putA] using hs)
            clear hs hd hbi
            go_wp2_with (at_builtin; refine wpList_append_rowv elem28 rfl (.tmp 108) (.tmp 110) rfl wr.heap.size _ _ _ rfl (HI.out.own.alloc (.cells #[.int .i64 x.t, .int .i64 x.lo, .int .i64 x.hi] 54)) (some ⟨wx.heap.size, 0, none⟩) 1 1 [.int .i64 x.t, .int .i64 x.lo, .int .i64 x.hi] rfl (rdv_one3 wx _ _ _ 54) (svals_one x) (fun h => by cases h) (by unfold maxLen; omega) (by omega) (by have := HI.out.below.size; rw [World.size_alloc]; omega) ?_; intro HP1v w6 hown hg _; have HP1 := Lib.hid (HI.out.push x hown hg); clear hown hg)
            go_ret
            exact ⟨_, rfl, own_low (by rw [← HE.out]; exact HP1.out.own) hlowr, HBW.out.trans (HP1.out.below.mono HBW.out.size)⟩
end Go.Proofs.Ytmicheheibkmjaa
