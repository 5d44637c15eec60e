/- The document's New. -/
import Derived.Test.YthmebgpleegonaaDRefC
namespace Go.Proofs.Ythmebgpleegonaa
set_option maxRecDepth 100000
open Go.RowKit

theorem made_zero (n : Nat) : (madeCells Sx.zero.arr (n * 64)).toList = rowV Sx.vals (secsF (fun _ => Sx.zero) n) := by
  apply List.ext_getElem
  · rw [Array.length_toList, size_madeCells, rowV_length Sx.vals 64 Sx.vlen, secsF_length]
  · intro i h1 h2
    have hi : i < n * 64 := by rw [Array.length_toList, size_madeCells] at h1; exact h1
    have e : i / 64 * 64 + i % 64 = i := Nat.div_add_mod' i 64
    have hd : i / 64 < (secsF (fun _ => Sx.zero) n).length := by rw [secsF_length]; omega
    have h3 := rowV_get Sx.vals 64 Sx.vlen (secsF (fun _ => Sx.zero) n) (i / 64) hd (i % 64) (Nat.mod_lt _ (by decide))
    rw [e, List.getElem?_eq_getElem h2, secsF_get] at h3
    have hz : ∀ k, k < 64 → Sx.zero.vals[k]? = some (.int .u8 0) := fun k hk => by
      show (valsB (List.replicate 64 0))[k]? = _
      rw [valsB_get, List.getElem?_replicate, if_pos hk]
      rfl
    rw [hz _ (Nat.mod_lt _ (by decide))] at h3
    injection h3 with h3
    rw [h3]
    unfold madeCells
    simp only [Array.getElem_toList, Array.getElem_map, Array.getElem_range, Sx.size]
    have h4 := hz (i % 64) (Nat.mod_lt _ (by decide))
    have h5 : i % 64 < Sx.zero.arr.size := by rw [Sx.size]; exact Nat.mod_lt _ (by decide)
    rw [getElem!_pos Sx.zero.arr _ h5]
    have h6 : Sx.zero.arr[i % 64]? = some (.int .u8 0) := by
      unfold Sx.arr
      simpa using h4
    rw [Array.getElem?_eq_getElem h5] at h6
    injection h6
theorem does_make_sx {ops : Array Oper} {Q : Exit → Act → World → Prop} {o : Oper} {a : Act} {w : World} (hgd : o.guard = none) (x y : Operand) (ho : o.op = .makeSlice 82 x y) (n B : Nat) (hn : n ≤ 4096) (hB : B ≤ w.heap.size)
    (hx : a.eval x = .int .i64 (n : Int)) (hy : a.eval y = .int .i64 (n : Int)) {F : Fact} {d : List Past}
    (hF : ∀ w', w'.ownsRow B 50 64 (.slice (some ⟨w.heap.size, 0, none⟩) n n) n (rowV Sx.vals (secsF (fun _ => Sx.zero) n)) → w.heap.size < w'.heap.size → F d (.slice (some ⟨w.heap.size, 0, none⟩) n n) w w') : Does Try.prog ops Q o F w d a := by
  intro K hK
  rw [if_pos (by simp [Region.wanted, hgd])]
  obtain ⟨i, hi, hz, h1, h2⟩ := info_parts (show (Try.prog.info? 50).map (fun i => (i.zero, i.size, i.bytes)) = some (some Sx.zero.val, 64, 64) from by unfold Sx.val; rw [← zero_arr]; kernel_rfl)
  obtain ⟨w', hrun, hown, hg⟩ := run_make_full (P := Try.prog) w B 82 50 i Sx.zero.val 64 Try.underlying82 hi hz h1 .i64 .i64 n (by rw [h2]; omega) (by unfold maxLen; omega) hB
  have e : (madeCells Sx.zero.val.cells (n * 64)).toList = rowV Sx.vals (secsF (fun _ => Sx.zero) n) := made_zero n
  rw [e] at hown
  have h6 := hK _ w' (hF w' hown (own_lt hown).2.1) (grown_none hg)
  unfold Oper.wp
  simp [execOp, ho, hx, hy, hrun, Result.andThen]
  exact h6
set_option maxHeartbeats 8000000 in
theorem refnew_yes (A : Option Addr) (c : Nat) (l : List Nat) (w : World) (h : Sz w A l) (hl : 1 ≤ l.length ∧ l.length ≤ 5) (hs : ∀ n ∈ l, 1 ≤ n ∧ n ≤ 4096) :
    Calls Try.prog 11 #[.slice A l.length c] w fun e w' => ∃ X' A' c', e = .returned (.tuple #[rsV A' c' (l.map Dk.new) pw0 0, .int .i64 0]) ∧ RSet w' X' A' c' (l.map Dk.new) ∧ (∀ k, X' k → w.heap.size ≤ k) ∧ Below w.heap.size w w' := by
  obtain ⟨k1, k3, ks, hb3⟩ := two_blocks w (.cells #[.slice none 0 0, .int .i64 0, .int .i64 0, .bool false, .bool false] 33) (.cells #[.slice none 0 0, .int .i64 0, .int .i64 0, .bool false, .bool false] 33)
  obtain ⟨N, hN⟩ : ∃ N, N = l.length := ⟨_, rfl⟩
  obtain ⟨z, hz⟩ : ∃ z, z = w.heap.size := ⟨_, rfl⟩
  have HN := Lib.hid hN
  have HZ := Lib.hid hz
  have H0 := Lib.hid h
  have HSS := Lib.hid hs
  have hlc : (l.map Dk.new).length = N := by rw [List.length_map, hN]
  have HLC := Lib.hid hlc
  have HW := Lib.hid (And.intro k1 (And.intro k3 (And.intro ks hb3)))
  unfold rsV pw0
  rw [hlc]
  rw [← hN] at hl ⊢
  rw [← hz] at HW
  obtain ⟨hl1, hl5⟩ := hl
  clear k1 k3 ks hb3 h hs hN hlc
  rw [← hz]
  clear hz
  have d1 : decide ((N : Int) < 1) = false := decide_eq_false (by omega)
  have d2 : decide (5 < (N : Int)) = false := decide_eq_false (by omega)
  go_enter Try.func11, Try.ntmps11
  go_upto_region 2 with fail
  rw [← HZ.out]
  revert HW
  generalize World.alloc _ _ = wb
  intro HW
  go_wp2_with fail
  clear d1 d2
  go_loopw [5] (fun i wr => ∃ (q : Nat) (v : Value) (X' : Nat → Prop) (L : List RDx), i = .int .i64 (q : Int) ∧ q ≤ N ∧ (wr.heap[z]? = some (.cells #[.slice none 0 0, .int .i64 0, .int .i64 0, .bool false, .bool false] 33 (0, 0)) ∧ wr.heap[z + 1]? = some (.cells #[v, .int .i64 0, .int .i64 0, .bool false, .bool false] 33 (0, 0)) ∧ Below z w wr) ∧ CDev wr (z + 2) q v ((l.map Dk.new).take q) X' L) (fun i _ => N - (intOf i).toNat)
  case atStart => exact ⟨0, .slice none 0 0, fun _ => False, [], rfl, by omega, ⟨HW.out.1, HW.out.2.1, HW.out.2.2.2⟩, ⟨World.ownsRow_nil _ _ _ _, by simp, rfl, (fun r hr => by cases hr), (fun k e => e.elim), fun k e => e.elim⟩⟩
  case round =>
    obtain ⟨j, v, X', L, rfl, hq, ⟨b0, b1, bel⟩, hcd⟩ := hrel
    have hzl : z + 1 < wr.heap.size := (Array.getElem?_eq_some_iff.1 b1).1
    have HB := Lib.hid (And.intro b0 (And.intro b1 bel))
    have HCD := Lib.hid hcd
    obtain ⟨Av, cv, rfl, hrv, hnil, _⟩ := rdv_own hcd.own
    have q0 := (cell_of_row _ _ 0 _ _ (0, 0) b1).trans rfl
    clear b0 b1 bel hcd hrv
    by_cases hlt : j < N
    · have hjl : j < l.length := by have := HN.out; omega
      have hsz := RowAt.below H0.out (by rw [← HZ.out]; exact HB.out.2.2)
      obtain ⟨b, off, rfl, hc⟩ := Sz.cell hsz (by omega)
      have c0 := hc j hjl
      have hnj := HSS.out _ (List.getElem_mem hjl)
      obtain ⟨sz, hsj⟩ : ∃ y, y = l[j] := ⟨_, rfl⟩
      rw [← hsj] at c0 hnj
      have HSJ := Lib.hid hsj
      obtain ⟨hn1, hn2⟩ := hnj
      have d3 : decide ((sz : Int) < 1) = false := decide_eq_false (by omega)
      have d4 : decide (4096 < (sz : Int)) = false := decide_eq_false (by omega)
      clear hsz hc hsj hnil
      go_upto_region 9 with fail
      clear d3 d4 q0
      have HA := Lib.hid (show ∀ W2, Below wr.drew.heap.size wr.drew W2 → Below wr.heap.size wr W2 ∧ W2.cell? ⟨z + 1, 0, none⟩ = some (.slice Av j cv) ∧ W2.cell? ⟨b, off + j, none⟩ = some (.int .i64 (sz : Int)) from fun W2 hw => by
        have hb2 : Below wr.heap.size wr W2 := (Below.refl _ wr).drew.trans hw
        exact ⟨hb2, (cell_of_row _ _ 0 _ _ (0, 0) ((hb2.block _ hzl).trans HB.out.2.1)).trans rfl, (hb2.cell (World.block_lt_of_cell? _ _ c0)).trans c0⟩)
      have hjN : (j : Int) < (N : Int) := by omega
      clear c0
      refine wp_region_noPanic ?_
      refine wp_region_abs 9 47 [
        .is (.pointer (some ⟨z + 1, 0, none⟩)),
        .is (.slice Av j cv),
        .is (.slice (some ⟨b, off, none⟩) N c),
        .is (.int .i64 (j : Int)),
        .is (.pointer (some ⟨b, off + j, none⟩)),
        .is (.int .i64 (sz : Int)),
        .tells (fun _ v _ wa => ∃ g, v = .slice (some ⟨g, 0, none⟩) sz sz ∧ wa.ownsRow wr.heap.size 50 64 (.slice (some ⟨g, 0, none⟩) sz sz) sz (rowV Sx.vals (secsF (fun _ => Sx.zero) sz)) ∧ wr.heap.size ≤ g),
        .tells (fun _ v _ wa => ∃ g, v = .agg #[.slice (some ⟨g, 0, none⟩) sz sz, .slice none 0 0] ∧ wa.ownsRow wr.heap.size 50 64 (.slice (some ⟨g, 0, none⟩) sz sz) sz (rowV Sx.vals (secsF (fun _ => Sx.zero) sz)) ∧ wr.heap.size ≤ g),
        .tells (fun _ v _ wa => ∃ g g2, v = .slice (some ⟨g2, 0, none⟩) 1 1 ∧ wa.heap[g2]? = some (.cells #[.slice (some ⟨g, 0, none⟩) sz sz, .slice none 0 0] 85 (0, 0)) ∧ wa.ownsRow wr.heap.size 50 64 (.slice (some ⟨g, 0, none⟩) sz sz) sz (rowV Sx.vals (secsF (fun _ => Sx.zero) sz)) ∧ wr.heap.size ≤ g)]
        [35, 36, 37, 38, 39, 40, 41, 42, 43]
        [[], [0], [], [], [2, 3], [4], [5], [6], [7]] (by kernel_rfl) (by rfl) rfl rfl (by kernel_rfl) (fun _ _ _ _ h => h.elim) ?_ ?_
      · refine ⟨?_, ?_, ?_, ?_, ?_, ?_, ?_, ?_, ?_, trivial⟩
        · intro W2 hw K hK
          go_simp
          exact hK _ _ rfl (Below.refl _ _)
        · intro W2 hw K hK
          obtain ⟨_, a0, _⟩ := HA.out W2 hw
          go_simp
          exact hK _ _ rfl (Below.refl _ _)
        · intro W2 hw K hK
          go_simp
          exact hK _ _ rfl (Below.refl _ _)
        · intro W2 hw K hK
          go_simp
          exact hK _ _ rfl (Below.refl _ _)
        · intro W2 hw K hK
          go_simp
          exact hK _ _ rfl (Below.refl _ _)
        · intro W2 hw K hK
          obtain ⟨_, _, a0⟩ := HA.out W2 hw
          go_simp
          exact hK _ _ rfl (Below.refl _ _)
        · intro W2 hw
          refine (show ∀ d, Does _ _ _ _ _ _ d _ from fun d => ?_) _
          have hsw := (HA.out W2 hw).1.size
          exact does_make_sx rfl _ _ rfl sz wr.heap.size hn2 hsw rfl rfl fun w6 h6 _ => ⟨_, rfl, h6, hsw⟩
        · rintro W2 hw v6 wb6 wa6 ⟨_, g, rfl, h6, h6z⟩ x6 K hK
          go_simp
          exact hK _ _ ⟨g, rfl, own_same h6 (fun k e => x6.block k (h6.lt k e).2), h6z⟩ (Below.refl _ _)
        · rintro W2 hw v7 wb7 wa7 ⟨_, g, rfl, h6, h6z⟩ x6 K hK
          go_simp
          have hba : Below W2.heap.size W2 (W2.alloc (.cells #[.slice (some ⟨g, 0, none⟩) sz sz, .slice none 0 0] 85)) := (Below.refl _ _).alloc (Nat.le_refl _) _
          exact hK _ _ ⟨g, _, rfl, heap_alloc_new _ _, own_same (own_same h6 (fun k e => x6.block k (h6.lt k e).2)) (fun k e => hba.block k (Nat.lt_of_lt_of_le (h6.lt k e).2 x6.size)), h6z⟩ hba
      · intro W2 hw2
        intro v6 wb6 wa6 _ _ _ _ v7 wb7 wa7 _ _ _ _ v8 wb8 wa8 h8 x8 _ _
        simp only [Behind, List.drop, Act.put, List.setIfInBounds_toArray, List.set_cons_zero, List.set_cons_succ]
        obtain ⟨g, g2, rfl, hg2, hown, hgz⟩ := h8
        have hb2 := (HA.out W2 hw2).1
        have hg22 := (x8.block g2 (Array.getElem?_eq_some_iff.1 hg2).1).trans hg2
        have hown2 := own_same (w' := W2) hown fun k e => x8.block k (hown.lt k e).2
        have hcd2 := HCD.out.below hb2
        have hrd : Rdv W2 (some ⟨g2, 0, none⟩) 1 2 [.slice (some ⟨g, 0, none⟩) sz sz, .slice none 0 0] := ⟨rfl, fun _ => ⟨g2, 0, rfl, fun r u hr => by
          rw [Nat.zero_add, cell_of_row _ _ r _ _ (0, 0) hg22]
          simpa using hr⟩⟩
        have HM := Lib.hid (And.intro hb2 (And.intro hown2 hcd2))
        have HRD := Lib.hid hrd
        have hs2 := hb2.size
        clear hw2 hg2 hown x8 hg22 hown2 hcd2 hrd hb2
        go_wp2_with (refine wpList_append_rowv elemRD rfl (.tmp 36) (.tmp 43) rfl (z + 2) (.slice Av j cv) j (rowV RDx.vals L) (by rfl) HM.out.2.2.own (some ⟨g2, 0, none⟩) 1 1 [.slice (some ⟨g, 0, none⟩) sz sz, .slice none 0 0] (by rfl) HRD.out (fun u hu => by rcases List.mem_cons.1 hu with rfl | hu; exact rfl; rw [List.mem_singleton.1 hu]; rfl) (fun h => by cases h) (by unfold maxLen; omega) (by omega) (by omega) ?_; intro v6 w6 hown6 hg6 hgb6; obtain ⟨q6, c6, rfl, hq6⟩ := own_some hown6 (by omega); have HO6 := Lib.hid hown6; have HG6 := Lib.hid hg6; have HGB := Lib.hid hgb6; have h62 := (hg6.block (z + 1) (by omega) (fun e => by have := (HM.out.2.2.own.lt (z + 1) e.symm).1; omega)).trans ((HM.out.1.block (z + 1) hzl).trans HB.out.2.1); have y0 := (cell_of_row _ _ 0 _ _ (0, 0) h62).trans rfl; have y1 := frozen_at h62 0; have hs6 := hg6.size; have hz6 : z + 1 < w6.heap.size := (Array.getElem?_eq_some_iff.1 h62).1; clear hown6 hg6 hgb6 h62)
        refine NoPanic.normal ?_
        go_wp2_with fail
        have hne : ∀ k, k ≠ z + 1 → (w6.setCell ⟨z + 1, 0, none⟩ (.slice (some ⟨q6, 0, none⟩) (j + 1) c6)).heap[k]? = w6.heap[k]? := fun k hk => Below.heap_setCell _ ⟨z + 1, 0, none⟩ _ _ hk
        have hlow : ∀ k, k < z + 2 → w6.heap[k]? = wr.heap[k]? := fun k hk => (HG6.out.block k (by omega) (fun e => by have := (HM.out.2.2.own.lt k e.symm).1; omega)).trans (HM.out.1.block k (by omega))
        have hgl := own_lt HM.out.2.1
        have hX : ∀ k, (X' k ∨ k = g) → z + 2 ≤ k ∧ k < W2.heap.size ∧ (Value.slice Av j cv).ownBlock ≠ some k := fun k e => by
          rcases e with e | e
          · have h1 := HM.out.2.2.xb k e
            exact ⟨h1.1, h1.2, HM.out.2.2.ap k e⟩
          · subst e
            exact ⟨by omega, hgl.2.1, fun e2 => by have := (HCD.out.own.lt k e2).2; omega⟩
        have hkeep : ∀ k, (X' k ∨ k = g) → (w6.setCell ⟨z + 1, 0, none⟩ (.slice (some ⟨q6, 0, none⟩) (j + 1) c6)).heap[k]? = W2.heap[k]? := fun k e => by
          obtain ⟨h1, h2, h3⟩ := hX k e
          exact (hne k (by omega)).trans (HG6.out.block k h2 (fun e2 => h3 e2.symm))
        have hjc : j < (l.map Dk.new).length := by rw [HLC.out]; exact hlt
        refine ⟨⟨j + 1, .slice (some ⟨q6, 0, none⟩) (j + 1) c6, fun k => X' k ∨ k = g, L ++ [⟨some ⟨g, 0, none⟩, sz, Dk.new sz, none, 0⟩], by go_num, by omega, ⟨(hne z (by omega)).trans ((hlow z (by omega)).trans HB.out.1), ?_, ?_⟩, ⟨?_, ?_, ?_, ?_, ?_, ?_⟩⟩, by simp [intOf]; omega⟩
        · exact box_set (b := z + 1) ((hlow (z + 1) (by omega)).trans HB.out.2.1) 0 (.slice (some ⟨q6, 0, none⟩) (j + 1) c6)
        · refine HB.out.2.2.trans ⟨HG6.out.os.trans HM.out.1.os, HG6.out.tape.trans HM.out.1.tape, HG6.out.output.trans HM.out.1.output, by rw [World.size_setCell]; omega, fun k hk => (hne k (by omega)).trans (hlow k (by omega))⟩
        · have ho := HO6.out
          have e : rowV RDx.vals L ++ [.slice (some ⟨g, 0, none⟩) sz sz, .slice none 0 0] = rowV RDx.vals (L ++ [⟨some ⟨g, 0, none⟩, sz, Dk.new sz, none, 0⟩]) := by
            rw [rowV_append]
            simp [rowV, RDx.vals, Dk.new]
          rw [e] at ho
          exact own_same ho fun k e2 => by
            have e3 : k = q6 := (Option.some.inj e2).symm
            rw [e3]
            exact hne q6 (by omega)
        · rw [List.map_append, HM.out.2.2.dks, List.take_succ_eq_append_getElem hjc, List.getElem_map, ← HSJ.out]
          rfl
        · rw [List.length_append, HM.out.2.2.len]; rfl
        · intro r hr
          rcases List.mem_append.1 hr with e | e
          · exact ((HM.out.2.2.ok r e).wide (Y := fun k => X' k ∨ k = g) fun k e => .inl e).keep hkeep
          · rw [List.mem_singleton.1 e]
            refine ⟨?_, ⟨rfl, by simp [rowV, Dk.new], fun h => absurd h (by simp [Dk.new])⟩, (fun e => by cases e), (fun _ => rfl), (fun a e => by injection e with e; subst e; exact .inr rfl), fun a e => by cases e⟩
            have hr0 : RowAt Sx.vals 64 W2 (some ⟨g, 0, none⟩) sz (secsF (fun _ => Sx.zero) sz) := rowat_own HM.out.2.1 (secsF_length _ _)
            exact RowAt.keep (X := fun k => X' k ∨ k = g) hr0 (fun a e => by injection e with e; subst e; exact .inr rfl) hkeep
        · intro k e
          obtain ⟨h1, h2, _⟩ := hX k e
          exact ⟨h1, by rw [World.size_setCell]; omega⟩
        · intro k e e2
          obtain ⟨_, h2, h3⟩ := hX k e
          rcases HGB.out with e4 | e4
          · exact h3 (e4 ▸ e2)
          · rw [e2] at e4
            injection e4 with e4
            omega
    · obtain rfl : j = N := by omega
      have b0 := HB.out.1
      have q1 := (cell_of_row _ _ 1 _ _ (0, 0) HB.out.2.1).trans rfl
      have q2 := (cell_of_row _ _ 2 _ _ (0, 0) HB.out.2.1).trans rfl
      have q3 := (cell_of_row _ _ 3 _ _ (0, 0) HB.out.2.1).trans rfl
      have q4 := (cell_of_row _ _ 4 _ _ (0, 0) HB.out.2.1).trans rfl
      have pp0 := (cell_of_row _ _ 0 _ _ (0, 0) b0).trans rfl
      have pp1 := (cell_of_row _ _ 1 _ _ (0, 0) b0).trans rfl
      have pp2 := (cell_of_row _ _ 2 _ _ (0, 0) b0).trans rfl
      have pp3 := (cell_of_row _ _ 3 _ _ (0, 0) b0).trans rfl
      have pp4 := (cell_of_row _ _ 4 _ _ (0, 0) b0).trans rfl
      have g0 := frozen_at b0 0
      have g1 := frozen_at b0 1
      have g2 := frozen_at b0 2
      have g3 := frozen_at b0 3
      have g4 := frozen_at b0 4
      have hz1 : z < wr.heap.size := by omega
      have HNV := Lib.hid hnil
      clear b0 hnil
      go_wp2_with fail
      obtain ⟨u, tk, tb⟩ := set5 wr z 33 _ _ _ _ _ (.slice Av j cv) (.int .i64 0) (.int .i64 0) (.bool false) (.bool false) HB.out.1
      have hbl := tb z w HB.out.2.2 (Nat.le_refl _)
      have hcd := HCD.out.same (wq := (((((wr.setCell ⟨z, 0, none⟩ (.slice Av j cv)).setCell ⟨z, 1, none⟩ (.int .i64 0)).setCell ⟨z, 2, none⟩ (.int .i64 0)).setCell ⟨z, 3, none⟩ (.bool false)).setCell ⟨z, 4, none⟩ (.bool false))) (by simp only [World.size_setCell]; exact Nat.le_refl _) (fun k _ hk => tk k (by omega))
      have HT := Lib.hid (And.intro u (And.intro hbl hcd))
      clear u tk tb hbl hcd pp0 pp1 pp2 pp3 pp4 g0 g1 g2 g3 g4 q0 q1 q2 q3 q4 hz1
      revert HT
      generalize World.setCell (World.setCell _ _ _) _ _ = w9
      intro HT
      obtain ⟨u, hbl, hcd⟩ := HT.out
      have g0 := (cell_of_row _ _ 0 _ _ (0, 0) u).trans rfl
      have g1 := (cell_of_row _ _ 1 _ _ (0, 0) u).trans rfl
      have g2 := (cell_of_row _ _ 2 _ _ (0, 0) u).trans rfl
      have g3 := (cell_of_row _ _ 3 _ _ (0, 0) u).trans rfl
      have g4 := (cell_of_row _ _ 4 _ _ (0, 0) u).trans rfl
      have hds : (l.map Dk.new).take j = l.map Dk.new := List.take_of_length_le (by rw [HLC.out]; exact Nat.le_refl _)
      refine bodyPost_ret (v := .tuple #[.agg #[.slice Av j cv, .int .i64 0, .int .i64 0, .bool false, .bool false], .int .i64 0]) (by simp [results, Try.results11, go_sem, g0, g1, g2, g3, g4]) rfl ⟨fun k => X' k ∨ Av.map Addr.block = some k, Av, cv, rfl, ⟨fun k e => ?_, L, ?_, ?_, HNV.out, fun a e => ?_, fun r hr => (hcd.ok r hr).wide fun q e => .inl e⟩, fun k e => ?_, hbl⟩
      · rcases e with e | e
        · exact (hcd.xb k e).2
        · rcases Av with _ | a
          · cases e
          · rcases hcd.own.2 with ⟨h1, _⟩ | ⟨g, cap, cur, h1, h2, _⟩
            · cases h1
            · injection h1 with h1
              injection h1 with h1
              subst h1
              injection e with e
              subst e
              exact (hcd.own.lt _ rfl).2
      · rw [hcd.dks, hds]
      · rw [HLC.out]
        have h1 := hcd.own
        refine ⟨hcd.len, h1.1, fun hn => ?_⟩
        obtain ⟨b', c', e2, _⟩ := own_some h1 hn
        injection e2 with e2
        subst e2
        exact ⟨b', 0, rfl, fun r u hr => by
          have := h1.cells (g := b') rfl r u hr
          rwa [addr_plus] at this⟩
      · rw [e]; exact .inr rfl
      · rcases e with e | e
        · have := (hcd.xb k e).1; omega
        · rcases Av with _ | a
          · cases e
          · rcases hcd.own.2 with ⟨h1, _⟩ | ⟨g, cap, cur, h1, h2, _⟩
            · cases h1
            · injection h1 with h1
              injection h1 with h1
              subst h1
              injection e with e
              subst e
              show z ≤ g
              omega
end Go.Proofs.Ythmebgpleegonaa
