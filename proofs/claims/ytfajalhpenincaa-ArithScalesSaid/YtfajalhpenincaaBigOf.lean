/- The contract of the reference's Of. -/
import Derived.Test.YtfajalhpenincaaBigTrim
import Derived.Deep.Heap
namespace Go.Proofs.Ytfajalhpenincaa
open Go.RowKit

theorem own_set {w : World} {B : Nat} {v : Value} {xs : List Nat} (h : Own w B v xs) (a : Addr) (u : Value) (ha : a.block < B) : Own (w.setCell a u) B v xs := by
  refine ⟨h.1, ?_⟩
  rcases h.2 with h0 | ⟨g, cap, cur, hv, hb, hg, hrest⟩
  · exact .inl h0
  · exact .inr ⟨g, cap, cur, hv, hb, (Deep.blk_setCell_other w a u g (by omega)).trans hg, hrest⟩
theorem own_low {w : World} {B B' : Nat} {v : Value} {xs : List Nat} (h : Own w B v xs) (hB : B' ≤ B) : Own w B' v xs := by
  refine ⟨h.1, ?_⟩
  rcases h.2 with h0 | ⟨g, cap, cur, hv, hb, hg, hrest⟩
  · exact .inl h0
  · exact .inr ⟨g, cap, cur, hv, by omega, hg, hrest⟩
/-- A block that holds a big number's struct. -/
def Bg (w : World) (g : Nat) (s : Bool) (v : Value) : Prop := w.heap[g]? = some (.cells #[.bool s, v] 25 (0, 0))
theorem Bg.cell0 {w : World} {g : Nat} {s : Bool} {v : Value} (h : Bg w g s v) : w.cell? ⟨g, 0, none⟩ = some (.bool s) := cell_of_row w g 0 _ 25 (0, 0) h
theorem Bg.cell1 {w : World} {g : Nat} {s : Bool} {v : Value} (h : Bg w g s v) : w.cell? ⟨g, 1, none⟩ = some v := cell_of_row w g 1 _ 25 (0, 0) h
theorem Bg.frozen {w : World} {g : Nat} {s : Bool} {v : Value} (h : Bg w g s v) (k : Nat) : w.frozen? ⟨g, k, none⟩ = false := by
  unfold Bg at h
  simp [World.frozen?, h]
theorem Bg.lt {w : World} {g : Nat} {s : Bool} {v : Value} (h : Bg w g s v) : g < w.heap.size := (Array.getElem?_eq_some_iff.1 h).1
theorem Bg.alloc {w : World} {g : Nat} {s : Bool} {v : Value} (h : Bg w g s v) (o : Obj) : Bg (w.alloc o) g s v := (heap_alloc_old w o h.lt).trans h
theorem Bg.other {w : World} {g : Nat} {s : Bool} {v : Value} (h : Bg w g s v) (a : Addr) (u : Value) (hne : g ≠ a.block) : Bg (w.setCell a u) g s v :=
  (Deep.blk_setCell_other w a u g hne).trans h
theorem Bg.set1 {w : World} {g : Nat} {s : Bool} {v : Value} (h : Bg w g s v) (u : Value) : Bg (w.setCell ⟨g, 1, none⟩ u) g s u := by
  unfold Bg at h ⊢
  simp [World.setCell, Array.getElem?_modify, h]
theorem Bg.set0 {w : World} {g : Nat} {s : Bool} {v : Value} (h : Bg w g s v) (u : Bool) : Bg (w.setCell ⟨g, 0, none⟩ (.bool u)) g u v := by
  unfold Bg at h ⊢
  simp [World.setCell, Array.getElem?_modify, h]
theorem info25 : (Try.prog.info? 25).map (·.size) = some 2 := by kernel_rfl
theorem u25 : ∃ fs, Try.prog.underlying 25 = some (.struct fs) := ⟨_, Try.underlying25⟩
theorem Bg.below {w w' : World} {B g : Nat} {s : Bool} {v : Value} (h : Bg w g s v) (hb : Below B w w') (hg : g < B) : Bg w' g s v := (hb.block g hg).trans h

theorem tmod_abs (q : Int) : (q.tmod 10).natAbs = q.natAbs % 10 := by
  rw [Int.natAbs_tmod]; rfl
theorem tdiv_abs (q : Int) : (q.tdiv 10).natAbs = q.natAbs / 10 := by
  rw [Int.natAbs_tdiv]; rfl
theorem of_step (ds : List Nat) (m z : Nat) (h : val ds + 10 ^ ds.length * m = z) : val (ds ++ [m % 10]) + 10 ^ (ds.length + 1) * (m / 10) = z := by
  rw [val_append, Nat.pow_succ, Nat.mul_assoc, Nat.add_assoc, ← Nat.mul_add, ← h]
  have : val [m % 10] + 10 * (m / 10) = m := by simp [val]; omega
  rw [this]
theorem of_norm (ds : List Nat) (m : Nat) (hm : m ≠ 0) (h : m / 10 = 0) : Norm (ds ++ [m % 10]) := by
  unfold Norm
  rw [List.getLast?_append]
  simp
  omega

set_option maxHeartbeats 1000000 in
theorem of_any (z : Int) (hz : Fits z) (w : World) :
    Calls Try.prog 10 #[.int .i64 z] w fun e w' => ∃ v, e = .returned (.agg #[.bool (decide (z < 0)), v]) ∧ ∃ ds, Own w' w.heap.size v ds ∧ Fig ds ∧ Norm ds ∧ val ds = z.natAbs ∧ Below w.heap.size w w' := by
  go_enter Try.func10, Try.ntmps10
  go_wp2_with fail
  have hb2 : Below w.heap.size w ((w.alloc (.cells #[.bool false, .slice none 0 0] 25)).alloc (.cells #[.bool (decide (z < 0)), .slice none 0 0] 25)) := ((Below.refl _ w).alloc (Nat.le_refl _) _).alloc (by simp) _
  have hB0 : Bg ((w.alloc (.cells #[.bool false, .slice none 0 0] 25)).alloc (.cells #[.bool (decide (z < 0)), .slice none 0 0] 25)) w.heap.size false (.slice none 0 0) := (show Bg (w.alloc (.cells #[.bool false, .slice none 0 0] 25)) w.heap.size false (.slice none 0 0) from heap_alloc_new w _).alloc _
  have hB1 : Bg ((w.alloc (.cells #[.bool false, .slice none 0 0] 25)).alloc (.cells #[.bool (decide (z < 0)), .slice none 0 0] 25)) (w.heap.size + 1) (decide (z < 0)) (.slice none 0 0) := heap_alloc2_new w _ _
  obtain ⟨s, hs⟩ : ∃ s, s = decide (z < 0) := ⟨_, rfl⟩
  rw [← hs] at hb2 hB0 hB1 ⊢
  revert hb2 hB0 hB1
  generalize World.alloc _ _ = w2
  intro hB1 hB0 hb2
  have HS := Lib.hid hs
  clear hs
  go_loopw [0, 4] (fun i _ wr => ∃ (q : Int) (v : Value) (ds : List Nat), i = .int .i64 q ∧ Fits q ∧ Bg wr w.heap.size false (.slice none 0 0) ∧ Bg wr (w.heap.size + 1) s v ∧ Own wr (w.heap.size + 2) v ds ∧ Fig ds ∧ (q = 0 → Norm ds) ∧ ds.length ≤ 20 ∧ val ds + 10 ^ ds.length * q.natAbs = z.natAbs ∧ Below w.heap.size w wr) (fun i _ _ => (intOf i).natAbs)
  case atStart => exact ⟨z, _, [], rfl, hz, hB0, hB1, own_nil _ _, fig_nil, fun _ => by simp [Norm], by simp, by simp [val], hb2⟩
  case round =>
    obtain ⟨q, v, ds, rfl, hq, h0, h1, hown, hfd, hno, hlen, hval, hbr⟩ := hrel
    clear hB0 hB1 hb2
    obtain ⟨A1, c1, rfl, _, _, _⟩ := hown.dg hfd
    by_cases hq0 : q = 0
    · subst hq0
      have hv : val ds = z.natAbs := by simpa using hval
      have HN := Lib.hid (hno rfl)
      have HV := Lib.hid hv
      have HO := Lib.hid (own_low (own_set (own_set hown ⟨w.heap.size, 0, none⟩ (.bool s) (by show w.heap.size < w.heap.size + 2; omega)) ⟨w.heap.size, 1, none⟩ (.slice A1 ds.length c1) (by show w.heap.size < w.heap.size + 2; omega)) (show w.heap.size ≤ w.heap.size + 2 by omega))
      have hbe : Below w.heap.size w ((wr.setCell ⟨w.heap.size, 0, none⟩ (.bool s)).setCell ⟨w.heap.size, 1, none⟩ (.slice A1 ds.length c1)) := (hbr.setCell (Nat.le_refl _) _).setCell (Nat.le_refl _) _
      have HB := Lib.hid hbe
      have c10 := h1.cell0
      have c11 := h1.cell1
      have c00 := h0.cell0
      have f0 := h0.frozen 0
      have h0' := h0.set0 s
      have c01 := h0'.cell1
      have f1 := h0'.frozen 1
      have HE := Lib.hid (h0'.set1 (.slice A1 ds.length c1))
      clear hno hv hval hown h0 h1 hbr hbe h0'
      go_wp2_with fail
      refine bodyPost_ret (v := .agg #[.bool s, .slice A1 ds.length c1]) ?_ rfl ?_
      · exact results_cell_row rfl _ _ w.heap.size 25 _ (0, 0) _ rfl HE.out Try.underlying25 rfl info25
      · exact ⟨_, congrArg (fun b => Ending.returned (.agg #[.bool b, .slice A1 ds.length c1])) HS.out, ds, HO.out, hfd, HN.out, HV.out, HB.out⟩
    · have hlt : ds.length < 20 := by
        rcases Nat.lt_or_ge ds.length 20 with h | h
        · exact h
        · exfalso
          have h2 : 10 ^ 20 ≤ 10 ^ ds.length := Nat.pow_le_pow_right (by decide) h
          have h3 : 10 ^ ds.length ≤ 10 ^ ds.length * q.natAbs := Nat.le_mul_of_pos_right _ (by omega)
          have h4 : (10 : Nat) ^ 20 = 100000000000000000000 := by decide
          unfold Fits at hz
          omega
      have hnext := of_step ds q.natAbs z.natAbs hval
      have hfin := fun h => of_norm ds q.natAbs (by omega) h
      rw [← tmod_abs, ← tdiv_abs] at hnext
      rw [← tmod_abs, ← tdiv_abs] at hfin
      have ha10 : (q.tmod 10).natAbs < 10 := by rw [tmod_abs]; omega
      obtain ⟨r, hr⟩ : ∃ r, r = q.tmod 10 := ⟨_, rfl⟩
      obtain ⟨t, ht⟩ : ∃ t, t = q.tdiv 10 := ⟨_, rfl⟩
      rw [← hr] at hnext hfin ha10
      rw [← ht] at hnext hfin
      obtain ⟨d, hd⟩ : ∃ d, d = r.natAbs := ⟨_, rfl⟩
      rw [← hd] at hnext hfin ha10
      have ht2 : t.natAbs = q.natAbs / 10 := by rw [ht, tdiv_abs]
      have hft : Fits t := by unfold Fits at hq ⊢; omega
      have htl : t.natAbs < q.natAbs := by omega
      have e3 : wrap64 (q.tdiv 10) = t := by
        rw [← ht]
        unfold Fits at hft
        exact IntWalk.wrap64_in _ (by omega)
      have E3 := Lib.hid e3
      clear e3
      have c11 := h1.cell1
      have c10 := h1.cell0
      have hsz := h1.lt
      by_cases hneg : r < 0
      · have e1 : -q.tmod 10 = (d : Int) := by omega
        have e2 : (q.tmod 10 < 0) = True := by rw [← hr]; simpa using hneg
        have H1 := Lib.hid (h1.alloc (.cells #[.int .i64 (d : Int)] 3))
        have H0 := Lib.hid (h0.alloc (.cells #[.int .i64 (d : Int)] 3))
        have HO := Lib.hid (hown.alloc (.cells #[.int .i64 (d : Int)] 3))
        have HD := Lib.hid (dg_one wr d ha10)
        have hr1 := hbr.alloc (show w.heap.size ≤ wr.heap.size by omega) (.cells #[.int .i64 (d : Int)] 3)
        have HFI := Lib.hid hfin
        have HNX := Lib.hid hnext
        have HTT := Lib.hid ht
        have hl3 : (ds ++ [d]).length = ds.length + 1 := by simp
        have HL3 := Lib.hid hl3
        clear hl3
        have HZ := Lib.hid hz
        clear hno hown h0 h1 hbr hfin hnext hr hd ht hval hz ht2
        go_wp2_with (at_builtin; refine wpList_append_dg rfl (.tmp 17) (.tmp 19) rfl (w.heap.size + 2) _ ds rfl HO.out _ 1 1 [d] rfl HD.out (fun h => by cases h) (by omega) (by rw [World.size_alloc]; omega) ?_; intro v3 w3 hown3 hb3; obtain ⟨A3, c3, hv3, _, _, _⟩ := hown3.dg (fig_append hfd (fig_one ha10)); rw [HL3.out] at hv3; subst hv3; have hg1 := H1.out.below hb3 (show w.heap.size + 1 < w.heap.size + 2 by omega); have c13 := hg1.cell1; have f13 := hg1.frozen 1)
        have hg0 := H0.out.below hb3 (show w.heap.size < w.heap.size + 2 by omega)
        have hn1 := hg1.set1 (.slice A3 (ds.length + 1) c3)
        have hn0 := hg0.other ⟨w.heap.size + 1, 1, none⟩ (.slice A3 (ds.length + 1) c3) (by show w.heap.size ≠ w.heap.size + 1; omega)
        have hno3 := own_set hown3 ⟨w.heap.size + 1, 1, none⟩ (.slice A3 (ds.length + 1) c3) (by show w.heap.size + 1 < w.heap.size + 2; omega)
        have hbn : Below w.heap.size w (w3.setCell ⟨w.heap.size + 1, 1, none⟩ (.slice A3 (ds.length + 1) c3)) := (hr1.trans (hb3.mono (show w.heap.size ≤ w.heap.size + 2 by omega))).setCell (by show w.heap.size ≤ w.heap.size + 1; omega) _
        have N1 := Lib.hid hn1
        have N0 := Lib.hid hn0
        have NO := Lib.hid hno3
        have NB := Lib.hid hbn
        clear hg0 hn1 hn0 hno3 hbn hb3 hown3 hg1 hr1 HO H0 H1 HD
        go_wp2_with fail
        go_roundw
        case rel => exact ⟨t, _, ds ++ [d], congrArg (fun z : Int => Value.int .i64 z) E3.out, hft, N0.out, N1.out, NO.out, fig_append hfd (fig_one ha10), fun h => HFI.out (by rw [h]; rfl), by simp; omega, by rw [List.length_append]; exact HNX.out, NB.out⟩
        case measure =>
          show (wrap64 (q.tdiv 10)).natAbs < q.natAbs
          rw [E3.out]
          exact htl
      · have e1 : q.tmod 10 = (d : Int) := by omega
        have H1 := Lib.hid (h1.alloc (.cells #[.int .i64 (d : Int)] 3))
        have H0 := Lib.hid (h0.alloc (.cells #[.int .i64 (d : Int)] 3))
        have HO := Lib.hid (hown.alloc (.cells #[.int .i64 (d : Int)] 3))
        have HD := Lib.hid (dg_one wr d ha10)
        have hr1 := hbr.alloc (show w.heap.size ≤ wr.heap.size by omega) (.cells #[.int .i64 (d : Int)] 3)
        have HFI := Lib.hid hfin
        have HNX := Lib.hid hnext
        have HTT := Lib.hid ht
        have hl3 : (ds ++ [d]).length = ds.length + 1 := by simp
        have HL3 := Lib.hid hl3
        clear hl3
        have HZ := Lib.hid hz
        clear hno hown h0 h1 hbr hfin hnext hr hd ht hval hz ht2
        go_wp2_with (at_builtin; refine wpList_append_dg rfl (.tmp 17) (.tmp 19) rfl (w.heap.size + 2) _ ds rfl HO.out _ 1 1 [d] rfl HD.out (fun h => by cases h) (by omega) (by rw [World.size_alloc]; omega) ?_; intro v3 w3 hown3 hb3; obtain ⟨A3, c3, hv3, _, _, _⟩ := hown3.dg (fig_append hfd (fig_one ha10)); rw [HL3.out] at hv3; subst hv3; have hg1 := H1.out.below hb3 (show w.heap.size + 1 < w.heap.size + 2 by omega); have c13 := hg1.cell1; have f13 := hg1.frozen 1)
        have hg0 := H0.out.below hb3 (show w.heap.size < w.heap.size + 2 by omega)
        have hn1 := hg1.set1 (.slice A3 (ds.length + 1) c3)
        have hn0 := hg0.other ⟨w.heap.size + 1, 1, none⟩ (.slice A3 (ds.length + 1) c3) (by show w.heap.size ≠ w.heap.size + 1; omega)
        have hno3 := own_set hown3 ⟨w.heap.size + 1, 1, none⟩ (.slice A3 (ds.length + 1) c3) (by show w.heap.size + 1 < w.heap.size + 2; omega)
        have hbn : Below w.heap.size w (w3.setCell ⟨w.heap.size + 1, 1, none⟩ (.slice A3 (ds.length + 1) c3)) := (hr1.trans (hb3.mono (show w.heap.size ≤ w.heap.size + 2 by omega))).setCell (by show w.heap.size ≤ w.heap.size + 1; omega) _
        have N1 := Lib.hid hn1
        have N0 := Lib.hid hn0
        have NO := Lib.hid hno3
        have NB := Lib.hid hbn
        clear hg0 hn1 hn0 hno3 hbn hb3 hown3 hg1 hr1 HO H0 H1 HD
        go_wp2_with fail
        go_roundw
        case rel => exact ⟨t, _, ds ++ [d], congrArg (fun z : Int => Value.int .i64 z) E3.out, hft, N0.out, N1.out, NO.out, fig_append hfd (fig_one ha10), fun h => HFI.out (by rw [h]; rfl), by simp; omega, by rw [List.length_append]; exact HNX.out, NB.out⟩
        case measure =>
          show (wrap64 (q.tdiv 10)).natAbs < q.natAbs
          rw [E3.out]
          exact htl
end Go.Proofs.Ytfajalhpenincaa
