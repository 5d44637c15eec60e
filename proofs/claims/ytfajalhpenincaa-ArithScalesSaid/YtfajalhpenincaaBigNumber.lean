/- The contract of the reference's Number. -/
import Derived.Test.YtfajalhpenincaaBigSame
namespace Go.Proofs.Ytfajalhpenincaa
open Go.RowKit

theorem val_drop (ds : List Nat) (k : Nat) (h : k < ds.length) : val (ds.drop k) = ds.getD k 0 + 10 * val (ds.drop (k + 1)) := by
  rw [List.drop_eq_getElem_cons h]
  simp [val, List.getD_eq_getElem?_getD, h]
theorem wrap_step (v : Int) (d : Int) : wrap64 (wrap64 (10 * wrap64 v) - d) = wrap64 (10 * v - d) := by unfold wrap64; omega
theorem wrap_neg (v : Int) : wrap64 (-wrap64 v) = wrap64 (-v) := by unfold wrap64; omega
theorem wrap_fits (v : Int) : Fits (wrap64 v) := by unfold Fits wrap64; omega
theorem wrap_same (z : Int) : wrap64 z = z ↔ Fits z := by unfold Fits wrap64; omega
theorem isBig_of {w : World} {v : Value} {ds : List Nat} {z : Int} {B : Nat} (h : Own w B v ds) (hf : Fig ds) (hn : Norm ds) (hv : val ds = z.natAbs) (hz : Fits z) : IsBig w (.agg #[.bool (decide (z < 0)), v]) z := by
  obtain ⟨A, c, rfl, hd, hnil, hle⟩ := h.dg hf
  refine ⟨_, A, _, c, ds, rfl, ⟨hd, rfl, hn, hv, hle, hnil, ?_⟩⟩
  have : ds.length ≤ 20 := norm_length hn 20 (by rw [hv]; unfold Fits at hz; have : (10 : Nat) ^ 20 = 100000000000000000000 := by decide
                                                 omega)
  omega
theorem box_one (w : World) (s : Bool) (v : Value) : Bg (w.alloc (.cells #[.bool s, v] 25)) w.heap.size s v := heap_alloc_new w _

set_option maxHeartbeats 1000000 in
theorem number_big (x : Value) (z : Int) (w : World) (hx : IsBig w x z) :
    Calls Try.prog 32 #[x] w fun e w' => e = .returned (.tuple #[.int .i64 (wrap64 z), .bool (decide (wrap64 z = z))]) ∧ Below w.heap.size w w' := by
  obtain ⟨s, A, n, c, ds, rfl, ha⟩ := hx
  have hb1 : Below w.heap.size w (w.alloc (.cells #[.bool s, .slice A n c] 25)) := (Below.refl _ w).alloc (Nat.le_refl _) _
  have ga := ha.ext (stays_below hb1)
  have gb := box_one w s (.slice A n c)
  have hl := ga.dg.1
  have hsh := ga.short
  have hdg := ga.dg.2.2
  have GA := Lib.hid ga
  have GB := Lib.hid gb
  have HB := Lib.hid hb1
  have HL := Lib.hid hl
  have hs0 : wrap64 (-(val (ds.drop n) : Int)) = 0 := by rw [List.drop_eq_nil_of_le (by omega)]; exact IntWalk.wrap64_in 0 (by decide)
  have HS0 := Lib.hid hs0
  have HDG := Lib.hid hdg
  clear ha ga gb hb1 hl hs0 hdg
  obtain ⟨t, ht⟩ : ∃ t, t = wrap64 z := ⟨_, rfl⟩
  have hft : Fits t := by rw [ht]; exact wrap_fits z
  rw [← ht]
  have HT := Lib.hid ht
  clear ht
  go_enter Try.func32, Try.ntmps32
  go_wp2_with fail
  go_loop [4, 5] (fun m i => ∃ k : Nat, k ≤ n ∧ i = .int .i64 ((k : Int) - 1) ∧ m = .int .i64 (wrap64 (-(val (ds.drop k) : Int)))) (fun _ i => (intOf i + 1).toNat)
  case atStart => exact ⟨n, Nat.le_refl _, rfl, by rw [HS0.out]⟩
  case round =>
    obtain ⟨k, hk, rfl, rfl⟩ := hrel
    by_cases hz : k = 0
    · subst hz
      have hv : wrap64 (-(val (ds.drop 0) : Int)) = wrap64 (-(z.natAbs : Int)) := by rw [List.drop_zero, GA.out.value]
      rw [hv]
      have C10 := Lib.hid (of_any t hft ((w.alloc (.cells #[.bool s, .slice A n c] 25)).drew))
      have hb0 : Below w.heap.size w ((w.alloc (.cells #[.bool s, .slice A n c] 25)).drew) := HB.out.drew
      have C42 : ∀ v w3 es, Own w3 (w.alloc (.cells #[.bool s, .slice A n c] 25)).drew.heap.size v es → Fig es → Norm es → val es = t.natAbs → Below (w.alloc (.cells #[.bool s, .slice A n c] 25)).drew.heap.size (w.alloc (.cells #[.bool s, .slice A n c] 25)).drew w3 →
          Calls Try.prog 42 #[.agg #[.bool (decide (t < 0)), v], .agg #[.bool s, .slice A n c]] w3 fun e w' => e = .returned (.bool (decide (t = z))) ∧ Below w3.heap.size w3 w' :=
        fun v w3 es h1 h2 h3 h4 h5 => same_any _ _ t z w3 (isBig_of h1 h2 h3 h4 hft) ⟨s, A, n, c, ds, rfl, (GA.out.ext (w' := (w.alloc (.cells #[.bool s, .slice A n c] 25)).drew) (fun p _ => by simp)).ext (stays_below h5)⟩
      have D42 := Lib.hid C42
      have HB0 := Lib.hid hb0
      have GB2 : Bg ((w.alloc (.cells #[.bool s, .slice A n c] 25)).drew) w.heap.size s (.slice A n c) := GB.out
      have HGB := Lib.hid GB2
      have hsg := GA.out.sign
      have c0 := GB.out.cell0
      have c1 := GB.out.cell1
      clear hv C42 hb0 GB2 HDG HS0
      by_cases hneg : z < 0
      · have e1 : wrap64 (-(z.natAbs : Int)) = t := by rw [HT.out]; congr 1; omega
        rw [decide_eq_true hneg] at hsg
        subst hsg
        rw [e1]
        clear e1 hft
        go_wp2_with fail
        go_region_law (first | (go_simp; go_at_call 10; refine Calls.mono C10.out ?_; rintro e w3 ⟨v, rfl, es, ho, hf, hno, hv, hb3⟩; have g3 := Bg.below HGB.out hb3 (by simp); have k0 := g3.cell0; have k1 := g3.cell1) | (go_simp; go_at_call 42; refine Calls.mono (D42.out _ _ _ ho hf hno hv hb3) ?_; rintro e w4 ⟨rfl, hb4⟩))
        all_goals
          have hbe := HB0.out.trans ((hb3.trans (hb4.mono hb3.size)).mono HB0.out.size)
          clear hb3 hb4 ho hf hno hv g3 k0 k1
          go_wp2_with fail
          exact bodyPost_ret (v := .tuple #[.int .i64 t, .bool (decide (t = z))]) (by simp [results, Try.results32, go_sem]) rfl ⟨rfl, hbe⟩
      · have e1 : wrap64 (-wrap64 (-(z.natAbs : Int))) = t := by rw [wrap_neg, HT.out]; congr 1; omega
        rw [decide_eq_false hneg] at hsg
        subst hsg
        obtain ⟨m, hm⟩ : ∃ m, m = wrap64 (-(z.natAbs : Int)) := ⟨_, rfl⟩
        rw [← hm] at e1 ⊢
        clear hft hm
        go_wp2_with fail
        go_region_law (first | (go_simp; go_at_call 10; refine Calls.mono C10.out ?_; rintro e w3 ⟨v, rfl, es, ho, hf, hno, hv, hb3⟩; have g3 := Bg.below HGB.out hb3 (by simp); have k0 := g3.cell0; have k1 := g3.cell1) | (go_simp; go_at_call 42; refine Calls.mono (D42.out _ _ _ ho hf hno hv hb3) ?_; rintro e w4 ⟨rfl, hb4⟩))
        all_goals
          have hbe := HB0.out.trans ((hb3.trans (hb4.mono hb3.size)).mono HB0.out.size)
          clear hb3 hb4 ho hf hno hv g3 k0 k1
          go_wp2_with fail
          exact bodyPost_ret (v := .tuple #[.int .i64 t, .bool (decide (t = z))]) (by simp [results, Try.results32, go_sem]) rfl ⟨rfl, hbe⟩
    · obtain ⟨j, rfl⟩ : ∃ j, k = j + 1 := ⟨k - 1, by omega⟩
      obtain ⟨b, off, hA, hcc⟩ := HDG.out (by omega)
      have hcell := hcc j (by omega)
      subst hA
      have hvd := val_drop ds j (by rw [HL.out]; omega)
      obtain ⟨d, hd⟩ : ∃ d, d = ds.getD j 0 := ⟨_, rfl⟩
      rw [← hd] at hcell hvd
      have e0 : ((j + 1 : Nat) : Int) - 1 = (j : Int) := by omega
      have hst : wrap64 (wrap64 (10 * wrap64 (-(val (ds.drop (j + 1)) : Int))) - (d : Int)) = wrap64 (-(val (ds.drop j) : Int)) := by
        rw [wrap_step, hvd]
        congr 1
        push_cast
        omega
      have HST := Lib.hid hst
      rw [e0]
      obtain ⟨m, hm⟩ : ∃ m, m = wrap64 (-(val (ds.drop (j + 1)) : Int)) := ⟨_, rfl⟩
      rw [← hm] at HST ⊢
      have c1 := GB.out.cell1
      clear hcc hvd hd hst hm HS0 HDG e0
      go_wp2_with fail
      go_round
      case rel => exact ⟨j, by omega, rfl, congrArg (fun q : Int => Value.int .i64 q) HST.out⟩
      case measure => simp [intOf]
end Go.Proofs.Ytfajalhpenincaa
