/- RPur: put together. -/
import Derived.Test.YtejpjbmbcdgomaaPd07
import Derived.Test.YtejpjbmbcdgomaaPd10
/- The document's Purge. Written by gen_rpur.py. -/
namespace Go.Proofs.Ytejpjbmbcdgomaa
set_option maxRecDepth 100000
open Go.RowKit

theorem takeE_all {l : List En} : takeE (-1) 0 (l.length : Int) l = liveE l := by
  unfold takeE liveE
  have h : l.filter (keepE (-1) 0) = l.filter fun e => !e.x.c.dead := List.filter_congr fun e _ => by
    unfold keepE lessK
    have h1 : ¬ (e.t : Int) < -1 := by omega
    have h2 : ¬ (e.t : Int) = -1 := by omega
    simp [h1, h2]
  rw [h, List.take_of_length_le]
  rw [Int.toNat_natCast]
  exact List.length_filter_le _ _
theorem live_purT (ts : Tb) : liveE (ents ts) = ents (purT ts) := by
  unfold liveE ents purT
  rw [allE_filter]
set_option maxHeartbeats 16000000 in
theorem r9purge_any {w : World} {A : Option Addr} {c : Nat} {l : List En} {last : Int} (h : Ens w A l) (hl : l.length ≤ 100000) : Calls Try.prog 49 #[.agg #[.slice A l.length c, .int .i64 last]] w fun e w' => ∃ A' c', e = .returned (.agg #[.slice A' (liveE l).length c', .int .i64 last]) ∧ Ens w' A' (liveE l) ∧ Below w.heap.size w w' ∧ ∀ b o, A' = some ⟨b, o, none⟩ → w.heap.size ≤ b := by
  obtain ⟨n, hn⟩ : ∃ n, n = l.length := ⟨_, rfl⟩
  obtain ⟨W1, hW1⟩ : ∃ W1, W1 = (w.alloc (.cells #[.slice A n c, .int .i64 last] 31)).alloc (.cells #[.slice none 0 0, .int .i64 0] 31) := ⟨_, rfl⟩
  have h3 := blocks2 w (.cells #[.slice A n c, .int .i64 last] 31) (.cells #[.slice none 0 0, .int .i64 0] 31)
  rw [← hW1] at h3
  obtain ⟨p1, hp1⟩ : ∃ p1, p1 = w.heap.size := ⟨_, rfl⟩
  obtain ⟨p2, hp2⟩ : ∃ p2, p2 = p1 + 1 := ⟨_, rfl⟩
  rw [← hp1, ← hp2] at h3
  obtain ⟨g1, g2, g3, g4⟩ := h3
  rw [hp1] at g4
  have hw2 : ∀ W2, Below W1.drew.heap.size W1.drew W2 → Below W1.heap.size W1 W2 := fun W2 hw => (Below.refl _ _).drew.trans hw
  have HCE : Hid (∀ W2, Below W1.drew.heap.size W1.drew W2 → W2.cell? ⟨p1, 0, none⟩ = some (.slice A n c) ∧ W2.cell? ⟨p1, 1, none⟩ = some (.int .i64 last)) := Lib.hid fun W2 hw => by
    have e1 := ((hw2 W2 hw).block p1 (Array.getElem?_eq_some_iff.1 g1).1).trans g1
    exact ⟨by rw [cell_of_row _ _ 0 _ _ _ e1]; rfl, by rw [cell_of_row _ _ 1 _ _ _ e1]; rfl⟩
  obtain ⟨RES, hres⟩ : ∃ RES, RES = liveE l := ⟨_, rfl⟩
  have HFR : Hid (∀ W2, Below W1.drew.heap.size W1.drew W2 → Calls Try.prog 19 #[.agg #[.slice A n c, .int .i64 last], .agg #[.int .i64 (-1), .int .i64 0], .int .i64 (n : Int)] W2 fun e w' => ∃ v, e = .returned v ∧ Eno w' W2.heap.size v RES ∧ Below W2.heap.size W2 w') := Lib.hid fun W2 hw => by
    have h9 := r9from_any (c := c) (last := last) (RowAt.below h (g4.trans ((hw2 W2 hw).mono g4.size))) hl (-1) 0 (l.length : Int)
    rw [takeE_all, ← hres, ← hn] at h9
    exact h9
  have HG := Lib.hid (And.intro g2 (And.intro g4 (And.intro hp1 hp2)))
  have HSZ := Lib.hid g3
  have HW := Lib.hid hW1
  rw [← hn, ← hres]
  clear hn hW1 g1 g2 g3 g4 hp1 hp2 h hl hw2 hres
  go_enter Try.func49, Try.ntmps49
  go_upto_region 1 with fail
  rw [← HW.out, ← HG.out.2.2.1, ← HG.out.2.2.2]
  refine wp_region_noPanic ?_
  refine wp_region_abs 9 12 [
    .is (.agg #[.slice A n c, .int .i64 last]),
    .is (.agg #[.int .i64 (-1), .int .i64 0]),
    .is (.pointer (some ⟨p1, 0, none⟩)),
    .is (.slice A n c),
    .is (.int .i64 (n : Int)),
    .tells (fun _ v wb wa => Eno wa wb.heap.size v RES),
    .is (.pointer (some ⟨p1, 1, none⟩)),
    .is (.int .i64 last),
    .tells (fun hs v _ _ => ∃ p l, hs = [p, l] ∧ v = .agg #[p.1, l.1])]
    [3, 4, 5, 6, 7, 8, 9, 10, 11]
    [[], [], [], [2], [3], [0, 1, 4], [], [6], [5, 7]] (by kernel_rfl) (by rfl) rfl rfl (by kernel_rfl) (fun _ _ _ _ h => h.elim) ?_ ?_
  · refine ⟨?_, ?_, ?_, ?_, ?_, ?_, ?_, ?_, ?_, trivial⟩
    · intro W2 hw K hK
      obtain ⟨s0, s1⟩ := HCE.out W2 hw
      go_simp
      exact hK _ _ rfl (Below.refl _ _)
    · intro W2 hw K hK
      go_simp
      exact hK _ _ rfl (Below.refl _ _)
    · intro W2 hw K hK
      go_simp
      exact hK _ _ rfl (Below.refl _ _)
    · intro W2 hw K hK
      obtain ⟨s0, s1⟩ := HCE.out W2 hw
      go_simp
      exact hK _ _ rfl (Below.refl _ _)
    · intro W2 hw K hK
      go_simp
      exact hK _ _ rfl (Below.refl _ _)
    · intro W2 hw K hK
      go_simp
      refine Calls.mono (HFR.out W2 hw) ?_
      rintro e9 w9 ⟨v9, rfl, h9, hb9⟩
      exact hK _ _ h9 hb9
    · intro W2 hw K hK
      go_simp
      exact hK _ _ rfl (Below.refl _ _)
    · intro W2 hw K hK
      obtain ⟨s0, s1⟩ := HCE.out W2 hw
      go_simp
      exact hK _ _ rfl (Below.refl _ _)
    · intro W2 hw v5 wb5 wa5 hF5 hx5 K hK
      obtain ⟨_, hF5⟩ := hF5
      obtain ⟨A5, c5, rfl⟩ := own_form hF5
      go_simp
      exact hK _ _ ⟨_, _, rfl, rfl⟩ (Below.refl _ _)
  · intro W2 hw2
    simp only [Behind]
    rintro v5 wb5 wa5 hown hx5 hy5 _ v8 wb8 wa8 ⟨q1, q2, hq, rfl⟩ hx8 hy8 _
    simp at hq
    obtain ⟨rfl, rfl⟩ := hq
    obtain ⟨A9, c9, rfl⟩ := own_form hown
    have hB2 : Below W1.heap.size W1 W2 := (Below.refl _ W1).drew.trans hw2
    have ho2 := Eno.below hown hx5
    have g2 := (hB2.block p2 (Array.getElem?_eq_some_iff.1 HG.out.1).1).trans HG.out.1
    have hl5 : W1.heap.size ≤ wb5.heap.size := hy5.size
    have c0 : W2.cell? ⟨p2, 0, none⟩ = some (.slice none 0 0) := by rw [cell_of_row _ _ 0 _ _ _ g2]; rfl
    have c1 : W2.cell? ⟨p2, 1, none⟩ = some (.int .i64 0) := by rw [cell_of_row _ _ 1 _ _ _ g2]; rfl
    have f5 := frozen_of g2
    obtain ⟨m9, hm9⟩ : ∃ m9, m9 = RES.length := ⟨_, rfl⟩
    have HFN : Hid (Below w.heap.size w ((W2.setCell ⟨p2, 0, none⟩ (.slice A9 m9 c9)).setCell ⟨p2, 1, none⟩ (.int .i64 last)) ∧ ((W2.setCell ⟨p2, 0, none⟩ (.slice A9 m9 c9)).setCell ⟨p2, 1, none⟩ (.int .i64 last)).cell? ⟨p2, 0, none⟩ = some (.slice A9 m9 c9) ∧ ((W2.setCell ⟨p2, 0, none⟩ (.slice A9 m9 c9)).setCell ⟨p2, 1, none⟩ (.int .i64 last)).cell? ⟨p2, 1, none⟩ = some (.int .i64 last) ∧ Ens ((W2.setCell ⟨p2, 0, none⟩ (.slice A9 m9 c9)).setCell ⟨p2, 1, none⟩ (.int .i64 last)) A9 RES ∧ (∀ b o, A9 = some ⟨b, o, none⟩ → w.heap.size ≤ b) ∧ m9 = RES.length) := Lib.hid (by
      have hs := HG.out.2.1.size
      have hsz := HSZ.out
      have hp1 := HG.out.2.2.1
      have hp2 := HG.out.2.2.2
      have k2 := heap_set _ p2 1 (.int .i64 last) (heap_set W2 p2 0 (.slice A9 m9 c9) g2)
      have hlo : w.heap.size ≤ p2 := by omega
      have hge : ∀ b o, A9 = some ⟨b, o, none⟩ → W1.heap.size ≤ b := fun b o e => by
        subst e
        have := own_ge hown (q := b) rfl
        omega
      have go := own_same (w' := (W2.setCell ⟨p2, 0, none⟩ (.slice A9 m9 c9)).setCell ⟨p2, 1, none⟩ (.int .i64 last)) ho2 fun q hq => by
        have := own_ge ho2 hq
        rw [heap_ne _ _ _ _ (by omega), heap_ne _ _ _ _ (by omega)]
      obtain ⟨A', c', e, hr, _⟩ := rdv_own go
      injection e with e1 _ _
      subst e1
      exact ⟨((HG.out.2.1.trans (hB2.mono hs)).setCell (p := ⟨p2, 0, none⟩) hlo _).setCell (p := ⟨p2, 1, none⟩) hlo _, cell_of_row _ _ 0 _ _ _ k2, cell_of_row _ _ 1 _ _ _ k2, ⟨rfl, hr⟩, fun b o e => by have := hge b o e; omega, hm9⟩)
    rw [← hm9]
    clear hown hx5 hy5 hx8 hy8 ho2 g2 hl5 hw2 hB2 hm9
    simp only [List.drop, Act.put, List.setIfInBounds_toArray, List.set_cons_zero, List.set_cons_succ]
    go_wp2_with fail
    refine NoPanic.normal ?_
    go_wp2_with fail
    refine bodyPost_ret (v := .agg #[.slice A9 m9 c9, .int .i64 last]) (by simp [results, Try.results49, go_sem, HFN.out.2.1, HFN.out.2.2.1]) rfl ⟨A9, c9, by rw [HFN.out.2.2.2.2.2], HFN.out.2.2.2.1, HFN.out.1, HFN.out.2.2.2.2.1⟩
end Go.Proofs.Ytejpjbmbcdgomaa
