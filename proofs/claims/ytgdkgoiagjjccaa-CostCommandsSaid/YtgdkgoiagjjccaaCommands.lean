/- CostCommands answers true of whatever policy and transaction. -/
import Derived.Test.YtgdkgoiagjjccaaCmdRef
import Derived.Test.YtgdkgoiagjjccaaOpen
import Derived.Test.YtgdkgoiagjjccaaErr
import Derived.Deep.RegionHeld3
namespace Go.Proofs.Ytgdkgoiagjjccaa
set_option maxRecDepth 100000
open Go.RowKit

theorem held_trans {w7 w' w'' : World} (h : Below w7.heap.size w7 w') (k : Below w'.heap.size w' w'') : Below w7.heap.size w7 w'' := h.trans (k.mono h.size)

set_option maxHeartbeats 4000000 in
theorem commands_any (B C F W P b f n : Int) (hB : Fits B) (hC : Fits C) (hF : Fits F) (hW : Fits W) (hb : Fits b) (hf : Fits f) (hn : Fits n) (w : World) :
    Calls Try.prog 3 #[askV B C F W P b f n] w fun e w' => e = .returned (.bool true) ∧ Below w.heap.size w w' := by
  have HA := Lib.hid (fun w => alive_any w)
  have HB := Lib.hid (show Below w.heap.size w (w.alloc (.cells #[.int .i64 B, .int .i64 C, .int .i64 F, .int .i64 W, .int .i64 P, .int .i64 b, .int .i64 f, .int .i64 n] 25)) from (Below.refl _ w).alloc (Nat.le_refl _) _)
  have HP := Lib.hid (ab_new w B C F W P b f n)
  have C1 := fun w => command_any B C F W P b f n hB hC hF hW hb hf hn w
  have C2 := fun w => refCommand_any B C F W P b f n hB hC hF hW hb hf hn w
  have C3 := fun w => refCosts_any B C F W P b f n hB hC hF hW hb hf hn w
  have C4 := fun w => costs_yes B C F W P b f n hB hC hF hW hb hf hn w
  have C5 := fun w => costs_no B C F W P b f n hB hC hF hW hb hf hn w
  have IO := fun w => is_over w
  unfold over at IO C5
  obtain ⟨x, hx⟩ : ∃ x, x = cmdB (cz B C F b f) (W * n) := ⟨_, rfl⟩
  rw [← hx] at C1 C2
  obtain ⟨z, hz⟩ : ∃ x, x = cz B C F b f := ⟨_, rfl⟩
  rw [← hz] at C3 C4 C5
  obtain ⟨v, hv⟩ : ∃ x, x = W * n := ⟨_, rfl⟩
  rw [← hv] at C3 C4 C5
  have H1 := Lib.hid C1
  have H2 := Lib.hid C2
  have HI := Lib.hid IO
  clear C1 C2 hx hz hv IO hB hC hF hW hb hf hn
  by_cases hyes : Fits z ∧ Fits v
  · have C4' := fun w => C4 w hyes.1 hyes.2
    rw [decide_eq_true hyes.1, decide_eq_true hyes.2, (wrap_same _).2 hyes.2] at C3
    have H3 := Lib.hid C3
    have H4 := Lib.hid C4'
    have HZ := Lib.hid hyes.1
    clear C3 C4 C4' C5 hyes
    go_enter Try.func3, Try.ntmps3
    go_wp2_with fail
    refine Calls.mono (HA.out _) ?_
    rintro e w1 ⟨rfl, hb1⟩
    have hp1 := HP.out.below hb1 HP.out.lt
    have k0 := hp1.c0
    have k1 := hp1.c1
    have k2 := hp1.c2
    have k3 := hp1.c3
    have k4 := hp1.c4
    have k5 := hp1.c5
    have k6 := hp1.c6
    have k7 := hp1.c7
    have HE1 := Lib.hid (HB.out.trans (hb1.mono HB.out.size))
    have HP1 := Lib.hid hp1
    clear hb1 hp1
    go_wp2_with fail
    refine Calls.mono (H4.out _) ?_
    rintro e w2 ⟨rfl, hb2⟩
    have hp2 := HP1.out.below hb2 HP1.out.lt
    clear k0 k1 k2 k3 k4 k5 k6 k7
    have k0 := hp2.c0
    have k1 := hp2.c1
    have k2 := hp2.c2
    have k3 := hp2.c3
    have k4 := hp2.c4
    have k5 := hp2.c5
    have k6 := hp2.c6
    have k7 := hp2.c7
    have HE2 := Lib.hid (HE1.out.trans (hb2.mono HE1.out.size))
    have HP2 := Lib.hid hp2
    clear hb2 hp2
    go_wp2_with fail
    refine Calls.mono (H3.out _) ?_
    rintro e w3 ⟨_, rfl, c, rfl, hc, hb3⟩
    have hcz := hc HZ.out
    subst hcz
    have hp3 := HP2.out.below hb3 HP2.out.lt
    clear k0 k1 k2 k3 k4 k5 k6 k7 hc
    have k0 := hp3.c0
    have k1 := hp3.c1
    have k2 := hp3.c2
    have k3 := hp3.c3
    have k4 := hp3.c4
    have k5 := hp3.c5
    have k6 := hp3.c6
    have k7 := hp3.c7
    have hlt3 := hp3.lt
    have HE3 := Lib.hid (HE2.out.trans (hb3.mono HE2.out.size))
    clear hb3 hp3
    go_wp2_with fail
    go_region_held3 (fun w' => w'.cell? ⟨w.heap.size, 0, none⟩ = some (.int .i64 B) ∧ w'.cell? ⟨w.heap.size, 1, none⟩ = some (.int .i64 C) ∧ w'.cell? ⟨w.heap.size, 2, none⟩ = some (.int .i64 F) ∧ w'.cell? ⟨w.heap.size, 3, none⟩ = some (.int .i64 W) ∧ w'.cell? ⟨w.heap.size, 4, none⟩ = some (.int .i64 P) ∧ w'.cell? ⟨w.heap.size, 5, none⟩ = some (.int .i64 b) ∧ w'.cell? ⟨w.heap.size, 6, none⟩ = some (.int .i64 f) ∧ w'.cell? ⟨w.heap.size, 7, none⟩ = some (.int .i64 n) ∧ w.heap.size < w'.heap.size ∧ Below w3.heap.size w3 w')
      (first | (refine ⟨by simp [*], by simp [*], by simp [*], by simp [*], by simp [*], by simp [*], by simp [*], by simp [*], by simpa using hlt3, ?_⟩; exact (Below.refl _ w3).drew) | go_keep | (go_split_ands; exact ⟨(hbK.cell (p := ⟨w.heap.size, 0, none⟩) (by assumption)).trans (by assumption), (hbK.cell (p := ⟨w.heap.size, 1, none⟩) (by assumption)).trans (by assumption), (hbK.cell (p := ⟨w.heap.size, 2, none⟩) (by assumption)).trans (by assumption), (hbK.cell (p := ⟨w.heap.size, 3, none⟩) (by assumption)).trans (by assumption), (hbK.cell (p := ⟨w.heap.size, 4, none⟩) (by assumption)).trans (by assumption), (hbK.cell (p := ⟨w.heap.size, 5, none⟩) (by assumption)).trans (by assumption), (hbK.cell (p := ⟨w.heap.size, 6, none⟩) (by assumption)).trans (by assumption), (hbK.cell (p := ⟨w.heap.size, 7, none⟩) (by assumption)).trans (by assumption), Nat.lt_of_lt_of_le (by assumption) hbK.size, held_trans (by assumption) hbK⟩))
      (first | (go_at_call 19; refine Calls.mono (H1.out _) ?_; rintro e w4 ⟨rfl, hbK⟩) | (go_at_call 20; refine Calls.mono (H2.out _) ?_; rintro e w4 ⟨rfl, hbK⟩))
    rename_i hHeld
    have hbl := hHeld.2.2.2.2.2.2.2.2.2
    have HE := Lib.hid (HE3.out.trans (hbl.mono HE3.out.size))
    clear hHeld hbl
    go_wp2_with fail
    go_ret
    exact ⟨rfl, HE.out⟩
  · have C5' := fun w => C5 w hyes
    obtain ⟨near, hnear⟩ : ∃ x, x = decide (Fits z) := ⟨_, rfl⟩
    obtain ⟨ok, hok⟩ : ∃ x, x = decide (Fits v) := ⟨_, rfl⟩
    obtain ⟨u, hu⟩ : ∃ x, x = wrap64 v := ⟨_, rfl⟩
    have hno : near = false ∨ (near = true ∧ ok = false) := by
      by_cases h1 : Fits z
      · right
        refine ⟨by rw [hnear, decide_eq_true h1], ?_⟩
        rw [hok]; exact decide_eq_false (fun h2 => hyes ⟨h1, h2⟩)
      · left; rw [hnear, decide_eq_false h1]
    rw [← hnear, ← hok, ← hu] at C3
    have C3' := fun w => (C3 w).mono fun e w' (h : ∃ v, _ ∧ _) => (show ∃ c : Int, e = .returned (.tuple #[.int .i64 c, .bool near, .int .i64 u, .bool ok]) ∧ Below w.heap.size w w' from by
      obtain ⟨_, h1, c, h2, _, h3⟩ := h
      exact ⟨c, by rw [h1, h2], h3⟩)
    have H3 := Lib.hid C3'
    have H5 := Lib.hid C5'
    have HN := Lib.hid hno
    clear C3 C3' C4 C5 C5' hyes hnear hok hu hno
    go_enter Try.func3, Try.ntmps3
    go_wp2_with fail
    refine Calls.mono (HA.out _) ?_
    rintro e w1 ⟨rfl, hb1⟩
    have hp1 := HP.out.below hb1 HP.out.lt
    have k0 := hp1.c0
    have k1 := hp1.c1
    have k2 := hp1.c2
    have k3 := hp1.c3
    have k4 := hp1.c4
    have k5 := hp1.c5
    have k6 := hp1.c6
    have k7 := hp1.c7
    have HE1 := Lib.hid (HB.out.trans (hb1.mono HB.out.size))
    have HP1 := Lib.hid hp1
    clear hb1 hp1
    go_wp2_with fail
    refine Calls.mono (H5.out _) ?_
    rintro e w2 ⟨rfl, hb2⟩
    have hp2 := HP1.out.below hb2 HP1.out.lt
    clear k0 k1 k2 k3 k4 k5 k6 k7
    have k0 := hp2.c0
    have k1 := hp2.c1
    have k2 := hp2.c2
    have k3 := hp2.c3
    have k4 := hp2.c4
    have k5 := hp2.c5
    have k6 := hp2.c6
    have k7 := hp2.c7
    have HE2 := Lib.hid (HE1.out.trans (hb2.mono HE1.out.size))
    have HP2 := Lib.hid hp2
    clear hb2 hp2
    go_wp2_with fail
    refine Calls.mono (H3.out _) ?_
    rintro e w3 ⟨c, rfl, hb3⟩
    have hp3 := HP2.out.below hb3 HP2.out.lt
    clear k0 k1 k2 k3 k4 k5 k6 k7
    have k0 := hp3.c0
    have k1 := hp3.c1
    have k2 := hp3.c2
    have k3 := hp3.c3
    have k4 := hp3.c4
    have k5 := hp3.c5
    have k6 := hp3.c6
    have k7 := hp3.c7
    have hlt3 := hp3.lt
    have HE3 := Lib.hid (HE2.out.trans (hb3.mono HE2.out.size))
    clear hb3 hp3
    rcases HN.out with hn0 | ⟨hn0, ho0⟩
    · subst hn0
      go_wp2_with fail
      refine Calls.mono (HI.out _) ?_
      rintro e w9 ⟨rfl, rfl⟩
      go_wp2_with fail
      go_region_held3 (fun w' => w'.cell? ⟨w.heap.size, 0, none⟩ = some (.int .i64 B) ∧ w'.cell? ⟨w.heap.size, 1, none⟩ = some (.int .i64 C) ∧ w'.cell? ⟨w.heap.size, 2, none⟩ = some (.int .i64 F) ∧ w'.cell? ⟨w.heap.size, 3, none⟩ = some (.int .i64 W) ∧ w'.cell? ⟨w.heap.size, 4, none⟩ = some (.int .i64 P) ∧ w'.cell? ⟨w.heap.size, 5, none⟩ = some (.int .i64 b) ∧ w'.cell? ⟨w.heap.size, 6, none⟩ = some (.int .i64 f) ∧ w'.cell? ⟨w.heap.size, 7, none⟩ = some (.int .i64 n) ∧ w.heap.size < w'.heap.size ∧ Below w3.heap.size w3 w')
        (first | (refine ⟨by simp [*], by simp [*], by simp [*], by simp [*], by simp [*], by simp [*], by simp [*], by simp [*], by simpa using hlt3, ?_⟩; exact (Below.refl _ w3).drew) | go_keep | (go_split_ands; exact ⟨(hbK.cell (p := ⟨w.heap.size, 0, none⟩) (by assumption)).trans (by assumption), (hbK.cell (p := ⟨w.heap.size, 1, none⟩) (by assumption)).trans (by assumption), (hbK.cell (p := ⟨w.heap.size, 2, none⟩) (by assumption)).trans (by assumption), (hbK.cell (p := ⟨w.heap.size, 3, none⟩) (by assumption)).trans (by assumption), (hbK.cell (p := ⟨w.heap.size, 4, none⟩) (by assumption)).trans (by assumption), (hbK.cell (p := ⟨w.heap.size, 5, none⟩) (by assumption)).trans (by assumption), (hbK.cell (p := ⟨w.heap.size, 6, none⟩) (by assumption)).trans (by assumption), (hbK.cell (p := ⟨w.heap.size, 7, none⟩) (by assumption)).trans (by assumption), Nat.lt_of_lt_of_le (by assumption) hbK.size, held_trans (by assumption) hbK⟩))
        (first | (go_at_call 19; refine Calls.mono (H1.out _) ?_; rintro e w4 ⟨rfl, hbK⟩) | (go_at_call 20; refine Calls.mono (H2.out _) ?_; rintro e w4 ⟨rfl, hbK⟩))
      rename_i hHeld
      have hbl := hHeld.2.2.2.2.2.2.2.2.2
      have HE := Lib.hid (HE3.out.trans (hbl.mono HE3.out.size))
      clear hHeld hbl
      go_wp2_with fail
      go_ret
      exact ⟨rfl, HE.out⟩
    · subst hn0 ho0
      go_wp2_with fail
      refine Calls.mono (HI.out _) ?_
      rintro e w9 ⟨rfl, rfl⟩
      go_wp2_with fail
      go_region_held3 (fun w' => w'.cell? ⟨w.heap.size, 0, none⟩ = some (.int .i64 B) ∧ w'.cell? ⟨w.heap.size, 1, none⟩ = some (.int .i64 C) ∧ w'.cell? ⟨w.heap.size, 2, none⟩ = some (.int .i64 F) ∧ w'.cell? ⟨w.heap.size, 3, none⟩ = some (.int .i64 W) ∧ w'.cell? ⟨w.heap.size, 4, none⟩ = some (.int .i64 P) ∧ w'.cell? ⟨w.heap.size, 5, none⟩ = some (.int .i64 b) ∧ w'.cell? ⟨w.heap.size, 6, none⟩ = some (.int .i64 f) ∧ w'.cell? ⟨w.heap.size, 7, none⟩ = some (.int .i64 n) ∧ w.heap.size < w'.heap.size ∧ Below w3.heap.size w3 w')
        (first | (refine ⟨by simp [*], by simp [*], by simp [*], by simp [*], by simp [*], by simp [*], by simp [*], by simp [*], by simpa using hlt3, ?_⟩; exact (Below.refl _ w3).drew) | go_keep | (go_split_ands; exact ⟨(hbK.cell (p := ⟨w.heap.size, 0, none⟩) (by assumption)).trans (by assumption), (hbK.cell (p := ⟨w.heap.size, 1, none⟩) (by assumption)).trans (by assumption), (hbK.cell (p := ⟨w.heap.size, 2, none⟩) (by assumption)).trans (by assumption), (hbK.cell (p := ⟨w.heap.size, 3, none⟩) (by assumption)).trans (by assumption), (hbK.cell (p := ⟨w.heap.size, 4, none⟩) (by assumption)).trans (by assumption), (hbK.cell (p := ⟨w.heap.size, 5, none⟩) (by assumption)).trans (by assumption), (hbK.cell (p := ⟨w.heap.size, 6, none⟩) (by assumption)).trans (by assumption), (hbK.cell (p := ⟨w.heap.size, 7, none⟩) (by assumption)).trans (by assumption), Nat.lt_of_lt_of_le (by assumption) hbK.size, held_trans (by assumption) hbK⟩))
        (first | (go_at_call 19; refine Calls.mono (H1.out _) ?_; rintro e w4 ⟨rfl, hbK⟩) | (go_at_call 20; refine Calls.mono (H2.out _) ?_; rintro e w4 ⟨rfl, hbK⟩))
      rename_i hHeld
      have hbl := hHeld.2.2.2.2.2.2.2.2.2
      have HE := Lib.hid (HE3.out.trans (hbl.mono HE3.out.size))
      clear hHeld hbl
      go_wp2_with fail
      go_ret
      exact ⟨rfl, HE.out⟩
end Go.Proofs.Ytgdkgoiagjjccaa
