/- CostSteady answers true of whatever policy and transaction. -/
import Derived.Test.YtgdkgoiagjjccaaCmd2
import Derived.Deep.CutRange
namespace Go.Proofs.Ytgdkgoiagjjccaa
set_option maxRecDepth 100000
open Go.RowKit

/-- What is asked, as a value, and a block that holds it. -/
abbrev askV (B C F W P b f n : Int) : Value := .agg #[.int .i64 B, .int .i64 C, .int .i64 F, .int .i64 W, .int .i64 P, .int .i64 b, .int .i64 f, .int .i64 n]
def Ab (w : World) (g : Nat) (B C F W P b f n : Int) : Prop := w.heap[g]? = some (.cells #[.int .i64 B, .int .i64 C, .int .i64 F, .int .i64 W, .int .i64 P, .int .i64 b, .int .i64 f, .int .i64 n] 25 (0, 0))
theorem ab_new (w : World) (B C F W P b f n : Int) : Ab (w.alloc (.cells #[.int .i64 B, .int .i64 C, .int .i64 F, .int .i64 W, .int .i64 P, .int .i64 b, .int .i64 f, .int .i64 n] 25)) w.heap.size B C F W P b f n := heap_alloc_new w _
theorem Ab.lt {w : World} {g : Nat} {B C F W P b f n : Int} (h : Ab w g B C F W P b f n) : g < w.heap.size := (Array.getElem?_eq_some_iff.1 h).1
theorem Ab.below {w w' : World} {m g : Nat} {B C F W P b f n : Int} (h : Ab w g B C F W P b f n) (hb : Below m w w') (hg : g < m) : Ab w' g B C F W P b f n := (hb.block g hg).trans h
theorem Ab.c0 {w : World} {g : Nat} {B C F W P b f n : Int} (h : Ab w g B C F W P b f n) : w.cell? ⟨g, 0, none⟩ = some (.int .i64 B) := cell_of_row w g 0 _ 25 (0, 0) h
theorem Ab.c1 {w : World} {g : Nat} {B C F W P b f n : Int} (h : Ab w g B C F W P b f n) : w.cell? ⟨g, 1, none⟩ = some (.int .i64 C) := cell_of_row w g 1 _ 25 (0, 0) h
theorem Ab.c2 {w : World} {g : Nat} {B C F W P b f n : Int} (h : Ab w g B C F W P b f n) : w.cell? ⟨g, 2, none⟩ = some (.int .i64 F) := cell_of_row w g 2 _ 25 (0, 0) h
theorem Ab.c3 {w : World} {g : Nat} {B C F W P b f n : Int} (h : Ab w g B C F W P b f n) : w.cell? ⟨g, 3, none⟩ = some (.int .i64 W) := cell_of_row w g 3 _ 25 (0, 0) h
theorem Ab.c4 {w : World} {g : Nat} {B C F W P b f n : Int} (h : Ab w g B C F W P b f n) : w.cell? ⟨g, 4, none⟩ = some (.int .i64 P) := cell_of_row w g 4 _ 25 (0, 0) h
theorem Ab.c5 {w : World} {g : Nat} {B C F W P b f n : Int} (h : Ab w g B C F W P b f n) : w.cell? ⟨g, 5, none⟩ = some (.int .i64 b) := cell_of_row w g 5 _ 25 (0, 0) h
theorem Ab.c6 {w : World} {g : Nat} {B C F W P b f n : Int} (h : Ab w g B C F W P b f n) : w.cell? ⟨g, 6, none⟩ = some (.int .i64 f) := cell_of_row w g 6 _ 25 (0, 0) h
theorem Ab.c7 {w : World} {g : Nat} {B C F W P b f n : Int} (h : Ab w g B C F W P b f n) : w.cell? ⟨g, 7, none⟩ = some (.int .i64 n) := cell_of_row w g 7 _ 25 (0, 0) h

/-- The error of both costs. -/
def ce (z v : Int) : Value := if Fits z ∧ Fits v then .nilIface else over
def cn (z v : Int) (x : Int) : Int := if Fits z ∧ Fits v then x else 0
def co (z v : Int) : Bool := decide (¬ (Fits z ∧ Fits v))
theorem co_neq (z v : Int) (w : World) : (binOp .neq 28 (ce z v) .nilIface).run Try.prog w = .ok (.bool (co z v)) w := by
  unfold ce co
  by_cases h : Fits z ∧ Fits v
  · rw [if_pos h, decide_eq_false (fun h' => h' h)]; kernel_rfl
  · rw [if_neg h, decide_eq_true h]; kernel_rfl
theorem co_guard (z v : Int) (x : Operand) (w : World) : (eqGuard .neq 28 x (.const .nilIface) (ce z v) .nilIface).run Try.prog w = .ok () w := by
  unfold ce
  by_cases h : Fits z ∧ Fits v
  · rw [if_pos h]; simp [eqGuard]
  · rw [if_neg h]; unfold over; simp [eqGuard]
theorem costs_any (B C F W P b f n : Int) (hB : Fits B) (hC : Fits C) (hF : Fits F) (hW : Fits W) (hb : Fits b) (hf : Fits f) (hn : Fits n) (w : World) :
    Calls Try.prog 16 #[polV B C F W P, .int .i64 b, .int .i64 f, .int .i64 n] w fun e w' => e = .returned (.tuple #[.int .i64 (cn (cz B C F b f) (W * n) (cz B C F b f)), .int .i64 (cn (cz B C F b f) (W * n) (W * n)), ce (cz B C F b f) (W * n)]) ∧ Below w.heap.size w w' := by
  unfold cn ce
  by_cases h : Fits (cz B C F b f) ∧ Fits (W * n)
  · rw [if_pos h, if_pos h, if_pos h]; exact costs_yes B C F W P b f n hB hC hF hW hb hf hn w h.1 h.2
  · rw [if_neg h, if_neg h, if_neg h]; exact costs_no B C F W P b f n hB hC hF hW hb hf hn w h

theorem steady1 {z W n m : Int} (hW : 0 ≤ W) (hn : 0 ≤ n) (hm : n ≤ m) (h : cmdB z (W * n) = true) : cmdB z (W * m) = true := by
  have h1 : W * n ≤ W * m := Int.mul_le_mul_of_nonneg_left hm hW
  have h2 : 0 ≤ W * n := Int.mul_nonneg hW hn
  revert h h1 h2
  generalize W * n = v
  generalize W * m = v'
  intro h h1 h2
  unfold cmdB at h ⊢
  by_cases hz : Fits z
  · rw [if_pos hz] at h ⊢
    have h := of_decide_eq_true h
    refine decide_eq_true ?_
    rcases h with h | h
    · left; unfold Fits at h ⊢; omega
    · right; omega
  · rw [if_neg hz] at h ⊢
    have h := of_decide_eq_true h
    refine decide_eq_true ?_
    unfold Fits at h ⊢; omega
theorem cz_fits {B C F b f : Int} (h : Fits (cz B C F b f)) : cz B C F b f = B + C * b + F * f := by
  unfold cz at h ⊢
  by_cases hc : Fits (C * b) ∧ Fits (F * f)
  · rw [if_pos hc]
  · rw [if_neg hc] at h; exact absurd h (by decide)
theorem steady2 {B C F b f m v : Int} (hC : 0 ≤ C) (hm : b ≤ m) (h1 : co (cz B C F b f) v = false) (h2 : co (cz B C F m f) v = false) (h : cmdB (cz B C F b f) v = false) : cmdB (cz B C F m f) v = false := by
  have g1 : Fits (cz B C F b f) ∧ Fits v := Decidable.not_not.1 (of_decide_eq_false h1)
  have g2 : Fits (cz B C F m f) ∧ Fits v := Decidable.not_not.1 (of_decide_eq_false h2)
  have e1 := cz_fits g1.1
  have e2 := cz_fits g2.1
  have h3 : C * b ≤ C * m := Int.mul_le_mul_of_nonneg_left hm hC
  unfold cmdB at h ⊢
  rw [if_pos g1.1] at h
  rw [if_pos g2.1]
  have h := of_decide_eq_false h
  refine decide_eq_false ?_
  rintro (h' | h')
  · exact h' g2.2
  · exact h (.inr (by omega))

set_option maxHeartbeats 4000000 in
theorem steady_any (B C F W P b f n m k : Int) (hB : Fits B) (hC : Fits C) (hF : Fits F) (hW : Fits W) (hb : Fits b) (hf : Fits f) (hn : Fits n) (hm : Fits m) (hk : Fits k) (w : World) :
    Calls Try.prog 5 #[askV B C F W P b f n, .int .i64 m, .int .i64 k] w fun e w' => e = .returned (.bool true) ∧ Below w.heap.size w w' := by
  have HA := Lib.hid (fun w => alive_any w)
  have HB := Lib.hid (show Below w.heap.size w (w.alloc (.cells #[.int .i64 B, .int .i64 C, .int .i64 F, .int .i64 W, .int .i64 P, .int .i64 b, .int .i64 f, .int .i64 n] 25)) from (Below.refl _ w).alloc (Nat.le_refl _) _)
  have HP := Lib.hid (ab_new w B C F W P b f n)
  have C1 := fun w => command_any B C F W P b f n hB hC hF hW hb hf hn w
  have C2 := fun w => command_any B C F W P b f k hB hC hF hW hb hf hk w
  have C3 := fun w => command_any B C F W P m f n hB hC hF hW hm hf hn w
  have C4 := fun w => costs_any B C F W P b f n hB hC hF hW hb hf hn w
  have C5 := fun w => costs_any B C F W P m f n hB hC hF hW hm hf hn w
  have q1 := fun w => co_neq (cz B C F b f) (W * n) w
  have q2 := fun w => co_neq (cz B C F m f) (W * n) w
  have g1 := fun x w => co_guard (cz B C F b f) (W * n) x w
  have g2 := fun x w => co_guard (cz B C F m f) (W * n) x w
  have S1 := fun hW hn hm => steady1 (z := cz B C F b f) (W := W) (n := n) (m := k) hW hn hm
  have S2 := fun hC hm => steady2 (B := B) (C := C) (F := F) (b := b) (f := f) (m := m) (v := W * n) hC hm
  obtain ⟨x1, hx1⟩ : ∃ x, x = cmdB (cz B C F b f) (W * n) := ⟨_, rfl⟩
  obtain ⟨x2, hx2⟩ : ∃ x, x = cmdB (cz B C F b f) (W * k) := ⟨_, rfl⟩
  obtain ⟨x3, hx3⟩ : ∃ x, x = cmdB (cz B C F m f) (W * n) := ⟨_, rfl⟩
  obtain ⟨o1, ho1⟩ : ∃ x, x = co (cz B C F b f) (W * n) := ⟨_, rfl⟩
  obtain ⟨o2, ho2⟩ : ∃ x, x = co (cz B C F m f) (W * n) := ⟨_, rfl⟩
  obtain ⟨e1, he1⟩ : ∃ x, x = ce (cz B C F b f) (W * n) := ⟨_, rfl⟩
  obtain ⟨e2, he2⟩ : ∃ x, x = ce (cz B C F m f) (W * n) := ⟨_, rfl⟩
  obtain ⟨y1, hy1⟩ : ∃ x, x = cn (cz B C F b f) (W * n) (cz B C F b f) := ⟨_, rfl⟩
  obtain ⟨y2, hy2⟩ : ∃ x, x = cn (cz B C F m f) (W * n) (cz B C F m f) := ⟨_, rfl⟩
  obtain ⟨y3, hy3⟩ : ∃ x, x = cn (cz B C F b f) (W * n) (W * n) := ⟨_, rfl⟩
  obtain ⟨y4, hy4⟩ : ∃ x, x = cn (cz B C F m f) (W * n) (W * n) := ⟨_, rfl⟩
  rw [← hx1] at C1 S1 S2
  rw [← hx2] at C2 S1
  rw [← hx3] at C3 S2
  rw [← ho1] at q1 S2
  rw [← ho2] at q2 S2
  rw [← he1] at C4 q1 g1
  rw [← he2] at C5 q2 g2
  rw [← hy1, ← hy3] at C4
  rw [← hy2, ← hy4] at C5
  have H1 := Lib.hid C1
  have H2 := Lib.hid C2
  have H3 := Lib.hid C3
  have H4 := Lib.hid C4
  have H5 := Lib.hid C5
  have HS1 := Lib.hid S1
  have HS2 := Lib.hid S2
  have Q1 := Lib.hid q1
  have Q2 := Lib.hid q2
  have G1 := Lib.hid g1
  have G2 := Lib.hid g2
  clear C1 C2 C3 C4 C5 S1 S2 q1 q2 g1 g2 hx1 hx2 hx3 ho1 ho2 he1 he2 hy1 hy2 hy3 hy4 hB hC hF hW hb hf hn hm hk
  go_enter Try.func5, Try.ntmps5
  go_wp2_with fail
  refine Calls.mono (HA.out _) ?_
  rintro e w1 ⟨rfl, hb1⟩
  have hp1 := HP.out.below hb1 HP.out.lt
  have k0 := hp1.c0
  have k1 := hp1.c1
  have k2 := hp1.c2
  have k3 := hp1.c3
  have k4 := hp1.c4
  have k5 := hp1.c5
  have k6 := hp1.c6
  have k7 := hp1.c7
  have HE1 := Lib.hid (HB.out.trans (hb1.mono HB.out.size))
  have HP1 := Lib.hid hp1
  clear hb1 hp1
  by_cases h1 : W < 0
  · go_wp2_with fail
    go_ret
    exact ⟨rfl, HE1.out⟩
  by_cases h2 : C < 0
  · go_wp2_with fail
    go_ret
    exact ⟨rfl, HE1.out⟩
  by_cases h3 : b < 0
  · go_wp2_with fail
    go_ret
    exact ⟨rfl, HE1.out⟩
  by_cases h4 : n < 0
  · go_wp2_with fail
    go_ret
    exact ⟨rfl, HE1.out⟩
  by_cases h5 : m < b
  · go_wp2_with fail
    go_ret
    exact ⟨rfl, HE1.out⟩
  by_cases h6 : k < n
  · go_wp2_with fail
    go_ret
    exact ⟨rfl, HE1.out⟩
  have hs1 := HS1.out (by omega) (by omega) (by omega)
  have hs2 := HS2.out (by omega) (by omega)
  have T1 := Lib.hid hs1
  have T2 := Lib.hid hs2
  clear hs1 hs2
  go_wp2_with fail
  refine Calls.mono (H1.out _) ?_
  rintro e w2 ⟨rfl, hb2⟩
  have hp2 := HP1.out.below hb2 HP1.out.lt
  clear k0 k1 k2 k3 k4 k5 k6 k7
  have k0 := hp2.c0
  have k1 := hp2.c1
  have k2 := hp2.c2
  have k3 := hp2.c3
  have k4 := hp2.c4
  have k5 := hp2.c5
  have k6 := hp2.c6
  have k7 := hp2.c7
  have HE2 := Lib.hid (HE1.out.trans (hb2.mono HE1.out.size))
  have HP2 := Lib.hid hp2
  clear hb2 hp2
  by_cases hx1 : x1 = true
  · have hx2 := T1.out hx1
    subst hx1 hx2
    clear T1
    go_wp2_with fail
    refine Calls.mono (H2.out _) ?_
    rintro e w3 ⟨rfl, hb3⟩
    have hp3 := HP2.out.below hb3 HP2.out.lt
    clear k0 k1 k2 k3 k4 k5 k6 k7
    have k0 := hp3.c0
    have k1 := hp3.c1
    have k2 := hp3.c2
    have k3 := hp3.c3
    have k4 := hp3.c4
    have k5 := hp3.c5
    have k6 := hp3.c6
    have k7 := hp3.c7
    have HE3 := Lib.hid (HE2.out.trans (hb3.mono HE2.out.size))
    have HP3 := Lib.hid hp3
    clear hb3 hp3
    go_wp2_with fail
    refine Calls.mono (H4.out _) ?_
    rintro e w4 ⟨rfl, hb4⟩
    have hp4 := HP3.out.below hb4 HP3.out.lt
    clear k0 k1 k2 k3 k4 k5 k6 k7
    have k0 := hp4.c0
    have k1 := hp4.c1
    have k2 := hp4.c2
    have k3 := hp4.c3
    have k4 := hp4.c4
    have k5 := hp4.c5
    have k6 := hp4.c6
    have k7 := hp4.c7
    have HE4 := Lib.hid (HE3.out.trans (hb4.mono HE3.out.size))
    have HP4 := Lib.hid hp4
    clear hb4 hp4
    go_wp2_with fail
    refine Calls.mono (H5.out _) ?_
    rintro e w5 ⟨rfl, hb5⟩
    have hp5 := HP4.out.below hb5 HP4.out.lt
    clear k0 k1 k2 k3 k4 k5 k6 k7
    have k0 := hp5.c0
    have k1 := hp5.c1
    have k2 := hp5.c2
    have k3 := hp5.c3
    have k4 := hp5.c4
    have k5 := hp5.c5
    have k6 := hp5.c6
    have k7 := hp5.c7
    have HE5 := Lib.hid (HE4.out.trans (hb5.mono HE4.out.size))
    have HP5 := Lib.hid hp5
    clear hb5 hp5
    have q1 := Q1.out
    have q2 := Q2.out
    have g1 := G1.out
    have g2 := G2.out
    by_cases ho1 : o1 = true
    · subst ho1
      clear T2
      go_wp2_with fail
      go_ret
      exact ⟨rfl, HE5.out⟩
    have ho1' : o1 = false := by simpa using ho1
    clear ho1
    subst ho1'
    by_cases ho2 : o2 = true
    · subst ho2
      clear T2
      go_wp2_with fail
      go_ret
      exact ⟨rfl, HE5.out⟩
    have ho2' : o2 = false := by simpa using ho2
    clear ho2
    subst ho2'
    go_wp2_with fail
    go_ret
    exact ⟨rfl, HE5.out⟩
  · have hx1' : x1 = false := by simpa using hx1
    clear hx1 T1
    subst hx1'
    go_wp2_with fail
    refine Calls.mono (H4.out _) ?_
    rintro e w3 ⟨rfl, hb3⟩
    have hp3 := HP2.out.below hb3 HP2.out.lt
    clear k0 k1 k2 k3 k4 k5 k6 k7
    have k0 := hp3.c0
    have k1 := hp3.c1
    have k2 := hp3.c2
    have k3 := hp3.c3
    have k4 := hp3.c4
    have k5 := hp3.c5
    have k6 := hp3.c6
    have k7 := hp3.c7
    have HE3 := Lib.hid (HE2.out.trans (hb3.mono HE2.out.size))
    have HP3 := Lib.hid hp3
    clear hb3 hp3
    go_wp2_with fail
    refine Calls.mono (H5.out _) ?_
    rintro e w4 ⟨rfl, hb4⟩
    have hp4 := HP3.out.below hb4 HP3.out.lt
    clear k0 k1 k2 k3 k4 k5 k6 k7
    have k0 := hp4.c0
    have k1 := hp4.c1
    have k2 := hp4.c2
    have k3 := hp4.c3
    have k4 := hp4.c4
    have k5 := hp4.c5
    have k6 := hp4.c6
    have k7 := hp4.c7
    have HE4 := Lib.hid (HE3.out.trans (hb4.mono HE3.out.size))
    have HP4 := Lib.hid hp4
    clear hb4 hp4
    have q1 := Q1.out
    have q2 := Q2.out
    have g1 := G1.out
    have g2 := G2.out
    by_cases ho1 : o1 = true
    · subst ho1
      clear T2
      go_wp2_with fail
      go_ret
      exact ⟨rfl, HE4.out⟩
    have ho1' : o1 = false := by simpa using ho1
    clear ho1
    subst ho1'
    by_cases ho2 : o2 = true
    · subst ho2
      clear T2
      go_wp2_with fail
      go_ret
      exact ⟨rfl, HE4.out⟩
    have ho2' : o2 = false := by simpa using ho2
    clear ho2
    subst ho2'
    have hx3 : x3 = false := by simpa using T2.out
    subst hx3
    clear T2
    go_wp2_with fail
    refine Calls.mono (H3.out _) ?_
    rintro e w9 ⟨rfl, hb9⟩
    have HE9 := Lib.hid (HE4.out.trans (hb9.mono HE4.out.size))
    clear hb9
    go_wp2_with fail
    go_ret
    exact ⟨rfl, HE9.out⟩
end Go.Proofs.Ytgdkgoiagjjccaa
