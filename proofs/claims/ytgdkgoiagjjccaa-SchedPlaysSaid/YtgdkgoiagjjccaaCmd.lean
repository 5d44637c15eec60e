/- The contracts of cost's asValues and asCommand. -/
import Derived.Test.YtgdkgoiagjjccaaTotal
import Derived.Test.YtgdkgoiagjjccaaOps
namespace Go.Proofs.Ytgdkgoiagjjccaa
set_option maxRecDepth 100000
open Go.RowKit

instance (z : Int) : Decidable (Fits z) := by unfold Fits; infer_instance
/-- A policy's value. -/
abbrev polV (B C F W P : Int) : Value := .agg #[.int .i64 B, .int .i64 C, .int .i64 F, .int .i64 W, .int .i64 P]
/-- What a command costs; where that is beyond, a number beyond. -/
def cz (B C F b f : Int) : Int := if Fits (C * b) ∧ Fits (F * f) then B + C * b + F * f else 18446744073709551616
theorem numN_yes {z : Int} (h : Fits z) : numN z = z := if_pos h
theorem numE_yes {z : Int} (h : Fits z) : numE z = .nilIface := if_pos h
theorem numN_no {z : Int} (h : ¬ Fits z) : numN z = 0 := if_neg h
theorem numE_no {z : Int} (h : ¬ Fits z) : numE z = over := if_neg h
theorem mul_num (a b : Int) (ha : Fits a) (hb : Fits b) (w : World) : Calls Try.prog 76 #[.int .i64 a, .int .i64 b] w fun e w' => e = .returned (.tuple #[.int .i64 (numN (a * b)), numE (a * b)]) ∧ Below w.heap.size w w' := by
  rw [← numV_eq]; exact mul_any a b ha hb w
theorem nums3 (w : World) (a b c : Int) (ha : Fits a) (hb : Fits b) (hc : Fits c) : Nums (w.alloc (.cells #[.int .i64 a, .int .i64 b, .int .i64 c] 3)) (some ⟨w.heap.size, 0, none⟩) 3 [a, b, c] := by
  refine ⟨rfl, ?_, fun _ => ⟨_, _, rfl, fun j hj => ?_⟩⟩
  · intro x hx
    simp at hx
    rcases hx with rfl | rfl | rfl
    · exact ha
    · exact hb
    · exact hc
  · rw [Nat.zero_add, World.cell?_alloc_mark]
    match j, hj with
    | 0, _ => rfl
    | 1, _ => rfl
    | 2, _ => rfl

set_option maxHeartbeats 1000000 in
theorem asValues_any (B C F W P n : Int) (hW : Fits W) (hn : Fits n) (w : World) :
    Calls Try.prog 53 #[polV B C F W P, .int .i64 n] w fun e w' => e = .returned (.tuple #[.int .i64 (numN (W * n)), numE (W * n)]) ∧ Below w.heap.size w w' := by
  have C1 := fun w => mul_num W n hW hn w
  obtain ⟨m, hm⟩ : ∃ m, m = numN (W * n) := ⟨_, rfl⟩
  obtain ⟨v, hv⟩ : ∃ v, v = numE (W * n) := ⟨_, rfl⟩
  rw [← hm, ← hv] at C1
  rw [← hm, ← hv]
  have H1 := Lib.hid C1
  have HB := Lib.hid (show Below w.heap.size w (w.alloc (.cells #[.int .i64 B, .int .i64 C, .int .i64 F, .int .i64 W, .int .i64 P] 23)) from (Below.refl _ w).alloc (Nat.le_refl _) _)
  clear C1 hm hv hW hn
  go_enter Try.func53, Try.ntmps53
  go_wp2_with fail
  refine Calls.mono (H1.out _) ?_
  rintro e w1 ⟨rfl, hb1⟩
  have HE := Lib.hid (HB.out.trans (hb1.mono HB.out.size))
  clear hb1
  go_wp2_with fail
  go_ret2
  exact ⟨rfl, HE.out⟩

set_option maxHeartbeats 1000000 in
theorem asCommand_any (B C F W P b f : Int) (hB : Fits B) (hC : Fits C) (hF : Fits F) (hb : Fits b) (hf : Fits f) (w : World) :
    Calls Try.prog 52 #[polV B C F W P, .int .i64 b, .int .i64 f] w fun e w' => e = .returned (.tuple #[.int .i64 (numN (cz B C F b f)), numE (cz B C F b f)]) ∧ Below w.heap.size w w' := by
  have C1 := fun w => mul_num C b hC hb w
  have C2 := fun w => mul_num F f hF hf w
  have HB := Lib.hid (show Below w.heap.size w (w.alloc (.cells #[.int .i64 B, .int .i64 C, .int .i64 F, .int .i64 W, .int .i64 P] 23)) from (Below.refl _ w).alloc (Nat.le_refl _) _)
  obtain ⟨z, hz⟩ : ∃ z, z = cz B C F b f := ⟨_, rfl⟩
  rw [← hz]
  obtain ⟨x, hx⟩ : ∃ x, x = C * b := ⟨_, rfl⟩
  obtain ⟨y, hy⟩ : ∃ y, y = F * f := ⟨_, rfl⟩
  rw [← hx] at C1
  rw [← hy] at C2
  unfold cz at hz
  rw [← hx, ← hy] at hz
  clear hx hy hC hF hb hf
  by_cases hfx : Fits x
  · rw [numN_yes hfx, numE_yes hfx] at C1
    by_cases hfy : Fits y
    · rw [numN_yes hfy, numE_yes hfy] at C2
      rw [if_pos ⟨hfx, hfy⟩] at hz
      have C3 := fun w => total_any _ 3 3 _ _ (nums3 w B x y hB hfx hfy) (by decide)
      have hs : sumZ [B, x, y] = z := by simp [sumZ, hz]
      rw [hs] at C3
      obtain ⟨m, hm⟩ : ∃ m, m = numN z := ⟨_, rfl⟩
      obtain ⟨v, hv⟩ : ∃ v, v = numE z := ⟨_, rfl⟩
      rw [← hm, ← hv] at C3
      rw [← hm, ← hv]
      have H1 := Lib.hid C1
      have H2 := Lib.hid C2
      have H3 := Lib.hid C3
      clear C1 C2 C3 hs hm hv hz hB hfx hfy
      go_enter Try.func52, Try.ntmps52
      go_wp2_with fail
      refine Calls.mono (H1.out _) ?_
      rintro e w1 ⟨rfl, hb1⟩
      have K1 : w1.cell? ⟨w.heap.size, 2, none⟩ = some (.int .i64 F) := (hb1.cell (p := ⟨w.heap.size, 2, none⟩) (by simp)).trans (by simp [go_sem])
      have K0 : w1.cell? ⟨w.heap.size, 0, none⟩ = some (.int .i64 B) := (hb1.cell (p := ⟨w.heap.size, 0, none⟩) (by simp)).trans (by simp [go_sem])
      have hlt1 : w.heap.size < w1.heap.size := by have := hb1.size; simp at this; omega
      have HE := Lib.hid (HB.out.trans (hb1.mono HB.out.size))
      clear hb1
      go_wp2_with fail
      refine Calls.mono (H2.out _) ?_
      rintro e w2 ⟨rfl, hb2⟩
      have K2 : w2.cell? ⟨w.heap.size, 0, none⟩ = some (.int .i64 B) := (hb2.cell (p := ⟨w.heap.size, 0, none⟩) hlt1).trans K0
      have HE2 := Lib.hid (HE.out.trans (hb2.mono HE.out.size))
      clear hb2 K0 K1 hlt1
      go_wp2_with fail
      refine Calls.mono (H3.out _) ?_
      rintro e w3 ⟨rfl, hb3⟩
      have HE3 := Lib.hid ((HE2.out.alloc HE2.out.size _).trans (hb3.mono (by have := HE2.out.size; simp; omega)))
      clear hb3
      go_wp2_with fail
      go_ret2
      exact ⟨rfl, HE3.out⟩
    · rw [if_neg (fun h => hfy h.2)] at hz
      rw [numN_no hfy, numE_no hfy] at C2
      have hzf : ¬ Fits z := by rw [hz]; unfold Fits; decide
      rw [numN_no hzf, numE_no hzf]
      unfold over at C2 ⊢
      have H1 := Lib.hid C1
      have H2 := Lib.hid C2
      clear C1 C2 hz hzf hfx hfy
      go_enter Try.func52, Try.ntmps52
      go_wp2_with fail
      refine Calls.mono (H1.out _) ?_
      rintro e w1 ⟨rfl, hb1⟩
      have K1 : w1.cell? ⟨w.heap.size, 2, none⟩ = some (.int .i64 F) := (hb1.cell (p := ⟨w.heap.size, 2, none⟩) (by simp)).trans (by simp [go_sem])
      have HE := Lib.hid (HB.out.trans (hb1.mono HB.out.size))
      clear hb1
      go_wp2_with fail
      refine Calls.mono (H2.out _) ?_
      rintro e w2 ⟨rfl, hb2⟩
      have HE2 := Lib.hid (HE.out.trans (hb2.mono HE.out.size))
      clear hb2 K1
      go_wp2_with fail
      go_ret2
      exact ⟨rfl, HE2.out⟩
  · rw [if_neg (fun h => hfx h.1)] at hz
    rw [numN_no hfx, numE_no hfx] at C1
    have hzf : ¬ Fits z := by rw [hz]; unfold Fits; decide
    rw [numN_no hzf, numE_no hzf]
    unfold over at C1 ⊢
    have H1 := Lib.hid C1
    clear C1 C2 hz hzf hfx
    go_enter Try.func52, Try.ntmps52
    go_wp2_with fail
    refine Calls.mono (H1.out _) ?_
    rintro e w1 ⟨rfl, hb1⟩
    have HE := Lib.hid (HB.out.trans (hb1.mono HB.out.size))
    clear hb1
    go_wp2_with fail
    go_ret2
    exact ⟨rfl, HE.out⟩
end Go.Proofs.Ytgdkgoiagjjccaa
