/- The contracts of cost's Command, Costs, Good. -/
import Derived.Test.YtgdkgoiagjjccaaCmd
import Derived.Deep.Heap
namespace Go.Proofs.Ytgdkgoiagjjccaa
set_option maxRecDepth 100000
open Go.RowKit

/-- Is it logged as a command? -/
def cmdB (z v : Int) : Bool := if Fits z then decide (¬ Fits v ∨ z ≤ v) else decide (¬ Fits v)
/-- A block that holds a policy. -/
def Pb (w : World) (g : Nat) (B C F W P : Int) : Prop := w.heap[g]? = some (.cells #[.int .i64 B, .int .i64 C, .int .i64 F, .int .i64 W, .int .i64 P] 23 (0, 0))
theorem pb_new (w : World) (B C F W P : Int) : Pb (w.alloc (.cells #[.int .i64 B, .int .i64 C, .int .i64 F, .int .i64 W, .int .i64 P] 23)) w.heap.size B C F W P := heap_alloc_new w _
theorem Pb.lt {w : World} {g : Nat} {B C F W P : Int} (h : Pb w g B C F W P) : g < w.heap.size := (Array.getElem?_eq_some_iff.1 h).1
theorem Pb.below {w w' : World} {m g : Nat} {B C F W P : Int} (h : Pb w g B C F W P) (hb : Below m w w') (hg : g < m) : Pb w' g B C F W P := (hb.block g hg).trans h
theorem Pb.c0 {w : World} {g : Nat} {B C F W P : Int} (h : Pb w g B C F W P) : w.cell? ⟨g, 0, none⟩ = some (.int .i64 B) := cell_of_row w g 0 _ 23 (0, 0) h
theorem Pb.c1 {w : World} {g : Nat} {B C F W P : Int} (h : Pb w g B C F W P) : w.cell? ⟨g, 1, none⟩ = some (.int .i64 C) := cell_of_row w g 1 _ 23 (0, 0) h
theorem Pb.c2 {w : World} {g : Nat} {B C F W P : Int} (h : Pb w g B C F W P) : w.cell? ⟨g, 2, none⟩ = some (.int .i64 F) := cell_of_row w g 2 _ 23 (0, 0) h
theorem Pb.c3 {w : World} {g : Nat} {B C F W P : Int} (h : Pb w g B C F W P) : w.cell? ⟨g, 3, none⟩ = some (.int .i64 W) := cell_of_row w g 3 _ 23 (0, 0) h
theorem Pb.c4 {w : World} {g : Nat} {B C F W P : Int} (h : Pb w g B C F W P) : w.cell? ⟨g, 4, none⟩ = some (.int .i64 P) := cell_of_row w g 4 _ 23 (0, 0) h
theorem ret_bool2 {a b : Bool} (h : a = b) : Ending.returned (.bool a) = .returned (.bool b) := by rw [h]

set_option maxHeartbeats 1000000 in
theorem command_any (B C F W P b f n : Int) (hB : Fits B) (hC : Fits C) (hF : Fits F) (hW : Fits W) (hb : Fits b) (hf : Fits f) (hn : Fits n) (w : World) :
    Calls Try.prog 19 #[polV B C F W P, .int .i64 b, .int .i64 f, .int .i64 n] w fun e w' => e = .returned (.bool (cmdB (cz B C F b f) (W * n))) ∧ Below w.heap.size w w' := by
  have C1 := fun w => asCommand_any B C F W P b f hB hC hF hb hf w
  have C2 := fun w => asValues_any B C F W P n hW hn w
  have HB := Lib.hid (show Below w.heap.size w (w.alloc (.cells #[.int .i64 B, .int .i64 C, .int .i64 F, .int .i64 W, .int .i64 P] 23)) from (Below.refl _ w).alloc (Nat.le_refl _) _)
  have HP := Lib.hid (pb_new w B C F W P)
  obtain ⟨z, hz⟩ : ∃ z, z = cz B C F b f := ⟨_, rfl⟩
  obtain ⟨v, hv⟩ : ∃ v, v = W * n := ⟨_, rfl⟩
  rw [← hz] at C1 ⊢
  rw [← hv] at C2 ⊢
  clear hz hv hB hC hF hW hb hf hn
  by_cases hfz : Fits z
  · rw [numN_yes hfz, numE_yes hfz] at C1
    by_cases hfv : Fits v
    · rw [numN_yes hfv, numE_yes hfv] at C2
      have hc : cmdB z v = decide (z ≤ v) := by unfold cmdB; rw [if_pos hfz]; exact decide_eq_decide.2 ⟨fun h => h.resolve_left (fun h' => h' hfv), .inr⟩
      rw [hc]
      have H1 := Lib.hid C1
      have H2 := Lib.hid C2
      clear C1 C2 hc hfz hfv
      go_enter Try.func19, Try.ntmps19
      go_wp2_with fail
      refine Calls.mono (H1.out _) ?_
      rintro e w1 ⟨rfl, hb1⟩
      have hp1 := HP.out.below hb1 HP.out.lt
      have k0 := hp1.c0
      have k1 := hp1.c1
      have k2 := hp1.c2
      have k3 := hp1.c3
      have k4 := hp1.c4
      have HE := Lib.hid (HB.out.trans (hb1.mono HB.out.size))
      clear hb1 hp1
      go_wp2_with fail
      refine Calls.mono (H2.out _) ?_
      rintro e w2 ⟨rfl, hb2⟩
      have HE2 := Lib.hid (HE.out.trans (hb2.mono HE.out.size))
      clear hb2 k0 k1 k2 k3 k4
      go_wp2_with fail
      go_ret
      exact ⟨rfl, HE2.out⟩
    · rw [numN_no hfv, numE_no hfv] at C2
      have hc : cmdB z v = true := by unfold cmdB; rw [if_pos hfz]; exact decide_eq_true (.inl hfv)
      rw [hc]
      unfold over at C2
      have H1 := Lib.hid C1
      have H2 := Lib.hid C2
      clear C1 C2 hc hfz hfv
      go_enter Try.func19, Try.ntmps19
      go_wp2_with fail
      refine Calls.mono (H1.out _) ?_
      rintro e w1 ⟨rfl, hb1⟩
      have hp1 := HP.out.below hb1 HP.out.lt
      have k0 := hp1.c0
      have k1 := hp1.c1
      have k2 := hp1.c2
      have k3 := hp1.c3
      have k4 := hp1.c4
      have HE := Lib.hid (HB.out.trans (hb1.mono HB.out.size))
      clear hb1 hp1
      go_wp2_with fail
      refine Calls.mono (H2.out _) ?_
      rintro e w2 ⟨rfl, hb2⟩
      have HE2 := Lib.hid (HE.out.trans (hb2.mono HE.out.size))
      clear hb2 k0 k1 k2 k3 k4
      go_wp2_with fail
      go_ret
      exact ⟨rfl, HE2.out⟩
  · rw [numN_no hfz, numE_no hfz] at C1
    have hc : cmdB z v = decide (¬ Fits v) := by unfold cmdB; rw [if_neg hfz]
    rw [hc]
    by_cases hfv : Fits v
    · rw [numN_yes hfv, numE_yes hfv] at C2
      rw [decide_eq_false (fun h => h hfv)]
      unfold over at C1
      have H1 := Lib.hid C1
      have H2 := Lib.hid C2
      clear C1 C2 hc hfz hfv
      go_enter Try.func19, Try.ntmps19
      go_wp2_with fail
      refine Calls.mono (H1.out _) ?_
      rintro e w1 ⟨rfl, hb1⟩
      have hp1 := HP.out.below hb1 HP.out.lt
      have k0 := hp1.c0
      have k1 := hp1.c1
      have k2 := hp1.c2
      have k3 := hp1.c3
      have k4 := hp1.c4
      have HE := Lib.hid (HB.out.trans (hb1.mono HB.out.size))
      clear hb1 hp1
      go_wp2_with fail
      refine Calls.mono (H2.out _) ?_
      rintro e w2 ⟨rfl, hb2⟩
      have HE2 := Lib.hid (HE.out.trans (hb2.mono HE.out.size))
      clear hb2 k0 k1 k2 k3 k4
      go_wp2_with fail
      go_ret
      exact ⟨rfl, HE2.out⟩
    · rw [numN_no hfv, numE_no hfv] at C2
      rw [decide_eq_true hfv]
      unfold over at C1 C2
      have H1 := Lib.hid C1
      have H2 := Lib.hid C2
      clear C1 C2 hc hfz hfv
      go_enter Try.func19, Try.ntmps19
      go_wp2_with fail
      refine Calls.mono (H1.out _) ?_
      rintro e w1 ⟨rfl, hb1⟩
      have hp1 := HP.out.below hb1 HP.out.lt
      have k0 := hp1.c0
      have k1 := hp1.c1
      have k2 := hp1.c2
      have k3 := hp1.c3
      have k4 := hp1.c4
      have HE := Lib.hid (HB.out.trans (hb1.mono HB.out.size))
      clear hb1 hp1
      go_wp2_with fail
      refine Calls.mono (H2.out _) ?_
      rintro e w2 ⟨rfl, hb2⟩
      have HE2 := Lib.hid (HE.out.trans (hb2.mono HE.out.size))
      clear hb2 k0 k1 k2 k3 k4
      go_wp2_with fail
      go_ret
      exact ⟨rfl, HE2.out⟩

set_option maxHeartbeats 1000000 in
theorem costs_yes (B C F W P b f n : Int) (hB : Fits B) (hC : Fits C) (hF : Fits F) (hW : Fits W) (hb : Fits b) (hf : Fits f) (hn : Fits n) (w : World) (hfz : Fits (cz B C F b f)) (hfv : Fits (W * n)) :
    Calls Try.prog 16 #[polV B C F W P, .int .i64 b, .int .i64 f, .int .i64 n] w fun e w' => e = .returned (.tuple #[.int .i64 (cz B C F b f), .int .i64 (W * n), .nilIface]) ∧ Below w.heap.size w w' := by
  have C1 := fun w => asCommand_any B C F W P b f hB hC hF hb hf w
  have C2 := fun w => asValues_any B C F W P n hW hn w
  have HB := Lib.hid (show Below w.heap.size w (w.alloc (.cells #[.int .i64 B, .int .i64 C, .int .i64 F, .int .i64 W, .int .i64 P] 23)) from (Below.refl _ w).alloc (Nat.le_refl _) _)
  have HP := Lib.hid (pb_new w B C F W P)
  obtain ⟨z, hz⟩ : ∃ z, z = cz B C F b f := ⟨_, rfl⟩
  obtain ⟨v, hv⟩ : ∃ v, v = W * n := ⟨_, rfl⟩
  rw [← hz] at C1 hfz ⊢
  rw [← hv] at C2 hfv ⊢
  rw [numN_yes hfz, numE_yes hfz] at C1
  rw [numN_yes hfv, numE_yes hfv] at C2
  have H1 := Lib.hid C1
  have H2 := Lib.hid C2
  clear C1 C2 hz hv hB hC hF hW hb hf hn hfz hfv
  go_enter Try.func16, Try.ntmps16
  go_wp2_with fail
  refine Calls.mono (H1.out _) ?_
  rintro e w1 ⟨rfl, hb1⟩
  have hp1 := HP.out.below hb1 HP.out.lt
  have k0 := hp1.c0
  have k1 := hp1.c1
  have k2 := hp1.c2
  have k3 := hp1.c3
  have k4 := hp1.c4
  have HE := Lib.hid (HB.out.trans (hb1.mono HB.out.size))
  clear hb1 hp1
  go_wp2_with fail
  refine Calls.mono (H2.out _) ?_
  rintro e w2 ⟨rfl, hb2⟩
  have HE2 := Lib.hid (HE.out.trans (hb2.mono HE.out.size))
  clear hb2 k0 k1 k2 k3 k4
  go_wp2_with fail
  exact bodyPost_ret (v := .tuple #[.int .i64 z, .int .i64 v, .nilIface]) (by simp [results, Try.results16, go_sem]) rfl ⟨rfl, HE2.out⟩

set_option maxHeartbeats 1000000 in
theorem costs_no (B C F W P b f n : Int) (hB : Fits B) (hC : Fits C) (hF : Fits F) (hW : Fits W) (hb : Fits b) (hf : Fits f) (hn : Fits n) (w : World) (hno : ¬ (Fits (cz B C F b f) ∧ Fits (W * n))) :
    Calls Try.prog 16 #[polV B C F W P, .int .i64 b, .int .i64 f, .int .i64 n] w fun e w' => e = .returned (.tuple #[.int .i64 0, .int .i64 0, over]) ∧ Below w.heap.size w w' := by
  have C1 := fun w => asCommand_any B C F W P b f hB hC hF hb hf w
  have C2 := fun w => asValues_any B C F W P n hW hn w
  have HB := Lib.hid (show Below w.heap.size w (w.alloc (.cells #[.int .i64 B, .int .i64 C, .int .i64 F, .int .i64 W, .int .i64 P] 23)) from (Below.refl _ w).alloc (Nat.le_refl _) _)
  have HP := Lib.hid (pb_new w B C F W P)
  obtain ⟨z, hz⟩ : ∃ z, z = cz B C F b f := ⟨_, rfl⟩
  obtain ⟨v, hv⟩ : ∃ v, v = W * n := ⟨_, rfl⟩
  rw [← hz] at C1 hno
  rw [← hv] at C2 hno
  clear hz hv hB hC hF hW hb hf hn
  by_cases hfz : Fits z
  · have hfv : ¬ Fits v := fun h => hno ⟨hfz, h⟩
    rw [numN_yes hfz, numE_yes hfz] at C1
    rw [numN_no hfv, numE_no hfv] at C2
    unfold over at C2 ⊢
    have H1 := Lib.hid C1
    have H2 := Lib.hid C2
    clear C1 C2 hno hfz hfv
    go_enter Try.func16, Try.ntmps16
    go_wp2_with fail
    refine Calls.mono (H1.out _) ?_
    rintro e w1 ⟨rfl, hb1⟩
    have hp1 := HP.out.below hb1 HP.out.lt
    have k0 := hp1.c0
    have k1 := hp1.c1
    have k2 := hp1.c2
    have k3 := hp1.c3
    have k4 := hp1.c4
    have HE := Lib.hid (HB.out.trans (hb1.mono HB.out.size))
    clear hb1 hp1
    go_wp2_with fail
    refine Calls.mono (H2.out _) ?_
    rintro e w2 ⟨rfl, hb2⟩
    have HE2 := Lib.hid (HE.out.trans (hb2.mono HE.out.size))
    clear hb2 k0 k1 k2 k3 k4
    go_wp2_with fail
    exact bodyPost_ret (v := .tuple #[.int .i64 0, .int .i64 0, .iface 34 (.int .i64 7)]) (by simp [results, Try.results16, go_sem]) rfl ⟨rfl, HE2.out⟩
  · rw [numN_no hfz, numE_no hfz] at C1
    unfold over at C1 ⊢
    have H1 := Lib.hid C1
    clear C1 C2 hno hfz
    go_enter Try.func16, Try.ntmps16
    go_wp2_with fail
    refine Calls.mono (H1.out _) ?_
    rintro e w1 ⟨rfl, hb1⟩
    have HE := Lib.hid (HB.out.trans (hb1.mono HB.out.size))
    clear hb1
    go_wp2_with fail
    exact bodyPost_ret (v := .tuple #[.int .i64 0, .int .i64 0, .iface 34 (.int .i64 7)]) (by simp [results, Try.results16, go_sem]) rfl ⟨rfl, HE.out⟩

set_option maxHeartbeats 400000 in
theorem good_any (B C F W P : Int) (w : World) :
    Calls Try.prog 24 #[polV B C F W P] w fun e w' => e = .returned (.bool (decide (0 ≤ P ∧ P ≤ 2))) ∧ Below w.heap.size w w' := by
  have HB := Lib.hid (show Below w.heap.size w (w.alloc (.cells #[.int .i64 B, .int .i64 C, .int .i64 F, .int .i64 W, .int .i64 P] 23)) from (Below.refl _ w).alloc (Nat.le_refl _) _)
  by_cases h0 : 0 ≤ P
  · have hc : decide (0 ≤ P ∧ P ≤ 2) = decide (P ≤ 2) := decide_eq_decide.2 ⟨And.right, fun h => ⟨h0, h⟩⟩
    rw [hc]
    clear hc
    go_enter Try.func24, Try.ntmps24
    go_wp2_with fail
    go_ret
    exact ⟨rfl, HB.out⟩
  · have hc : decide (0 ≤ P ∧ P ≤ 2) = false := decide_eq_false (fun h => h0 h.1)
    rw [hc]
    clear hc
    go_enter Try.func24, Try.ntmps24
    go_wp2_with fail
    go_ret
    exact ⟨rfl, HB.out⟩

set_option maxHeartbeats 1000000 in
theorem alive_any (w : World) : Calls Try.prog 15 #[] w fun e w' => e = .returned (.bool true) ∧ Below w.heap.size w w' := by
  have z : Fits 0 ∧ Fits 1 ∧ Fits 10 ∧ Fits 30 ∧ Fits 31 ∧ Fits 5 ∧ Fits 3 := by decide
  have C1 := fun w => command_any 0 1 0 10 0 30 5 3 z.1 z.2.1 z.1 z.2.2.1 z.2.2.2.1 z.2.2.2.2.2.1 z.2.2.2.2.2.2 w
  have C2 := fun w => command_any 0 1 0 10 0 31 5 3 z.1 z.2.1 z.1 z.2.2.1 z.2.2.2.2.1 z.2.2.2.2.2.1 z.2.2.2.2.2.2 w
  have C3 := fun w => good_any 0 1 0 10 0 w
  rw [show cmdB (cz 0 1 0 30 5) (10 * 3) = true by decide] at C1
  rw [show cmdB (cz 0 1 0 31 5) (10 * 3) = false by decide] at C2
  rw [show decide ((0 : Int) ≤ 0 ∧ (0 : Int) ≤ 2) = true by decide] at C3
  have H1 := Lib.hid C1
  have H2 := Lib.hid C2
  have H3 := Lib.hid C3
  have HB := Lib.hid (show Below w.heap.size w (w.alloc (.cells #[.int .i64 0, .int .i64 1, .int .i64 0, .int .i64 10, .int .i64 0] 23)) from (Below.refl _ w).alloc (Nat.le_refl _) _)
  have HP := Lib.hid (pb_new w 0 1 0 10 0)
  clear C1 C2 C3 z
  go_enter Try.func15, Try.ntmps15
  go_wp2_with fail
  refine Calls.mono (H1.out _) ?_
  rintro e w1 ⟨rfl, hb1⟩
  have hp1 := HP.out.below hb1 HP.out.lt
  have k0 := hp1.c0
  have k1 := hp1.c1
  have k2 := hp1.c2
  have k3 := hp1.c3
  have k4 := hp1.c4
  have HE := Lib.hid (HB.out.trans (hb1.mono HB.out.size))
  have HP1 := Lib.hid hp1
  clear hb1 hp1
  go_wp2_with fail
  refine Calls.mono (H2.out _) ?_
  rintro e w2 ⟨rfl, hb2⟩
  have hp2 := HP1.out.below hb2 HP1.out.lt
  have HE2 := Lib.hid (HE.out.trans (hb2.mono HE.out.size))
  clear hb2 k0 k1 k2 k3 k4
  have k0 := hp2.c0
  have k1 := hp2.c1
  have k2 := hp2.c2
  have k3 := hp2.c3
  have k4 := hp2.c4
  clear hp2
  go_wp2_with fail
  refine Calls.mono (H3.out _) ?_
  rintro e w3 ⟨rfl, hb3⟩
  have HE3 := Lib.hid (HE2.out.trans (hb3.mono HE2.out.size))
  clear hb3 k0 k1 k2 k3 k4
  go_wp2_with fail
  go_ret
  exact ⟨rfl, HE3.out⟩
end Go.Proofs.Ytgdkgoiagjjccaa
