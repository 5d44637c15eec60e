/- A pick. -/
import Derived.Test.YtgdkgoiagjjccaaSFur
namespace Go.Proofs.Ytgdkgoiagjjccaa
set_option maxRecDepth 100000
open Go.RowKit

theorem further_any {B : Nat} {W : World} {bp bt bw : Nat} {s : PS} {sa : Nat → Option Addr} {sc : Nat → Nat} (h : PlanAt B W bp bt bw s sa sc) (i : Nat) (hi : i < s.n) (hk : 0 ≤ s.kd i ∧ s.kd i ≤ 3) (hp : 0 ≤ s.picks ∧ s.picks ≤ 1000000000)
    (he : s.kd i + 1 = 3 → (-1000000 ≤ s.left ∧ s.left ≤ 1000000) ∧ (0 ≤ s.wk i ∧ s.wk i < (s.m : Int)) ∧ (∀ x, x < s.n → -1000000 ≤ s.wt x ∧ s.wt x ≤ 1000000) ∧ (∀ x ∈ s.ln i, 0 ≤ x ∧ x < (s.n : Int)) ∧ (s.ln i).length ≤ 1000000) :
    Calls Try.prog 72 #[ptr bp, .int .i64 (i : Int)] W fun e W' => e = .returned (evV (s.kd i + 1) i (s.wk i)) ∧ PlanAt B W' bp bt bw (s.step i) sa sc ∧ Fr [bp, bt, bw] W W' := by
  by_cases h3 : s.kd i + 1 = 3
  · obtain ⟨a, b, c, d, e⟩ := he h3
    exact further_end h i hi h3 hp a b c d e
  · exact further_mid h i hi h3 hk hp

set_option maxHeartbeats 400000 in
theorem first_any (g : Nat) (p : Int → Int → Int → Bool) (hp : ∀ k w t A n c W, Calls Try.prog g #[taskV k w t A n c] W fun e W' => e = .returned (.bool (p k w t)) ∧ Below W.heap.size W W')
    (eg : ∀ args w, (callFunc g args).run Try.prog w = .ok (.enter g args) w) {B : Nat} {W : World} {bp bt bw : Nat} {s : PS} {sa : Nat → Option Addr} {sc : Nat → Nat} (h : PlanAt B W bp bt bw s sa sc) :
    Calls Try.prog 69 #[ptr bp, .func (.func g) #[] #[]] W fun e W' => e = .returned (.int .i64 (idx s.n fun i => p (s.kd i) (s.wk i) (s.wt i))) ∧ Below W.heap.size W W' := by
  have C := index_task g p hp eg bt s.n s.n s.kd s.wk s.wt sa (fun i => (s.ln i).length) sc W h.tk (by have := h.big; omega)
  have HC := Lib.hid C
  obtain ⟨p0, _, _, _⟩ := h.pl
  obtain ⟨R, hR⟩ : ∃ R, R = idx s.n fun i => p (s.kd i) (s.wk i) (s.wt i) := ⟨_, rfl⟩
  rw [← hR] at HC ⊢
  unfold ptr
  clear C h hp hR
  go_enter Try.func69, Try.ntmps69
  go_wp2_with fail
  refine Calls.mono HC.out ?_
  rintro e w2 ⟨rfl, hb⟩
  have HB := Lib.hid hb
  clear hb
  go_wp2_with fail
  go_ret
  exact ⟨rfl, HB.out⟩
theorem first_rdy {B : Nat} {W : World} {bp bt bw : Nat} {s : PS} {sa : Nat → Option Addr} {sc : Nat → Nat} (h : PlanAt B W bp bt bw s sa sc) :
    Calls Try.prog 69 #[ptr bp, .func (.func 70) #[] #[]] W fun e W' => e = .returned (.int .i64 (idx s.n s.rdy)) ∧ Below W.heap.size W W' :=
  first_any 70 (fun k _ t => decide (k = 0) && decide (t = 0)) (fun k w t A n c W => ready_any k w t A n c W) (enters_of Try.func70 (by kernel_rfl) rfl) h
theorem first_had {B : Nat} {W : World} {bp bt bw : Nat} {s : PS} {sa : Nat → Option Addr} {sc : Nat → Nat} (h : PlanAt B W bp bt bw s sa sc) :
    Calls Try.prog 69 #[ptr bp, .func (.func 71) #[] #[]] W fun e W' => e = .returned (.int .i64 (idx s.n s.had)) ∧ Below W.heap.size W W' :=
  first_any 71 (fun _ w _ => !decide (w = -1)) (fun k w t A n c W => had_any k w t A n c W) (enters_of Try.func71 (by kernel_rfl) rfl) h

def errV (n : Int) : Value := .iface 34 (.int .i64 n)
def outV : PS.Out → Value
  | .ev k t w => .tuple #[evV k t w, .nilIface]
  | .range => .tuple #[evV 0 0 0, errV 1]
  | .ended => .tuple #[evV 0 0 0, errV 12]
theorem results_ev (tmps : Array Value) (w : World) (g : Nat) (cs : Array Value) (v : Value) (hp : tmps.getD 4 undef = .pointer (some ⟨g, 0, none⟩)) (hq : tmps.getD 5 undef = v) (hg : w.heap[g]? = some (.cells cs 78 (0, 0))) (hs : cs.size = 3) :
    (results Try.f44 tmps).run Try.prog w = .ok (.tuple #[.agg cs, v]) w := by
  have hp' : tmps[4]?.getD undef = .pointer (some ⟨g, 0, none⟩) := by simpa using hp
  have hq' : tmps[5]?.getD undef = v := by simpa using hq
  simp [results, Try.results44, hp', hq', asAddr, run_loadVar_row w g 78 78 cs (0, 0) _ hg Try.underlying78 rfl (by rw [hs]; exact info78)]

set_option maxHeartbeats 400000 in
theorem pick_range {B : Nat} {W : World} {bp bt bw : Nat} {s : PS} {sa : Nat → Option Addr} {sc : Nat → Nat} (h : PlanAt B W bp bt bw s sa sc) (w : Int) (hw : w < 0 ∨ (s.m : Int) ≤ w) :
    Calls Try.prog 44 #[ptr bp, .int .i64 w] W fun e W' => e = .returned (.tuple #[evV 0 0 0, errV 1]) ∧ PlanAt B W' bp bt bw s sa sc ∧ Fr [bp, bt, bw] W W' := by
  unfold ptr evV errV
  obtain ⟨_, p1, _, _⟩ := h.pl
  have HG := Lib.hid (heap_alloc_new W (.cells #[.int .i64 0, .int .i64 0, .int .i64 0] 78))
  obtain ⟨l1, l2, l3⟩ := h.hi
  have HP := Lib.hid (h.alloc (.cells #[.int .i64 0, .int .i64 0, .int .i64 0] 78))
  have HF := Lib.hid ((Fr.refl [bp, bt, bw] W).alloc (.cells #[.int .i64 0, .int .i64 0, .int .i64 0] 78))
  clear h
  by_cases h0 : w < 0
  · go_enter Try.func44, Try.ntmps44
    go_wp2_with fail
    refine bodyPost_ret (v := .tuple #[.agg #[.int .i64 0, .int .i64 0, .int .i64 0], .iface 34 (.int .i64 1)]) ?_ rfl ?_
    · exact results_ev _ _ W.heap.size _ _ rfl rfl HG.out rfl
    · exact ⟨rfl, HP.out, HF.out⟩
  · have h1 : (s.m : Int) ≤ w := by omega
    go_enter Try.func44, Try.ntmps44
    go_wp2_with fail
    refine bodyPost_ret (v := .tuple #[.agg #[.int .i64 0, .int .i64 0, .int .i64 0], .iface 34 (.int .i64 1)]) ?_ rfl ?_
    · exact results_ev _ _ W.heap.size _ _ rfl rfl HG.out rfl
    · exact ⟨rfl, HP.out, HF.out⟩
set_option maxHeartbeats 1000000 in
theorem pick_has {B : Nat} {W : World} {bp bt bw : Nat} {s : PS} {sa : Nat → Option Addr} {sc : Nat → Nat} (h : PlanAt B W bp bt bw s sa sc) (w i : Nat) (hw : w < s.m) (hws : s.ws w = (i : Int)) (hi : i < s.n) (hk : 0 ≤ s.kd i ∧ s.kd i ≤ 3) (hp : 0 ≤ s.picks ∧ s.picks ≤ 1000000000)
    (he : s.kd i + 1 = 3 → (-1000000 ≤ s.left ∧ s.left ≤ 1000000) ∧ (0 ≤ s.wk i ∧ s.wk i < (s.m : Int)) ∧ (∀ x, x < s.n → -1000000 ≤ s.wt x ∧ s.wt x ≤ 1000000) ∧ (∀ x ∈ s.ln i, 0 ≤ x ∧ x < (s.n : Int)) ∧ (s.ln i).length ≤ 1000000) :
    Calls Try.prog 44 #[ptr bp, .int .i64 (w : Int)] W fun e W' => e = .returned (.tuple #[evV (s.kd i + 1) i (s.wk i), .nilIface]) ∧ PlanAt B W' bp bt bw (s.step i) sa sc ∧ Fr [bp, bt, bw] W W' := by
  have C := further_any (h.alloc (.cells #[.int .i64 0, .int .i64 0, .int .i64 0] 78)) i hi hk hp he
  unfold ptr evV at C
  unfold ptr evV
  obtain ⟨ka, hka⟩ : ∃ k, k = s.kd i + 1 := ⟨_, rfl⟩
  obtain ⟨va, hva⟩ : ∃ v, v = s.wk i := ⟨_, rfl⟩
  rw [← hka, ← hva] at C ⊢
  have HC := Lib.hid C
  obtain ⟨_, p1, _, _⟩ := h.pl
  have w0 := h.wr w hw
  rw [hws] at w0
  have hb := h.big
  have HG := Lib.hid (heap_alloc_new W (.cells #[.int .i64 0, .int .i64 0, .int .i64 0] 78))
  obtain ⟨l1, l2, l3⟩ := h.hi
  have HF := Lib.hid ((Fr.refl [bp, bt, bw] W).alloc (.cells #[.int .i64 0, .int .i64 0, .int .i64 0] 78))
  have e1 : ((i : Int) == -1) = false := beq_eq_false_iff_ne.2 (by omega)
  clear h C hka hva he hk hp hws
  go_enter Try.func44, Try.ntmps44
  go_wp2_with fail
  refine Calls.mono HC.out ?_
  rintro e w2 ⟨rfl, hp2, hf2⟩
  have hl2 := hp2.hi
  have G2 : w2.heap[W.heap.size]? = some (.cells #[.int .i64 0, .int .i64 0, .int .i64 0] 78 (0, 0)) := (hf2.block W.heap.size (Array.getElem?_eq_some_iff.1 HG.out).1 (by simp; omega)).trans HG.out
  have q0 := cell_of_row w2 _ 0 _ 78 (0, 0) G2
  have q1 := cell_of_row w2 _ 1 _ 78 (0, 0) G2
  have q2 := cell_of_row w2 _ 2 _ 78 (0, 0) G2
  have f0 : w2.frozen? ⟨W.heap.size, 0, none⟩ = false := frozen_of_row w2 _ 0 _ 78 G2
  have f1 : w2.frozen? ⟨W.heap.size, 1, none⟩ = false := frozen_of_row w2 _ 1 _ 78 G2
  have f2 : w2.frozen? ⟨W.heap.size, 2, none⟩ = false := frozen_of_row w2 _ 2 _ 78 G2
  simp only [List.getElem?_toArray, List.getElem?_cons_zero, List.getElem?_cons_succ] at q0 q1 q2
  have HG2 := Lib.hid (ev_set (a := .int .i64 ka) (b := .int .i64 (i : Int)) (c := .int .i64 va) G2)
  have HP2 := Lib.hid (hp2.setEv G2 ⟨by omega, by omega, by omega⟩ (.int .i64 ka) (.int .i64 (i : Int)) (.int .i64 va))
  have HF2 := Lib.hid ((((HF.out.trans hf2).new ⟨W.heap.size, 0, none⟩ (.int .i64 ka) (Nat.le_refl _)).new ⟨W.heap.size, 1, none⟩ (.int .i64 (i : Int)) (Nat.le_refl _)).new ⟨W.heap.size, 2, none⟩ (.int .i64 va) (Nat.le_refl _))
  clear hp2 hf2 G2 hl2
  go_wp2_with fail
  refine bodyPost_ret (v := .tuple #[.agg #[.int .i64 ka, .int .i64 (i : Int), .int .i64 va], .nilIface]) ?_ rfl ?_
  · exact results_ev _ _ W.heap.size _ _ rfl rfl HG2.out rfl
  · exact ⟨rfl, HP2.out, HF2.out⟩
set_option maxHeartbeats 1000000 in
theorem pick_none {B : Nat} {W : World} {bp bt bw : Nat} {s : PS} {sa : Nat → Option Addr} {sc : Nat → Nat} (h : PlanAt B W bp bt bw s sa sc) (w : Nat) (hw : w < s.m) (hws : s.ws w = -1) (h1 : idx s.n s.rdy = -1) (h2 : idx s.n s.had = -1) :
    Calls Try.prog 44 #[ptr bp, .int .i64 (w : Int)] W fun e W' => e = .returned (.tuple #[evV 0 0 0, errV 12]) ∧ PlanAt B W' bp bt bw s sa sc ∧ Fr [bp, bt, bw] W W' := by
  have C1 := first_rdy (h.alloc (.cells #[.int .i64 0, .int .i64 0, .int .i64 0] 78))
  have C2 := fun W' (hb : Below (W.alloc (.cells #[.int .i64 0, .int .i64 0, .int .i64 0] 78)).heap.size (W.alloc (.cells #[.int .i64 0, .int .i64 0, .int .i64 0] 78)) W') => first_had ((h.alloc (.cells #[.int .i64 0, .int .i64 0, .int .i64 0] 78)).below hb)
  rw [h1] at C1
  simp only [h2] at C2
  unfold ptr at C1 C2
  unfold ptr evV errV
  have HC1 := Lib.hid C1
  have HC2 := Lib.hid C2
  have HH := Lib.hid h
  obtain ⟨_, p1, _, _⟩ := h.pl
  have w0 := h.wr w hw
  rw [hws] at w0
  have hb := h.big
  have HG := Lib.hid (heap_alloc_new W (.cells #[.int .i64 0, .int .i64 0, .int .i64 0] 78))
  obtain ⟨l1, l2, l3⟩ := h.hi
  have HF := Lib.hid ((Fr.refl [bp, bt, bw] W).alloc (.cells #[.int .i64 0, .int .i64 0, .int .i64 0] 78))
  clear h C1 C2 hws h1 h2
  go_enter Try.func44, Try.ntmps44
  go_wp2_with fail
  refine Calls.mono HC1.out ?_
  rintro e w2 ⟨rfl, hb2⟩
  have HB2 := Lib.hid hb2
  clear hb2
  go_wp2_with fail
  refine Calls.mono (HC2.out _ HB2.out) ?_
  rintro e w3 ⟨rfl, hb3⟩
  have hb4 := HB2.out.trans (hb3.mono HB2.out.size)
  have HP4 := Lib.hid ((HH.out.alloc (.cells #[.int .i64 0, .int .i64 0, .int .i64 0] 78)).below hb4)
  have HF4 := Lib.hid (HF.out.trans (Fr.of hb4))
  have G2 := (hb4.block W.heap.size (Array.getElem?_eq_some_iff.1 HG.out).1).trans HG.out
  have q0 := cell_of_row w3 _ 0 _ 78 (0, 0) G2
  have q1 := cell_of_row w3 _ 1 _ 78 (0, 0) G2
  have q2 := cell_of_row w3 _ 2 _ 78 (0, 0) G2
  have f0 : w3.frozen? ⟨W.heap.size, 0, none⟩ = false := frozen_of_row w3 _ 0 _ 78 G2
  have f1 : w3.frozen? ⟨W.heap.size, 1, none⟩ = false := frozen_of_row w3 _ 1 _ 78 G2
  have f2 : w3.frozen? ⟨W.heap.size, 2, none⟩ = false := frozen_of_row w3 _ 2 _ 78 G2
  simp only [List.getElem?_toArray, List.getElem?_cons_zero, List.getElem?_cons_succ] at q0 q1 q2
  have HG2 := Lib.hid (ev_set (a := .int .i64 0) (b := .int .i64 0) (c := .int .i64 0) G2)
  have HP2 := Lib.hid (HP4.out.setEv G2 ⟨by omega, by omega, by omega⟩ (.int .i64 0) (.int .i64 0) (.int .i64 0))
  have HF2 := Lib.hid (((HF4.out.new ⟨W.heap.size, 0, none⟩ (.int .i64 0) (Nat.le_refl _)).new ⟨W.heap.size, 1, none⟩ (.int .i64 0) (Nat.le_refl _)).new ⟨W.heap.size, 2, none⟩ (.int .i64 0) (Nat.le_refl _))
  clear hb3 hb4 G2
  go_wp2_with fail
  refine bodyPost_ret (v := .tuple #[.agg #[.int .i64 0, .int .i64 0, .int .i64 0], .iface 34 (.int .i64 12)]) ?_ rfl ?_
  · exact results_ev _ _ W.heap.size _ _ rfl rfl HG2.out rfl
  · exact ⟨rfl, HP2.out, HF2.out⟩
set_option maxHeartbeats 1000000 in
theorem pick_help {B : Nat} {W : World} {bp bt bw : Nat} {s : PS} {sa : Nat → Option Addr} {sc : Nat → Nat} (h : PlanAt B W bp bt bw s sa sc) (w i : Nat) (hw : w < s.m) (hws : s.ws w = -1) (h1 : idx s.n s.rdy = -1) (h2 : idx s.n s.had = (i : Int)) (hi : i < s.n) (hk : 0 ≤ s.kd i ∧ s.kd i ≤ 3) (hp : 0 ≤ s.picks ∧ s.picks ≤ 1000000000)
    (he : s.kd i + 1 = 3 → (-1000000 ≤ s.left ∧ s.left ≤ 1000000) ∧ (0 ≤ s.wk i ∧ s.wk i < (s.m : Int)) ∧ (∀ x, x < s.n → -1000000 ≤ s.wt x ∧ s.wt x ≤ 1000000) ∧ (∀ x ∈ s.ln i, 0 ≤ x ∧ x < (s.n : Int)) ∧ (s.ln i).length ≤ 1000000) :
    Calls Try.prog 44 #[ptr bp, .int .i64 (w : Int)] W fun e W' => e = .returned (.tuple #[evV (s.kd i + 1) i (s.wk i), .nilIface]) ∧ PlanAt B W' bp bt bw (s.step i) sa sc ∧ Fr [bp, bt, bw] W W' := by
  have C1 := first_rdy (h.alloc (.cells #[.int .i64 0, .int .i64 0, .int .i64 0] 78))
  have C2 := fun W' (hb : Below (W.alloc (.cells #[.int .i64 0, .int .i64 0, .int .i64 0] 78)).heap.size (W.alloc (.cells #[.int .i64 0, .int .i64 0, .int .i64 0] 78)) W') => first_had ((h.alloc (.cells #[.int .i64 0, .int .i64 0, .int .i64 0] 78)).below hb)
  have C3 := fun W' (hb : Below (W.alloc (.cells #[.int .i64 0, .int .i64 0, .int .i64 0] 78)).heap.size (W.alloc (.cells #[.int .i64 0, .int .i64 0, .int .i64 0] 78)) W') => further_any ((h.alloc (.cells #[.int .i64 0, .int .i64 0, .int .i64 0] 78)).below hb) i hi hk hp he
  rw [h1] at C1
  simp only [h2] at C2
  obtain ⟨ka, hka⟩ : ∃ k, k = s.kd i + 1 := ⟨_, rfl⟩
  obtain ⟨va, hva⟩ : ∃ v, v = s.wk i := ⟨_, rfl⟩
  rw [← hka, ← hva] at C3 ⊢
  unfold ptr at C1 C2 C3
  unfold evV at C3
  unfold ptr evV
  have HC1 := Lib.hid C1
  have HC2 := Lib.hid C2
  have HC3 := Lib.hid C3
  obtain ⟨_, p1, _, _⟩ := h.pl
  have w0 := h.wr w hw
  rw [hws] at w0
  have hb := h.big
  have HG0 := Lib.hid (heap_alloc_new W (.cells #[.int .i64 0, .int .i64 0, .int .i64 0] 78))
  obtain ⟨l1, l2, l3⟩ := h.hi
  have HF0 := Lib.hid ((Fr.refl [bp, bt, bw] W).alloc (.cells #[.int .i64 0, .int .i64 0, .int .i64 0] 78))
  have e1 : ((i : Int) == -1) = false := beq_eq_false_iff_ne.2 (by omega)
  clear h C1 C2 C3 hws h1 h2 hka hva he hk hp
  go_enter Try.func44, Try.ntmps44
  go_wp2_with fail
  refine Calls.mono HC1.out ?_
  rintro e w2 ⟨rfl, hb2⟩
  have HB2 := Lib.hid hb2
  clear hb2
  go_wp2_with fail
  refine Calls.mono (HC2.out _ HB2.out) ?_
  rintro e w3 ⟨rfl, hb3⟩
  have hb4 := HB2.out.trans (hb3.mono HB2.out.size)
  have HF := Lib.hid (HF0.out.trans (Fr.of hb4))
  have HG := Lib.hid ((hb4.block W.heap.size (Array.getElem?_eq_some_iff.1 HG0.out).1).trans HG0.out)
  have HB4 := Lib.hid hb4
  clear hb3 hb4
  go_wp2_with fail
  refine Calls.mono (HC3.out _ HB4.out) ?_
  rintro e w4 ⟨rfl, hp2, hf2⟩
  have hl2 := hp2.hi
  have G2 : w4.heap[W.heap.size]? = some (.cells #[.int .i64 0, .int .i64 0, .int .i64 0] 78 (0, 0)) := (hf2.block W.heap.size (Array.getElem?_eq_some_iff.1 HG.out).1 (by simp; omega)).trans HG.out
  have q0 := cell_of_row w4 _ 0 _ 78 (0, 0) G2
  have q1 := cell_of_row w4 _ 1 _ 78 (0, 0) G2
  have q2 := cell_of_row w4 _ 2 _ 78 (0, 0) G2
  have f0 : w4.frozen? ⟨W.heap.size, 0, none⟩ = false := frozen_of_row w4 _ 0 _ 78 G2
  have f1 : w4.frozen? ⟨W.heap.size, 1, none⟩ = false := frozen_of_row w4 _ 1 _ 78 G2
  have f2 : w4.frozen? ⟨W.heap.size, 2, none⟩ = false := frozen_of_row w4 _ 2 _ 78 G2
  simp only [List.getElem?_toArray, List.getElem?_cons_zero, List.getElem?_cons_succ] at q0 q1 q2
  have HG2 := Lib.hid (ev_set (a := .int .i64 ka) (b := .int .i64 (i : Int)) (c := .int .i64 va) G2)
  have HP2 := Lib.hid (hp2.setEv G2 ⟨by omega, by omega, by omega⟩ (.int .i64 ka) (.int .i64 (i : Int)) (.int .i64 va))
  have HF2 := Lib.hid ((((HF.out.trans hf2).new ⟨W.heap.size, 0, none⟩ (.int .i64 ka) (Nat.le_refl _)).new ⟨W.heap.size, 1, none⟩ (.int .i64 (i : Int)) (Nat.le_refl _)).new ⟨W.heap.size, 2, none⟩ (.int .i64 va) (Nat.le_refl _))
  clear hp2 hf2 G2 hl2
  go_wp2_with fail
  refine bodyPost_ret (v := .tuple #[.agg #[.int .i64 ka, .int .i64 (i : Int), .int .i64 va], .nilIface]) ?_ rfl ?_
  · exact results_ev _ _ W.heap.size _ _ rfl rfl HG2.out rfl
  · exact ⟨rfl, HP2.out, HF2.out⟩
set_option maxHeartbeats 2000000 in
theorem pick_new {B : Nat} {W : World} {bp bt bw : Nat} {s : PS} {sa : Nat → Option Addr} {sc : Nat → Nat} (h : PlanAt B W bp bt bw s sa sc) (w i : Nat) (hw : w < s.m) (hws : s.ws w = -1) (h1 : idx s.n s.rdy = (i : Int)) (hi : i < s.n) (hk : s.kd i = 0) (hp : 0 ≤ s.picks ∧ s.picks ≤ 1000000000) :
    Calls Try.prog 44 #[ptr bp, .int .i64 (w : Int)] W fun e W' => e = .returned (.tuple #[evV 1 i w, .nilIface]) ∧ PlanAt B W' bp bt bw ((s.took i w).step i) sa sc ∧ Fr [bp, bt, bw] W W' := by
  have C1 := first_rdy (h.alloc (.cells #[.int .i64 0, .int .i64 0, .int .i64 0] 78))
  have C3 := fun W' (hp' : PlanAt B W' bp bt bw (s.took i w) sa sc) => further_any hp' i hi (by show 0 ≤ s.kd i ∧ s.kd i ≤ 3; omega) hp (fun e => by change s.kd i + 1 = 3 at e; omega)
  rw [h1] at C1
  have hka : (s.took i w).kd i + 1 = 1 := by show s.kd i + 1 = 1; omega
  have hva : (s.took i w).wk i = (w : Int) := upd_same _ _ _
  simp only [hka, hva] at C3
  unfold ptr at C1 C3
  unfold evV at C3
  unfold ptr evV
  have HC1 := Lib.hid C1
  have HC3 := Lib.hid C3
  have HH := Lib.hid h
  obtain ⟨_, p1, _, _⟩ := h.pl
  have w0 := h.wr w hw
  rw [hws] at w0
  have hb := h.big
  have HG0 := Lib.hid (heap_alloc_new W (.cells #[.int .i64 0, .int .i64 0, .int .i64 0] 78))
  obtain ⟨l1, l2, l3⟩ := h.hi
  have HF0 := Lib.hid ((Fr.refl [bp, bt, bw] W).alloc (.cells #[.int .i64 0, .int .i64 0, .int .i64 0] 78))
  have e1 : ((i : Int) != -1) = true := by simp
  have e2 : ((i : Int) == -1) = false := beq_eq_false_iff_ne.2 (by omega)
  clear h C1 C3 hws h1 hka hva hk hp
  go_enter Try.func44, Try.ntmps44
  go_wp2_with fail
  refine Calls.mono HC1.out ?_
  rintro e w2 ⟨rfl, hb2⟩
  have HB2 := Lib.hid hb2
  have P2 := (HH.out.alloc (.cells #[.int .i64 0, .int .i64 0, .int .i64 0] 78)).below hb2
  have HF2 := Lib.hid (HF0.out.trans (Fr.of hb2))
  have HG2 := Lib.hid ((hb2.block W.heap.size (Array.getElem?_eq_some_iff.1 HG0.out).1).trans HG0.out)
  obtain ⟨p0, p1', _, _⟩ := P2.pl
  obtain ⟨_, t1, _, _⟩ := P2.tk i hi
  have w1 := P2.wr w hw
  have tf1 := P2.tf (i * 4 + 1)
  have wf1 := P2.wf w
  obtain ⟨a1, a2, a3⟩ := P2.ap
  have a4 : bw ≠ bp := fun e => a2 e.symm
  have a5 : bw ≠ bt := fun e => a3 e.symm
  have a6 : bt ≠ bp := fun e => a1 e.symm
  obtain ⟨m1, m2, m3⟩ := P2.hi
  have b1 : (0 : Int) ≤ (w : Int) := by omega
  have b2 : (w : Int) < (s.m : Int) := by omega
  have b3 : (0 : Int) ≤ (i : Int) := by omega
  have b4 : (i : Int) < (s.n : Int) := by omega
  have HP2 := Lib.hid P2
  clear hb2 P2
  go_wp2_with fail
  go_region_held3 (fun w' => w'.cell? ⟨bp, 0, none⟩ = some (.slice (some ⟨bt, 0, none⟩) s.n s.n) ∧ w'.cell? ⟨bp, 1, none⟩ = some (.slice (some ⟨bw, 0, none⟩) s.m s.m)) (go_keep) (fail)
  rename_i hHeld
  have P3 : PlanAt B ((w2.setCell ⟨bt, i * 4 + 1, none⟩ (.int .i64 (w : Int))).setCell ⟨bw, w, none⟩ (.int .i64 (i : Int))).drew bp bt bw (s.took i w) sa sc := ((HP2.out.setWk i hi w).setWs w hw i).drew
  have F3 : Fr [bp, bt, bw] W ((w2.setCell ⟨bt, i * 4 + 1, none⟩ (.int .i64 (w : Int))).setCell ⟨bw, w, none⟩ (.int .i64 (i : Int))).drew := ((HF2.out.set _ _ (by simp)).set _ _ (by simp)).drew
  have G3 : ((w2.setCell ⟨bt, i * 4 + 1, none⟩ (.int .i64 (w : Int))).setCell ⟨bw, w, none⟩ (.int .i64 (i : Int))).drew.heap[W.heap.size]? = some (.cells #[.int .i64 0, .int .i64 0, .int .i64 0] 78 (0, 0)) :=
    (Below.heap_setCell _ _ _ _ (show W.heap.size ≠ bw by omega)).trans ((Below.heap_setCell _ _ _ _ (show W.heap.size ≠ bt by omega)).trans HG2.out)
  clear hHeld
  revert P3 F3 G3
  generalize World.drew (World.setCell (World.setCell w2 _ _) _ _) = w3
  intro P3 F3 G3
  have HP3 := Lib.hid P3
  have HF := Lib.hid F3
  have HG := Lib.hid G3
  clear P3 F3 G3 p0 p1' t1 w1 tf1 wf1 HP2 HF2 HG2
  go_wp2_with fail
  refine Calls.mono (HC3.out _ HP3.out) ?_
  rintro e w4 ⟨rfl, hp2, hf2⟩
  have hl2 := hp2.hi
  have G2 : w4.heap[W.heap.size]? = some (.cells #[.int .i64 0, .int .i64 0, .int .i64 0] 78 (0, 0)) := (hf2.block W.heap.size (Array.getElem?_eq_some_iff.1 HG.out).1 (by simp; omega)).trans HG.out
  have q0 := cell_of_row w4 _ 0 _ 78 (0, 0) G2
  have q1 := cell_of_row w4 _ 1 _ 78 (0, 0) G2
  have q2 := cell_of_row w4 _ 2 _ 78 (0, 0) G2
  have f0 : w4.frozen? ⟨W.heap.size, 0, none⟩ = false := frozen_of_row w4 _ 0 _ 78 G2
  have f1 : w4.frozen? ⟨W.heap.size, 1, none⟩ = false := frozen_of_row w4 _ 1 _ 78 G2
  have f2 : w4.frozen? ⟨W.heap.size, 2, none⟩ = false := frozen_of_row w4 _ 2 _ 78 G2
  simp only [List.getElem?_toArray, List.getElem?_cons_zero, List.getElem?_cons_succ] at q0 q1 q2
  have HG2 := Lib.hid (ev_set (a := .int .i64 1) (b := .int .i64 (i : Int)) (c := .int .i64 (w : Int)) G2)
  have HP2 := Lib.hid (hp2.setEv G2 ⟨by omega, by omega, by omega⟩ (.int .i64 1) (.int .i64 (i : Int)) (.int .i64 (w : Int)))
  have HF2 := Lib.hid ((((HF.out.trans hf2).new ⟨W.heap.size, 0, none⟩ (.int .i64 1) (Nat.le_refl _)).new ⟨W.heap.size, 1, none⟩ (.int .i64 (i : Int)) (Nat.le_refl _)).new ⟨W.heap.size, 2, none⟩ (.int .i64 (w : Int)) (Nat.le_refl _))
  clear hp2 hf2 G2 hl2
  go_wp2_with fail
  refine bodyPost_ret (v := .tuple #[.agg #[.int .i64 1, .int .i64 (i : Int), .int .i64 (w : Int)], .nilIface]) ?_ rfl ?_
  · exact results_ev _ _ W.heap.size _ _ rfl rfl HG2.out rfl
  · exact ⟨rfl, HP2.out, HF2.out⟩
/-- What always stands is small. -/
theorem Inv.small {ls : List (List Int)} {s : PS} (h : Inv ls s) (hS : ∀ i, (ls.getD i []).length ≤ 1000) (hn : s.n ≤ 1000000) {i : Nat} (hi : i < s.n) (hw : s.wk i ≠ -1) :
    (-1000000 ≤ s.left ∧ s.left ≤ 1000000) ∧ (0 ≤ s.wk i ∧ s.wk i < (s.m : Int)) ∧ (∀ x, x < s.n → -1000000 ≤ s.wt x ∧ s.wt x ≤ 1000000) ∧ (∀ x ∈ s.ln i, 0 ≤ x ∧ x < (s.n : Int)) ∧ (s.ln i).length ≤ 1000000 := by
  have h3 : s.kd i ≠ 3 := fun e => hw ((h.has i hi).2 (.inr e))
  refine ⟨?_, ⟨(h.wk i hi hw).1, (h.wk i hi hw).2.1⟩, fun x hx => ?_, ?_, ?_⟩
  · have := h.left
    have h2 := List.length_filter_le (fun i => !decide (s.kd i = 3)) (List.range s.n)
    rw [List.length_range] at h2
    omega
  · have := h.wt x hx
    have h2 := List.length_filter_le (fun j : Int => !decide (s.kd j.toNat = 3)) (ls.getD x [])
    have := hS x
    omega
  · rw [h.ln i hi h3]
    simp only [List.mem_map, List.mem_filter, List.mem_range]
    rintro x ⟨y, ⟨hy, _⟩, rfl⟩
    exact ⟨Int.natCast_nonneg y, by show (y : Int) < _; omega⟩
  · rw [h.ln i hi h3, List.length_map]
    have h2 := List.length_filter_le (fun k => decide ((i : Int) ∈ ls.getD k [])) (List.range s.n)
    rw [List.length_range] at h2
    omega
/-- A pick of a plan as it always stands. -/
theorem pick_any {B : Nat} {W : World} {bp bt bw : Nat} {s : PS} {sa : Nat → Option Addr} {sc : Nat → Nat} {ls : List (List Int)} (h : PlanAt B W bp bt bw s sa sc) (hI : Inv ls s) (hS : ∀ i, (ls.getD i []).length ≤ 1000) (hp : 0 ≤ s.picks ∧ s.picks ≤ 1000000000) (w : Int) :
    Calls Try.prog 44 #[ptr bp, .int .i64 w] W fun e W' => e = .returned (outV (s.pick w).2) ∧ PlanAt B W' bp bt bw (s.pick w).1 sa sc ∧ Fr [bp, bt, bw] W W' := by
  have hn := h.big.1
  unfold PS.pick
  by_cases h0 : w < 0 ∨ (s.m : Int) ≤ w
  · rw [if_pos h0]; exact pick_range h w h0
  rw [if_neg h0]
  obtain ⟨k, rfl⟩ : ∃ k : Nat, w = (k : Int) := ⟨w.toNat, by omega⟩
  have hk : k < s.m := by omega
  rw [Int.toNat_natCast]
  by_cases h1 : s.ws k ≠ -1
  · rw [if_pos h1]
    obtain ⟨a, b, c⟩ := hI.ws k hk h1
    obtain ⟨i, hi⟩ : ∃ i : Nat, s.ws k = (i : Int) := ⟨(s.ws k).toNat, by omega⟩
    rw [hi, Int.toNat_natCast] at c ⊢
    have hin : i < s.n := by omega
    exact pick_has h k i hk hi hin (hI.kd i hin) hp fun _ => hI.small hS hn hin (by omega)
  rw [if_neg h1]
  have h1' : s.ws k = -1 := by omega
  by_cases h2 : idx s.n s.rdy ≠ -1
  · rw [if_pos h2]
    rcases idx_cases s.n s.rdy with ⟨i, hi, he, hr, _⟩ | ⟨he, _⟩
    · have h0 := ((hI.ready hi).1 hr).1
      rw [he, Int.toNat_natCast]
      have C := pick_new h k i hk h1' he hi h0 hp
      unfold PS.act
      have e1 : (s.took i k).kd i + 1 = 1 := by show s.kd i + 1 = 1; omega
      have e2 : (s.took i k).wk i = (k : Int) := upd_same _ _ _
      rw [e1, e2]
      exact C
    · exact absurd he h2
  rw [if_neg h2]
  have h2' : idx s.n s.rdy = -1 := by omega
  by_cases h3 : idx s.n s.had ≠ -1
  · rw [if_pos h3]
    rcases idx_cases s.n s.had with ⟨i, hi, he, hr, _⟩ | ⟨he, _⟩
    · have hw : s.wk i ≠ -1 := by simpa [PS.had] using hr
      rw [he, Int.toNat_natCast]
      exact pick_help h k i hk h1' h2' he hi (hI.kd i hi) hp fun _ => hI.small hS hn hi hw
    · exact absurd he h3
  rw [if_neg h3]
  exact pick_none h k hk h1' h2' (by omega)
end Go.Proofs.Ytgdkgoiagjjccaa
