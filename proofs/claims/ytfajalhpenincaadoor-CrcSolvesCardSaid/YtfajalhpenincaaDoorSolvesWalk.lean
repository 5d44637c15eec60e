/- CrcSolves answers true of whatever text and sum. -/
import Derived.Test.YtfajalhpenincaaDoorSolve
import Derived.Test.YtfajalhpenincaaDoorRef
import Derived.Test.YtfajalhpenincaaDoorPartsWalk
import Derived.Deep.RegionHeld3
import Derived.Deep.RegionWith
import Derived.Deep.RegionLaw
namespace Go.Proofs.YtfajalhpenincaaDoor
open Go.RowKit

theorem step_append_bts {w : World} {ops : Array Oper} {o : Oper} {a : Act} {K : Act → World → Prop} {Q : Exit → Act → World → Prop} {E : Prop} (hw : Region.wanted o (yielded ops a.tmps) = true) (s x : Operand)
    (ho : o.op = .call { callee := .builtin .append, args := #[s, x], argTypes := #[22, 22] })
    (B : Nat) (v : Value) (xs : List Nat) (hs : a.eval s = v) (hown : Own w B v xs)
    (A : Option Addr) (m c : Nat) (ys : List Nat) (hx : a.eval x = .slice A m c) (hr : Bts w A m ys) (hnil : A = none → c = 0)
    (hlen : xs.length + m ≤ 140737488355328) (hbase : B ≤ w.heap.size)
    (h : ∀ v' w', Own w' B v' (xs ++ ys) → Below B w w' → K (a.put o.dst v') w') : if Region.wanted o (yielded ops a.tmps) = true then Oper.wp Tryd.prog o a w K Q else E := by
  rw [if_pos hw]
  obtain ⟨i0, hi, hz0, hz1, hz2⟩ := info_parts u8_info
  obtain ⟨hl, _, hc⟩ := hr
  rcases A with _ | ad
  · have hm : m = 0 := by
      rcases Nat.eq_zero_or_pos m with h0 | h0
      · exact h0
      · obtain ⟨b, off, h1, _⟩ := hc h0; cases h1
    have hc0 := hnil rfl
    subst hm hc0
    have hy : ys = [] := List.eq_nil_of_length_eq_zero hl
    subst hy
    have hrun := run_append_owned_none (P := Tryd.prog) (w := w) B 22 o.type 5 i0 1 Tryd.underlying22 hi v xs.length (vals xs) hown
    have h2 := h v w (by rw [List.append_nil]; exact hown) (Below.refl _ _)
    unfold Oper.wp
    simp [execOp, ho, resolve, invoke, builtin, hs, hx, hrun, Result.andThen]
    exact h2
  · refine wp_append_own w s x 22 ho B 5 i0 (.int .u8 0) 1 1 Tryd.underlying22 hi hz0 hz1 hz2 rfl (by decide) v xs.length (vals xs) hs hown ad m c (vals ys) hx (by rw [vals_length, hl, Nat.mul_one]) ?_ (vals_one ys)
      (by unfold maxLen; omega) (by omega) hbase ?_
    · intro j u hu
      obtain ⟨hj, rfl⟩ := vals_at ys j u hu
      obtain ⟨b, off, h1, h2⟩ := hc (by omega)
      have h3 := h2 j (by omega)
      injection h1 with h1
      subst h1
      rw [addr_add]
      exact h3
    · intro v' w' h1 h2 _
      refine h v' w' (own_of_row (n := xs.length + m) (by rw [vals_append]; exact h1) (by simp [hl])) ?_
      exact (Below.refl B w).grown h2 hbase (fun k hk => (hown.lt k hk).1)

theorem own_fresh (w : World) (B : Nat) (h : B ≤ w.heap.size) : Own (w.alloc (.cells #[] 5)).drew B (.slice (some ⟨w.heap.size, 0, none⟩) 0 0) [] := by
  refine ⟨rfl, .inr ⟨_, _, _, rfl, h, (heap_alloc_new w (.cells #[] 5)), Nat.le_refl _, by unfold maxLen; omega, rfl, rfl⟩⟩

set_option maxHeartbeats 1000000 in
theorem solves_any (A : Option Addr) (n c : Nat) (xs : List Nat) (t : Nat) (w : World)
    (ha : Bts w A n xs) (hnil : A = none → c = 0) (ht : t < 4294967296) (hT : Tab w) (hn : n ≤ 9223372036854775807) :
    Calls Tryd.prog 6 #[.slice A n c, .int .u32 (t : Int)] w fun e w' => e = .returned (.bool true) ∧ Below w.heap.size w w' := by
  have HA := Lib.hid (alive_any w hT)
  by_cases h1 : 3000 < n
  · go_enter Tryd.func6, Tryd.ntmps6
    go_wp2_with fail
    refine Calls.mono HA.out ?_
    rintro e w1 ⟨rfl, hb1⟩
    go_wp2_with fail
    go_ret
    exact ⟨rfl, hb1⟩
  have hl := ha.1
  have hsx := ha.2.1
  have HL := Lib.hid hl
  clear hl
  obtain ⟨s, hs⟩ : ∃ s, s = addN 0 xs := ⟨_, rfl⟩
  have hs32 : s < 4294967296 := by rw [hs]; exact addN_lt (by decide) hsx
  have HS := Lib.hid hs
  clear hs
  go_enter Tryd.func6, Tryd.ntmps6
  go_wp2_with fail
  refine Calls.mono HA.out ?_
  rintro e w1 ⟨rfl, hb1⟩
  go_wp2_with fail
  have hbw1 := hb1.alloc hb1.size (.cells #[.slice A n c] 22)
  have hS : sumL 0 [xs] = s := HS.out.symm
  have C1 := sum_any _ 1 1 [xs] _ (rws_one w1 A n c xs (ha.ext (stays_below hb1)) hn) (hT.ext (stays_below hbw1)) (by decide)
  rw [hS] at C1
  refine Calls.mono C1 ?_
  rintro e w2 ⟨rfl, rfl⟩
  clear C1 hS
  go_wp2_with fail
  refine Calls.mono (solve_any s t hs32 ht _) ?_
  rintro e w2 ⟨rfl, hb2⟩
  have hbw2 : Below w.heap.size w w2 := hbw1.trans (hb2.mono hbw1.size)
  have hsol := solved hs32 ht
  obtain ⟨v, hv⟩ : ∃ v, v = word s t := ⟨_, rfl⟩
  rw [← hv] at hsol ⊢
  have HV := Lib.hid hsol
  clear hv hb1 hbw1 hb2 hsol
  go_wp2_with fail
  have hfour : Small [xb v 0, xb v 1, xb v 2, xb v 3] := by
    intro z hz
    simp at hz
    rcases hz with rfl | rfl | rfl | rfl <;> exact xb_lt _ _
  have hbw3 : Below w.heap.size w (w2.alloc (.cells #[.int .u8 ((xb v 0 : Nat) : Int), .int .u8 ((xb v 1 : Nat) : Int), .int .u8 ((xb v 2 : Nat) : Int), .int .u8 ((xb v 3 : Nat) : Int)] 35)) := hbw2.alloc hbw2.size _
  have hsz3 := hbw3.size
  have hq := bts_at w2 [xb v 0, xb v 1, xb v 2, xb v 3] 35 (0, 0) _ w2.heap.size 4 rfl rfl rfl hfour
  obtain ⟨w3, hw3⟩ : ∃ w3, w3 = w2.alloc (.cells #[.int .u8 ((xb v 0 : Nat) : Int), .int .u8 ((xb v 1 : Nat) : Int), .int .u8 ((xb v 2 : Nat) : Int), .int .u8 ((xb v 3 : Nat) : Int)] 35) := ⟨_, rfl⟩
  rw [← hw3] at hbw3 hsz3
  have hq3 : Bts w3 (some ⟨w2.heap.size, 0, none⟩) 4 [xb v 0, xb v 1, xb v 2, xb v 3] := by rw [hw3]; exact hq
  rw [← hw3]
  clear hq hw3
  have hw5 : Below w.heap.size w (w3.alloc (.cells #[.slice A n c, .slice (some ⟨w2.heap.size, 0, none⟩) 4 4] 22)).drew := (hbw3.alloc hsz3 _).drew
  have hsum : sumL 0 [xs, [xb v 0, xb v 1, xb v 2, xb v 3]] = t := by
    show addN (addN 0 xs) _ = t
    rw [← HS.out]; exact HV.out
  have C1 := sum_any (some ⟨w3.heap.size, 0, none⟩) 2 2 [xs, [xb v 0, xb v 1, xb v 2, xb v 3]] (w3.alloc (.cells #[.slice A n c, .slice (some ⟨w2.heap.size, 0, none⟩) 4 4] 22)).drew
    (rws_new w3 _ 22 _ 2 rfl _ rfl (fun j hj => by
      match j, hj with
      | 0, _ => exact ⟨_, _, _, rfl, ha.ext (stays_below hbw3), hn⟩
      | 1, _ => exact ⟨_, _, _, rfl, hq3, by decide⟩)) (hT.ext (stays_below hw5)) (by decide)
  rw [hsum] at C1
  have D1 := Lib.hid C1
  have hqz : addN 0 ([] ++ xs ++ [xb v 0, xb v 1, xb v 2, xb v 3]) = t := by rw [List.nil_append, addN_append, ← HS.out]; exact HV.out
  have HQZ := Lib.hid hqz
  clear C1 hsum hqz
  have hq5 : ∀ W, Below w3.heap.size w3 W → Bts W (some ⟨w2.heap.size, 0, none⟩) 4 [xb v 0, xb v 1, xb v 2, xb v 3] := fun W hb => hq3.ext (stays_below hb)
  have ha5 : ∀ W, Below w3.heap.size w3 W → Bts W A n xs := fun W hb => ha.ext (stays_below (hbw3.trans (hb.mono hsz3)))
  have b0 : Below w3.heap.size w3 ((w3.alloc (.cells #[.slice A n c, .slice (some ⟨w2.heap.size, 0, none⟩) 4 4] 22)).alloc (.cells #[] 5)).drew := (((Below.refl _ w3).alloc (Nat.le_refl _) _).alloc (by simp) _).drew
  have HB0 := Lib.hid b0
  have HQ5 := Lib.hid hq5
  have HA5 := Lib.hid ha5
  clear b0 hq5 ha5 hw5
  have hown0 := own_fresh (w3.alloc (.cells #[.slice A n c, .slice (some ⟨w2.heap.size, 0, none⟩) 4 4] 22)) w3.heap.size (by simp)
  rw [show (w3.alloc (.cells #[.slice A n c, .slice (some ⟨w2.heap.size, 0, none⟩) 4 4] 22)).heap.size = w3.heap.size + 1 by simp] at hown0
  have OW0 := Lib.hid hown0
  clear hown0
  have r1 : ∀ v6 w6, Own w6 w3.heap.size v6 ([] ++ xs ++ [xb v 0, xb v 1, xb v 2, xb v 3]) → Calls Tryd.prog 11 #[v6] w6 fun e w' => e = .returned (.int .u32 (t : Int)) ∧ w6 = w' := by
    intro v6 w6 h6
    obtain ⟨A6, c6, rfl, hb6, _⟩ := h6.bts (by
      intro z hz
      rw [List.nil_append] at hz
      rcases List.mem_append.1 hz with hz | hz
      · exact hsx z hz
      · exact hfour z hz)
    have C := rsum_any A6 _ c6 _ w6 hb6 (by
      have := HL.out
      simp only [List.nil_append, List.length_append, List.length_cons, List.length_nil]
      omega)
    rw [HQZ.out] at C
    exact C
  have R1 := Lib.hid r1
  clear r1
  go_region_law (first | (refine step_append_bts (by simp [Region.wanted, yielded]) (.tmp 23) (.tmp 24) rfl w3.heap.size _ [] rfl OW0.out A n c xs rfl (HA5.out _ HB0.out) hnil (by show 0 + n ≤ _; omega) (by simp; omega) ?_; intro v5 w5 hown5 hb5; have hbw5 : Below w3.heap.size w3 w5 := HB0.out.trans hb5) | (refine step_append_bts (by simp [Region.wanted, yielded]) (.tmp 25) (.tmp 26) rfl w3.heap.size _ _ rfl hown5 _ 4 4 [xb v 0, xb v 1, xb v 2, xb v 3] rfl (HQ5.out _ hbw5) (by intro h; cases h) (by have := HL.out; simp only [List.nil_append]; omega) hbw5.size ?_; intro v6 w6 hown6 hb6; have hbw6 : Below w3.heap.size w3 w6 := hbw5.trans hb6) | (go_simp; go_at_call 12; refine Calls.mono D1.out ?_; rintro e w9 ⟨rfl, rfl⟩) | (go_simp; go_at_call 11; refine Calls.mono (R1.out _ _ hown6) ?_; rintro e w9 ⟨rfl, rfl⟩))
  have hend : Below w.heap.size w w6 := hbw3.trans (hbw6.mono hsz3)
  go_wp2_with fail
  go_ret
  exact ⟨rfl, hend⟩
end Go.Proofs.YtfajalhpenincaaDoor
