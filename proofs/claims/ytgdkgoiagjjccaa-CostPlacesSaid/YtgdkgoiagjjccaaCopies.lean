/- CostPlaces answers true of whatever policy, number and transaction: where neither list is too long. -/
import Derived.Test.YtgdkgoiagjjccaaRowW
import Derived.Test.YtgdkgoiagjjccaaWithin
import Derived.Deep.RegionHeld3
import Derived.Deep.CutRange
namespace Go.Proofs.Ytgdkgoiagjjccaa
set_option maxRecDepth 100000
open Go.RowKit

theorem run_append_empty {P : Program} {t e : TypeId} {size bytes : Nat} (E : ElemT P t e size bytes) (w : World) (ty : TypeId) (p : Addr)
    (A : Option Addr) (m c : Nat) (ys : List Value) (hr : Rdv w A m size ys) (hnil : A = none → c = 0) (hmx : m ≤ maxLen) (hby : m * bytes ≤ 140737488355328) :
    ∃ A' c' w', (Builtin.append_ #[t, t] ty #[.slice (some p) 0 0, .slice A m c]).run P w = .ok (.slice A' m c') w' ∧ Rdv w' A' m size ys ∧ (A' = none → c' = 0) ∧ m ≤ c' ∧ Below w.heap.size w w' := by
  obtain ⟨ht, hinfo, ⟨i, z, hi, hz, hzs⟩, hpos⟩ := E
  rw [hi] at hinfo
  simp at hinfo
  obtain ⟨hl, hc⟩ := hr
  by_cases hm : m = 0
  · subst hm
    have hy : ys = [] := List.eq_nil_of_length_eq_zero (by rw [hl]; simp)
    subst hy
    refine ⟨some p, 0, w, ?_, ⟨by simp, fun h => absurd h (by omega)⟩, (fun h => by cases h), Nat.le_refl _, Below.refl _ _⟩
    rcases A with _ | ad
    · simp [Builtin.append_, run_underlying ht, sizeOf, typeInfo, hi, Builtin.lenOf, Builtin.firstCells, loadCells, loadCellsFrom, storeCells, hnil rfl]
    · simp [Builtin.append_, run_underlying ht, sizeOf, typeInfo, hi, Builtin.lenOf, Builtin.firstCells, loadCells, loadCellsFrom, storeCells]
  · obtain ⟨b, off, rfl, h5⟩ := hc (by omega)
    have hnews : ∀ j u, ys[j]? = some u → w.cell? ((⟨b, off, none⟩ : Addr).add j) = some u := fun j u hj => by rw [addr_plus]; exact h5 j u hj
    have hrun := run_append_grow (P := P) w t ty e i z ht hi hz p 0 0 [] (by simp) (fun j u hj => by simp at hj) ⟨b, off, none⟩ m c ys (by rw [hl, hinfo.1]) hnews (by omega) (by unfold maxLen at hmx; omega) (growslice_fits (by unfold maxLen at hmx; omega) (by rw [hinfo.2, Nat.zero_add]; exact hby))
    rw [Nat.zero_add] at hrun
    refine ⟨_, _, _, hrun, ⟨hl, fun _ => ⟨_, _, rfl, fun j u hj => ?_⟩⟩, (fun h => by cases h), ?_, ?_⟩
    · have hg : (w.drew.alloc (.cells (#[] ++ ys.toArray ++ Builtin.zeroCells z.cells (grownCap w m 0 e - m)) e)).heap[w.heap.size]? = some (.cells (#[] ++ ys.toArray ++ Builtin.zeroCells z.cells (grownCap w m 0 e - m)) e (0, 0)) := heap_alloc_new w.drew _
      rw [Nat.zero_add, cell_of_row _ _ j _ e (0, 0) hg]
      have hlt : j < ys.length := by
        rcases Nat.lt_or_ge j ys.length with h' | h'
        · exact h'
        · rw [List.getElem?_eq_none h'] at hj; cases hj
      have e1 : #[] ++ ys.toArray = ys.toArray := by simp
      rw [e1, Array.getElem?_append_left (by simpa using hlt)]
      simpa using hj
    · have := grownCap_ge w m 0 e; omega
    · exact ((Below.refl _ w).drew).alloc (Nat.le_refl _) _
theorem step_append_empty {P : Program} {t e : TypeId} {size bytes : Nat} (E : ElemT P t e size bytes) {w : World} {ops : Array Oper} {o : Oper} {a : Act} {K : Act → World → Prop} {Q : Exit → Act → World → Prop} {F : Prop}
    (hw : Region.wanted o (yielded ops a.tmps) = true) (s x : Operand)
    (ho : o.op = .call { callee := .builtin .append, args := #[s, x], argTypes := #[t, t] })
    (p : Addr) (hs : a.eval s = .slice (some p) 0 0)
    (A : Option Addr) (m c : Nat) (ys : List Value) (hx : a.eval x = .slice A m c) (hr : Rdv w A m size ys) (hnil : A = none → c = 0) (hmx : m ≤ maxLen) (hby : m * bytes ≤ 140737488355328)
    (h : ∀ A' c' w', Rdv w' A' m size ys → (A' = none → c' = 0) → m ≤ c' → Below w.heap.size w w' → K (a.put o.dst (.slice A' m c')) w') : if Region.wanted o (yielded ops a.tmps) = true then Oper.wp P o a w K Q else F := by
  rw [if_pos hw]
  obtain ⟨A', c', w', hrun, h2, h3, h4, h5⟩ := run_append_empty E w o.type p A m c ys hr hnil hmx hby
  have h6 := h A' c' w' h2 h3 h4 h5
  unfold Oper.wp
  simp [execOp, ho, resolve, invoke, builtin, hs, hx, hrun, Result.andThen]
  exact h6
theorem as34 (k : Int) (w : World) : (Instr.typeAssert (.iface 34 (.int .i64 k)) 28 34 true).run Try.prog w = .ok (.tuple #[.int .i64 k, .bool true]) w := by kernel_rfl
set_option maxHeartbeats 1000000 in
theorem num_range (w : World) : Calls Try.prog 23 #[.iface 34 (.int .i64 1)] w fun e w' => e = .returned (.int .i64 1) ∧ w = w' := by
  have h1 := as34 1
  go_enter Try.func23, Try.ntmps23
  go_wp2
  refine wp_loop_rounds 1 ?_
  rw [rounds_succ]
  go_wp2
  go_ret
  exact ⟨rfl, rfl⟩
def headW (ws : List (Int × Int × Int × Bool)) : Int × Int × Int × Bool := ws.headD (0, 0, 0, false)
theorem Wrs.wr0 {w : World} {A : Option Addr} {n : Nat} {ws : List (Int × Int × Int × Bool)} (h : Wrs w A n ws) : Wr0 w A n (headW ws).1 (headW ws).2.1 := by
  intro hn
  obtain ⟨hl, hc⟩ := h
  obtain ⟨b, off, e, hj⟩ := hc hn
  have h1 := hj 0 (by omega)
  have e0 : ws[0]'(by omega) = headW ws := by
    cases ws with
    | nil => simp at hl; omega
    | cons q ws => rfl
  rw [e0] at h1
  exact ⟨b, off, e, by simpa using h1.1, by simpa using h1.2.1⟩
theorem held_trans2 {w7 w' w'' : World} (h : Below w7.heap.size w7 w') (k : Below w'.heap.size w' w'') : Below w7.heap.size w7 w'' := h.trans (k.mono h.size)
theorem held_go {w1 w' w'' : World} (h : Below w1.heap.size w1 w') (k : Below w'.heap.size w' w'') : Below w1.heap.size w1 w'' := h.trans (k.mono h.size)

set_option maxHeartbeats 4000000 in
theorem places_any (B C F W P seq : Int) (A : Option Addr) (n c : Nat) (A2 : Option Addr) (m c2 : Nat) (ws : List (Int × Int × Int × Bool)) (xs : List Int) (hs : Fits seq) (w : World) (hw : Wrs w A n ws) (hr : Nums w A2 m xs) (hn : n ≤ 9223372036854775807) (hm : m ≤ 9223372036854775807) (hnil : A = none → c = 0) (hnil2 : A2 = none → c2 = 0) (h40 : ¬ 40 < n) (h41 : ¬ 40 < m) :
    Calls Try.prog 4 #[polV B C F W P, .int .i64 seq, .agg #[.slice A n c, .slice A2 m c2]] w fun e w' => e = .returned (.bool true) ∧ Below w.heap.size w w' := by
  have HA := Lib.hid (fun w => alive_any w)
  have HB := Lib.hid (ww_below w B C F W P A n c A2 m c2)
  have HP := Lib.hid (ww_pb w B C F W P A n c A2 m c2)
  have HX := Lib.hid (ww_xb w B C F W P A n c A2 m c2)
  have HW := Lib.hid hw
  have HR := Lib.hid hr
  have HS := Lib.hid hs
  clear hw hr hs
  go_enter Try.func4, Try.ntmps4
  go_wp2_with fail
  refine Calls.mono (HA.out _) ?_
  rintro e w1 ⟨rfl, hb1⟩
  have hx1 := HX.out.below hb1 HX.out.lt
  have x0 := hx1.c0
  have x1 := hx1.c1
  have HE := Lib.hid (HB.out.trans (hb1.mono HB.out.size))
  have HP1 := Lib.hid (HP.out.below hb1 HP.out.lt)
  have HX1 := Lib.hid hx1
  have HW1 := Lib.hid (HW.out.ext (stays_w HE.out))
  have HR1 := Lib.hid (HR.out.ext (stays_w HE.out))
  clear hb1 hx1 HW HR
  go_upto_region 5 with fail
  go_cut [7, 8] from 25 to 32 (fun a b wx => ∃ A3 c3 A4 c4, a = .slice A3 n c3 ∧ b = .slice A4 m c4 ∧ Wrs wx A3 n ws ∧ Nums wx A4 m xs ∧ Below w1.heap.size w1 wx)
  case first =>
    have hl := HX1.out.lt
    have Xa := Lib.hid (show Below w1.heap.size w1 (w1.alloc (.cells #[] 106)).drew from ((Below.refl _ w1).alloc (Nat.le_refl _) _).drew)
    have Xab := Lib.hid (show Below w1.heap.size w1 ((w1.alloc (.cells #[] 106)).alloc (.cells #[] 3)).drew from (((Below.refl _ w1).alloc (Nat.le_refl _) _).alloc (by simp) _).drew)
    have Xb := Lib.hid (show Below w1.heap.size w1 (w1.alloc (.cells #[] 3)).drew from ((Below.refl _ w1).alloc (Nat.le_refl _) _).drew)
    have Xba := Lib.hid (show Below w1.heap.size w1 ((w1.alloc (.cells #[] 3)).alloc (.cells #[] 106)).drew from (((Below.refl _ w1).alloc (Nat.le_refl _) _).alloc (by simp) _).drew)
    have HRW := Lib.hid (rdv_wrs HW1.out)
    have HRX := Lib.hid (rdv_nums HR1.out)
    have HF := Lib.hid HR1.out.2.1
    have HSO := Lib.hid (show ∀ w', Below w1.heap.size w1 w' → (w'.cell? ⟨w.heap.size + 1, 0, none⟩ = some (.slice A n c) ∧ w'.cell? ⟨w.heap.size + 1, 1, none⟩ = some (.slice A2 m c2) ∧ Below w1.heap.size w1 w') from fun w' h => ⟨(h.cell (p := ⟨w.heap.size + 1, 0, none⟩) hl).trans x0, (h.cell (p := ⟨w.heap.size + 1, 1, none⟩) hl).trans x1, h⟩)
    go_wp2_with fail
    go_region_held3 (fun w' => w'.cell? ⟨w.heap.size + 1, 0, none⟩ = some (.slice A n c) ∧ w'.cell? ⟨w.heap.size + 1, 1, none⟩ = some (.slice A2 m c2) ∧ Below w1.heap.size w1 w')
      (first | exact HSO.out _ (Below.refl _ w1).drew | exact HSO.out _ Xa.out | exact HSO.out _ Xab.out | exact HSO.out _ Xb.out | exact HSO.out _ Xba.out | exact HSO.out _ hbC | exact HSO.out _ (hbC.alloc hbC.size _) | go_keep)
      (first | (refine step_append_empty elem37 (by simp [Region.wanted]) (.tmp 25) (.tmp 27) rfl _ rfl A n c (valsW ws) rfl (HRW.out.ext (stays_w (by first | exact Xa.out | exact Xab.out | exact Xba.out | exact hbC | exact hbC.alloc hbC.size _))) hnil (by unfold maxLen; omega) (by omega) ?_; intro A7 c7 w7 hr7 hn7 hc7 hb7; have hbC := held_go (by first | exact Xa.out | exact Xab.out | exact Xba.out | exact hbC | exact hbC.alloc hbC.size _) hb7) | (refine step_append_empty elem38 (by simp [Region.wanted]) (.tmp 29) (.tmp 31) rfl _ rfl A2 m c2 (valsZ xs) rfl (HRX.out.ext (stays_w (by first | exact Xb.out | exact Xab.out | exact Xba.out | exact hbC | exact hbC.alloc hbC.size _))) hnil2 (by unfold maxLen; omega) (by omega) ?_; intro A8 c8 w8 hr8 hn8 hc8 hb8; have hbC := held_go (by first | exact Xb.out | exact Xab.out | exact Xba.out | exact hbC | exact hbC.alloc hbC.size _) hb8))
    all_goals
      clear HSO HRW HRX Xa Xab Xb Xba x0 x1
      go_wp2_with fail
      go_meet
      case rel => exact ⟨A7, c7, A8, c8, rfl, rfl, wrs_rdv (by first | exact hr7 | exact hr7.ext (stays_w hb8) | exact hr7.ext (stays_w (((Below.refl _ w7).alloc (Nat.le_refl _) _).trans (hb8.mono (by simp))))), nums_rdv (by first | exact hr8 | exact hr8.ext (stays_w hb7) | exact hr8.ext (stays_w (((Below.refl _ w8).alloc (Nat.le_refl _) _).trans (hb7.mono (by simp))))) HF.out, hbC⟩
  case rest =>
    obtain ⟨A7, c7, A8, c8, rfl, rfl, hw7, hn8, hbw⟩ := hcut
    have key : ∃ (t : Int) (e1 : Value) (q : Int), (∀ w', Wrs w' A7 n ws → Nums w' A8 m xs → Calls Try.prog 21 #[polV B C F W P, .int .i64 seq, .slice A7 n c7, .slice A8 m c8] w' fun e w'' => e = .returned (.tuple #[.int .i64 t, e1]) ∧ Below w'.heap.size w' w'') ∧
        (∀ w', Wrs w' A n ws → Nums w' A2 m xs → Calls Try.prog 22 #[polV B C F W P, .int .i64 seq, .slice A n c, .slice A2 m c2] w' fun e w'' => e = .returned (.tuple #[.int .i64 t, .int .i64 q]) ∧ Below w'.heap.size w' w'') ∧
        (∀ w', Calls Try.prog 23 #[e1] w' fun e w'' => e = .returned (.int .i64 q) ∧ w' = w'') := by
      by_cases hok : plOk P seq m
      · obtain ⟨k, hk⟩ := best_ex xs m (by have := hok.2.2.2.1; omega)
        exact ⟨plZ P seq m n (headW ws).1 (headW ws).2.1 k, .nilIface, 0, fun w' h1 h2 => place_yes B C F W P seq A7 n c7 A8 m c8 _ _ xs k hok HS.out hk w' h1.wr0 h2,
          fun w' h1 h2 => ref_yes B C F W P seq A n c A2 m c2 _ _ xs k hok HS.out hk w' h1.wr0 h2 hn, fun w' => num_nil w'⟩
      · exact ⟨0, .iface 34 (.int .i64 1), 1, fun w' _ _ => place_no B C F W P seq A7 n c7 A8 m c8 hok w', fun w' _ _ => ref_no B C F W P seq A n c A2 m c2 hok w', fun w' => num_range w'⟩
    obtain ⟨t, e1, q, C1, C2, C3⟩ := key
    have HC1 := Lib.hid C1
    have HC2 := Lib.hid C2
    have HC3 := Lib.hid C3
    have HWc := Lib.hid (HW1.out.ext (stays_w hbw))
    have HRc := Lib.hid (HR1.out.ext (stays_w hbw))
    have HW7 := Lib.hid hw7
    have HN8 := Lib.hid hn8
    have hpc := HP1.out.below hbw HP1.out.lt
    have hxc := HX1.out.below hbw HX1.out.lt
    have k0 := hpc.c0
    have k1 := hpc.c1
    have k2 := hpc.c2
    have k3 := hpc.c3
    have k4 := hpc.c4
    have x0 := hxc.c0
    have x1 := hxc.c1
    have HPc := Lib.hid hpc
    have HXc := Lib.hid hxc
    have HEc := Lib.hid (HE.out.trans (hbw.mono HE.out.size))
    clear C1 C2 C3 hw7 hn8 hbw hpc hxc HW1 HR1 HP1 HX1 HP HX HB HS
    go_wp2_with fail
    refine Calls.mono (HC1.out _ HW7.out HN8.out) ?_
    rintro e w2 ⟨rfl, hb2⟩
    have hpc := HPc.out.below hb2 HPc.out.lt
    have hxc := HXc.out.below hb2 HXc.out.lt
    clear k0 k1 k2 k3 k4 x0 x1
    have k0 := hpc.c0
    have k1 := hpc.c1
    have k2 := hpc.c2
    have k3 := hpc.c3
    have k4 := hpc.c4
    have x0 := hxc.c0
    have x1 := hxc.c1
    have HP2 := Lib.hid hpc
    have HX2 := Lib.hid hxc
    have HW2 := Lib.hid (HWc.out.ext (stays_w hb2))
    have HR2 := Lib.hid (HRc.out.ext (stays_w hb2))
    have HA2 := Lib.hid (HW7.out.ext (stays_w hb2))
    have HB2 := Lib.hid (HN8.out.ext (stays_w hb2))
    have HE2 := Lib.hid (HEc.out.trans (hb2.mono HEc.out.size))
    clear hb2 hpc hxc
    go_wp2_with fail
    refine Calls.mono (HC2.out _ HW2.out HR2.out) ?_
    rintro e w3 ⟨rfl, hb3⟩
    have hpc := HP2.out.below hb3 HP2.out.lt
    have hxc := HX2.out.below hb3 HX2.out.lt
    clear k0 k1 k2 k3 k4 x0 x1
    have k0 := hpc.c0
    have k1 := hpc.c1
    have k2 := hpc.c2
    have k3 := hpc.c3
    have k4 := hpc.c4
    have x0 := hxc.c0
    have x1 := hxc.c1
    have hlp := hpc.lt
    have hlx := hxc.lt
    have HE3 := Lib.hid (HE2.out.trans (hb3.mono HE2.out.size))
    have HWS := Lib.hid (show ∀ w', Below w3.heap.size w3 w' → Calls Try.prog 25 #[.slice A7 n c7, .slice A n c] w' fun e w'' => e = .returned (.bool true) ∧ Below w'.heap.size w' w'' from fun w' h => writes_same A7 n c7 A c ws w' ((HA2.out.ext (stays_w hb3)).ext (stays_w h)) ((HW2.out.ext (stays_w hb3)).ext (stays_w h)) hn)
    have HIS := Lib.hid (show ∀ w', Below w3.heap.size w3 w' → Calls Try.prog 26 #[.slice A8 m c8, .slice A2 m c2] w' fun e w'' => e = .returned (.bool true) ∧ Below w'.heap.size w' w'' from fun w' h => ints_same A8 m c8 A2 c2 xs w' ((HB2.out.ext (stays_w hb3)).ext (stays_w h)) ((HR2.out.ext (stays_w hb3)).ext (stays_w h)) hm)
    have HGD := fun w => good_any B C F W P w
    clear hb3 hpc hxc HP2 HX2 HW2 HR2 HA2 HB2 HPc HXc HWc HRc HW7 HN8
    by_cases h0 : 0 ≤ P
    · by_cases h2 : P ≤ 2
      · rw [decide_eq_true ⟨h0, h2⟩] at HGD
        have HG := Lib.hid HGD
        clear HGD
        go_wp2_with fail
        go_region_held3 (fun w' => w'.cell? ⟨w.heap.size, 0, none⟩ = some (.int .i64 B) ∧ w'.cell? ⟨w.heap.size, 1, none⟩ = some (.int .i64 C) ∧ w'.cell? ⟨w.heap.size, 2, none⟩ = some (.int .i64 F) ∧ w'.cell? ⟨w.heap.size, 3, none⟩ = some (.int .i64 W) ∧ w'.cell? ⟨w.heap.size, 4, none⟩ = some (.int .i64 P) ∧ w'.cell? ⟨w.heap.size + 1, 0, none⟩ = some (.slice A n c) ∧ w'.cell? ⟨w.heap.size + 1, 1, none⟩ = some (.slice A2 m c2) ∧ w.heap.size < w'.heap.size ∧ w.heap.size + 1 < w'.heap.size ∧ Below w3.heap.size w3 w')
          (first | (refine ⟨by simp [*], by simp [*], by simp [*], by simp [*], by simp [*], by simp [*], by simp [*], by simpa using hlp, by simpa using hlx, ?_⟩; exact (Below.refl _ w3).drew) | go_keep | (go_split_ands; exact ⟨(hbK.cell (p := ⟨w.heap.size, 0, none⟩) (by assumption)).trans (by assumption), (hbK.cell (p := ⟨w.heap.size, 1, none⟩) (by assumption)).trans (by assumption), (hbK.cell (p := ⟨w.heap.size, 2, none⟩) (by assumption)).trans (by assumption), (hbK.cell (p := ⟨w.heap.size, 3, none⟩) (by assumption)).trans (by assumption), (hbK.cell (p := ⟨w.heap.size, 4, none⟩) (by assumption)).trans (by assumption), (hbK.cell (p := ⟨w.heap.size + 1, 0, none⟩) (by assumption)).trans (by assumption), (hbK.cell (p := ⟨w.heap.size + 1, 1, none⟩) (by assumption)).trans (by assumption), Nat.lt_of_lt_of_le (by assumption) hbK.size, Nat.lt_of_lt_of_le (by assumption) hbK.size, held_trans2 (by assumption) hbK⟩))
          (first | (go_at_call 23; refine Calls.mono (HC3.out _) ?_; rintro e w4 ⟨rfl, rfl⟩) | (go_at_call 24; refine Calls.mono (HG.out _) ?_; rintro e w4 ⟨rfl, hbK⟩) | (go_split_ands; go_at_call 25; refine Calls.mono (HWS.out _ (by assumption)) ?_; rintro e w4 ⟨rfl, hbK⟩) | (go_split_ands; go_at_call 26; refine Calls.mono (HIS.out _ (by assumption)) ?_; rintro e w4 ⟨rfl, hbK⟩))
        rename_i hHeld
        have hbl := hHeld.2.2.2.2.2.2.2.2.2
        have HF := Lib.hid (HE3.out.trans (hbl.mono HE3.out.size))
        clear hHeld hbl
        go_wp2_with fail
        go_ret
        exact ⟨rfl, HF.out⟩
      · rw [decide_eq_false (fun h => h2 h.2)] at HGD
        have HG := Lib.hid HGD
        clear HGD
        have hd0 : decide (0 ≤ P) = true := decide_eq_true h0
        have hd2 : decide (P ≤ 2) = false := decide_eq_false h2
        clear h0 h2
        go_wp2_with fail
        go_region_held3 (fun w' => w'.cell? ⟨w.heap.size, 0, none⟩ = some (.int .i64 B) ∧ w'.cell? ⟨w.heap.size, 1, none⟩ = some (.int .i64 C) ∧ w'.cell? ⟨w.heap.size, 2, none⟩ = some (.int .i64 F) ∧ w'.cell? ⟨w.heap.size, 3, none⟩ = some (.int .i64 W) ∧ w'.cell? ⟨w.heap.size, 4, none⟩ = some (.int .i64 P) ∧ w'.cell? ⟨w.heap.size + 1, 0, none⟩ = some (.slice A n c) ∧ w'.cell? ⟨w.heap.size + 1, 1, none⟩ = some (.slice A2 m c2) ∧ w.heap.size < w'.heap.size ∧ w.heap.size + 1 < w'.heap.size ∧ Below w3.heap.size w3 w')
          (first | (refine ⟨by simp [*], by simp [*], by simp [*], by simp [*], by simp [*], by simp [*], by simp [*], by simpa using hlp, by simpa using hlx, ?_⟩; exact (Below.refl _ w3).drew) | go_keep | (go_split_ands; exact ⟨(hbK.cell (p := ⟨w.heap.size, 0, none⟩) (by assumption)).trans (by assumption), (hbK.cell (p := ⟨w.heap.size, 1, none⟩) (by assumption)).trans (by assumption), (hbK.cell (p := ⟨w.heap.size, 2, none⟩) (by assumption)).trans (by assumption), (hbK.cell (p := ⟨w.heap.size, 3, none⟩) (by assumption)).trans (by assumption), (hbK.cell (p := ⟨w.heap.size, 4, none⟩) (by assumption)).trans (by assumption), (hbK.cell (p := ⟨w.heap.size + 1, 0, none⟩) (by assumption)).trans (by assumption), (hbK.cell (p := ⟨w.heap.size + 1, 1, none⟩) (by assumption)).trans (by assumption), Nat.lt_of_lt_of_le (by assumption) hbK.size, Nat.lt_of_lt_of_le (by assumption) hbK.size, held_trans2 (by assumption) hbK⟩))
          (first | (go_at_call 23; refine Calls.mono (HC3.out _) ?_; rintro e w4 ⟨rfl, rfl⟩) | (go_at_call 24; refine Calls.mono (HG.out _) ?_; rintro e w4 ⟨rfl, hbK⟩) | (go_split_ands; go_at_call 25; refine Calls.mono (HWS.out _ (by assumption)) ?_; rintro e w4 ⟨rfl, hbK⟩) | (go_split_ands; go_at_call 26; refine Calls.mono (HIS.out _ (by assumption)) ?_; rintro e w4 ⟨rfl, hbK⟩))
        rename_i hHeld
        have hbl := hHeld.2.2.2.2.2.2.2.2.2
        have HF := Lib.hid (HE3.out.trans (hbl.mono HE3.out.size))
        clear hHeld hbl
        go_wp2_with fail
        go_ret
        exact ⟨rfl, HF.out⟩
    · rw [decide_eq_false (fun h => h0 h.1)] at HGD
      have HG := Lib.hid HGD
      clear HGD
      have hd0 : decide (0 ≤ P) = false := decide_eq_false h0
      clear h0
      have Kk0 := Lib.hid k0
      have Kk1 := Lib.hid k1
      have Kk2 := Lib.hid k2
      have Kk3 := Lib.hid k3
      have Kk4 := Lib.hid k4
      have Kx0 := Lib.hid x0
      have Kx1 := Lib.hid x1
      have hbC := (Below.refl w3.heap.size w3).drew
      go_wp2_with fail
      first
        | (go_region_law (first | (go_simp; go_at_call 23; refine Calls.mono (HC3.out _) ?_; rintro e w4 ⟨rfl, rfl⟩) | (go_simp; go_at_call 24; refine Calls.mono (HG.out _) ?_; rintro e w4 ⟨rfl, hbK⟩; have hbC := held_trans2 hbC hbK; have k0 := (hbC.cell (p := ⟨w.heap.size, 0, none⟩) hlp).trans Kk0.out; have k1 := (hbC.cell (p := ⟨w.heap.size, 1, none⟩) hlp).trans Kk1.out; have k2 := (hbC.cell (p := ⟨w.heap.size, 2, none⟩) hlp).trans Kk2.out; have k3 := (hbC.cell (p := ⟨w.heap.size, 3, none⟩) hlp).trans Kk3.out; have k4 := (hbC.cell (p := ⟨w.heap.size, 4, none⟩) hlp).trans Kk4.out; have x0 := (hbC.cell (p := ⟨w.heap.size + 1, 0, none⟩) hlx).trans Kx0.out; have x1 := (hbC.cell (p := ⟨w.heap.size + 1, 1, none⟩) hlx).trans Kx1.out) | (go_simp; go_at_call 25; refine Calls.mono (HWS.out _ hbC) ?_; rintro e w4 ⟨rfl, hbK⟩; have hbC := held_trans2 hbC hbK; have k0 := (hbC.cell (p := ⟨w.heap.size, 0, none⟩) hlp).trans Kk0.out; have k1 := (hbC.cell (p := ⟨w.heap.size, 1, none⟩) hlp).trans Kk1.out; have k2 := (hbC.cell (p := ⟨w.heap.size, 2, none⟩) hlp).trans Kk2.out; have k3 := (hbC.cell (p := ⟨w.heap.size, 3, none⟩) hlp).trans Kk3.out; have k4 := (hbC.cell (p := ⟨w.heap.size, 4, none⟩) hlp).trans Kk4.out; have x0 := (hbC.cell (p := ⟨w.heap.size + 1, 0, none⟩) hlx).trans Kx0.out; have x1 := (hbC.cell (p := ⟨w.heap.size + 1, 1, none⟩) hlx).trans Kx1.out) | (go_simp; go_at_call 26; refine Calls.mono (HIS.out _ hbC) ?_; rintro e w4 ⟨rfl, hbK⟩; have hbC := held_trans2 hbC hbK; have k0 := (hbC.cell (p := ⟨w.heap.size, 0, none⟩) hlp).trans Kk0.out; have k1 := (hbC.cell (p := ⟨w.heap.size, 1, none⟩) hlp).trans Kk1.out; have k2 := (hbC.cell (p := ⟨w.heap.size, 2, none⟩) hlp).trans Kk2.out; have k3 := (hbC.cell (p := ⟨w.heap.size, 3, none⟩) hlp).trans Kk3.out; have k4 := (hbC.cell (p := ⟨w.heap.size, 4, none⟩) hlp).trans Kk4.out; have x0 := (hbC.cell (p := ⟨w.heap.size + 1, 0, none⟩) hlx).trans Kx0.out; have x1 := (hbC.cell (p := ⟨w.heap.size + 1, 1, none⟩) hlx).trans Kx1.out)))
        | fail
      all_goals
        have HF := Lib.hid (HE3.out.trans (hbC.mono HE3.out.size))
        clear hbC
        go_wp2_with fail
        go_ret
        exact ⟨rfl, HF.out⟩
end Go.Proofs.Ytgdkgoiagjjccaa
