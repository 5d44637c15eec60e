/- SchedPlays' walk. -/
import Derived.Test.YtgdkgoiagjjccaaSPlayS
import Derived.Deep.CutBlock
import Derived.Deep.CutRange
namespace Go.Proofs.Ytgdkgoiagjjccaa
set_option maxRecDepth 100000
open Go.RowKit

/-- Where nothing is played. -/
theorem plays_skip (A : Option Addr) (n c : Nat) (A2 : Option Addr) (n2 c2 : Nat) (m : Int) (A3 : Option Addr) (n3 c3 : Nat) (ls : List (List Int)) (w : World) (h : Rws w A n ls) (h3 : n3 ≤ 9223372036854775807)
    (hno : ¬ ((SmallL ls ∧ n3 ≤ 200) ∧ n2 ≤ 40)) : Calls Try.prog 11 #[planV A n c A2 n2 c2 m, .slice A3 n3 c3] w fun e w' => e = .returned (.bool true) ∧ Below w.heap.size w w' := by
  have hb0 : Below w.heap.size w (w.alloc (.cells #[.slice A n c, .slice A2 n2 c2, .int .i64 m] 69)) := (Below.refl _ w).alloc (Nat.le_refl _) _
  have HA := Lib.hid (alive21 (w.alloc (.cells #[.slice A n c, .slice A2 n2 c2, .int .i64 m] 69)))
  have HH := Lib.hid (h.below hb0)
  have HB0 := Lib.hid hb0
  have HBX := Lib.hid (heap_alloc_new w (.cells #[.slice A n c, .slice A2 n2 c2, .int .i64 m] 69))
  unfold planV
  by_cases hS : SmallL ls ∧ n3 ≤ 200
  · have h2 : 40 < n2 := by
      rcases Nat.lt_or_ge 40 n2 with h2 | h2
      · exact h2
      · exact absurd ⟨hS, h2⟩ hno
    have h2' : (40 : Int) < (n2 : Int) := by omega
    have HL := Lib.hid (show ∀ w', Rws w' A n ls → Calls Try.prog 41 #[.slice A n c, .slice A3 n3 c3] w' fun e w'' => e = .returned (.bool false) ∧ w' = w'' from fun w' h' => by
      have := large_any A n c A3 n3 c3 ls w' h' h3
      rw [decide_eq_true hS] at this
      exact this)
    clear h hno hS hb0
    go_enter Try.func11, Try.ntmps11
    go_wp2_with fail
    refine Calls.mono HA.out ?_
    rintro e w1 ⟨rfl, hb1⟩
    have hx := (hb1.block w.heap.size (Array.getElem?_eq_some_iff.1 HBX.out).1).trans HBX.out
    have x0 := cell_of_row w1 _ 0 _ 69 (0, 0) hx
    have x1 := cell_of_row w1 _ 1 _ 69 (0, 0) hx
    simp only [List.getElem?_toArray, List.getElem?_cons_zero, List.getElem?_cons_succ] at x0 x1
    have HB1 := Lib.hid hb1
    have HE := Lib.hid (HB0.out.trans (hb1.mono HB0.out.size))
    clear hb1 hx
    go_wp2_with fail
    refine Calls.mono (HL.out _ (HH.out.below HB1.out)) ?_
    rintro e w2 ⟨rfl, rfl⟩
    go_wp2_with fail
    go_ret
    exact ⟨rfl, HE.out⟩
  · have HL := Lib.hid (show ∀ w', Rws w' A n ls → Calls Try.prog 41 #[.slice A n c, .slice A3 n3 c3] w' fun e w'' => e = .returned (.bool true) ∧ w' = w'' from fun w' h' => by
      have := large_any A n c A3 n3 c3 ls w' h' h3
      rw [decide_eq_false hS] at this
      exact this)
    clear h hno hS hb0
    go_enter Try.func11, Try.ntmps11
    go_wp2_with fail
    refine Calls.mono HA.out ?_
    rintro e w1 ⟨rfl, hb1⟩
    have hx := (hb1.block w.heap.size (Array.getElem?_eq_some_iff.1 HBX.out).1).trans HBX.out
    have x0 := cell_of_row w1 _ 0 _ 69 (0, 0) hx
    have x1 := cell_of_row w1 _ 1 _ 69 (0, 0) hx
    simp only [List.getElem?_toArray, List.getElem?_cons_zero, List.getElem?_cons_succ] at x0 x1
    have HB1 := Lib.hid hb1
    have HE := Lib.hid (HB0.out.trans (hb1.mono HB0.out.size))
    clear hb1 hx
    go_wp2_with fail
    refine Calls.mono (HL.out _ (HH.out.below HB1.out)) ?_
    rintro e w2 ⟨rfl, rfl⟩
    go_wp2_with fail
    go_ret
    exact ⟨rfl, HE.out⟩

theorem rws_fits {W : World} {A : Option Addr} {n : Nat} {ls : List (List Int)} (h : Rws W A n ls) : ∀ j, ∀ x ∈ ls.getD j [], Fits x := by
  intro j x hx
  rcases Nat.lt_or_ge j n with hj | hj
  · obtain ⟨b, off, e, hc⟩ := h.2.2 (by omega)
    obtain ⟨_, _, _, hnum, _⟩ := hc j hj
    exact hnum.2.1 x hx
  · rw [List.getD_eq_getElem?_getD, List.getElem?_eq_none (by have := h.1; omega)] at hx
    simp at hx
def erO : PS.Out → Value
  | .ev _ _ _ => .nilIface
  | .range => errV 1
  | .ended => errV 12
theorem outV_eq (o : PS.Out) : outV o = .tuple #[evO o, erO o] := by cases o <;> rfl
theorem num_out (o : PS.Out) (w : World) : Calls Try.prog 23 #[erO o] w fun e w' => e = .returned (.int .i64 (numO o)) ∧ w = w' := by
  cases o with
  | ev => exact num_nil w
  | range => exact num_err 1 (by decide) w
  | ended => exact num_err 12 (by decide) w
theorem evO_is (o : PS.Out) : ∃ a b c : Int, evO o = .agg #[.int .i64 a, .int .i64 b, .int .i64 c] := by
  cases o <;> exact ⟨_, _, _, rfl⟩
theorem alloc2 (w : World) (x y : Obj) : ((w.alloc x).alloc y).heap[w.heap.size]? = some x ∧ ((w.alloc x).alloc y).heap[w.heap.size + 1]? = some y ∧ Below w.heap.size w ((w.alloc x).alloc y) :=
  ⟨(Below.heap_alloc _ _ _ (by simp)).trans (new_at w _ _ rfl), new_at (w.alloc x) _ _ (by simp), ((Below.refl _ w).alloc (Nat.le_refl _) _).alloc (by simp) _⟩
theorem far5 {W : World} {g q : Nat} (h : q ≠ g) (a b c d e : Value) : (((((W.setCell ⟨g, 0, none⟩ a).setCell ⟨g, 1, none⟩ b).setCell ⟨g, 2, none⟩ c).setCell ⟨g, 3, none⟩ d).setCell ⟨g, 4, none⟩ e).heap[q]? = W.heap[q]? :=
  (Below.heap_setCell _ _ _ _ h).trans ((Below.heap_setCell _ _ _ _ h).trans ((Below.heap_setCell _ _ _ _ h).trans ((Below.heap_setCell _ _ _ _ h).trans (Below.heap_setCell _ _ _ _ h))))
theorem rdv_one (w : World) (v : Value) (t : TypeId) : Rdv (w.alloc (.cells #[v] t)) (some ⟨w.heap.size, 0, none⟩) 1 1 [v] :=
  ⟨rfl, fun _ => ⟨_, _, rfl, fun j u hj => by
    rcases j with _ | j
    · simp at hj; subst hj; rw [cell_of_row _ _ _ _ _ (0, 0) (heap_alloc_new w _)]; rfl
    · simp at hj⟩⟩
theorem one_slice (A : Option Addr) (n c : Nat) : ∀ u ∈ [Value.slice A n c], u.oneCell' = true := by
  intro u hu; simp at hu; subst hu; rfl
theorem own_at {w : World} {B e n c : Nat} {A : Option Addr} {xs : List Value} (h : w.ownsRow B e 1 (.slice A n c) n xs) (hn : 0 < n) : ∃ g, A = some ⟨g, 0, none⟩ ∧ B ≤ g ∧ g < w.heap.size ∧ (∀ o, w.frozen? ⟨g, o, none⟩ = false) ∧ ∀ j u, xs[j]? = some u → w.cell? ⟨g, j, none⟩ = some u := by
  rcases h.2 with ⟨_, h0⟩ | ⟨g, cap, cur, hv, hB, hg, _⟩
  · omega
  · injection hv with hv
    subst hv
    refine ⟨g, rfl, hB, (Array.getElem?_eq_some_iff.1 hg).1, fun o => frozen_of_row w g o _ _ hg, fun j u hj => ?_⟩
    have hc := h.cells (g := g) rfl j u hj
    rw [addr_plus, Nat.zero_add] at hc
    exact hc
theorem mi_start {W0 W5 W8 : World} {ls : List (List Int)} {ra : Nat → Option Addr} {rc : Nat → Nat} {A5 : Option Addr} {c5 n : Nat} (C : CL W0 ls ra rc A5 c5 n W5) {A6 : Option Addr} {c6 : Nat} {bs : List Bool} (hI : W5.ownsRow W0.heap.size 4 1 (.slice A6 n c6) n (valsB bs)) (hb : Below W5.heap.size W5 W8) : MI W0.heap.size W5.heap.size W8 ls ra rc A5 n A6 W8 := by
  have hbl : bs.length = n := by have := hI.1; simpa [valsB] using this
  refine ⟨rfl, rfl, rfl, Nat.le_refl _, fun _ _ _ => rfl, fun hn => ?_, fun j hj hL => ?_, fun hn => ?_⟩
  · obtain ⟨bo, rfl, l1, l2, _, hc⟩ := own_at C.outer hn
    refine ⟨bo, rfl, fun j hj => ?_, fun j hj b hb2 e => ?_, fun a ha e => ?_⟩
    · rw [(cell_frozen (hb.block bo l2)).1]
      exact hc j _ (by unfold rowsV; rw [List.getElem?_map, List.getElem?_range hj]; rfl)
    · exact own_apart (C.inner j hj) C.outer (by decide) b.block (by rw [hb2]; rfl) (by rw [e]; rfl)
    · exact own_apart hI C.outer (by decide) a.block (by rw [ha]; rfl) (by rw [e]; rfl)
  · obtain ⟨b, e, l1, l2, fr, hc⟩ := own_at (C.inner j hj) hL
    refine ⟨b, e, l1, l2, fun o => ((cell_frozen (hb.block b l2)).2 o).trans (fr o), fun a ha e2 => ?_, fun u hu => ⟨(ls.getD j [])[u], ?_⟩⟩
    · exact own_apart hI (C.inner j hj) (by decide) a.block (by rw [ha]; rfl) (by rw [e2, e]; rfl)
    · rw [(cell_frozen (hb.block b l2)).1]
      exact hc u _ (by simp [valsZ])
  · obtain ⟨b, e, l1, l2, fr, hc⟩ := own_at hI hn
    refine ⟨b, e, l1, l2, fun o => ((cell_frozen (hb.block b l2)).2 o).trans (fr o), fun u hu => ⟨bs[u]'(by omega), ?_⟩⟩
    rw [(cell_frozen (hb.block b l2)).1]
    exact hc u _ (by simp [valsB, show u < bs.length by omega])
theorem cl_start (W0 : World) (ls : List (List Int)) : CL W0 ls (fun _ => none) (fun _ => 0) (some ⟨W0.heap.size, 0, none⟩) 0 0 (W0.alloc (.cells #[] 38)) :=
  ⟨(Below.refl _ W0).alloc (Nat.le_refl _) _, own_empty W0 _ 38 1 38 rfl (Nat.le_refl _), fun j hj => by omega⟩
set_option maxHeartbeats 8000000 in
theorem plays_main (A : Option Addr) (n c : Nat) (A2 : Option Addr) (n2 c2 : Nat) (m : Int) (A3 : Option Addr) (n3 c3 : Nat) (ls : List (List Int)) (bs : List Bool) (xs : List Int) (w : World) (h : Rws w A n ls) (hk : Nok w A n) (hi : Bls w A2 n2 bs) (hnil2 : A2 = none → c2 = 0) (hx : Nums w A3 n3 xs)
    (hS : SmallL ls ∧ n3 ≤ 200) (h2 : n2 ≤ 40) :
    Calls Try.prog 11 #[planV A n c A2 n2 c2 m, .slice A3 n3 c3] w fun e w' => e = .returned (.bool true) ∧ Below w.heap.size w w' := by
  have hb0 : Below w.heap.size w (w.alloc (.cells #[.slice A n c, .slice A2 n2 c2, .int .i64 m] 69)) := (Below.refl _ w).alloc (Nat.le_refl _) _
  have HA := Lib.hid (alive21 (w.alloc (.cells #[.slice A n c, .slice A2 n2 c2, .int .i64 m] 69)))
  have HH := Lib.hid h
  have HI := Lib.hid hi
  have HX := Lib.hid hx
  have HNK := Lib.hid hk
  have HB0 := Lib.hid hb0
  have HBX := Lib.hid (heap_alloc_new w (.cells #[.slice A n c, .slice A2 n2 c2, .int .i64 m] 69))
  have HSM := Lib.hid hS.1
  have hn31 : n ≤ 31 := by have := hS.1.1; have := h.1; omega
  have h200 : n3 ≤ 200 := hS.2
  have h2' : ¬ (40 : Int) < (n2 : Int) := by omega
  have d40 : decide ((40 : Int) < (n2 : Int)) = false := decide_eq_false h2'
  have HL := Lib.hid (show ∀ w', Rws w' A n ls → Calls Try.prog 41 #[.slice A n c, .slice A3 n3 c3] w' fun e w'' => e = .returned (.bool false) ∧ w' = w'' from fun w' h' => by
    have := large_any A n c A3 n3 c3 ls w' h' (by omega)
    rw [decide_eq_true hS] at this
    exact this)
  unfold planV
  clear h hi hx hS hb0 hk
  go_enter Try.func11, Try.ntmps11
  go_wp2_with fail
  refine Calls.mono HA.out ?_
  rintro e w1 ⟨rfl, hb1⟩
  have hx := (hb1.block w.heap.size (Array.getElem?_eq_some_iff.1 HBX.out).1).trans HBX.out
  have x0 := cell_of_row w1 _ 0 _ 69 (0, 0) hx
  have x1 := cell_of_row w1 _ 1 _ 69 (0, 0) hx
  simp only [List.getElem?_toArray, List.getElem?_cons_zero, List.getElem?_cons_succ] at x0 x1
  have HE := Lib.hid (HB0.out.trans (hb1.mono HB0.out.size))
  have HXB := Lib.hid hx
  clear hb1 hx
  go_wp2_with fail
  refine Calls.mono (HL.out _ (HH.out.below HE.out)) ?_
  rintro e w2 ⟨rfl, rfl⟩
  have HCL := Lib.hid (cl_start w1 ls)
  have hx2 := (Below.heap_alloc w1 (.cells #[] 38) _ (Array.getElem?_eq_some_iff.1 HXB.out).1).trans HXB.out
  have x0' := cell_of_row _ _ 0 _ 69 (0, 0) hx2
  simp only [List.getElem?_toArray, List.getElem?_cons_zero] at x0'
  clear HA HL hx2
  go_wp2_with fail
  clear x0 x1 x0'
  go_loopw [5, 7, 38] (fun v _ x wr => ∃ (k : Nat) (ra : Nat → Option Addr) (rc : Nat → Nat) (A5 : Option Addr) (c5 : Nat), x = .int .i64 (k : Int) ∧ k ≤ n ∧ v = .slice A5 k c5 ∧ CL w1 ls ra rc A5 c5 k wr) (fun _ _ x _ => n - (intOf x).toNat)
  case atStart => exact ⟨0, _, _, _, _, rfl, by omega, rfl, HCL.out⟩
  case round =>
    obtain ⟨k, ra, rc, A5, c5, rfl, hk, rfl, C⟩ := hrel
    clear HCL
    have hB1 := HE.out.trans (C.below.mono HE.out.size)
    by_cases hlt : k < n
    · obtain ⟨b, off, rfl, hrow⟩ := (HH.out.below hB1).2.2 (by omega)
      obtain ⟨A', c', hc1, hnums, hm'⟩ := hrow k hlt
      have hnk : A' = none → c' = 0 := by
        obtain ⟨b', off', e', hrow'⟩ := HH.out.2.2 (by omega)
        injection e' with e'
        injection e' with e1 e2
        subst e1 e2
        obtain ⟨A'', c'', hc2, _, _⟩ := hrow' k hlt
        have hsame := (stays_w hB1 ⟨b, off + k, none⟩ (World.block_lt_of_cell? _ _ hc2)).trans hc2
        rw [hc1] at hsame
        injection hsame with hsame
        injection hsame with q1 q2 q3
        subst q1 q3
        exact HNK.out b off rfl k hlt _ _ _ hc2
      have hLs := HSM.out.2 k
      obtain ⟨L, hL⟩ : ∃ L, L = (ls.getD k []).length := ⟨_, rfl⟩
      rw [← hL] at hc1 hnums hm' hLs
      have HRK := Lib.hid (rdv_nums hnums)
      have HOE := Lib.hid (own_empty wr wr.heap.size 3 1 3 rfl (Nat.le_refl _))
      have HRK1 := Lib.hid (HRK.out.ext (stays_w ((Below.refl _ wr).alloc (Nat.le_refl _) (.cells #[] 3))))
      have HC := Lib.hid C
      have HLL := Lib.hid hL
      have HB1 := Lib.hid hB1
      have hzr : w1.heap.size ≤ wr.heap.size := C.below.size
      clear hrow hnums C hL hB1 HRK
      have hBx : ∀ w5, Below wr.heap.size (wr.alloc (.cells #[] 3)) w5 → Below wr.heap.size wr w5 := fun w5 hb => ((Below.refl _ wr).alloc (Nat.le_refl _) (.cells #[] 3)).trans hb
      have HBXX := Lib.hid hBx
      clear hBx
      go_wp2_with (first | (at_builtin; refine wpList_append_rowv elem38 rfl (.tmp 43) (.tmp 44) rfl wr.heap.size _ 0 [] rfl HOE.out A' L c' (valsZ (ls.getD k [])) rfl HRK1.out (valsZ_one _) hnk (by unfold maxLen; omega) (by omega) (by rw [World.size_alloc]; omega) ?_; intro v5 w5 hown5 hb5; simp only [Nat.zero_add, List.nil_append] at hown5; obtain ⟨A6, c6, hv6, hq1, hq2, hq3⟩ := rdv_own hown5; subst hv6; have HO5 := Lib.hid hown5; have HB5 := Lib.hid (HBXX.out _ hb5); have hz5 := hb5.size; clear hown5 hb5 hq1 hq2 hq3) | (at_builtin; refine wpList_append_rowk elem56 rfl (.tmp 42) (.tmp 46) rfl w1.heap.size (.slice A5 k c5) k (rowsV ra rc ls k) rfl ((HC.out.ext HB5.out).outer.alloc _) ⟨w5.heap.size, 0, none⟩ 1 1 [.slice A6 L c6] rfl (rdv_one _ _ _) (by decide) (one_slice _ _ _) (by unfold maxLen; omega) (by omega) (by rw [World.size_alloc]; rw [World.size_alloc] at hz5; omega) ?_; intro v7 w7 hown7 hb7 hk7; obtain ⟨A8, c8, hv8, hq1, hq2, hq3⟩ := rdv_own hown7; subst hv8; have HO7 := Lib.hid hown7; have HB7 := Lib.hid hb7; have HK7 := Lib.hid hk7; clear hown7 hb7 hk7 hq1 hq2 hq3))
      go_roundw
      case rel =>
        refine ⟨k + 1, upd ra k A6, upd rc k c6, A8, c8, by go_num, by omega, rfl, ?_⟩
        have ho := HO5.out
        have ho7 := HO7.out
        rw [HLL.out] at ho ho7
        exact HC.out.push HB5.out (ownsRow_low ho hzr) ((Below.refl _ w5).alloc (Nat.le_refl _) _) ho7 HB7.out HK7.out
      case measure => simp [intOf]; omega
    · obtain rfl : n = k := by omega
      have HC := Lib.hid C
      have HB1 := Lib.hid hB1
      have hx3 := (C.below.block _ (Array.getElem?_eq_some_iff.1 HXB.out).1).trans HXB.out
      have x0 := cell_of_row wr _ 0 _ 69 (0, 0) hx3
      have x1 := cell_of_row wr _ 1 _ 69 (0, 0) hx3
      have x2 := cell_of_row wr _ 2 _ 69 (0, 0) hx3
      simp only [List.getElem?_toArray, List.getElem?_cons_zero, List.getElem?_cons_succ] at x0 x1 x2
      have hzr : w1.heap.size ≤ wr.heap.size := C.below.size
      have hzx : w.heap.size < wr.heap.size := (Array.getElem?_eq_some_iff.1 hx3).1
      have x1' := (World.cell?_alloc_lt wr (.cells #[] 4) ⟨w.heap.size, 1, none⟩ hzx).trans x1
      have HOE := Lib.hid (own_empty wr wr.heap.size 4 1 4 rfl (Nat.le_refl _))
      have HRI := Lib.hid (rdv_bls ((HI.out.below hB1).ext (stays_w ((Below.refl _ wr).alloc (Nat.le_refl _) (.cells #[] 4)))))
      clear C hB1 hx3 hk hlt
      go_upto_region 12 with (at_builtin; refine wpList_append_rowv elem67 rfl (.tmp 49) (.tmp 51) rfl wr.heap.size _ 0 [] rfl HOE.out A2 n2 c2 (valsB bs) rfl HRI.out (by intro u hu; simp only [valsB, List.mem_map] at hu; obtain ⟨x, _, rfl⟩ := hu; rfl) hnil2 (by unfold maxLen; omega) (by omega) (by rw [World.size_alloc]; omega) ?_; intro v5 w5 hown5 hb5; simp only [Nat.zero_add, List.nil_append] at hown5; obtain ⟨A6, c6, hv6, hq1, hq2, hq3⟩ := rdv_own hown5; subst hv6; have HO5 := Lib.hid hown5; have HB5 := Lib.hid hb5; clear hown5 hb5 hq1 hq2 hq3)
      have HB5 := Lib.hid (((Below.refl _ wr).alloc (Nat.le_refl _) (.cells #[] 4)).trans HB5.out)
      have HC5 := Lib.hid (HC.out.ext HB5.out)
      have hx5 := (HB5.out.block _ hzx).trans (show wr.heap[w.heap.size]? = _ from (HC.out.below.block _ (Array.getElem?_eq_some_iff.1 HXB.out).1).trans HXB.out)
      have HX5 := Lib.hid hx5
      have x0 := cell_of_row w5 _ 0 _ 69 (0, 0) hx5
      have x1 := cell_of_row w5 _ 1 _ 69 (0, 0) hx5
      have x2 := cell_of_row w5 _ 2 _ 69 (0, 0) hx5
      simp only [List.getElem?_toArray, List.getElem?_cons_zero, List.getElem?_cons_succ] at x0 x1 x2
      have HR5 := Lib.hid (rows_own HC5.out HH.out.1 (by omega) (rws_fits HH.out) (fun j => by have := HSM.out.2 j; omega))
      have HI5 := Lib.hid (show Bls w5 A6 n2 bs from by
        obtain ⟨A9, c9, e9, hr9, _, _⟩ := rdv_own HO5.out
        injection e9 with e9
        subst e9
        exact bls_rdv hr9 (by omega))
      have HE5 := Lib.hid (HE.out.trans (HC5.out.below.mono HE.out.size))
      clear hx5 HOE HRI HXB x1' hzr hzx
      by_cases hgood : (GoodL ls ∧ n2 = n) ∧ 1 ≤ m ∧ m ≤ 64
      · obtain rfl : n = n2 := hgood.1.2.symm
        obtain ⟨mm, rfl⟩ : ∃ j : Nat, m = (j : Int) := ⟨m.toNat, by omega⟩
        have hg := hgood.1.1
        have hm : 1 ≤ mm ∧ mm ≤ 64 := by omega
        have C1 := new_ok A5 n c5 A6 c6 ls bs mm w5 HR5.out HI5.out hg hm (by omega) (fun i => by have := HSM.out.2 i; omega)
        have C2 := fun w' (hb : Below w.heap.size w w') => refnew_ok A n c A2 c2 ls bs mm w' (HH.out.below hb) (HI.out.below hb) hnil2 hg hm (by omega)
        unfold ptr at C1
        unfold refV refC at C2
        have HC1 := Lib.hid C1
        have HC2 := Lib.hid C2
        have HINV := Lib.hid (nS_inv (fun i => bs.getD i false) ls n mm hg HH.out.1 hm.1)
        have hzb : w.heap.size < w5.heap.size := (Array.getElem?_eq_some_iff.1 HX5.out).1
        clear C1 C2 hgood hg
        go_wp2_with fail
        refine Calls.mono HC1.out ?_
        rintro e w6 ⟨bp, rfl, bt, bw, sa, sc, hp, hb6⟩
        have hx6 := (hb6.block _ hzb).trans HX5.out
        have x0 := cell_of_row w6 _ 0 _ 69 (0, 0) hx6
        have x1 := cell_of_row w6 _ 1 _ 69 (0, 0) hx6
        have x2 := cell_of_row w6 _ 2 _ 69 (0, 0) hx6
        simp only [List.getElem?_toArray, List.getElem?_cons_zero, List.getElem?_cons_succ] at x0 x1 x2
        have HE6 := Lib.hid (HE5.out.trans (hb6.mono HE5.out.size))
        have HP6 := Lib.hid hp
        have HB6 := Lib.hid hb6
        clear hx6 hp hb6 HC1
        go_wp2_with fail
        refine Calls.mono (HC2.out _ HE6.out) ?_
        rintro e w7 ⟨B5, d5, B6, d6, B7, d7, rfl, hr, hnil, hb7, hfr⟩
        have HR7 := Lib.hid hr
        have HB7 := Lib.hid hb7
        have HFR := Lib.hid hfr
        have HNIL := Lib.hid hnil
        clear hr hb7 hfr x0 x1 x2 HC2 hnil
        go_wp2_with fail
        refine Calls.mono (num_nil _) ?_
        rintro e w8 ⟨rfl, rfl⟩
        have h8 := heap_alloc_new w7 (.cells #[.slice A n c, .slice B5 n d5, .slice B6 mm d6, .slice B7 mm d7, .int .i64 0] 74)
        have hz8 : (w7.alloc (.cells #[.slice A n c, .slice B5 n d5, .slice B6 mm d6, .slice B7 mm d7, .int .i64 0] 74)).heap.size = w7.heap.size + 1 := World.size_alloc _ _
        have hb8 : Below w7.heap.size w7 (w7.alloc (.cells #[.slice A n c, .slice B5 n d5, .slice B6 mm d6, .slice B7 mm d7, .int .i64 0] 74)) := (Below.refl _ w7).alloc (Nat.le_refl _) _
        revert h8 hz8 hb8
        generalize World.alloc w7 _ = W8
        intro h8 hz8 hb8
        have hb58 : Below w5.heap.size w5 W8 := (HB6.out.trans (HB7.out.mono HB6.out.size)).trans (hb8.mono (by have := HB6.out.size; have := HB7.out.size; omega))
        have M0 := mi_start HC5.out (ownsRow_low HO5.out HC.out.below.size) hb58
        obtain ⟨s0, hs0⟩ : ∃ s, s = nS (fun i => bs.getD i false) ls n mm n n 0 := ⟨_, rfl⟩
        have hs1 : s0.n = n := by rw [hs0]; rfl
        have hs2 : s0.m = mm := by rw [hs0]; rfl
        have hs3 : s0.picks = 0 := by rw [hs0]; rfl
        rw [← hs0] at HR7 HP6 HINV
        have hlw : w.heap.size ≤ w1.heap.size := HE.out.size
        have HPI := Lib.hid (fun W9 (M : MI w1.heap.size w5.heap.size W8 ls ra rc A5 n A6 W9) => pi_start (m := mm) (c := c) (c2 := d5) (c3 := d6) (c4 := d7) HH.out HE5.out HP6.out HB6.out HR7.out HB7.out hb8 HFR.out HINV.out hs1 hs2 HNIL.out (by rw [hs3]; exact h8) hlw M)
        have HM0 := Lib.hid M0
        have HS3 := Lib.hid hs3
        clear M0 h8 hz8 hb8 hb58 HP6 HB6 HR7 HB7 HFR HNIL HINV HC5 HR5 HI5 HO5 HB5 HX5 HE5 HE6 HC HI hs0 hs1 hs2 hs3 hlw hzb
        obtain ⟨gm, hgm⟩ : ∃ g, g = w7.heap.size := ⟨_, rfl⟩
        rw [← hgm] at HPI ⊢
        clear hgm x0 x1 x2
        go_wp2_with fail
        go_loopw [13, 14, 81] (fun _ _ x wr => ∃ k : Nat, x = .int .i64 (k : Int) ∧ k ≤ n ∧ MI w1.heap.size w5.heap.size W8 ls ra rc A5 n A6 wr) (fun _ _ x _ => n - (intOf x).toNat)
        case atStart => exact ⟨0, rfl, by omega, HM0.out⟩
        case round =>
          obtain ⟨k, rfl, hk, M⟩ := hrel
          clear HM0
          by_cases hlt : k < n
          · obtain ⟨bo, e5, ho, ha5, hb5⟩ := M.outer (by omega)
            subst e5
            have c1 := ho k hlt
            have hLs := HSM.out.2 k
            obtain ⟨L, hL⟩ : ∃ L, L = (ls.getD k []).length := ⟨_, rfl⟩
            rw [← hL] at c1 hLs
            have HM := Lib.hid M
            have HLL := Lib.hid hL
            clear M ho ha5 hb5 hL
            rename World => ws
            go_wp2_with fail
            go_loopw [14, 89] (fun _ x wx => ∃ u : Nat, x = .int .i64 (u : Int) ∧ u ≤ L ∧ MI w1.heap.size w5.heap.size W8 ls ra rc (some ⟨bo, 0, none⟩) n A6 wx) (fun _ x _ => L - (intOf x).toNat)
            case atStart => exact ⟨0, rfl, by omega, HM.out⟩
            case round =>
              obtain ⟨u, rfl, hu, Mx⟩ := hrel
              clear c1 HM
              obtain ⟨bo', e5, ho, ha5, hb5⟩ := Mx.outer (by omega)
              injection e5 with e5
              injection e5 with e5
              subst e5
              have c1 := ho k hlt
              rw [← HLL.out] at c1
              by_cases hul : u < L
              · obtain ⟨b, hb, l1, l2, fr, h3, h4⟩ := Mx.inner k hlt (by rw [← HLL.out]; omega)
                obtain ⟨z, hz⟩ := h4 u (by rw [← HLL.out]; exact hul)
                rw [hb] at c1
                have fr1 := fr u
                have HM2 := Lib.hid (Mx.store (b := b) (u := u) (v := .int .i64 99) ⟨l1, l2⟩ (fun _ bo2 e2 => by
                  injection e2 with e2
                  injection e2 with e2
                  subst e2
                  exact ha5 k hlt _ hb) (.inl ⟨⟨_, rfl⟩, h3⟩))
                clear Mx ho ha5 hb5 fr h3 h4 hb
                go_wp2_with fail
                go_roundw
                case rel => exact ⟨u + 1, by go_num, by omega, HM2.out⟩
                case measure => simp [intOf]; omega
              · obtain rfl : u = L := by omega
                obtain ⟨bi, e6, l1, l2, fr, h4⟩ := Mx.idle (by omega)
                subst e6
                obtain ⟨z, hz⟩ := h4 k hlt
                have fr1 := fr k
                have hbb := hb5 _ rfl
                have HM2 := Lib.hid (Mx.store (b := bi) (u := k) (v := .bool (!z)) ⟨l1, l2⟩ (fun _ bo2 e2 => by
                  injection e2 with e2
                  injection e2 with e2
                  subst e2
                  exact hbb) (.inr ⟨⟨_, rfl⟩, fun j hj a ha hL0 e => by
                    obtain ⟨bj, ej, _, _, _, h5, _⟩ := Mx.inner j hj hL0
                    rw [ha] at ej
                    injection ej with ej
                    subst ej
                    exact h5 _ rfl e.symm⟩))
                clear Mx ho ha5 hb5 fr h4 hbb
                go_wp2_with fail
                go_roundw
                case rel => exact ⟨k + 1, by go_num, by omega, HM2.out⟩
                case measure => simp [intOf]; omega
          · obtain rfl : n = k := by omega
            have P0 := HPI.out wr M
            have HP0 := Lib.hid P0
            have HX9 := Lib.hid HX
            clear P0 M HPI hk hlt
            go_wp2_with fail
            go_loopw [16, 17, 18, 19, 20, 21, 110] (fun _ _ _ _ _ _ x wx => ∃ (t : Nat) (s : PS) (D2 : Option Addr) (q2 : Nat) (D3 : Option Addr) (q3 : Nat) (D4 : Option Addr) (q4 : Nat), x = .int .i64 (t : Int) ∧ t ≤ n3 ∧ Hid (0 ≤ s.picks ∧ s.picks ≤ (t : Int)) ∧ PI w w5.heap.size w6.heap.size gm A n c mm ls bp bt bw sa sc s D2 q2 D3 q3 D4 q4 wx) (fun _ _ _ _ _ _ x _ => n3 - (intOf x).toNat)
            case atStart => exact ⟨0, s0, _, _, _, _, _, _, rfl, by omega, ⟨by rw [HS3.out]; decide, by rw [HS3.out]; decide⟩, HP0.out⟩
            case round =>
              obtain ⟨t, s, D2, q2, D3, q3, D4, q4, rfl, ht, hpk, P⟩ := hrel
              clear HP0
              by_cases hlt : t < n3
              · obtain ⟨bx, ox, rfl, hcx⟩ := (HX.out.ext (stays_w P.below)).2.2 (by omega)
                have cx := hcx t hlt
                obtain ⟨z, hz⟩ : ∃ z, z = xs.getD t 0 := ⟨_, rfl⟩
                rw [← hz] at cx
                have C := pick_any P.plan P.inv (fun i => by have := HSM.out.2 i; omega) (by have := hpk.out; omega) z
                have HI9 := Lib.hid (P.inv.pick z)
                have hps := pick_picks s z
                have C45 := fun (W2 : World) (hR : RefR W2 A D2 D3 D4 ls s) => refpick_any A c D2 q2 D3 q3 D4 q4 ls s W2 hR P.inv (by rw [P.hn]; omega) (by rw [P.hm]; omega) (by have := hpk.out; omega) P.nil z
                rw [P.hn, P.hm] at C45
                have HPS := Lib.hid (show (s.pick z).1.n = n ∧ (s.pick z).1.m = mm from ⟨hps.2.2.1.trans P.hn, hps.2.2.2.trans P.hm⟩)
                have HPK := Lib.hid (show 0 ≤ (s.pick z).1.picks ∧ (s.pick z).1.picks ≤ ((t + 1 : Nat) : Int) from by have := hpk.out; omega)
                obtain ⟨o, ho⟩ : ∃ o, o = (s.pick z).2 := ⟨_, rfl⟩
                obtain ⟨s', hs'⟩ : ∃ s', s' = (s.pick z).1 := ⟨_, rfl⟩
                have hso : s.pick z = (s', o) := by rw [ho, hs']
                rw [← hs'] at HI9 HPS HPK C
                rw [← ho, outV_eq] at C
                rw [hso] at C45
                obtain ⟨ea, eb, ec, hev⟩ := evO_is o
                rw [hev] at C
                unfold PickA at C45
                simp only [hev] at C45
                unfold ptr at C
                unfold refV refC at C45
                have HNO := Lib.hid (fun w => num_out o w)
                obtain ⟨er, her⟩ : ∃ e, e = erO o := ⟨_, rfl⟩
                obtain ⟨no, hno⟩ : ∃ e, e = numO o := ⟨_, rfl⟩
                rw [← her] at C HNO
                rw [← hno] at C45 HNO
                have HC := Lib.hid C
                have HC45 := Lib.hid C45
                have HP := Lib.hid P
                have hnn : (no != no) = false := by simp
                clear C C45 P hps ho hs' hso hev her hno hcx hz hpk
                go_wp2_with fail
                refine Calls.mono HC.out ?_
                rintro e w9 ⟨rfl, hp9, hf9⟩
                obtain ⟨k1, k2, k3⟩ := HP.out.picked HH.out hf9
                have HP9 := Lib.hid hp9
                have HF9 := Lib.hid hf9
                have h10 := heap_alloc_new w9 (.cells #[.int .i64 ea, .int .i64 eb, .int .i64 ec] 78)
                have hb10 : Below w9.heap.size w9 (w9.alloc (.cells #[.int .i64 ea, .int .i64 eb, .int .i64 ec] 78)) := (Below.refl _ w9).alloc (Nat.le_refl _) _
                have hgl : gm < w9.heap.size := (Array.getElem?_eq_some_iff.1 k3).1
                clear hp9 hf9 cx HC
                go_upto_region 32 with fail
                revert h10 hb10
                generalize World.alloc w9 _ = W10
                intro h10 hb10
                obtain ⟨ge, hge⟩ : ∃ g, g = w9.heap.size := ⟨_, rfl⟩
                rw [← hge] at h10 ⊢
                have hgg : gm ≠ ge := by omega
                have K3 := (hb10.block gm hgl).trans k3
                have C2 := HC45.out W10 (k2.below hb10)
                have y0 := cell_of_row W10 _ 0 _ 74 (0, 0) K3
                have y1 := cell_of_row W10 _ 1 _ 74 (0, 0) K3
                have y2 := cell_of_row W10 _ 2 _ 74 (0, 0) K3
                have y3 := cell_of_row W10 _ 3 _ 74 (0, 0) K3
                have y4 := cell_of_row W10 _ 4 _ 74 (0, 0) K3
                simp only [List.getElem?_toArray, List.getElem?_cons_zero, List.getElem?_cons_succ] at y0 y1 y2 y3 y4
                have HC2 := Lib.hid C2
                have HB10 := Lib.hid hb10
                have H10 := Lib.hid h10
                have HK3 := Lib.hid K3
                have hge10 : ge < W10.heap.size := (Array.getElem?_eq_some_iff.1 h10).1
                have hgm10 : gm < W10.heap.size := Nat.lt_of_lt_of_le hgl hb10.size
                clear k1 k2 k3 hge K3 C2 HC45 h10 hb10
                go_wp2_with fail
                refine Calls.mono HC2.out ?_
                rintro e w11 ⟨D5, q5, D6, q6, D7, q7, rfl, hr11, hnil11, hb11, hfr11⟩
                have HR11 := Lib.hid hr11
                have HNIL := Lib.hid hnil11
                have HB11 := Lib.hid hb11
                have HFR := Lib.hid hfr11
                clear y0 y1 y2 y3 y4 HC2 hr11 hnil11 hfr11
                have hz11 := hb11.size
                clear hb11
                go_upto_region 33 with fail
                have A2' := alloc2 w11 (.cells #[.slice A n c, .slice D5 n q5, .slice D6 mm q6, .slice D7 mm q7, .int .i64 s'.picks] 74) (.cells #[.int .i64 ea, .int .i64 eb, .int .i64 ec] 81)
                revert A2'
                generalize World.alloc (World.alloc w11 _) _ = W12
                rintro ⟨h19, h20, hb12⟩
                obtain ⟨r9, hr9⟩ : ∃ g, g = w11.heap.size := ⟨_, rfl⟩
                have hr9' : W10.heap.size ≤ r9 := by omega
                have hge11 : ge < w11.heap.size := by omega
                have hgm11 : gm < w11.heap.size := by omega
                have hg12 := (hb12.block gm hgm11).trans ((HB11.out.block gm hgm10).trans HK3.out)
                have he12 := (hb12.block ge hge11).trans ((HB11.out.block ge hge10).trans H10.out)
                rw [← hr9] at h19 h20 ⊢
                have e1 : gm ≠ r9 + 1 := by omega
                have e2 : r9 + 1 ≠ gm := by omega
                have e3 : ge ≠ gm := by omega
                have y0 := cell_of_row W12 _ 0 _ 74 (0, 0) h19
                have y1 := cell_of_row W12 _ 1 _ 74 (0, 0) h19
                have y2 := cell_of_row W12 _ 2 _ 74 (0, 0) h19
                have y3 := cell_of_row W12 _ 3 _ 74 (0, 0) h19
                have y4 := cell_of_row W12 _ 4 _ 74 (0, 0) h19
                have z0 := cell_of_row W12 _ 0 _ 74 (0, 0) hg12
                have z1 := cell_of_row W12 _ 1 _ 74 (0, 0) hg12
                have z2 := cell_of_row W12 _ 2 _ 74 (0, 0) hg12
                have z3 := cell_of_row W12 _ 3 _ 74 (0, 0) hg12
                have z4 := cell_of_row W12 _ 4 _ 74 (0, 0) hg12
                have f0 : W12.frozen? ⟨gm, 0, none⟩ = false := frozen_of_row W12 _ 0 _ 74 hg12
                have f1 : W12.frozen? ⟨gm, 1, none⟩ = false := frozen_of_row W12 _ 1 _ 74 hg12
                have f2 : W12.frozen? ⟨gm, 2, none⟩ = false := frozen_of_row W12 _ 2 _ 74 hg12
                have f3 : W12.frozen? ⟨gm, 3, none⟩ = false := frozen_of_row W12 _ 3 _ 74 hg12
                have f4 : W12.frozen? ⟨gm, 4, none⟩ = false := frozen_of_row W12 _ 4 _ 74 hg12
                simp only [List.getElem?_toArray, List.getElem?_cons_zero, List.getElem?_cons_succ] at y0 y1 y2 y3 y4 z0 z1 z2 z3 z4
                have PN := HP.out.next HH.out HP9.out HF9.out HI9.out HPS.out.1 HPS.out.2 HB10.out HR11.out HNIL.out HB11.out HFR.out hb12
                have G1 := (far5 (W := W12) e3 (.slice A n c) (.slice D5 n q5) (.slice D6 mm q6) (.slice D7 mm q7) (.int .i64 s'.picks)).trans he12
                have G2 := (far5 (W := W12) e2 (.slice A n c) (.slice D5 n q5) (.slice D6 mm q6) (.slice D7 mm q7) (.int .i64 s'.picks)).trans h20
                have HPN := Lib.hid PN
                have HG1 := Lib.hid G1
                have HG2 := Lib.hid G2
                clear PN G1 G2 h19 h20 hb12 hr9 hg12 he12 hz11 HP9 HF9 HB10 HR11 HB11 HFR HK3 H10 HP HI9 hge10 hgm10 hge11 hgm11 hr9' hgl hgg
                go_upto_region 34 with fail
                clear y0 y1 y2 y3 y4 z0 z1 z2 z3 z4 f0 f1 f2 f3 f4
                have PN := HPN.out
                have G1 := HG1.out
                have G2 := HG2.out
                clear HPN HG1 HG2
                revert PN G1 G2
                generalize World.setCell (World.setCell (World.setCell (World.setCell (World.setCell W12 _ _) _ _) _ _) _ _) _ _ = W13
                intro PN G1 G2
                have CS := stands_any PN.plan A c D5 q5 D6 q6 D7 q7 ls PN.ref PN.inv
                rw [PN.hn, PN.hm] at CS
                unfold refV refC ptr at CS
                have HCS := Lib.hid CS
                have y0 := cell_of_row W13 _ 0 _ 74 (0, 0) PN.box
                have y1 := cell_of_row W13 _ 1 _ 74 (0, 0) PN.box
                have y2 := cell_of_row W13 _ 2 _ 74 (0, 0) PN.box
                have y3 := cell_of_row W13 _ 3 _ 74 (0, 0) PN.box
                have y4 := cell_of_row W13 _ 4 _ 74 (0, 0) PN.box
                have v0 := cell_of_row W13 _ 0 _ 78 (0, 0) G1
                have v1 := cell_of_row W13 _ 1 _ 78 (0, 0) G1
                have v2 := cell_of_row W13 _ 2 _ 78 (0, 0) G1
                have u0 := cell_of_row W13 _ 0 _ 81 (0, 0) G2
                have u1 := cell_of_row W13 _ 1 _ 81 (0, 0) G2
                have u2 := cell_of_row W13 _ 2 _ 81 (0, 0) G2
                simp only [List.getElem?_toArray, List.getElem?_cons_zero, List.getElem?_cons_succ] at y0 y1 y2 y3 y4 v0 v1 v2 u0 u1 u2
                have hne := neq_ev81 W13 ea eb ec
                have HPN := Lib.hid PN
                clear PN G1 G2 CS
                go_wp2_with fail
                refine Calls.mono (HNO.out _) ?_
                rintro e w14 ⟨rfl, rfl⟩
                go_wp2_with fail
                refine Calls.mono HCS.out ?_
                rintro e w15 ⟨rfl, hb15⟩
                have HP15 := Lib.hid (HPN.out.ext hb15)
                clear hb15 y0 y1 y2 y3 y4 v0 v1 v2 u0 u1 u2 hne HPN
                go_wp2_with fail
                go_roundw
                case rel => exact ⟨t + 1, s', D5, q5, D6, q6, D7, q7, by go_num, by omega, HPK, HP15.out⟩
                case measure => simp [intOf]; omega
              · obtain rfl : t = n3 := by omega
                have CS := stands_any P.plan A c D2 q2 D3 q3 D4 q4 ls P.ref P.inv
                rw [P.hn, P.hm] at CS
                unfold refV refC ptr at CS
                have HCS := Lib.hid CS
                have y0 := cell_of_row wr _ 0 _ 74 (0, 0) P.box
                have y1 := cell_of_row wr _ 1 _ 74 (0, 0) P.box
                have y2 := cell_of_row wr _ 2 _ 74 (0, 0) P.box
                have y3 := cell_of_row wr _ 3 _ 74 (0, 0) P.box
                have y4 := cell_of_row wr _ 4 _ 74 (0, 0) P.box
                simp only [List.getElem?_toArray, List.getElem?_cons_zero, List.getElem?_cons_succ] at y0 y1 y2 y3 y4
                have HP := Lib.hid P
                clear P CS
                go_wp2_with fail
                refine Calls.mono HCS.out ?_
                rintro e w15 ⟨rfl, hb15⟩
                have HP15 := Lib.hid (HP.out.ext hb15)
                clear hb15 y0 y1 y2 y3 y4 HP
                go_wp2_with fail
                go_ret
                exact ⟨rfl, HP15.out.below⟩
      · have key : ∃ k : Int, k ≠ 0 ∧ (Calls Try.prog 42 #[.slice A5 n c5, .slice A6 n2 c6, .int .i64 m] w5 fun e w'' => e = .returned (.tuple #[.pointer none, errV k]) ∧ w5 = w'') ∧
            (Calls Try.prog 43 #[.slice A n c, .slice A2 n2 c2, .int .i64 m] w5 fun e w'' => e = .returned (.tuple #[refZ, .int .i64 k]) ∧ Below w5.heap.size w5 w'') := by
          by_cases hg : GoodL ls ∧ n2 = n
          · have hm : m < 1 ∨ 64 < m := by
              have h1 : ¬ (1 ≤ m ∧ m ≤ 64) := fun h => hgood ⟨hg, h⟩
              omega
            obtain ⟨hg1, rfl⟩ := hg
            exact ⟨1, by decide, new_range A5 n2 c5 A6 c6 ls m w5 HR5.out hg1 hm, refnew_bad A n2 c A2 n2 c2 ls m w5 (HH.out.below HE5.out) 1 (.inr ⟨⟨hg1, rfl⟩, hm, rfl⟩)⟩
          · exact ⟨2, by decide, new_form A5 n c5 A6 n2 c6 ls m w5 HR5.out hg, refnew_bad A n c A2 n2 c2 ls m w5 (HH.out.below HE5.out) 2 (.inl ⟨hg, rfl⟩)⟩
        obtain ⟨k, hk0, C1, C2⟩ := key
        have HN := Lib.hid (num_err k hk0)
        have hk1 : (k != 0) = true := by simpa using hk0
        unfold refZ at C2
        unfold errV at C1 HN
        have HC1 := Lib.hid C1
        have HC2 := Lib.hid C2
        clear C1 C2 hgood
        go_wp2_with fail
        refine Calls.mono HC1.out ?_
        rintro e w6 ⟨rfl, rfl⟩
        go_wp2_with fail
        refine Calls.mono HC2.out ?_
        rintro e w6 ⟨rfl, hb6⟩
        have HB6 := Lib.hid ((HE5.out.trans (hb6.mono HE5.out.size)).alloc (HE5.out.trans (hb6.mono HE5.out.size)).size (.cells #[.slice none 0 0, .slice none 0 0, .slice none 0 0, .slice none 0 0, .int .i64 0] 74))
        clear hb6 x0 x1 x2
        go_wp2_with fail
        refine Calls.mono (HN.out _) ?_
        rintro e w7 ⟨rfl, rfl⟩
        go_wp2_with fail
        go_ret
        exact ⟨rfl, HB6.out⟩
end Go.Proofs.Ytgdkgoiagjjccaa
