/- graph.Keeps. -/
import Derived.Test.YtgdkgoiagjjccaaGWait
namespace Go.Proofs.Ytgdkgoiagjjccaa
set_option maxRecDepth 100000
open Go.RowKit Go.Shelf

/-- Which ones stood ahead of a place of the order. -/
def stF (o : List Int) (q : Nat) : Nat → Bool := fun x => decide ((x : Int) ∈ o.take q)
theorem stF_zero (o : List Int) : stF o 0 = fun _ => false := by
  funext x
  simp [stF]
theorem stF_next {o : List Int} {q i : Nat} (hq : q < o.length) (hi : (i : Int) = o.getD q 0) : upd (stF o q) i true = stF o (q + 1) := by
  funext x
  have e2 : o.take (q + 1) = o.take q ++ [o[q]] := List.take_succ_eq_append_getElem hq
  unfold stF
  rw [e2]
  rw [getD_of hq] at hi
  by_cases e : x = i
  · subst e
    rw [upd_same]
    exact (decide_eq_true (List.mem_append.2 (.inr (by rw [hi]; exact List.mem_singleton.2 rfl)))).symm
  · rw [upd_other _ _ e]
    have h3 : ¬ (x : Int) = o[q] := fun h => e (by omega)
    exact decide_eq_decide.2 ⟨fun h => List.mem_append.2 (.inl h), fun h => (List.mem_append.1 h).elim id (fun h => absurd (List.mem_singleton.1 h) h3)⟩
theorem stF_any {o l : List Int} {q : Nat} (hl : ∀ x ∈ l, 0 ≤ x) : (l.any fun j => !stF o q j.toNat) = false ↔ ∀ j ∈ l, j ∈ o.take q := by
  rw [List.any_eq_false]
  constructor
  · intro h j hj
    have h1 := h j hj
    have h2 := hl j hj
    have e : ((j.toNat : Nat) : Int) = j := by omega
    simpa [stF, e] using h1
  · intro h j hj
    have h1 := h j hj
    have h2 := hl j hj
    have e : ((j.toNat : Nat) : Int) = j := by omega
    simpa [stF, e] using h1
theorem bv_start (w : World) (n : Nat) : BV w.heap.size w w.heap.size (w.heap.size + 1) n (fun _ => false) ((w.alloc (.cells (madeCells zB n) 4)).alloc (.cells #[.slice (some ⟨w.heap.size, 0, none⟩) n n] 67)) := by
  have g0 : ((w.alloc (.cells (madeCells zB n) 4)).alloc (.cells #[.slice (some ⟨w.heap.size, 0, none⟩) n n] 67)).heap[w.heap.size]? = some (.cells (madeCells zB n) 4 (0, 0)) := (Below.heap_alloc _ _ _ (by simp)).trans (heap_alloc_new w _)
  have g1 : ((w.alloc (.cells (madeCells zB n) 4)).alloc (.cells #[.slice (some ⟨w.heap.size, 0, none⟩) n n] 67)).heap[w.heap.size + 1]? = some (.cells #[.slice (some ⟨w.heap.size, 0, none⟩) n n] 67 (0, 0)) := new_at (w.alloc (.cells (madeCells zB n) 4)) _ _ (by simp)
  refine ⟨((Below.refl _ w).alloc (Nat.le_refl _) _).alloc (by simp) _, ⟨Nat.le_refl _, by omega⟩, by omega, fun x hx => ?_, fun o => frozen_of_row _ _ _ _ _ g0, ?_⟩
  · rw [cell_of_row _ _ _ _ _ (0, 0) g0, made_at _ _ _ hx]
    simp [zB, Nat.mod_one]
  · rw [cell_of_row _ _ _ _ _ (0, 0) g1]
    rfl
set_option maxHeartbeats 400000 in
theorem keeps_form (A : Option Addr) (n c : Nat) (A2 : Option Addr) (n2 c2 : Nat) (ls : List (List Int)) (w : World) (h : Rws w A n ls) (hbad : ¬ (GoodL ls ∧ n2 = n)) :
    Calls Try.prog 35 #[.slice A n c, .slice A2 n2 c2] w fun e w' => e = .returned (.bool false) ∧ w = w' := by
  have C := goodg_any A n c ls w h
  by_cases hg : GoodL ls
  · rw [decide_eq_true hg] at C
    have HC := Lib.hid C
    have hne : ((n2 : Int) != (n : Int)) = true := by
      have : n2 ≠ n := fun e => hbad ⟨hg, e⟩
      simp; omega
    clear C hbad h hg
    go_enter Try.func35, Try.ntmps35
    go_wp2_with fail
    refine Calls.mono HC.out ?_
    rintro e w' ⟨rfl, rfl⟩
    go_wp2_with fail
    go_ret
    exact ⟨rfl, rfl⟩
  · rw [decide_eq_false hg] at C
    have HC := Lib.hid C
    clear C hbad h hg
    go_enter Try.func35, Try.ntmps35
    go_wp2_with fail
    refine Calls.mono HC.out ?_
    rintro e w' ⟨rfl, rfl⟩
    go_wp2_with fail
    go_ret
    exact ⟨rfl, rfl⟩
set_option maxHeartbeats 4000000 in
theorem keeps_ok (A : Option Addr) (n c : Nat) (A2 : Option Addr) (c2 : Nat) (ls : List (List Int)) (o : List Int) (w : World) (h : Rws w A n ls) (ho : Nums w A2 n o) (hg : GoodL ls) (hn : n ≤ 10000) :
    Calls Try.prog 35 #[.slice A n c, .slice A2 n c2] w fun e w' => e = .returned (.bool (keepsB ls o)) ∧ Below w.heap.size w w' := by
  have C := goodg_any A n c ls w h
  rw [decide_eq_true hg] at C
  have HC := Lib.hid C
  have HH := Lib.hid h
  have HO := Lib.hid ho
  have HG := Lib.hid hg
  have hl := h.1
  have hol := ho.1
  have mb := make_bools n (by omega)
  have HB := Lib.hid (show ∀ q, q < n → ¬ (0 ≤ o.getD q 0 ∧ o.getD q 0 < (n : Int) ∧ o.getD q 0 ∉ o.take q ∧ ∀ j ∈ ls.getD (o.getD q 0).toNat [], j ∈ o.take q) → keepsB ls o = false from fun q hq hno => keepsB_false fun hc => by
    have := (keep_iff hg hc.1.2).2 hc.2 q (by omega)
    rw [hl] at this
    exact hno this)
  have HE := Lib.hid (show KeepG ls o n → keepsB ls o = true from fun hk => keepsB_true ⟨⟨hg, by omega⟩, (keep_iff hg (by omega)).1 (by rw [hol]; exact hk)⟩)
  have HNX := Lib.hid (show ∀ q, KeepG ls o q → (0 ≤ o.getD q 0 ∧ o.getD q 0 < (n : Int) ∧ o.getD q 0 ∉ o.take q ∧ ∀ j ∈ ls.getD (o.getD q 0).toNat [], j ∈ o.take q) → KeepG ls o (q + 1) from fun q h1 h2 p hp => by
    rcases Nat.lt_succ_iff_lt_or_eq.1 hp with h4 | h4
    · exact h1 p h4
    · subst h4
      rw [hl]
      exact h2)
  have HST := Lib.hid (fun q i (hq : q < n) hi => stF_next (o := o) (q := q) (i := i) (by omega) hi)
  obtain ⟨R, hR⟩ : ∃ R, R = keepsB ls o := ⟨_, rfl⟩
  rw [← hR] at HB HE ⊢
  clear C h ho hg hl hol hR
  go_enter Try.func35, Try.ntmps35
  go_wp2_with fail
  refine Calls.mono HC.out ?_
  rintro e w' ⟨rfl, rfl⟩
  clear HC
  go_wp2_with fail
  clear mb
  go_loopw [8, 25] (fun _ i wr => ∃ q : Nat, i = .int .i64 (q : Int) ∧ q ≤ n ∧ Hid (KeepG ls o q) ∧ BV w.heap.size w w.heap.size (w.heap.size + 1) n (stF o q) wr) (fun _ i _ => n - (intOf i).toNat)
  case atStart =>
    refine ⟨0, rfl, by omega, fun i hi => by omega, ?_⟩
    rw [stF_zero]
    exact bv_start w n
  case round =>
    obtain ⟨q, rfl, hq, hkg, hV⟩ := hrel
    rename World => wr
    by_cases hlt : q < n
    · obtain ⟨b2, off2, rfl, hc2⟩ := (Nums.ext HO.out (stays_w hV.below)).2.2 (by omega)
      have c2 := hc2 q hlt
      have HBq := Lib.hid (HB.out q hlt)
      have HXq := Lib.hid (HNX.out q hkg.out)
      have x5 := hV.box
      obtain ⟨y, hy⟩ : ∃ y, y = o.getD q 0 := ⟨_, rfl⟩
      have HSq := Lib.hid (fun (i : Nat) (hi : (i : Int) = y) => HST.out q i hlt (by rw [hi, hy]))
      rw [← hy] at c2 HBq HXq
      have HV := Lib.hid hV
      clear hc2 hy hV HB HNX HST
      by_cases hy0 : y < 0
      · have HF := Lib.hid (HBq.out (by omega))
        go_wp2_with fail
        go_ret
        exact ⟨by rw [HF.out]; rfl, HV.out.below⟩
      by_cases hyn : (n : Int) ≤ y
      · have HF := Lib.hid (HBq.out (by omega))
        go_wp2_with fail
        go_ret
        exact ⟨by rw [HF.out]; rfl, HV.out.below⟩
      obtain ⟨i, rfl⟩ : ∃ i : Nat, y = (i : Int) := ⟨y.toNat, by omega⟩
      have hin : i < n := by omega
      rw [Int.toNat_natCast] at HBq HXq
      have ci := HV.out.cells i hin
      cases hst : stF o q i with
      | true =>
        rw [hst] at ci
        have HF := Lib.hid (HBq.out (fun hc => hc.2.2.1 (by simpa [stF] using hst)))
        clear hst
        go_wp2_with fail
        go_ret
        exact ⟨by rw [HF.out]; rfl, HV.out.below⟩
      | false =>
        rw [hst] at ci
        have hnot : (i : Int) ∉ o.take q := by simpa [stF] using hst
        obtain ⟨b, off, rfl, hrow⟩ := (HH.out.below HV.out.below).2.2 (by omega)
        obtain ⟨A', c', hc1, hnums, hm'⟩ := hrow i hin
        have hmem := fun x (hx : x ∈ ls.getD i []) => HG.out.mem hx
        have C := containswaits_any HV.out A' (ls.getD i []).length c' (ls.getD i []) hnums (fun x hx => by have := hmem x hx; omega) hm' (by omega)
        have HAN := Lib.hid (stF_any (o := o) (q := q) (l := ls.getD i []) fun x hx => (hmem x hx).1)
        obtain ⟨L, hL⟩ : ∃ L, L = (ls.getD i []).length := ⟨_, rfl⟩
        rw [← hL] at hc1 C
        cases hr : (ls.getD i []).any fun j => !stF o q j.toNat with
        | true =>
          rw [hr] at C
          have HC := Lib.hid C
          have HF := Lib.hid (HBq.out (fun hc => by
            have := HAN.out.2 hc.2.2.2
            rw [hr] at this
            cases this))
          clear hst hrow hnums hm' hmem C hL hr
          go_wp2_with fail
          refine Calls.mono HC.out ?_
          rintro e w2 ⟨rfl, rfl⟩
          go_wp2_with fail
          go_ret
          exact ⟨by rw [HF.out]; rfl, HV.out.below⟩
        | false =>
          rw [hr] at C
          have HC := Lib.hid C
          have HK2 := Lib.hid (HXq.out ⟨by omega, by omega, hnot, HAN.out.1 hr⟩)
          have HS2 := Lib.hid (HSq.out i rfl)
          have fr := HV.out.fr i
          clear hst hrow hnums hm' hmem C hL hr
          go_wp2_with fail
          refine Calls.mono HC.out ?_
          rintro e w2 ⟨rfl, rfl⟩
          go_wp2_with fail
          go_roundw
          case rel => exact ⟨q + 1, by go_num, by omega, HK2.out, by rw [← HS2.out]; exact HV.out.set i true⟩
          case measure => simp [intOf]; omega
    · obtain rfl : q = n := by omega
      have HV := Lib.hid hV
      have HF := Lib.hid (HE.out hkg.out)
      clear hV HE
      go_wp2_with fail
      go_ret
      exact ⟨by rw [HF.out]; rfl, HV.out.below⟩
end Go.Proofs.Ytgdkgoiagjjccaa
