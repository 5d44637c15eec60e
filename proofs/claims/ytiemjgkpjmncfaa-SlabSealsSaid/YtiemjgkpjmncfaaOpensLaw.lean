/- SlabOpens answers true of whatever sector, stamp and kind: the walk. -/
import Derived.Test.YtiemjgkpjmncfaaRefOpen
namespace Go.Proofs.Ytiemjgkpjmncfaa
set_option maxRecDepth 100000
open Go.RowKit

/-- What the document's Is answers. -/
def RefIsE (l : List Nat) (st kd : Int) (e : Ending) (w' : World) : Prop :=
  (∃ (d : List Nat) (A : Option Addr) (c a k : Nat), openN l = some (a, k, d) ∧ (a : Int) = st ∧ (k : Int) = kd ∧ e = .returned (.tuple #[.slice A d.length c, .bool true]) ∧ Rdv w' A d.length 1 (valsB d)) ∨
  ((∀ a k d, openN l = some (a, k, d) → ¬ ((a : Int) = st ∧ (k : Int) = kd)) ∧ e = .returned (.tuple #[.slice none 0 0, .bool false]))
set_option maxHeartbeats 1000000 in
theorem refIs_any (l : List Nat) (hl : l.length = 64) (hs : ∀ x ∈ l, x < 256) (st kd : Int) (w : World) :
    Calls Try.prog 45 #[.agg (secV l), .int .i64 st, .int .i64 kd] w fun e w' => RefIsE l st kd e w' ∧ Below w.heap.size w w' := by
  have HS := Lib.hid (show Sec (w.alloc (.cells (secV l) 50)) w.heap.size l from heap_alloc_new w _)
  have HB := Lib.hid ((Below.refl w.heap.size w).alloc (Nat.le_refl _) (.cells (secV l) 50))
  have HC := Lib.hid (refOpen_any l hl hs (w.alloc (.cells (secV l) 50)))
  have HL := Lib.hid hl
  clear hl hs
  go_enter Try.func45, Try.ntmps45
  go_wp2_with (first | refine wpList_load_sec (by rfl) (.tmp 3) rfl w.heap.size rfl l HL.out HS.out ?_)
  refine Calls.mono HC.out ?_
  rintro e w1 ⟨ho, hb1⟩
  rcases ho with ⟨hn, rfl⟩ | ⟨a, k, d, A, c, hs, rfl, hr⟩
  · have HN := Lib.hid hn
    have HB1 := Lib.hid (HB.out.trans (hb1.mono HB.out.size))
    clear hn hb1
    go_wp2_with fail
    go_ret2
    exact ⟨.inr ⟨fun a k d h => (by rw [HN.out] at h; cases h), rfl⟩, HB1.out.alloc HB1.out.size _⟩
  · have HR := Lib.hid hr
    have HO := Lib.hid hs
    have HB1 := Lib.hid (HB.out.trans (hb1.mono HB.out.size))
    clear hr hs hb1
    by_cases h1 : (a : Int) = st
    · subst h1
      have d1 : ((a : Int) != (a : Int)) = false := by simp
      by_cases h2 : (k : Int) = kd
      · subst h2
        have d2 : ((k : Int) != (k : Int)) = false := by simp
        go_wp2_with fail
        go_ret2
        refine ⟨.inl ⟨d, A, c, a, k, HO.out, rfl, rfl, rfl, HR.out.ext (stays_b (Below.alloc (Below.refl _ w1) (Nat.le_refl _) _))⟩, HB1.out.alloc HB1.out.size _⟩
      · have d2 : ((k : Int) != kd) = true := by rw [bne_iff_ne]; exact h2
        have H2 := Lib.hid h2
        clear h2
        go_wp2_with fail
        go_ret2
        exact ⟨.inr ⟨fun a' k' d' h => (by rw [HO.out] at h; cases h; exact fun h => H2.out h.2), rfl⟩, HB1.out.alloc HB1.out.size _⟩
    · have d1 : ((a : Int) != st) = true := by rw [bne_iff_ne]; exact h1
      have H1 := Lib.hid h1
      clear h1
      go_wp2_with fail
      go_ret2
      exact ⟨.inr ⟨fun a' k' d' h => (by rw [HO.out] at h; cases h; exact fun h => H1.out h.1), rfl⟩, HB1.out.alloc HB1.out.size _⟩
theorem rdv_none (w : World) : Rdv w none 0 1 (valsB []) := ⟨rfl, fun h => absurd h (by omega)⟩
theorem same_refl {A A' : Option Addr} {n c n' c' : Nat} {xs : List Nat} {w : World} (h1 : Rdv w A n 1 (valsB xs)) (h2 : Rdv w A' n' 1 (valsB xs)) (hx : ∀ x ∈ xs, x < 256) :
    Calls Try.prog 42 #[.slice A n c, .slice A' n' c'] w fun e w' => e = .returned (.bool true) ∧ w = w' := by
  have h := same_any A A' n c n' c' xs xs w h1 h2 hx hx
  rw [decide_eq_true rfl] at h
  exact h

set_option maxHeartbeats 4000000 in
theorem opens_law (l : List Nat) (hl : l.length = 64) (hs : ∀ x ∈ l, x < 256) (st kd : Int) (w : World) :
    Calls Try.prog 9 #[.agg (secV l), .int .i64 st, .int .i64 kd] w fun e w' => e = .returned (.bool true) ∧ Below w.heap.size w w' := by
  have HS := Lib.hid (show Sec (w.alloc (.cells (secV l) 50)) w.heap.size l from heap_alloc_new w _)
  have HB := Lib.hid ((Below.refl w.heap.size w).alloc (Nat.le_refl _) (.cells (secV l) 50))
  have HAL := Lib.hid (alive_any (w.alloc (.cells (secV l) 50)))
  have HO := Lib.hid (fun w => open_any l hl hs w)
  have HRO := Lib.hid (fun w => refOpen_any l hl hs w)
  have HI := Lib.hid (fun w => isSlab_any l hl hs st kd w)
  have HRI := Lib.hid (fun w => refIs_any l hl hs st kd w)
  have HL := Lib.hid hl
  have HSM := Lib.hid hs
  clear hl hs
  go_enter Try.func9, Try.ntmps9
  go_wp2_with fail
  refine Calls.mono HAL.out ?_
  rintro e w1 ⟨rfl, hb1⟩
  have HS1 := Lib.hid (HS.out.old hb1)
  have HB1 := Lib.hid (HB.out.trans (hb1.mono HB.out.size))
  clear hb1
  go_wp2_with (first | refine wpList_load_sec (by rfl) (.tmp 3) rfl w.heap.size rfl l HL.out HS1.out ?_)
  refine Calls.mono (HO.out _) ?_
  rintro e w2 ⟨ho, hb2⟩
  have HS2 := Lib.hid (HS1.out.old hb2)
  have HB2 := Lib.hid (HB1.out.trans (hb2.mono HB1.out.size))
  clear hb2
  rcases ho with ⟨hn, rfl⟩ | ⟨a, k, d, A, c, hsome, rfl, hr, hna⟩
  · have HN := Lib.hid hn
    clear hn
    unfold eCorrupt
    go_wp2_with (first | refine wpList_load_sec (by rfl) (.tmp 3) rfl w.heap.size rfl l HL.out (HS2.out.alloc _) ?_)
    refine Calls.mono (HRO.out _) ?_
    rintro e w3 ⟨ho, hb3⟩
    have HX3 := Lib.hid (Sl.old (show Sl (w2.alloc (.cells #[.int .i64 0, .int .i64 0, .slice none 0 0] 77)) w2.heap.size (.int .i64 0) (.int .i64 0) (.slice none 0 0) from heap_alloc_new w2 _) hb3)
    have HS3 := Lib.hid ((HS2.out.alloc (.cells #[.int .i64 0, .int .i64 0, .slice none 0 0] 77)).old hb3)
    have HB3 := Lib.hid ((HB2.out.alloc HB2.out.size (.cells #[.int .i64 0, .int .i64 0, .slice none 0 0] 77)).trans (hb3.mono (HB2.out.alloc HB2.out.size _).size))
    clear hb3
    rcases ho with ⟨_, rfl⟩ | ⟨a, k, d, A, c, h, _⟩
    · go_wp2_with (first | refine wpList_load_sec (by rfl) (.tmp 3) rfl w.heap.size rfl l HL.out (HS3.out.alloc _) ?_)
      refine Calls.mono (HI.out _) ?_
      rintro e w4 ⟨hi, hb4⟩
      have hw4 := (show Below w3.heap.size w3 (w3.alloc (.cells #[.int .i64 0, .int .i64 0, .slice none 0 0] 74)) from (Below.refl _ w3).alloc (Nat.le_refl _) _).trans (hb4.mono (by rw [World.size_alloc]; omega))
      have HY4 := Lib.hid (Ar.old (show Ar (w3.alloc (.cells #[.int .i64 0, .int .i64 0, .slice none 0 0] 74)) w3.heap.size 0 0 (.slice none 0 0) from heap_alloc_new w3 _) hb4 (by rw [World.size_alloc]; omega))
      have HX4 := Lib.hid (HX3.out.old hw4)
      have HS4 := Lib.hid (HS3.out.old hw4)
      have HB4 := Lib.hid (HB3.out.trans (hw4.mono HB3.out.size))
      clear hb4 hw4
      rcases hi with ⟨d, A, c, a, k, h, _⟩ | ⟨_, rfl⟩
      · rw [HN.out] at h; cases h
      · go_wp2_with (first | refine wpList_load_sec (by rfl) (.tmp 3) rfl w.heap.size rfl l HL.out HS4.out ?_)
        refine Calls.mono (HRI.out _) ?_
        rintro e w5 ⟨hi, hb5⟩
        have HY5 := Lib.hid (HY4.out.old hb5 HY4.out.lt0)
        have HX5 := Lib.hid (HX4.out.old hb5)
        have HB5 := Lib.hid (HB4.out.trans (hb5.mono HB4.out.size))
        clear hb5
        rcases hi with ⟨d, A, c, a, k, h, _⟩ | ⟨_, rfl⟩
        · rw [HN.out] at h; cases h
        · have HE := Lib.hid (is_errno 9 (by omega) w5)
          have HSA := Lib.hid (same_refl (c := 0) (c' := 0) (rdv_none w5) (rdv_none w5) (fun x hx => by cases hx))
          have x0 := HX5.out.c0
          have x1 := HX5.out.c1
          have x2 := HX5.out.c2
          have y0 := HY5.out.c0
          have y1 := HY5.out.c1
          have y2 := HY5.out.c2
          go_wp2_with (first | ((with_reducible refine Calls.mono HE.out ?_); rintro e w6 ⟨rfl, rfl⟩) | ((with_reducible refine Calls.mono HSA.out ?_); rintro e w6 ⟨rfl, rfl⟩))
          go_ret
          exact ⟨rfl, HB5.out⟩
    · rw [HN.out] at h; cases h
  · obtain ⟨g1, g2, g3, g4, g5, g6, g7⟩ := openN_some HL.out HSM.out hsome
    have HSO := Lib.hid hsome
    have HG7 := Lib.hid g7
    have HG6 := Lib.hid g6
    obtain ⟨CX, hCX⟩ : ∃ CX, CX = Obj.cells #[.int .i64 (a : Int), .int .i64 (k : Int), .slice A d.length c] 77 (0, 0) := ⟨_, rfl⟩
    have HR2 := Lib.hid hr
    have HNIL := Lib.hid (show A = none → c = 0 ∧ d.length = 0 from fun h => by
      rcases hna with ⟨_, h1, h2⟩ | ⟨b, e, _⟩
      · exact ⟨h2, h1⟩
      · rw [h] at e; cases e)
    have HCX := Lib.hid hCX
    clear hsome g6 g7 hr hna hCX
    go_wp2_with (first | refine wpList_load_sec (by rfl) (.tmp 3) rfl w.heap.size rfl l HL.out (HS2.out.alloc _) ?_)
    refine Calls.mono (HRO.out _) ?_
    rintro e w3 ⟨ho, hb3⟩
    rw [← HCX.out] at hb3
    have hw3 := (show Below w2.heap.size w2 (w2.alloc CX) from (Below.refl _ w2).alloc (Nat.le_refl _) _).trans (hb3.mono (by rw [World.size_alloc]; omega))
    have HX3 := Lib.hid (Sl.old (show Sl (w2.alloc CX) w2.heap.size (.int .i64 (a : Int)) (.int .i64 (k : Int)) (.slice A d.length c) by rw [HCX.out]; exact heap_alloc_new w2 _) hb3)
    have HS3 := Lib.hid (HS2.out.old hw3)
    have HR3 := Lib.hid (HR2.out.ext (stays_b hw3))
    have HB3 := Lib.hid (HB2.out.trans (hw3.mono HB2.out.size))
    clear hb3 hw3
    rcases ho with ⟨h, _⟩ | ⟨a', k', d', A2, c2, h, rfl, hr2⟩
    · rw [HSO.out] at h; cases h
    · rw [HSO.out] at h
      cases h
      obtain ⟨CY, hCY⟩ : ∃ CY, CY = Obj.cells #[.int .i64 (a : Int), .int .i64 (k : Int), .slice A2 d.length c2] 74 (0, 0) := ⟨_, rfl⟩
      have HCY := Lib.hid hCY
      have HQ3 := Lib.hid hr2
      clear hCY hr2
      go_wp2_with (first | refine wpList_load_sec (by rfl) (.tmp 3) rfl w.heap.size rfl l HL.out (HS3.out.alloc _) ?_)
      refine Calls.mono (HI.out _) ?_
      rintro e w4 ⟨hi, hb4⟩
      rw [← HCY.out] at hb4
      have hw4 := (show Below w3.heap.size w3 (w3.alloc CY) from (Below.refl _ w3).alloc (Nat.le_refl _) _).trans (hb4.mono (by rw [World.size_alloc]; omega))
      have HY4 := Lib.hid (Ar.old (show Ar (w3.alloc CY) w3.heap.size (a : Int) (k : Int) (.slice A2 d.length c2) by rw [HCY.out]; exact heap_alloc_new w3 _) hb4 (by rw [World.size_alloc]; omega))
      have HX4 := Lib.hid (HX3.out.old hw4)
      have HS4 := Lib.hid (HS3.out.old hw4)
      have HR4 := Lib.hid (HR3.out.ext (stays_b hw4))
      have HQ4 := Lib.hid (HQ3.out.ext (stays_b hw4))
      have HB4 := Lib.hid (HB3.out.trans (hw4.mono HB3.out.size))
      clear hb4 hw4
      have key : ∃ (D : List Nat) (A3 : Option Addr) (n3 c3 : Nat) (bb : Bool), e = .returned (.tuple #[.slice A3 n3 c3, .bool bb]) ∧ Rdv w4 A3 n3 1 (valsB D) ∧ (∀ x ∈ D, x < 256) ∧ ((bb = true ∧ D = d ∧ (a : Int) = st ∧ (k : Int) = kd) ∨ (bb = false ∧ D = [] ∧ ¬ ((a : Int) = st ∧ (k : Int) = kd))) := by
        rcases hi with ⟨d1, A3, c3, a1, k1, h, h1, h2, rfl, h3, _⟩ | ⟨h, rfl⟩
        · rw [HSO.out] at h
          cases h
          exact ⟨d, A3, _, c3, true, rfl, h3, HG6.out, .inl ⟨rfl, rfl, h1, h2⟩⟩
        · exact ⟨[], none, 0, 0, false, rfl, rdv_none _, fun x hx => (by cases hx), .inr ⟨rfl, rfl, h _ _ _ HSO.out⟩⟩
      obtain ⟨D, A3, n3, c3, bb, rfl, hr3, hD, hcase⟩ := key
      have HR34 := Lib.hid hr3
      have HD := Lib.hid hD
      have HCASE := Lib.hid hcase
      clear hr3 hD hcase hi
      go_wp2_with (first | refine wpList_load_sec (by rfl) (.tmp 3) rfl w.heap.size rfl l HL.out HS4.out ?_)
      refine Calls.mono (HRI.out _) ?_
      rintro e w5 ⟨hi, hb5⟩
      have HY5 := Lib.hid (HY4.out.old hb5 HY4.out.lt0)
      have HX5 := Lib.hid (HX4.out.old hb5)
      have HS5 := Lib.hid (HS4.out.old hb5)
      have HR5 := Lib.hid (HR4.out.ext (stays_b hb5))
      have HQ5 := Lib.hid (HQ4.out.ext (stays_b hb5))
      have HR35 := Lib.hid (HR34.out.ext (stays_b hb5))
      have HB5 := Lib.hid (HB4.out.trans (hb5.mono HB4.out.size))
      clear hb5
      have key : ∃ (A4 : Option Addr) (n4 c4 : Nat), e = .returned (.tuple #[.slice A4 n4 c4, .bool bb]) ∧ Rdv w5 A4 n4 1 (valsB D) := by
        rcases hi with ⟨d1, A4, c4, a1, k1, h, h1, h2, rfl, h3⟩ | ⟨h, rfl⟩
        · rw [HSO.out] at h
          cases h
          rcases HCASE.out with ⟨rfl, hd, _⟩ | ⟨_, _, h4⟩
          · exact ⟨A4, _, c4, rfl, by rw [hd]; exact h3⟩
          · exact absurd ⟨h1, h2⟩ h4
        · rcases HCASE.out with ⟨_, _, h4⟩ | ⟨rfl, hd, _⟩
          · exact absurd h4 (h _ _ _ HSO.out)
          · exact ⟨none, 0, 0, rfl, by rw [hd]; exact rdv_none _⟩
      obtain ⟨A4, n4, c4, rfl, hr4⟩ := key
      have HSA1 := Lib.hid (same_refl (c := c) (c' := c2) HR5.out HQ5.out HG6.out)
      have HSA2 := Lib.hid (same_refl (c := c3) (c' := c4) HR35.out hr4 HD.out)
      have x0 := HX5.out.c0
      have x1 := HX5.out.c1
      have x2 := HX5.out.c2
      have y0 := HY5.out.c0
      have y1 := HY5.out.c1
      have y2 := HY5.out.c2
      have d1 : ((a : Int) != (a : Int)) = false := by simp
      have d2 : ((k : Int) != (k : Int)) = false := by simp
      have d3 : (bb != bb) = false := by simp
      have HC := Lib.hid (seal_ok a k A d.length c d w5 g1 (by omega) g3 (by omega) g5 HR5.out HNIL.out)
      rw [← HG7.out] at HC
      clear hr4 hi
      go_wp2_with fail
      refine Calls.mono HSA1.out ?_
      rintro e w6 ⟨rfl, rfl⟩
      go_wp2_with fail
      refine Calls.mono HSA2.out ?_
      rintro e w6 ⟨rfl, rfl⟩
      go_wp2_with fail
      refine Calls.mono HC.out ?_
      rintro e w6 ⟨rfl, hb6⟩
      have HS6 := Lib.hid ((HS5.out.old hb6).alloc (.cells (secV l) 50))
      have HSY := Lib.hid (show Sec (w6.alloc (.cells (secV l) 50)) w6.heap.size l from heap_alloc_new w6 _)
      have HB6 := Lib.hid ((HB5.out.trans (hb6.mono HB5.out.size)).alloc (HB5.out.trans (hb6.mono HB5.out.size)).size (.cells (secV l) 50))
      have hsz : (secV l).size = 64 := by rw [secV_size]; exact HL.out
      have hst := fun w1 => store_new w1 l HL.out
      clear hb6 x0 x1 x2 y0 y1 y2 d1 d2 d3
      go_upto_region 12 with fail
      clear hst hsz
      obtain ⟨w7, hw7⟩ : ∃ w7, w7 = w6.alloc (.cells (secV l) 50) := ⟨_, rfl⟩
      obtain ⟨q, hq⟩ : ∃ q, q = w6.heap.size := ⟨_, rfl⟩
      rw [← hw7, ← hq] at HSY
      rw [← hw7] at HS6 HB6 ⊢
      rw [← hq]
      clear hw7 hq
      have e1 : ∀ w, (Op.equalIn 10000 50 (.agg (secV l)) (.agg (secV l))).run Try.prog w = .ok true w := fun w => by
        have h := run_equalIn_deep' 9998 w l l HL.out HL.out HSM.out HSM.out
        rw [decide_eq_true rfl] at h
        exact h
      go_wp2_with (first | refine wpList_load_sec (by rfl) (.tmp 15) rfl q rfl l HL.out HSY.out ?_ | refine wpList_load_sec (by rfl) (.tmp 3) rfl w.heap.size rfl l HL.out HS6.out ?_)
      go_ret
      exact ⟨rfl, HB6.out⟩
end Go.Proofs.Ytiemjgkpjmncfaa
