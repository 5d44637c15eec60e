/- SFromN, VNone, VOpen: put together. -/
import Derived.Test.YtejpjbmbcdgomaaPg05
import Derived.Test.YtejpjbmbcdgomaaPe32
import Derived.Test.YtejpjbmbcdgomaaPe35
import Derived.Test.YtejpjbmbcdgomaaPe28
import Derived.Test.YtejpjbmbcdgomaaPe21
/- From a nil store. Written after SFrom. -/
namespace Go.Proofs.Ytejpjbmbcdgomaa
set_option maxRecDepth 100000
open Go.RowKit

set_option maxHeartbeats 16000000 in
theorem sfrom_nil (w : World) (t k m : Int) :
    Calls Try.prog 18 #[.pointer none, .agg #[.int .i64 t, .int .i64 k], .int .i64 m] w fun e w' => ∃ v, e = .returned v ∧ Sno w' w.heap.size v ((liveE (fromE t k tsN)).take m.toNat) ∧ Below w.heap.size w w' := by
  refine (callsIn_wide (n := 11)).1 ?_
  have HH := Lib.hid (fun (W : World) (b1 b2 : Nat) (O0 : Nat → Prop) hf hs h1 h2 => nentries_hands (w := W) (b1 := b1) (b2 := b2) (t := t) (k := k) (O0 := O0) hf hs h1 h2)
  obtain ⟨E, hE⟩ : ∃ E, E = fromE t k tsN := ⟨_, rfl⟩
  rw [← hE] at HH ⊢
  have HEL : Hid (E.length ≤ 400000) := Lib.hid (by rw [hE]; exact fromE_le (ts := tsN) (fun i _ => by simp [tsN]) t k)
  clear hE
  refine callsIn_of_wp_marks Try.func18 rfl trivial ?_ rfl
  simp only [Try.ntmps18, List.size_toArray, List.length_cons, List.length_nil, Nat.reduceAdd, Nat.reduceSub, Array.replicate_succ, Array.replicate_zero, List.push_toArray, List.append_toArray, List.nil_append, List.cons_append]
  by_cases hm : m < 1
  · have HM0 : Hid (m.toNat = 0) := Lib.hid (by omega)
    have HB2 : Hid (∀ o o', Below w.heap.size w ((w.alloc o).alloc o')) := Lib.hid fun o o' => ((Below.refl _ w).alloc (Nat.le_refl _) o).alloc (by simp) o'
    gi_wp2_with (fail)
    refine leaves_marks (v := .slice none 0 0) [] _ (fun d hd => by cases hd) List.Pairwise.nil fun w1 e1 e2 e3 e4 e5 => ⟨by simp [results, Try.results18, go_sem], _, rfl, ?_, ?_⟩
    · rw [HM0.out, List.take_zero]
      exact World.ownsRow_nil _ _ _ _
    · have hb := HB2.out (.cells #[.int .i64 t, .int .i64 k] 42) (.cells #[.int .i64 m] 3)
      exact ⟨e2.trans hb.os, e3.trans hb.tape, e4.trans hb.output, by rw [e1]; exact hb.size, fun q hq => (e5 q fun d hd c => by cases hd).trans (hb.block q hq)⟩
  · obtain ⟨N, hNN⟩ : ∃ N : Nat, m = (N : Int) := ⟨m.toNat, by omega⟩
    subst hNN
    have HN1 : Hid (1 ≤ N) := Lib.hid (by omega)
    rw [Int.toNat_natCast]
    obtain ⟨p4, hp4⟩ : ∃ p4, p4 = w.heap.size := ⟨_, rfl⟩
    obtain ⟨p5, hp5⟩ : ∃ p5, p5 = p4 + 1 := ⟨_, rfl⟩
    obtain ⟨z, hz⟩ : ∃ z, z = p5 + 1 := ⟨_, rfl⟩
    obtain ⟨W3, hW3⟩ : ∃ W3, W3 = (((w.alloc (.cells #[.int .i64 t, .int .i64 k] 42)).alloc (.cells #[.int .i64 (N : Int)] 3)).alloc (.cells #[.slice none 0 0] 53)) := ⟨_, rfl⟩
    have h3 := blocks3 w (.cells #[.int .i64 t, .int .i64 k] 42) (.cells #[.int .i64 (N : Int)] 3) (.cells #[.slice none 0 0] 53)
    rw [← hW3, ← hp4, ← hp5, ← hz] at h3
    obtain ⟨g0, g1, g2, g3, g4⟩ := h3
    have k0 : W3.cell? ⟨p4, 0, none⟩ = some (.int .i64 t) := by rw [cell_of_row _ _ 0 _ _ _ g0]; rfl
    have k1 : W3.cell? ⟨p4, 1, none⟩ = some (.int .i64 k) := by rw [cell_of_row _ _ 1 _ _ _ g0]; rfl
    have HP := Lib.hid (And.intro hp4 (And.intro hp5 hz))
    have HW := Lib.hid hW3
    have hF3 : FRI w z p5 (.cells #[.int .i64 (N : Int)] 3 (0, 0)) [] (fun _ => False) W3 := ⟨by rw [hp4] at g4; exact g4, fun q e => e.elim, by omega, ⟨g1, id, by omega⟩, .slice none 0 0, g2, World.ownsRow_nil _ _ _ _, (fun h => by cases h), (fun h => by cases h), fun q e => e.elim⟩
    have HF3 := Lib.hid hF3
    clear g0 g1 g2 g3 g4 hp4 hp5 hz hW3 hF3 hm
    have hn1 : ¬ (N : Int) < 1 := by have := HN1.out; omega
    gi_upto_region 4 with (fail)
    clear hn1
    rw [← HW.out, ← HP.out.1, ← HP.out.2.1, ← HP.out.2.2]
    gi_wp2_with (fail)
    refine ⟨trivial, ?_⟩
    refine (callsIn_wide.2 entries_any).mono ?_
    rintro e w3 ⟨rfl, hk3, hs3, hb3, hz3⟩
    obtain ⟨b1, hb1⟩ : ∃ b1, b1 = W3.heap.size + 1 := ⟨_, rfl⟩
    obtain ⟨b2, hb2'⟩ : ∃ b2, b2 = W3.heap.size := ⟨_, rfl⟩
    rw [← hb1] at hk3
    rw [← hb2'] at hs3
    have hP3 : FRI w z p5 (.cells #[.int .i64 (N : Int)] 3 (0, 0)) (liveE (E.take 0)) (fun q => q = b1 ∨ q = b2) w3 := by
      refine FRI.st w z p5 _ _ _ _ W3 w3 HF3.out (Ch.of_below hb3 _) ⟨fun q e => e.elim, fun q e => .inr ?_⟩
      omega
    have HP3 := Lib.hid (show FRI w z p5 (.cells #[.int .i64 (N : Int)] 3 (0, 0)) (liveE (E.take 0)) (fun q => q = b1 ∨ q = b2) w3 ∧ (liveE (E.take 0)).length < N from ⟨hP3, by have := HN1.out; simp only [List.take_zero]; exact this⟩)
    have HHH := Lib.hid (HH.out w3 b1 b2 (fun q => q = b1 ∨ q = b2) hk3 hs3 (.inl rfl) (.inr rfl))
    have HLT3 : Hid (b1 < w3.heap.size ∧ b2 < w3.heap.size) := Lib.hid (by omega)
    clear hP3 hk3 hs3 hb3 hz3 HH k0 k1
    gi_wp2_with (fail)
    rw [← hb1, ← hb2']
    clear hb1 hb2'
    refine wp_range2 (w0 := w3) (O0 := fun q => q = b1 ∨ q = b2) (O := fun q => q = b1 ∨ q = b2) (N := E.length) (enc := encE E) (gf := 89) (lb := #[.pointer (some ⟨b1, 0, none⟩), .pointer (some ⟨b2, 0, none⟩)]) rfl (enters_of Try.func89 (by kernel_rfl) rfl) HHH.out (Kps.refl _ _) (fun _ => rfl)
      (fun k O W => FRI w z p5 (.cells #[.int .i64 (N : Int)] 3 (0, 0)) (liveE (E.take k)) O W ∧ (liveE (E.take k)).length < N) (fun c k O W => c = .exit 0 ∧ FRI w z p5 (.cells #[.int .i64 (N : Int)] 3 (0, 0)) (liveE (E.take k)) O W ∧ (liveE (E.take k)).length = N)
      (fun k O O' W W' h hC hG => ⟨FRI.st _ _ _ _ _ O O' W W' h.1 hC hG, h.2⟩) (fun c k O O' W W' h hC hG => ⟨h.1, FRI.st _ _ _ _ _ O O' W W' h.2.1 hC hG, h.2.2⟩) (fun _ _ _ _ _ => trivial) HP3.out (fun _ h => h) (fun q e => by have := HLT3.out; rcases e with rfl | rfl <;> omega) ?round ?done ?stop
    case stop =>
      rintro D j c O1 WD _ ⟨rfl, hI, hIl⟩ _ _ _ hDge hD
      obtain ⟨h1, _, _, _, v, h3, h4, _, _, _⟩ := hI
      have hRES : (liveE E).take N = liveE (E.take (j + 1)) := by
        rw [← hIl]
        exact live_prefix E (j + 1)
      have HW3 := Lib.hid (show w3.heap.size ≤ D from hDge)
      have hw3 := HP3.out.1.b.size
      have h1' : Below w.heap.size w WD := h1
      clear hIl hDge
      have y7 : WD.cell? ⟨z, 0, none⟩ = some v := by rw [cell_of_row _ _ 0 _ _ _ h3]; rfl
      have HV := Lib.hid (And.intro h4 (And.intro h1 hRES))
      have HD := Lib.hid (And.intro hD (show w.heap.size ≤ D from Nat.le_trans hw3 HW3.out))
      clear h1 h1' hw3 h3 h4 hD hRES
      gi_wp2_with fail
      refine leaves_marks (v := v) _ _ (fun d hd => ⟨D, by rw [List.mem_singleton.1 hd], HD.out.1⟩) (List.pairwise_singleton _ _) fun w1 e1 e2 e3 e4 e5 => ⟨by simp [results, Try.results18, go_sem], v, rfl, ?_, ?_⟩
      · rw [HV.out.2.2]
        refine own_same HV.out.1 fun q hq => e5 q fun d hd c => ?_
        have e6 : D = q := by rw [List.mem_singleton.1 hd] at c; simpa using c
        obtain ⟨cur, e7⟩ := own_at HV.out.1 hq
        rw [← e6, HD.out.1] at e7
        simp at e7
      · have hb := HV.out.2.1
        refine ⟨e2.trans hb.os, e3.trans hb.tape, e4.trans hb.output, by rw [e1]; exact hb.size, fun q hq => (e5 q fun d hd c => ?_).trans (hb.block q hq)⟩
        have e6 : D = q := by rw [List.mem_singleton.1 hd] at c; simpa using c
        have := HD.out.2
        omega
    case round =>
      intro l2 lp k ob Oq Wq hk hI hsub2 hlt2 hlp hlpg K hK
      obtain ⟨e, he⟩ : ∃ e, e = E[k] := ⟨_, rfl⟩
      have heo : E[k]? = some e := by rw [he]; exact List.getElem?_eq_getElem hk
      rw [encE_at heo]
      have hbm : Below Wq.heap.size Wq (Wq.alloc (.cells #[.int .i64 (e.t : Int), .int .i64 e.x.k, .int .i64 e.x.c.v, .int .i64 e.x.c.s, .bool e.x.c.dead] 112)) := (Below.refl _ _).alloc (Nat.le_refl _) _
      have HBM := Lib.hid hbm
      have HQ := Lib.hid (And.intro hI (And.intro hlp (And.intro hlt2 (And.intro hk heo))))
      clear hI hsub2 hlt2 hlp hlpg hk he heo hbm
      simp only [List.zip_toArray, List.zip_cons_cons, List.zip_nil_right, List.foldl_toArray, List.foldl_cons, List.foldl_nil, List.setIfInBounds_toArray, List.set_cons_succ, List.set_cons_zero]
      gi_wp2_with (rw [Oper.semAt_eq _ _ _ (fun c h => by cases h)]; go_simp)
      refine hK _ _ HBM.out ?_
      clear hK K
      obtain ⟨⟨hI, hIl⟩, hlp, hlt2, hk, heo⟩ := HQ.out
      obtain ⟨y, hy⟩ : ∃ y, y = Wq.heap.size := ⟨_, rfl⟩
      obtain ⟨Wm, hWm⟩ : ∃ Wm, Wm = Wq.alloc (.cells #[.int .i64 (e.t : Int), .int .i64 e.x.k, .int .i64 e.x.c.v, .int .i64 e.x.c.s, .bool e.x.c.dead] 112) := ⟨_, rfl⟩
      have hbm := HBM.out
      have hzm : Wm.heap[Wq.heap.size]? = some (.cells #[.int .i64 (e.t : Int), .int .i64 e.x.k, .int .i64 e.x.c.v, .int .i64 e.x.c.s, .bool e.x.c.dead] 112 (0, 0)) := by rw [hWm]; exact heap_alloc_new Wq _
      rw [← hWm] at hbm ⊢
      rw [← hy] at hzm ⊢
      have hzl := (Array.getElem?_eq_some_iff.1 hzm).1
      have hne : y ≠ lp := by have := hlt2 lp hlp; omega
      have hP := (FRI.st w z p5 (.cells #[.int .i64 (N : Int)] 3 (0, 0)) (liveE (E.take k))).put ob (hI.box hbm (Nat.le_of_eq hy.symm) hzl) (.inl hlp)
      have hzb := (World.putObj_heap_other (w := Wm) (o := ob) hne).trans hzm
      have hszb : (Wm.putObj lp ob).heap.size = Wm.heap.size := World.putObj_size
      obtain ⟨W0, hW0⟩ : ∃ W0, W0 = Wm.putObj lp ob := ⟨_, rfl⟩
      rw [← hW0] at hP hzb hszb ⊢
      have hlt0 : ∀ q, (Oq q ∨ q = y) → q < W0.heap.size := fun q c => by
        rw [hszb]
        rcases c with c | c
        · exact Nat.lt_of_lt_of_le (hlt2 q c) hbm.size
        · rw [c]; exact hzl
      have HP := Lib.hid hP
      have HL0 := Lib.hid hlt0
      obtain ⟨xs, hxs⟩ : ∃ xs, xs = liveE (E.take k) := ⟨_, rfl⟩
      rw [← hxs] at HP hIl
      have HXL := Lib.hid hIl
      have HNX : Hid (liveE (E.take (k + 1)) = xs ++ (if e.x.c.dead then [] else [e])) := Lib.hid (by rw [hxs, live_take heo])
      have HXB : Hid (xs.length ≤ 400000) := Lib.hid (by
        have h3 : (liveE (E.take k)).length ≤ (E.take k).length := List.length_filter_le _ _
        have h4 : (E.take k).length ≤ E.length := by rw [List.length_take]; omega
        have := HEL.out
        rw [hxs]
        omega)
      obtain ⟨vd, hvd⟩ : ∃ vd, vd = e.x.c.dead := ⟨_, rfl⟩
      rw [← hvd] at hzb HNX
      have z0 : W0.cell? ⟨y, 0, none⟩ = some (.int .i64 (e.t : Int)) := by rw [cell_of_row _ _ 0 _ _ _ hzb]; rfl
      have z1 : W0.cell? ⟨y, 1, none⟩ = some (.int .i64 e.x.k) := by rw [cell_of_row _ _ 1 _ _ _ hzb]; rfl
      have z2 : W0.cell? ⟨y, 2, none⟩ = some (.int .i64 e.x.c.v) := by rw [cell_of_row _ _ 2 _ _ _ hzb]; rfl
      have z3 : W0.cell? ⟨y, 3, none⟩ = some (.int .i64 e.x.c.s) := by rw [cell_of_row _ _ 3 _ _ _ hzb]; rfl
      have z4 : W0.cell? ⟨y, 4, none⟩ = some (.bool vd) := by rw [cell_of_row _ _ 4 _ _ _ hzb]; rfl
      have HVD := Lib.hid hvd
      rw [HNX.out]
      clear hI hlp hlt2 hk heo hy hWm hbm hzm hzl hne hP hszb hW0 hlt0 hxs hzb hvd hIl
      cases vd with
      | true =>
        rw [if_pos rfl, List.append_nil]
        gi_wp2_with (rw [Oper.semAt_eq _ _ _ (fun c h => by cases h)]; go_simp)
        exact ⟨Kps.refl _ _, HP.out.mono fun q hq => .inl hq, HXL.out⟩
      | false =>
        rw [if_neg (by decide)]
        obtain ⟨_, _, _, ⟨q1, q2, q3⟩, v, h3, h4, h6, h7, h5⟩ := HP.out
        obtain ⟨A9, c9, rfl⟩ := own_form h4
        obtain ⟨n9, hn9⟩ : ∃ n9, n9 = xs.length := ⟨_, rfl⟩
        have hbl := HXB.out
        have hsw := HP.out.b.size
        obtain ⟨Wc, hWc⟩ : ∃ Wc, Wc = W0.alloc (.cells #[.int .i64 (e.t : Int), .int .i64 e.x.k, .int .i64 e.x.c.v, .int .i64 e.x.c.s, .bool false] 112) := ⟨_, rfl⟩
        have hbc : Below W0.heap.size W0 Wc := by rw [hWc]; exact (Below.refl _ _).alloc (Nat.le_refl _) _
        have hrf : Rdv Wc (some ⟨W0.heap.size, 0, none⟩) 1 5 e.vals := by
          have h9 := rdv_freshE W0 e 112
          rw [← HVD.out] at h9
          rw [hWc]
          exact h9
        obtain ⟨v', w', hrun, ho, hg, hq⟩ := append_block elemSn Wc w.heap.size 53 (.slice A9 xs.length c9) xs.length (rowV En.vals xs) (h4.below hbc) (some ⟨W0.heap.size, 0, none⟩) 1 1 e.vals hrf (en1 e) (fun h => by cases h) (by unfold maxLen; omega) (by omega) (Nat.le_trans hsw hbc.size)
        obtain ⟨A8, c8, rfl⟩ := own_form ho
        have hpp := HP.out.push (e := e) h3 h4 h6 h7 h5 HL0.out ho (by rw [hWc] at hg; exact hg) (by rw [hWc] at hq; exact hq)
        have y7 : W0.cell? ⟨z, 0, none⟩ = some (.slice A9 n9 c9) := by rw [cell_of_row _ _ 0 _ _ _ h3, hn9]; rfl
        have yf := frozen_of hpp.2.2.1
        have y6 : w'.cell? ⟨z, 0, none⟩ = some (.slice A9 n9 c9) := by rw [cell_of_row _ _ 0 _ _ _ hpp.2.2.1, hn9]; rfl
        have y8 : (w'.setCell ⟨z, 0, none⟩ (.slice A8 (n9 + 1) c8)).cell? ⟨z, 0, none⟩ = some (.slice A8 (n9 + 1) c8) := by rw [hn9, cell_of_row _ _ 0 _ _ _ hpp.2.2.2]; rfl
        have y9 : (w'.setCell ⟨z, 0, none⟩ (.slice A8 (n9 + 1) c8)).cell? ⟨p5, 0, none⟩ = some (.int .i64 (N : Int)) := by rw [hn9, cell_of_row _ _ 0 _ _ _ hpp.1.side.1]; rfl
        have HPP := Lib.hid (And.intro hpp.1 hpp.2.1)
        rw [← hn9] at hrun HPP
        have HRUN := Lib.hid hrun
        have HWC := Lib.hid hWc
        have HN9 := Lib.hid hn9
        clear h3 h4 h6 h7 h5 q1 q2 q3 hbl hsw hWc hbc hrf hrun ho hg hq hpp hn9
        obtain ⟨m9, hm9⟩ : ∃ m9, m9 = n9 + 1 := ⟨_, rfl⟩
        have HM9 := Lib.hid hm9
        rw [← hm9] at HRUN HPP y8 y9
        clear hm9
        by_cases hN9 : m9 = N
        · have d1 : ((m9 : Int) == (N : Int)) = true := by rw [hN9]; simp
          have HMN := Lib.hid hN9
          clear hN9
          gi_wp2_with (first | (gi_at_builtin; rw [← HWC.out]; refine wpListIn_append rfl (.tmp 18) (.tmp 20) 53 53 rfl (.slice A9 n9 c9) (.slice (some ⟨W0.heap.size, 0, none⟩) 1 1) rfl rfl HRUN.out ?_) | (rw [Oper.semAt_eq _ _ _ (fun c h => by cases h)]; go_simp))
          exact ⟨HPP.out.2.mono fun q hq => .inl hq, rfl, HPP.out.1.mono fun q hq => .inl hq, by have := HM9.out; have := HMN.out; have := HN9.out; simp only [List.length_append, List.length_cons, List.length_nil]; omega⟩
        · have d1 : ((m9 : Int) == (N : Int)) = false := by
            have : ¬ (m9 : Int) = (N : Int) := by omega
            simpa using this
          have HMN := Lib.hid hN9
          clear hN9
          gi_wp2_with (first | (gi_at_builtin; rw [← HWC.out]; refine wpListIn_append rfl (.tmp 18) (.tmp 20) 53 53 rfl (.slice A9 n9 c9) (.slice (some ⟨W0.heap.size, 0, none⟩) 1 1) rfl rfl HRUN.out ?_) | (rw [Oper.semAt_eq _ _ _ (fun c h => by cases h)]; go_simp))
          exact ⟨HPP.out.2.mono fun q hq => .inl hq, HPP.out.1.mono fun q hq => .inl hq, by have := HM9.out; have := HMN.out; have := HN9.out; have := HXL.out; simp only [List.length_append, List.length_cons, List.length_nil]; omega⟩
    case done =>
      rintro D O1 WD ⟨hI, hIl⟩ _ _ _ hDge hD
      rw [List.take_length] at hI hIl
      obtain ⟨h1, _, _, _, v, h3, h4, _, _, _⟩ := hI
      have hRES : (liveE E).take N = liveE E := List.take_of_length_le (Nat.le_of_lt hIl)
      have HW3 := Lib.hid (show w3.heap.size ≤ D from hDge)
      have hw3 := HP3.out.1.b.size
      clear hIl hDge
      have y7 : WD.cell? ⟨z, 0, none⟩ = some v := by rw [cell_of_row _ _ 0 _ _ _ h3]; rfl
      have HV := Lib.hid (And.intro h4 (And.intro h1 hRES))
      have HD := Lib.hid (And.intro hD (show w.heap.size ≤ D from Nat.le_trans hw3 HW3.out))
      clear h1 hw3 h3 h4 hD hRES
      gi_wp2_with fail
      refine leaves_marks (v := v) _ _ (fun d hd => ⟨D, by rw [List.mem_singleton.1 hd], HD.out.1⟩) (List.pairwise_singleton _ _) fun w1 e1 e2 e3 e4 e5 => ⟨by simp [results, Try.results18, go_sem], v, rfl, ?_, ?_⟩
      · rw [HV.out.2.2]
        refine own_same HV.out.1 fun q hq => e5 q fun d hd c => ?_
        have e6 : D = q := by rw [List.mem_singleton.1 hd] at c; simpa using c
        obtain ⟨cur, e7⟩ := own_at HV.out.1 hq
        rw [← e6, HD.out.1] at e7
        simp at e7
      · have hb := HV.out.2.1
        refine ⟨e2.trans hb.os, e3.trans hb.tape, e4.trans hb.output, by rw [e1]; exact hb.size, fun q hq => (e5 q fun d hd c => ?_).trans (hb.block q hq)⟩
        have e6 : D = q := by rw [List.mem_singleton.1 hd] at c; simpa using c
        have := HD.out.2
        omega
end Go.Proofs.Ytejpjbmbcdgomaa

/- SweepNone: a nil sweep, and one of a nil store. -/
namespace Go.Proofs.Ytejpjbmbcdgomaa
set_option maxRecDepth 100000
open Go.RowKit

theorem fromE_nil (t k : Int) : liveE (fromE t k tsN) = [] := by
  have h : ∀ (m i : Nat), allE (partF t k tsN) i m = [] := fun m => by
    induction m with
    | zero => intro i; rfl
    | succ m ih =>
      intro i
      show tag i (partF t k tsN i) ++ allE (partF t k tsN) (i + 1) m = []
      rw [ih]
      simp [tag, partF, tsN, rng]
  unfold fromE
  rw [h]
  rfl
/-- Notes of a nil store: nothing lived. -/
structure NoN (NS : List Nt) (n : Nat) : Prop where
  up : UpN NS
  dead : ∀ x ∈ NS, x.live = false
  num : ∀ x ∈ NS, x.e.t < 4 ∧ Fits x.e.x.k
  len : NS.length ≤ n
theorem NoN.one {NS : List Nt} {n : Nat} {ct ck : Int} (h : NoN NS n) (x : Wr) (hx : WrOk x) : NoN (befW (fun _ _ => none) ct ck NS x) (n + 1) := by
  refine ⟨befW_up x h.up, fun y hy => ?_, fun y hy => ?_, Nat.le_trans (befW_len _ _ _ _ _) (by have := h.len; omega)⟩
  · unfold befW at hy
    split at hy
    · rcases noteS_mem.1 hy with e | ⟨_, rfl⟩
      · exact h.dead y e
      · rfl
    · exact h.dead y hy
  · unfold befW at hy
    split at hy
    · rename_i hc
      rcases noteS_mem.1 hy with e | ⟨_, rfl⟩
      · exact h.num y e
      · refine ⟨?_, hx.1⟩
        show x.t.toNat < 4
        omega
    · exact h.num y hy
theorem NoN.all {ct ck : Int} : ∀ (ws : List Wr) {NS : List Nt} {n : Nat}, NoN NS n → (∀ x ∈ ws, WrOk x) → NoN (befS (fun _ _ => none) ct ck NS ws) (n + ws.length)
  | [], _, _, h, _ => h
  | x :: ws, NS, n, h, hw => by
    have h1 := NoN.all (ct := ct) (ck := ck) ws (h.one (ct := ct) (ck := ck) x (hw x (by simp))) fun y hy => hw y (by simp [hy])
    rw [List.length_cons, show n + (ws.length + 1) = n + 1 + ws.length by omega]
    exact h1
theorem stepS_dead : ∀ (n : Nat) (NS : List Nt) (ct ck : Int), (∀ x ∈ NS, x.live = false) → NS.length < n → ∃ ct' ck', stepS n [] NS [] ct ck = ([], [], ct', ck', true)
  | 0, NS, _, _, _, h => absurd h (Nat.not_lt_zero _)
  | n + 1, [], ct, ck, _, _ => ⟨ct, ck, rfl⟩
  | n + 1, x :: NS, ct, ck, hd, hl => by
    obtain ⟨a, b, e⟩ := stepS_dead n NS (bhT x.e.t x.e.x.k) (bhK x.e.x.k) (fun y hy => hd y (by simp [hy])) (by simpa using hl)
    refine ⟨a, b, ?_⟩
    show stepS n [] NS (passT [] x.e x.live) _ _ = _
    rw [hd x (by simp)]
    exact e
theorem swbefore_nil (w : World) (A : Option Addr) (n c : Nat) : Calls Try.prog 39 #[.pointer none, .slice A n c] w fun e w' => e = .returned (.tuple #[]) ∧ w = w' := by
  have HD := Lib.hid (swdone_nil w)
  go_enter Try.func39, Try.ntmps39
  go_wp2_with fail
  refine Calls.mono HD.out ?_
  rintro e w1 ⟨rfl, rfl⟩
  go_wp2_with fail
  exact bodyPost_ret (v := .tuple #[]) (by simp [results, Try.results39, go_sem]) rfl ⟨rfl, rfl⟩
theorem putB_none : putB (fT []) = txtE [] := by kernel_rfl
theorem txt_small : ∀ x ∈ txtE [], x < 256 := by
  have e : txtE [] = [0, 83] := by kernel_rfl
  rw [e]
  intro x hx
  simp at hx
  omega
theorem wrap64_small {n : Nat} (h : n ≤ 100000) : wrap64 ((n : Int) + 1) = (n : Int) + 1 := by unfold wrap64; omega
set_option maxHeartbeats 16000000 in
theorem none18_law {w : World} {A : Option Addr} {c : Nat} {ws : List Wr} (h : Wrs w A ws) (hok : ∀ x ∈ ws, WrOk x) (n : Int) :
    Calls Try.prog 9 #[.slice A ws.length c, .int .i64 n] w fun e w' => e = .returned (.bool true) ∧ Below w.heap.size w w' := by
  have HIN := Lib.hid (And.intro h hok)
  obtain ⟨m, hm⟩ : ∃ m, m = ws.length := ⟨_, rfl⟩
  have HM := Lib.hid hm
  rw [← hm]
  clear h hok hm
  go_enter Try.func9, Try.ntmps9
  go_wp2_with fail
  refine Calls.mono (alive18_any w) ?_
  rintro e w1 ⟨rfl, hb1⟩
  have HB1 := Lib.hid hb1
  clear hb1
  by_cases hm30 : 30 < m
  · have d1 : (30 : Int) < (m : Int) := by omega
    go_wp2_with fail
    go_ret
    exact ⟨rfl, HB1.out⟩
  · have d1 : ¬ (30 : Int) < (m : Int) := by omega
    by_cases hn : 200 < n
    · have d2 : (200 : Int) < n := hn
      go_wp2_with fail
      go_ret
      exact ⟨rfl, HB1.out⟩
    · have d2 : ¬ (200 : Int) < n := hn
      have HMS := Lib.hid hm30
      clear hm30 hn
      have HN1 := Lib.hid (swbefore_nil w1 A m c)
      go_wp2_with fail
      refine Calls.mono HN1.out ?_
      rintro e w2 ⟨rfl, rfl⟩
      go_wp2_with fail
      refine Calls.mono (swtext_nil w1) ?_
      rintro e w2 ⟨rfl, rfl⟩
      have HBG := Lib.hid (swbegin_any w1 none)
      go_wp2_with fail
      refine Calls.mono HBG.out ?_
      rintro e w2 ⟨rfl, hs2, hb2⟩
      obtain ⟨xb, hxb⟩ : ∃ xb, xb = w1.heap.size := ⟨_, rfl⟩
      rw [← hxb] at hs2 ⊢
      have hb02 := HB1.out.trans (hb2.mono HB1.out.size)
      have hA : 0 < ws.length → ∀ b o, A = some ⟨b, o, none⟩ → b ≠ xb ∧ (Value.slice none 0 0).ownBlock ≠ some b := fun h0 b o e => by
        have hr := HIN.out.1
        rw [e] at hr
        have h7 := Rdv.blockLt hr.row h0 (by decide)
        exact ⟨by have := HB1.out.size; omega, fun e => by cases e⟩
      have HBF := Lib.hid (swbefore_any (c := c) (NS := []) hs2 (.inl ⟨rfl, rfl⟩) (by have := HM.out; have := HMS.out; simp; omega) List.Pairwise.nil (cel_nil w2) (fun q e => e.elim) (RowAt.below HIN.out.1 hb02) hA)
      rw [← HM.out] at HBF
      have HB2 := Lib.hid (And.intro hb02 hxb)
      clear hs2 hb2 hxb hb02 hA
      go_wp2_with fail
      refine Calls.mono HBF.out ?_
      rintro e w3 ⟨rfl, nv, hI3⟩
      obtain ⟨NS, hNS⟩ : ∃ NS, NS = befS (fun _ _ => none) 0 (-9223372036854775808) [] ws := ⟨_, rfl⟩
      have hNN : NoN NS (0 + ws.length) := by rw [hNS]; exact NoN.all ws ⟨List.Pairwise.nil, (fun x hx => by cases hx), (fun x hx => by cases hx), Nat.le_refl _⟩ HIN.out.2
      rw [← hNS] at hI3
      obtain ⟨nA, nc, rfl⟩ := hI3.no.form
      have hst := swstep_gen (P := fun q => (Value.slice nA NS.length nc).ownBlock = some q) ((m : Int) + 1) (w := w3) (B := w1.heap.size) (xb := xb) (so := none) (LV := []) (ct := 0) (ck := -9223372036854775808) (nA := nA) (nc := nc) (NS := NS) (A9 := none) (c9 := 0) (T := [])
        (fun W2 _ => by
          refine Calls.mono (sfrom_nil W2 0 (-9223372036854775808) ((m : Int) + 1)) ?_
          rintro e w' ⟨v, rfl, ho, hb⟩
          rw [fromE_nil] at ho
          exact ⟨v, rfl, by simpa using ho, hb⟩)
        ⟨by decide, fun y hy => by cases hy⟩
        ⟨hI3.sw, World.ownsRow_nil _ _ _ _, by have := HB2.out.2; omega, hI3.no, ⟨rfl, rfl, fun h => absurd h (by decide)⟩, fun h => absurd h (by decide), Touch.refl _ _ _, fun q e => .inl e, fun q e => e⟩
        (by have := hNN.len; have := HM.out; have := HMS.out; simp; omega) ⟨by decide, by decide, by decide, by decide⟩ hNN.num (by have := HMS.out; omega)
      obtain ⟨ct', ck', hR⟩ := stepS_dead ((m : Int) + 1).toNat NS 0 (-9223372036854775808) hNN.dead (by have := hNN.len; have := HM.out; omega)
      rw [hR] at hst
      have HST := Lib.hid hst
      have hb3 : Below w.heap.size w w3 := ⟨hI3.ch.os.trans HB2.out.1.os, hI3.ch.tape.trans HB2.out.1.tape, hI3.ch.output.trans HB2.out.1.output, Nat.le_trans HB2.out.1.size hI3.ch.size, fun k hk => (hI3.ch.block k (Nat.lt_of_lt_of_le hk HB2.out.1.size) (fun e => by have := HB2.out.2; have := HB1.out.size; omega) (fun e => by cases e)).trans (HB2.out.1.block k hk)⟩
      have HB3 := Lib.hid hb3
      have hmw := wrap64_small (n := m) (by have := HMS.out; omega)
      have HMW := Lib.hid hmw
      clear hI3 hNS hNN hst hR hb3 hmw
      go_wp2_with fail
      try rw [HMW.out]
      refine Calls.mono HST.out ?_
      rintro e w4 ⟨rfl, so', nA', nc', A8, c8, k1, k2, k3, k4, k6, k7, k8⟩
      have hb4 : Below w.heap.size w w4 := HB3.out.trans (k6.below (by have := HB2.out.2; have := HB1.out.size; have := HB3.out.size; omega) (fun q e => by cases e) HB3.out.size)
      have HTX := Lib.hid (swtext_any (T := []) k1 k3 (Nat.zero_le _) (fun e he => by cases he))
      rw [putB_none] at HTX
      have HB4 := Lib.hid hb4
      clear k1 k2 k3 k4 k6 k7 k8 hb4
      obtain ⟨PB, hPB⟩ : ∃ PB, PB = txtE [] := ⟨_, rfl⟩
      have HPB : Hid (PB = txtE [] ∧ ∀ x ∈ PB, x < 256) := Lib.hid ⟨hPB, by rw [hPB]; exact txt_small⟩
      rw [← hPB] at HTX
      clear hPB
      go_wp2_with fail
      refine Calls.mono HTX.out ?_
      rintro e w5 ⟨A5, c5, rfl, hr5, hb5⟩
      have HR5 := Lib.hid (And.intro hr5 (HB4.out.trans (hb5.mono HB4.out.size)))
      have HS5 := Lib.hid (swstep_nil w5 n)
      have HD5 := Lib.hid (swdone_nil w5)
      have HIS := Lib.hid (is_errV 11 11 (by decide) w5)
      have HPT := Lib.hid (r9text_any (w := w5) (A := none) (c := 0) (l := []) (last := 0) ⟨rfl, rfl, fun h => absurd h (by decide)⟩ (by decide) (fun e he => by cases he))
      rw [← HPB.out.1] at HPT
      clear hr5 hb5
      unfold errV
      unfold errV at HIS
      simp only [show (11 : Nat) ≠ 0 by decide, if_false] at HIS
      go_wp2_with fail
      refine Calls.mono HS5.out ?_
      rintro e w6 ⟨rfl, rfl⟩
      go_wp2_with fail
      refine Calls.mono HD5.out ?_
      rintro e w6 ⟨rfl, rfl⟩
      go_wp2_with fail
      refine Calls.mono HIS.out ?_
      rintro e w6 ⟨rfl, rfl⟩
      go_wp2_with fail
      refine Calls.mono HPT.out ?_
      rintro e w7 ⟨v7, rfl, ho7, hb7⟩
      obtain ⟨A7, c7, rfl, hr7, _, _⟩ := rdv_own ho7
      have HR7 := Lib.hid (And.intro (Rdv.ext HR5.out.1 fun p hp => hb7.cell hp) (And.intro hr7 (HR5.out.2.trans (hb7.mono HR5.out.2.size))))
      clear ho7 hb7 hr7
      go_wp2_with fail
      refine Calls.mono (same_any A5 A7 PB.length c5 PB.length c7 PB PB w7 HR7.out.1 HR7.out.2.1 HPB.out.2 HPB.out.2) ?_
      rintro e w8 ⟨rfl, rfl⟩
      rw [decide_eq_true rfl]
      go_wp2_with fail
      go_ret
      exact ⟨rfl, HR7.out.2.2⟩
end Go.Proofs.Ytejpjbmbcdgomaa

/- A row of writes, opened. -/
namespace Go.Proofs.Ytejpjbmbcdgomaa
set_option maxRecDepth 100000
open Go.ChangeShapes Go.WideShapes Go.ChangeAt Go.RowKit

theorem open_wrs18 {H : Type} {enc : TypeId × Value → H} {W : World} {sp : Nat → Bool} {v : Value} {base : Nat} {r : Reach} {x : DataW H × List MemPlace} (hv : Value.okWide Try.prog W r base 32 v) (h : ∃ fuel, DataW.trod enc Try.prog W 0 sp true fuel 32 v.cells.toList = some x) :
    ∃ A c ws, v = .slice A (List.length ws) c ∧ Wrs W A ws ∧ (∀ x ∈ ws, WrOk x) ∧ ws.length ≤ 9223372036854775807 := by
  obtain ⟨B, len, cap, rfl⟩ := okWide_slice Try.underlying32 hv
  obtain ⟨fuel, hf⟩ := h
  obtain ⟨A, n, c, l, e, h1, h2, _, h4⟩ := open_rowat (f := Wr.vals) WrOk Wr.vlen (by decide) Try.underlying32 cellsWr ⟨0, 0, 0, false⟩ open_wr (by simpa [Value.cells] using hf)
  obtain rfl := h1.len
  exact ⟨A, c, l, e, h1, h4, h2⟩
end Go.Proofs.Ytejpjbmbcdgomaa
