/- SRg1: put together. -/
import Derived.Test.YtejpjbmbcdgomaaPd13
/- Range$1: the live values of a table's part of a span. -/
namespace Go.Proofs.Ytejpjbmbcdgomaa
set_option maxRecDepth 100000
open Go.RowKit

def liveX (L : List Ix) : List Ix := L.filter fun x => !x.c.dead
def encK (L : List Ix) (k : Nat) : Array Value := #[.int .i64 (L.getD k ⟨0, ⟨0, 0, false⟩⟩).k, .int .i64 (L.getD k ⟨0, ⟨0, 0, false⟩⟩).c.v]
theorem encK_at {L : List Ix} {k : Nat} {x : Ix} (h : L[k]? = some x) : encK L k = #[.int .i64 x.k, .int .i64 x.c.v] := by
  unfold encK
  rw [List.getD_eq_getElem?_getD, h]
  rfl
theorem liveX_take {L : List Ix} {q : Nat} {x : Ix} (h : L[q]? = some x) : liveX (L.take (q + 1)) = liveX (L.take q) ++ (if x.c.dead then [] else [x]) := by
  obtain ⟨hk, he⟩ := List.getElem?_eq_some_iff.1 h
  have : L.take (q + 1) = L.take q ++ [x] := by rw [← he]; exact (List.take_append_getElem hk).symm
  rw [this]
  unfold liveX
  rw [List.filter_append]
  congr 1
  cases hd : x.c.dead <;> simp [hd]
theorem liveX_at {L : List Ix} {q : Nat} {x : Ix} (h : L[q]? = some x) (hd : x.c.dead = false) : (liveX L)[(liveX (L.take q)).length]? = some x := by
  obtain ⟨hk, he⟩ := List.getElem?_eq_some_iff.1 h
  have e : L = L.take q ++ (x :: L.drop (q + 1)) := by
    rw [← he, List.getElem_cons_drop, List.take_append_drop]
  have e2 : liveX L = liveX (L.take q) ++ liveX (x :: L.drop (q + 1)) := by
    conv => lhs; rw [e]
    unfold liveX
    rw [List.filter_append]
  rw [e2, List.getElem?_append_right (Nat.le_refl _), Nat.sub_self]
  unfold liveX
  rw [List.filter_cons_of_pos (by simp [hd])]
  rfl
set_option maxHeartbeats 16000000 in
theorem range1_hands {w : World} {q5 zb : Nat} {v : Value} {L : List Ix} {O0 : Nat → Prop} (hR : RgB w q5 zb v L) (hn : L.length ≤ 100000) (hO : ∀ q, RgO q5 zb v q → O0 q) :
    Hands2 Try.prog 53 #[.pointer (some ⟨q5, 0, none⟩)] O0 (liveX L).length (encK (liveX L)) (fun _ _ => True) w := by
  intro l J Jx W O hW hJ hJx hRq hY h0 hsub hlt
  refine callsIn_wide.2 ((callsIn_wide (n := 11)).1 ?_)
  have hRW : RgB W q5 zb v L := hR.keep fun q hq => hW.2 q (hO q hq)
  obtain ⟨b2, hb2⟩ : ∃ b2, b2 = W.heap.size := ⟨_, rfl⟩
  obtain ⟨W1, hW1⟩ : ∃ W1, W1 = W.alloc (.cells #[.func (.yield l) #[] #[]] 109) := ⟨_, rfl⟩
  have hbw : Below W.heap.size W W1 := by rw [hW1]; exact (Below.refl _ _).alloc (Nat.le_refl _) _
  have hs1 : W1.heap.size = W.heap.size + 1 := by rw [hW1]; simp
  have hy1 : W1.heap[b2]? = some (.cells #[.func (.yield l) #[] #[]] 109 (0, 0)) := by rw [hW1, hb2]; exact heap_alloc_new W _
  have hR1 : RgB W1 q5 zb v L := hRW.keep fun q hq => hbw.block q (hRW.lt hq)
  obtain ⟨Oi, hOi⟩ : ∃ Oi : Nat → Prop, Oi = fun q => q = zb ∨ v.ownBlock = some q := ⟨_, rfl⟩
  have hOiO : ∀ q, Oi q → O q := fun q e => by
    rw [hOi] at e
    exact hsub q (hO q (.inr e))
  have hOlt : ∀ q, Oi q → q < W.heap.size := fun q e => hlt q (hOiO q e)
  obtain ⟨_, hzr, B9, hown⟩ := id hR1
  obtain ⟨A, cc, hv, hrd, _, _⟩ := rdv_own hown
  have hH := range2_hands zb A cc Oi L W1 (by rw [cell_of_row _ _ 0 _ _ _ hzr, hv]; rfl) hrd hn (fun q hq => by have := hOlt q hq; omega) (by rw [hOi]; exact .inl rfl) (fun b o e => by rw [hOi, hv, e]; exact .inr rfl)
  have hlay : Lay (J (liveX (L.take 0)).length) (fun q => (O q ∧ ¬ Oi q) ∨ q = b2) W1 Oi W1 := ⟨fun q => O q ∨ q = b2, (hJ 0).grow h0 hbw ⟨fun q e => .inl e, fun q e => e.imp id fun e => by omega⟩, fun q e => .inl (hOiO q e), fun q e => ⟨e.imp And.left id, fun c => by
      rcases e with e | e
      · exact e.2 c
      · have := hOlt q c; omega, rfl⟩, fun q e => by
      rcases e with e | e
      · have := hlt q e; omega
      · omega, fun q e => by
      rcases e with e | e
      · have := hlt q e.1; omega
      · omega⟩
  have HLAY := Lib.hid hlay
  have HH := Lib.hid hH
  have HYB := Lib.hid hy1
  have HJ := Lib.hid hJ
  have HJX := Lib.hid hJx
  have HY := Lib.hid hY
  have HOL := Lib.hid (fun q (e : Oi q) => (show q < W1.heap.size by have := hOlt q e; omega))
  have HW := Lib.hid (And.intro hW1 hb2)
  have c5 : W1.cell? ⟨q5, 0, none⟩ = some (.func (.func 88) #[] #[.pointer (some ⟨zb, 0, none⟩)]) := by rw [cell_of_row _ _ 0 _ _ _ hR1.box]; rfl
  have HRL : Hid (∀ q, q < L.length → ∃ x, L[q]? = some x) := Lib.hid fun q hq => ⟨_, List.getElem?_eq_getElem hq⟩
  have HOI := Lib.hid (And.intro hOi hOiO)
  clear hJ hJx hRq hY h0 hsub hlt hW hR hRW hR1 hW1 hb2 hbw hs1 hy1 hlay hH hOlt hzr hown hv hrd hO hn hOi hOiO
  refine callsIn_of_wp_marks Try.func53 rfl trivial ?_ rfl
  simp only [Try.ntmps53, List.size_toArray, List.length_cons, List.length_nil, Nat.reduceAdd, Nat.reduceSub, Array.replicate_succ, Array.replicate_zero, List.push_toArray, List.append_toArray, List.nil_append, List.cons_append]
  gi_upto_region 1 with (fail)
  rw [← HW.out.1, ← HW.out.2]
  gi_wp2_with fail
  refine wp_range2 (w0 := W1) (O0 := Oi) (O := Oi) (N := L.length) (enc := encI L) (Rq := fun _ _ => True) (gf := 88) (lb := #[.pointer (some ⟨zb, 0, none⟩)]) rfl (enters_of Try.func88 (by kernel_rfl) rfl) HH.out (Kps.refl _ _) (fun _ => rfl)
    (fun q Oq W' => Lay (J (liveX (L.take q)).length) (fun q => (O q ∧ ¬ Oi q) ∨ q = b2) W1 Oq W') (fun c q Oq W' => c = .ret ∧ Lay (fun O W => ∃ k, k < (liveX L).length ∧ Jx (k + 1) O W) (fun q => (O q ∧ ¬ Oi q) ∨ q = b2) W1 Oq W')
    (fun q => (HJ.out _).lay _ _) (fun c q Oq Oq' Wa Wb h hC hG => ⟨h.1, St2.lay (J := fun O W => ∃ k, k < (liveX L).length ∧ Jx (k + 1) O W) (fun O O' W W' ⟨k, hk, hj⟩ hC hG => ⟨k, hk, HJX.out (k + 1) O O' W W' hj hC hG⟩) _ _ Oq Oq' Wa Wb h.2 hC hG⟩) (fun _ _ _ _ _ => trivial) HLAY.out (fun _ h => h) (fun q hq => HOL.out q hq) ?round ?done ?stop
  case round =>
    intro l2 lp q ob Oq Wq hq hI hsub2 hlt2 hlp hlpg K hK
    obtain ⟨x, hx⟩ : ∃ x, x = L[q] := ⟨_, rfl⟩
    have hxo : L[q]? = some x := by rw [hx]; exact List.getElem?_eq_getElem hq
    obtain ⟨Oo, hJq, h2, h3, h4, h5⟩ := hI
    have hen : encI L q = #[.int .i64 x.k, .agg #[.int .i64 x.c.v, .int .i64 x.c.s, .bool x.c.dead]] := by rw [encI_at hq, ← hx]; rfl
    rw [hen]
    have hbm : Below Wq.heap.size Wq (Wq.alloc (.cells #[.int .i64 x.c.v, .int .i64 x.c.s, .bool x.c.dead] 44)) := (Below.refl _ _).alloc (Nat.le_refl _) _
    have HBM := Lib.hid hbm
    have HQ := Lib.hid (And.intro hxo (And.intro hJq (And.intro h2 (And.intro h3 (And.intro h4 h5)))))
    have HLP := Lib.hid (And.intro hlp (hlt2 lp hlp))
    clear hq hJq h2 h3 h4 h5 hx hen hbm hsub2 hlt2 hlp hlpg hxo
    simp only [List.zip_toArray, List.zip_cons_cons, List.zip_nil_right, List.foldl_toArray, List.foldl_cons, List.foldl_nil, List.setIfInBounds_toArray, List.set_cons_succ, List.set_cons_zero]
    gi_wp2_with (rw [Oper.semAt_eq _ _ _ (fun c h => by cases h)]; go_simp)
    refine hK _ _ HBM.out ?_
    clear hK K
    obtain ⟨hxo, hJq, h2, h3, h4, h5⟩ := HQ.out
    obtain ⟨z, hz⟩ : ∃ z, z = Wq.heap.size := ⟨_, rfl⟩
    obtain ⟨Wm, hWm⟩ : ∃ Wm, Wm = Wq.alloc (.cells #[.int .i64 x.c.v, .int .i64 x.c.s, .bool x.c.dead] 44) := ⟨_, rfl⟩
    have hbm := HBM.out
    have hzm : Wm.heap[Wq.heap.size]? = some (.cells #[.int .i64 x.c.v, .int .i64 x.c.s, .bool x.c.dead] 44 (0, 0)) := by rw [hWm]; exact heap_alloc_new Wq _
    rw [← hWm] at hbm ⊢
    have hJ1 : J (liveX (L.take q)).length Oo (Wm.putObj lp ob) := (HJ.out _).put _ ((HJ.out _).below hJq hbm) (h2 lp HLP.out.1)
    have hown : ∀ p, ((O p ∧ ¬ Oi p) ∨ p = b2) → (Wm.putObj lp ob).heap[p]? = W1.heap[p]? := fun p hp =>
      (World.putObj_heap_other (fun e => (h3 p hp).2.1 (by rw [e]; exact HLP.out.1))).trans ((hbm.block p (h5 p hp)).trans (h3 p hp).2.2)
    have hzb : (Wm.putObj lp ob).heap[z]? = some (.cells #[.int .i64 x.c.v, .int .i64 x.c.s, .bool x.c.dead] 44 (0, 0)) := by
      rw [hz]
      exact (World.putObj_heap_other (by have := HLP.out.2; omega)).trans hzm
    have hszb : (Wm.putObj lp ob).heap.size = Wm.heap.size := World.putObj_size
    obtain ⟨Wb, hWb⟩ : ∃ Wb, Wb = Wm.putObj lp ob := ⟨_, rfl⟩
    rw [← hz]
    rw [← hWb] at hJ1 hown hzb hszb ⊢
    have hbsz : Wq.heap.size ≤ Wb.heap.size := by rw [hszb]; exact hbm.size
    have HE := Lib.hid (And.intro h2 (And.intro h3 (And.intro h4 (And.intro h5 (And.intro hown hbsz)))))
    have HJ1 := Lib.hid hJ1
    have HXO := Lib.hid hxo
    have HNX : Hid (liveX (L.take (q + 1)) = liveX (L.take q) ++ (if x.c.dead then [] else [x])) := Lib.hid (liveX_take hxo)
    obtain ⟨vd, hvd⟩ : ∃ vd, vd = x.c.dead := ⟨_, rfl⟩
    rw [← hvd] at hzb HNX
    have HVD := Lib.hid hvd
    have yb := (hown b2 (.inr rfl)).trans HYB.out
    have y0 : Wb.cell? ⟨b2, 0, none⟩ = some (.func (.yield l) #[] #[]) := by rw [cell_of_row _ _ 0 _ _ _ yb]; rfl
    have z0 : Wb.cell? ⟨z, 0, none⟩ = some (.int .i64 x.c.v) := by rw [cell_of_row _ _ 0 _ _ _ hzb]; rfl
    have z2 : Wb.cell? ⟨z, 2, none⟩ = some (.bool vd) := by rw [cell_of_row _ _ 2 _ _ _ hzb]; rfl
    clear hJq h2 h3 h4 h5 hz hWm hbm hzm hJ1 hown hzb hszb hWb hbsz yb hvd hxo
    have HLAY3 : Hid (∀ (X : (Nat → Prop) → World → Prop) (W3 : World), Kps Oo Wb W3 → X Oo W3 → Lay X (fun q => (O q ∧ ¬ Oi q) ∨ q = b2) W1 Oq W3 ∧ Kps Oq Wb W3) := Lib.hid fun X W3 hk3 hX => ⟨⟨Oo, hX, HE.out.1, fun p e => ⟨(HE.out.2.1 p e).1, (HE.out.2.1 p e).2.1, (hk3.2 p (HE.out.2.1 p e).1).trans (HE.out.2.2.2.2.1 p e)⟩,
            fun p e => Nat.lt_of_lt_of_le (HE.out.2.2.1 p e) (Nat.le_trans HE.out.2.2.2.2.2 hk3.1), fun p e => Nat.lt_of_lt_of_le (HE.out.2.2.2.1 p e) (Nat.le_trans HE.out.2.2.2.2.2 hk3.1)⟩, hk3.mono HE.out.1⟩
    cases vd with
    | true =>
      rw [if_pos rfl, List.append_nil] at HNX
      gi_wp2_with (rw [Oper.semAt_eq _ _ _ (fun c h => by cases h)]; go_simp)
      repeat (refine ⟨fun f h => (by cases h), ?_⟩; gi_wp2_with (rw [Oper.semAt_eq _ _ _ (fun c h => by cases h)]; go_simp))
      have h9 := HLAY3.out (J (liveX (L.take q)).length) Wb (Kps.refl _ _) HJ1.out
      refine ⟨h9.2, ?_⟩
      rw [HNX.out]
      exact h9.1
    | false =>
      rw [if_neg (by decide)] at HNX
      have hat := liveX_at HXO.out HVD.out.symm
      have hklt := (List.getElem?_eq_some_iff.1 hat).1
      have hyR := HY.out _ Oo Wb hklt HJ1.out (fun p hp => Nat.lt_of_lt_of_le (HE.out.2.2.1 p hp) HE.out.2.2.2.2.2)
      rw [encK_at hat] at hyR
      have HKL := Lib.hid hklt
      obtain ⟨fn, tmps, assign, body, hy, hRr⟩ := hyR
      have HRR := Lib.hid hRr
      clear hRr hat hklt
      gi_wp2_with (rw [Oper.semAt_eq _ _ _ (fun c h => by cases h)]; go_simp)
      refine (round_any HRR.out).mono ?_
      rintro e W3 ⟨hk3, hj3⟩
      have HL3 := Lib.hid (fun X hX => HLAY3.out X W3 hk3 hX)
      clear hk3
      rcases hj3 with ⟨rfl, hJ3⟩ | ⟨rfl, hJ3⟩
      · have h9 := HL3.out _ hJ3
        have HJ3 := Lib.hid h9
        clear hJ3 h9
        gi_wp2_with (rw [Oper.semAt_eq _ _ _ (fun c h => by cases h)]; go_simp)
        refine ⟨HJ3.out.2, ?_⟩
        rw [HNX.out, List.length_append]
        exact HJ3.out.1
      · have h9 := HL3.out (fun O W => ∃ k, k < (liveX L).length ∧ Jx (k + 1) O W) ⟨_, HKL.out, hJ3⟩
        have HJ3 := Lib.hid h9
        clear hJ3 h9
        gi_wp2_with (rw [Oper.semAt_eq _ _ _ (fun c h => by cases h)]; go_simp)
        exact ⟨HJ3.out.2, rfl, HJ3.out.1⟩
  case done =>
    intro D Oq Wd hI hsub2 hOD hlt2 hDge hD
    rw [List.take_length] at hI
    obtain ⟨Oo, hJd, h2, h3, h4, h5⟩ := hI
    have HDD := Lib.hid hD
    have HO : Hid (∀ q, O q → Oo q) := Lib.hid fun q e => by
      by_cases c : Oi q
      · exact h2 q (hsub2 q c)
      · exact (h3 q (.inl ⟨e, c⟩)).1
    have HF := Lib.hid (And.intro hJd (And.intro (h2 D hOD) h4))
    clear hJd h2 h3 h4 h5 hsub2 hOD hlt2 hDge hD
    refine leaves_marks (v := .tuple #[]) _ _ (fun d hd => ⟨D, by rw [List.mem_singleton.1 hd], HDD.out⟩) (List.pairwise_singleton _ _) fun w1 e1 e2 e3 e4 e5 => ⟨by simp [results, Try.results53, go_sem], ⟨_, rfl⟩, Oo, HO.out, fun p e => by rw [e1]; exact HF.out.2.2 p e, .inl ?_⟩
    exact (HJ.out _) Oo Oo Wd w1 HF.out.1 (ch_marks (fun d hd r e => by
      rw [List.mem_singleton.1 hd] at e
      have e6 : D = r := by simpa using e
      exact e6 ▸ HF.out.2.1) e1 e2 e3 e4 e5) (OG.refl _ _ _)
  case stop =>
    rintro D q c Oq Wd hq ⟨rfl, hI⟩ hsub2 hOD hlt2 hDge hD
    obtain ⟨Oo, ⟨k, hk, hJd⟩, h2, h3, h4, h5⟩ := hI
    have HDD := Lib.hid hD
    have HO : Hid (∀ q, O q → Oo q) := Lib.hid fun q e => by
      by_cases c : Oi q
      · exact h2 q (hsub2 q c)
      · exact (h3 q (.inl ⟨e, c⟩)).1
    have HF := Lib.hid (And.intro hJd (And.intro (h2 D hOD) h4))
    have HKK := Lib.hid hk
    clear hJd h2 h3 h4 h5 hsub2 hOD hlt2 hDge hD hk hq
    gi_wp2_with fail
    refine leaves_marks (v := .tuple #[]) _ _ (fun d hd => ⟨D, by rw [List.mem_singleton.1 hd], HDD.out⟩) (List.pairwise_singleton _ _) fun w1 e1 e2 e3 e4 e5 => ⟨by simp [results, Try.results53, go_sem], ⟨_, rfl⟩, Oo, HO.out, fun p e => by rw [e1]; exact HF.out.2.2 p e, .inr ⟨k, HKK.out, ?_⟩⟩
    exact (HJX.out _) Oo Oo Wd w1 HF.out.1 (ch_marks (fun d hd r e => by
      rw [List.mem_singleton.1 hd] at e
      have e6 : D = r := by simpa using e
      exact e6 ▸ HF.out.2.1) e1 e2 e3 e4 e5) (OG.refl _ _ _)
end Go.Proofs.Ytejpjbmbcdgomaa
