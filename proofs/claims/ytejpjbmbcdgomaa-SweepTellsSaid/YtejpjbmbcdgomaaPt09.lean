/- TSetC: put together. -/
import Derived.Test.YtejpjbmbcdgomaaPt08
/- A set at a node: the item goes below. -/
namespace Go.Proofs.Ytejpjbmbcdgomaa
set_option maxRecDepth 100000
open Go.RowKit

theorem Mv.of_split {w w1 w' : World} {n0 L0 R1 n L R : Nd} (_ : NdM w n0) (_ : NdM w L0) (hb : Below w.heap.size w w1) (hnew : ∀ k, R1.B k → w.heap.size ≤ k) (T : Tri w1 w' n0 L0 R1 n L R) : Mv w w' [n0, L0] [n, L, R] := by
  refine ⟨all3 T.hn T.hL T.hR T.a1 T.a2 T.a3, ?_, fun k e => ?_⟩
  · exact (Ch.of_below hb _).trans T.ch (fun q e => by
      rcases e with e | e | e
      · exact .inl (bl2.2 (.inl e))
      · exact .inl (bl2.2 (.inr e))
      · exact .inr (hnew q e))
  · have hs := hb.size
    rcases bl3.1 e with e | e | e
    · exact (T.fn.new k e).imp (fun e => bl2.2 (.inl e)) (fun e => Nat.le_trans hs e)
    · exact (T.fL.new k e).imp (fun e => bl2.2 (.inr e)) (fun e => Nat.le_trans hs e)
    · rcases T.fR.new k e with e | e
      · exact .inr (hnew k e)
      · exact .inr (Nat.le_trans hs e)
section
variable {w w' w1 : World} {d : Nat} {n n' L' R' R1 : Nd} {a b : List (MT d)} {c : MT d} {kl kr : List (MT (d - 1))}
theorem one_all (h : All w (n :: (a ++ c :: b).flatMap (nodes d))) : All w ([n, root d c] ++ ((kid d c).flatMap (nodes (d - 1)) ++ (a ++ b).flatMap (nodes d))) := by
  have p1 := one_perm (kid d c) (kid_zero d c) n (root d c) a b
  rw [mk_eta] at p1
  exact h.perm p1
theorem split_mv (h : All w (n :: (a ++ c :: b).flatMap (nodes d))) (M : Mv w w' [n, root d c] [n', L', R']) (hk : kl ++ kr = kid d c) (hkl : d = 0 → kl = []) (hkr : d = 0 → kr = []) :
    Mv w w' (n :: (a ++ c :: b).flatMap (nodes d)) (n' :: (a ++ mkT d L' kl :: mkT d R' kr :: b).flatMap (nodes d)) := by
  have h1 := Mv.frame (one_all h) M
  have p2 := pair_perm kl kr hkl hkr n' L' R' a b
  rw [hk] at p2
  have p1 := one_perm (kid d c) (kid_zero d c) n (root d c) a b
  rw [mk_eta] at p1
  exact h1.perm p1.symm p2.symm
open Classical in
theorem kid_perm (n : Nd) (c : MT d) (a b : List (MT d)) : (n :: (a ++ c :: b).flatMap (nodes d)).Perm (nodes d c ++ (n :: (a ++ b).flatMap (nodes d))) := by
  rw [List.perm_iff_count]
  intro z
  simp only [List.flatMap_append, List.flatMap_cons, List.count_append, List.count_cons]
  omega
/-- One below becomes another one. -/
theorem kid_mv {c' : MT d} (h : All w (n :: (a ++ c :: b).flatMap (nodes d))) (M : Mv w w' (nodes d c) (nodes d c')) : Mv w w' (n :: (a ++ c :: b).flatMap (nodes d)) (n :: (a ++ c' :: b).flatMap (nodes d)) :=
  (Mv.frame (h.perm (kid_perm n c a b)) M).perm (kid_perm n c a b).symm (kid_perm n c' a b).symm
theorem kid_all (h : All w (n :: (a ++ c :: b).flatMap (nodes d))) : All w (nodes d c) := (h.perm (kid_perm n c a b)).left
theorem NodeIn.below (h : NodeIn w n (a ++ c :: b)) (hb : Below w.heap.size w w1) : NodeIn w1 n (a ++ c :: b) := ⟨h.all.below hb, h.ps, h.lk, h.len, h.few, h.ok⟩
theorem NodeIn.kid (h : NodeIn w n (a ++ c :: b)) {c' : MT d} (hp : pOf d c' = pOf d c) (hl : Lk d c') (hok : Ok d (trOf d c') ∧ (root d c').is.length ≤ 6) (hA : All w' (n :: (a ++ c' :: b).flatMap (nodes d))) : NodeIn w' n (a ++ c' :: b) := by
  refine ⟨hA, ?_, fun z hz => ?_, ?_, h.few, fun z hz => ?_⟩
  · rw [h.ps]; simp [hp]
  · rcases List.mem_append.1 hz with e | e
    · exact h.lk z (List.mem_append_left _ e)
    · rcases List.mem_cons.1 e with e | e
      · subst e; exact hl
      · exact h.lk z (List.mem_append_right _ (List.mem_cons_of_mem _ e))
  · rw [← h.len]; simp
  · rcases List.mem_append.1 hz with e | e
    · exact h.ok z (List.mem_append_left _ e)
    · rcases List.mem_cons.1 e with e | e
      · subst e; exact hok
      · exact h.ok z (List.mem_append_right _ (List.mem_cons_of_mem _ e))
end
/-- What a call below gives. -/
def KidPost {d : Nat} (w : World) (c : MT d) (t' : Tr Cl d) (y : Cl) (bo : Bool) (e : Ending) (w' : World) : Prop :=
  ∃ c' : MT d, e = .returned (.tuple #[.agg #[.int .i64 y.v, .int .i64 y.s, .bool y.dead], .bool bo]) ∧ pOf d c' = pOf d c ∧ trOf d c' = t' ∧ Lk d c' ∧ Mv w w' (nodes d c) (nodes d c')
/-- What a call at a node gives. -/
def NodeOut {d : Nat} (w : World) (n : Nd) (cs : List (MT d)) (res : List Ix × List (Tr Cl d)) (y : Cl) (bo : Bool) (e : Ending) (w' : World) : Prop :=
  ∃ (n' : Nd) (cs' : List (MT d)), e = .returned (.tuple #[.agg #[.int .i64 y.v, .int .i64 y.s, .bool y.dead], .bool bo]) ∧ n'.p = n.p ∧ n'.is = res.1 ∧ cs'.map (trOf d) = res.2 ∧ n'.ps = cs'.map (pOf d) ∧ (∀ z ∈ cs', Lk d z) ∧ Mv w w' (n :: cs.flatMap (nodes d)) (n' :: cs'.flatMap (nodes d))
/-- The state ahead of the last step of a set: the cell that was, the result's cell, both apart of the tree. -/
structure SMid {d : Nat} (w0 wx : World) (n : Nd) (cs : List (MT d)) (n' : Nd) (cs' : List (MT d)) (k : Nat) (y : Cl) : Prop where
  mv : Mv w0 wx (n :: cs.flatMap (nodes d)) (n' :: cs'.flatMap (nodes d))
  was : wx.heap[k]? = some (.cells #[.int .i64 y.v, .int .i64 y.s, .bool y.dead] 44 (0, 0))
  res : wx.heap[w0.heap.size + 1]? = some (.cells #[.int .i64 0, .int .i64 0, .bool false] 44 (0, 0))
  a1 : ¬ BL (n' :: cs'.flatMap (nodes d)) k
  a2 : ¬ BL (n' :: cs'.flatMap (nodes d)) (w0.heap.size + 1)
section
variable {d : Nat} {w w1 w8 : World} {n : Nd} {a b : List (MT d)} {c c' : MT d} {x : Ix}
theorem mid_base (H : NodeIn w n (a ++ c :: b)) (B : Bx w w1 x) (M : Mv w1 w8 (nodes d c) (nodes d c')) : Mv w w8 (n :: (a ++ c :: b).flatMap (nodes d)) (n :: (a ++ c' :: b).flatMap (nodes d)) ∧
    w8.heap[w.heap.size + 1]? = some (.cells #[.int .i64 0, .int .i64 0, .bool false] 44 (0, 0)) ∧ ¬ BL (n :: (a ++ c' :: b).flatMap (nodes d)) (w.heap.size + 1) ∧ ∀ k, BL (n :: (a ++ c' :: b).flatMap (nodes d)) k → k < w.heap.size ∨ w1.heap.size ≤ k := by
  have hA := H.all.below B.below
  have MM := kid_mv hA M
  have hall : ∀ k, BL (n :: (a ++ c' :: b).flatMap (nodes d)) k → k < w.heap.size ∨ w1.heap.size ≤ k := fun k e => (MM.fr k e).imp (fun e => H.all.lt e) id
  have h2 := B.h
  refine ⟨(Mv.below H.all B.below).trans MM, ?_, fun e => ?_, hall⟩
  · exact (MM.ch.block _ (by omega) (fun e => by have := H.all.lt e; omega)).trans B.res
  · rcases hall _ e with e | e <;> omega
theorem Mv.res2 {w0 wc W3 : World} {l l' : List Nd} {r : Nat} (M1 : Mv w0 wc l l') (A : At wc W3 r) (hr : w0.heap.size ≤ r) (hne : ¬ BL l' r) : Mv w0 W3 l l' := by
  refine ⟨⟨fun n hn => (M1.all.m n hn).keep fun k hk => A.block k (fun e => hne (by rw [← e]; exact ⟨n, hn, hk⟩)), M1.all.ap⟩, ?_, M1.fr⟩
  exact M1.ch.trans (⟨A.os, A.tape, A.output, by rw [A.size]; exact Nat.le_refl _, fun k _ hk => A.block k hk⟩ : Ch wc W3 (fun k => k = r)) (fun q e => .inr (by subst e; exact hr))
theorem SMid.fresh (H : NodeIn w n (a ++ c :: b)) (B : Bx w w1 x) (M : Mv w1 w8 (nodes d c) (nodes d c')) (y : Cl) : SMid w (w8.alloc (.cells #[.int .i64 y.v, .int .i64 y.s, .bool y.dead] 44)) n (a ++ c :: b) n (a ++ c' :: b) w8.heap.size y := by
  obtain ⟨h1, h2, h3, h4⟩ := mid_base H B M
  have hb := (Below.refl _ w8).alloc (Nat.le_refl _) (.cells #[.int .i64 y.v, .int .i64 y.s, .bool y.dead] 44)
  refine ⟨h1.trans (Mv.below h1.all hb), heap_alloc_new w8 _, ?_, fun e => ?_, h3⟩
  · exact (hb.block _ (Array.getElem?_eq_some_iff.1 h2).1).trans h2
  · have := h1.all.lt e; omega
theorem mid_was (H : NodeIn w n (a ++ c :: b)) (B : Bx w w1 x) (M : Mv (w1.alloc (.cells #[.int .i64 0, .int .i64 0, .bool false] 44)) w8 (nodes d c) (nodes d c')) : w8.heap[w1.heap.size]? = some (.cells #[.int .i64 0, .int .i64 0, .bool false] 44 (0, 0)) :=
  (M.ch.block _ (by simp) (fun e => by have := (kid_all (H.all.below B.below)).lt e; omega)).trans (heap_alloc_new w1 _)
theorem SMid.stored (H : NodeIn w n (a ++ c :: b)) (B : Bx w w1 x) (M : Mv (w1.alloc (.cells #[.int .i64 0, .int .i64 0, .bool false] 44)) w8 (nodes d c) (nodes d c')) (y : Cl) :
    SMid w (((w8.setCell ⟨w1.heap.size, 0, none⟩ (.int .i64 y.v)).setCell ⟨w1.heap.size, 1, none⟩ (.int .i64 y.s)).setCell ⟨w1.heap.size, 2, none⟩ (.bool y.dead)) n (a ++ c :: b) n (a ++ c' :: b) w1.heap.size y := by
  have hw := mid_was H B M
  have hb : Below w1.heap.size w1 (w1.alloc (.cells #[.int .i64 0, .int .i64 0, .bool false] 44)) := (Below.refl _ w1).alloc (Nat.le_refl _) _
  obtain ⟨h1, h2, h3, h4⟩ := mid_base H (B.later hb) M
  have A : At w8 (((w8.setCell ⟨w1.heap.size, 0, none⟩ (.int .i64 y.v)).setCell ⟨w1.heap.size, 1, none⟩ (.int .i64 y.s)).setCell ⟨w1.heap.size, 2, none⟩ (.bool y.dead)) w1.heap.size := ((At.set _ _ _ _).more _ _).more _ _
  have hs : w.heap.size ≤ w1.heap.size := by have := B.h; omega
  have hn1 : ¬ BL (n :: (a ++ c' :: b).flatMap (nodes d)) w1.heap.size := fun e => by
    rcases h4 _ e with e | e
    · omega
    · simp at e; omega
  refine ⟨Mv.res2 h1 A hs hn1, ?_, ?_, hn1, h3⟩
  · exact heap_set _ _ 2 _ (heap_set _ _ 1 _ (heap_set _ _ 0 _ hw))
  · exact (A.block _ (by have := B.h; omega)).trans h2
end
theorem SMid.step {d : Nat} {w w1 w2 : World} {n n' n2 : Nd} {cs cs' cs2 : List (MT d)} {k : Nat} {y : Cl} (M : SMid w w1 n cs n' cs' k y) (T : Mv w1 w2 (n' :: cs'.flatMap (nodes d)) (n2 :: cs2.flatMap (nodes d))) : SMid w w2 n cs n2 cs2 k y := by
  have h1 : k < w1.heap.size := (Array.getElem?_eq_some_iff.1 M.was).1
  have h2 : w.heap.size + 1 < w1.heap.size := (Array.getElem?_eq_some_iff.1 M.res).1
  exact ⟨M.mv.trans T, (T.ch.block _ h1 M.a1).trans M.was, (T.ch.block _ h2 M.a2).trans M.res, fun e => (T.fr _ e).elim M.a1 (fun e => by omega), fun e => (T.fr _ e).elim M.a2 (fun e => by omega)⟩
set_option maxHeartbeats 8000000 in
theorem set_kid {w : World} {d : Nat} {n : Nd} {a b : List (MT d)} {c : MT d} (h : NodeIn w n (a ++ c :: b)) (x : Ix) (hu : Up n.is) (hf : foundAt n.is x.k = none) {i : Nat} (hi : i = place n.is x.k) (ha : a.length = i) {t' : Tr Cl d} {y : Cl} {bo : Bool}
    (IH : ∀ w1, All w1 (nodes d c) → Calls Try.prog 110 #[.pointer (some ⟨(root d c).p, 0, none⟩), .agg #[.int .i64 x.c.v, .int .i64 x.c.s, .bool x.c.dead, .int .i64 x.k]] w1 (KidPost w1 c t' y bo))
    (hok : Ok d t') (h6 : (its d t').length ≤ 6) :
    Calls Try.prog 110 #[.pointer (some ⟨n.p, 0, none⟩), .agg #[.int .i64 x.c.v, .int .i64 x.c.s, .bool x.c.dead, .int .i64 x.k]] w
      (NodeOut w n (a ++ c :: b) (if 5 < (its d t').length then (insAt n.is i (splitT x d t').2.1, a.map (trOf d) ++ (splitT x d t').1 :: (splitT x d t').2.2 :: b.map (trOf d)) else (n.is, a.map (trOf d) ++ t' :: b.map (trOf d))) y bo) := by
  have HF := Lib.hid (find_any (h.top.below (W2.below w x)) hu (by have := h.few; omega) x.k)
  have hfb : foundB n.is x.k = false := by unfold foundB; rw [hf]; rfl
  rw [hfb, ← hi] at HF
  have hlen := h.len
  obtain ⟨res, hres⟩ : ∃ res, res = (if 5 < (its d t').length then (insAt n.is i (splitT x d t').2.1, a.map (trOf d) ++ (splitT x d t').1 :: (splitT x d t').2.2 :: b.map (trOf d)) else (n.is, a.map (trOf d) ++ t' :: b.map (trOf d))) := ⟨_, rfl⟩
  rw [← hres]
  have HRES := Lib.hid hres
  clear hres
  have HA := Lib.hid ha
  have hpz : 0 < n.ps.length := by rw [h.ps, List.length_map, hlen]; omega
  have HPZ := Lib.hid hpz
  have HI := Lib.hid IH
  have HOK := Lib.hid (And.intro hok h6)
  have H := Lib.hid h
  unfold W2 at HF
  clear h hu hf hfb hi hlen ha IH hok h6 hpz
  go_enter Try.func110, Try.ntmps110
  go_wp2_with fail
  refine Calls.mono HF.out ?_
  rintro e w1 ⟨rfl, hb1⟩
  have BB := Lib.hid ((Bx.start w x).later hb1)
  clear hb1 HF
  have HLE := Lib.hid (leaf_any (H.out.top.below BB.out.below))
  have t0 : ((n.ps.length : Int) == 0) = false := by rw [beq_eq_false_iff_ne]; have := HPZ.out; omega
  obtain ⟨s, hs⟩ : ∃ s, s = w.heap.size := ⟨_, rfl⟩
  rw [← hs]
  have HS := Lib.hid hs
  clear hs
  go_wp2_with fail
  refine Calls.mono HLE.out ?_
  rintro e w2 ⟨rfl, rfl⟩
  clear HLE
  have HN := Lib.hid (H.out.below BB.out.below)
  obtain ⟨gu, cu, A, cc, e1, l1, k1, k2, _⟩ := HN.out.cell (get_mid a c b i HA.out)
  have y0 : w1.cell? ⟨s, 0, none⟩ = some (.int .i64 x.c.v) := by rw [HS.out, cell_of_row _ _ 0 _ _ _ BB.out.box]; rfl
  have y1 : w1.cell? ⟨s, 1, none⟩ = some (.int .i64 x.c.s) := by rw [HS.out, cell_of_row _ _ 1 _ _ _ BB.out.box]; rfl
  have y2 : w1.cell? ⟨s, 2, none⟩ = some (.bool x.c.dead) := by rw [HS.out, cell_of_row _ _ 2 _ _ _ BB.out.box]; rfl
  have y3 : w1.cell? ⟨s, 3, none⟩ = some (.int .i64 x.k) := by rw [HS.out, cell_of_row _ _ 3 _ _ _ BB.out.box]; rfl
  clear e1
  go_upto_region 9 with fail
  go_cut [9, 10] from 49 to 60 (fun r q wx => ∃ k c', r = .pointer (some ⟨k, 0, none⟩) ∧ q = .bool bo ∧ (pOf d c' = pOf d c ∧ trOf d c' = t' ∧ Lk d c') ∧ SMid w wx n (a ++ c :: b) n (a ++ c' :: b) k y)
  case first =>
    have BD := Lib.hid (BB.out.later (below_drewI (Below.refl _ _)))
    have HCA := Lib.hid (kid_all (H.out.all.below BD.out.below))
    have HCB := Lib.hid (HCA.out.below ((Below.refl _ _).alloc (Nat.le_refl _) (.cells #[.int .i64 0, .int .i64 0, .bool false] 44)))
    have ga : ∀ (o : Obj) (p : Addr) (v : Value), w1.cell? p = some v → (w1.alloc o).cell? p = some v := fun o p v e => (((Below.refl _ w1).alloc (Nat.le_refl _) o).cell (World.block_lt_of_cell? _ _ e)).trans e
    have g1 := fun o => ga o _ _ y0
    have g2 := fun o => ga o _ _ y1
    have g3 := fun o => ga o _ _ y2
    have g4 := fun o => ga o _ _ y3
    have g5 := fun o => ga o _ _ k1
    have g6 := fun o => ga o _ _ k2
    clear ga
    go_region_law (first | (go_simp; go_at_call 110; refine Calls.mono (HI.out _ HCA.out) ?_; rintro e8 w8 ⟨c', rfl, p1, p2, p3, M8⟩; have HP := Lib.hid (And.intro p1 (And.intro p2 p3)); have HM := Lib.hid (SMid.fresh H.out BD.out M8 y); clear p1 p2 p3 M8) | (go_simp; go_at_call 110; refine Calls.mono (HI.out _ HCB.out) ?_; rintro e8 w8 ⟨c', rfl, p1, p2, p3, M8⟩; have HP := Lib.hid (And.intro p1 (And.intro p2 p3)); have HM := Lib.hid (SMid.stored H.out BD.out M8 y); have hw := mid_was H.out BD.out M8; have q0 : w8.cell? ⟨w1.heap.size, 0, none⟩ = some (.int .i64 0) := (cell_of_row _ _ 0 _ _ _ hw).trans rfl; have q1 : w8.cell? ⟨w1.heap.size, 1, none⟩ = some (.int .i64 0) := (cell_of_row _ _ 1 _ _ _ hw).trans rfl; have q2 : w8.cell? ⟨w1.heap.size, 2, none⟩ = some (.bool false) := (cell_of_row _ _ 2 _ _ _ hw).trans rfl; have qf : ∀ j, w8.frozen? ⟨w1.heap.size, j, none⟩ = false := frozen_of hw; clear hw p1 p2 p3 M8))
    all_goals (go_wp2_with fail; go_meet; exact ⟨_, c', rfl, rfl, HP.out, HM.out⟩)
  case rest =>
    clear y0 y1 y2 y3 k1 k2 l1 t0
    obtain ⟨k, c', rfl, rfl, ⟨p1, p2, p3⟩, hM⟩ := hcut
    have hroot : (root d c').is.length = (its d t').length := by rw [← p2, its_tr]
    have hn' := H.out.kid p1 p3 ⟨by rw [p2]; exact HOK.out.1, by rw [hroot]; exact HOK.out.2⟩ hM.mv.all
    obtain ⟨gu, cu, A, cc, e1, l1, k1, k2, k3⟩ := hn'.cell (get_mid a c' b i HA.out)
    obtain ⟨m6, hm6⟩ : ∃ m6, m6 = (root d c').is.length := ⟨_, rfl⟩
    rw [← hm6] at k3 hroot
    have hm7 : m6 ≤ 6 := by rw [hroot]; exact HOK.out.2
    have HN2 := Lib.hid hn'
    have HM := Lib.hid hM
    have HP := Lib.hid (And.intro p1 (And.intro p2 (And.intro p3 (And.intro hm6 hroot))))
    clear p1 p2 p3 hm6 hroot hn' hM e1
    obtain ⟨bt, hbt⟩ : ∃ bt, decide ((5 : Int) < (m6 : Int)) = bt := ⟨_, rfl⟩
    go_upto_if 72 with fail
    have HBT := Lib.hid hbt
    clear hbt
    go_cut [] from 73 to 75 (fun wx => ∃ (n' : Nd) (cs' : List (MT d)), (n'.p = n.p ∧ n'.is = res.1 ∧ cs'.map (trOf d) = res.2 ∧ n'.ps = cs'.map (pOf d) ∧ ∀ z ∈ cs', Lk d z) ∧ SMid w wx n (a ++ c :: b) n' cs' k y)
    case first =>
      by_cases h5 : 5 < m6
      · obtain rfl : true = bt := by rw [← HBT.out]; exact (decide_eq_true (by omega)).symm
        obtain ⟨m, hm⟩ : ∃ m, (root d c').is[3]? = some m := ⟨_, List.getElem?_eq_getElem (by have := HP.out.2.2.2.1; omega)⟩
        have hall := (one_all HN2.out.all).left
        have hap := hall.ap
        simp only [List.pairwise_cons, List.mem_cons, List.not_mem_nil, or_false, forall_eq] at hap
        have h6 : (root d c').is.length = 6 := by have := HP.out.2.2.2.1; omega
        have hfew := HN2.out.few
        have hlen := HN2.out.len
        have hpsl : n.ps.length = n.is.length + 1 := by rw [HN2.out.ps, List.length_map, hlen]
        have hil : i ≤ n.is.length := by rw [← HA.out]; have : (a ++ c' :: b).length = a.length + 1 + b.length := by simp; omega
                                         omega
        have hpi : n.ps[i]? = some (root d c').p := by rw [HN2.out.ps, List.getElem?_map, get_mid a c' b i HA.out]; rfl
        have hleaf : (root d c').ps = [] ∨ (root d c').ps.length = 7 := by
          rcases kids_len d c' HP.out.2.2.1 (by rw [HP.out.2.1]; exact HOK.out.1) with e | e
          · exact .inl e
          · exact .inr (by omega)
        have HSP := Lib.hid (split_any (hall.m n (by simp)) (hall.m _ (by simp)) (hap.1) i (i + 1) rfl hil hpi h6 hm hleaf (by omega) (by omega))
        have H6 := Lib.hid (And.intro h6 hm)
        have HAL := Lib.hid (And.intro (hall.m n (by simp)) (hall.m (root d c') (by simp)))
        clear hm hall hap h6 hfew hlen hpsl hil hpi hleaf
        go_wp2_with fail
        refine Calls.mono HSP.out ?_
        rintro e9 w9 ⟨n', L', R', rfl, q1, q2, q3, q4, q5, q6, w5, R1, hb5, hn5, T⟩
        have Q := Lib.hid (And.intro q1 (And.intro q2 (And.intro q3 (And.intro q4 (And.intro q5 (And.intro q6 (And.intro hb5 (And.intro hn5 T))))))))
        clear q1 q2 q3 q4 q5 q6 hb5 hn5 T
        go_wp2_with fail
        go_meet
        obtain ⟨q1, q2, q3, q4, q5, q6, hb5, hn5, T⟩ := Q.out
        have hst := split_tr x m d c' L' R' H6.out.1 H6.out.2 q3 q5
        rw [HP.out.2.1] at hst
        have hpk := ps_kid HP.out.2.2.1
        have hkl : d = 0 → (kid d c').take 4 = [] := fun e => by rw [kid_zero d c' e]; rfl
        have hkr : d = 0 → (kid d c').drop 4 = [] := fun e => by rw [kid_zero d c' e]; rfl
        have hres : res = (insAt n.is i m, a.map (trOf d) ++ trOf d (mkT d L' ((kid d c').take 4)) :: trOf d (mkT d R' ((kid d c').drop 4)) :: b.map (trOf d)) := by
          rw [HRES.out, if_pos (by rw [← HP.out.2.2.2.2]; exact h5), hst]
        refine ⟨n', a ++ mkT d L' ((kid d c').take 4) :: mkT d R' ((kid d c').drop 4) :: b, ⟨T.fn.p, ?_, ?_, ?_, ?_⟩, HM.out.step (split_mv HN2.out.all (Mv.of_split HAL.out.1 HAL.out.2 hb5 hn5 T) (List.take_append_drop 4 _) hkl hkr)⟩
        · rw [hres, q1]; rfl
        · rw [hres]; simp
        · have e1 : pOf d (mkT d L' ((kid d c').take 4)) = pOf d c := (p_same T.fL.p).trans HP.out.1
          have e2 : pOf d (mkT d R' ((kid d c').drop 4)) = R'.p := by unfold pOf; rw [root_mk]
          rw [q2, H.out.ps]
          simp only [List.map_append, List.map_cons, e1, e2]
          have e3 : a.map (pOf d) ++ pOf d c :: b.map (pOf d) = (a.map (pOf d) ++ [pOf d c]) ++ b.map (pOf d) := by simp
          rw [e3, List.take_append_of_le_length (by simp; have := HA.out; omega), List.drop_append_of_le_length (by simp; have := HA.out; omega), List.take_of_length_le (by simp; have := HA.out; omega), List.drop_of_length_le (by simp; have := HA.out; omega)]
          simp
        · intro z hz
          rcases List.mem_append.1 hz with e | e
          · exact H.out.lk z (List.mem_append_left _ e)
          · rcases List.mem_cons.1 e with e | e
            · subst e; exact lk_sub HP.out.2.2.1 (fun c hc => List.mem_of_mem_take hc) hkl (by rw [q4, hpk, List.map_take])
            · rcases List.mem_cons.1 e with e | e
              · subst e; exact lk_sub HP.out.2.2.1 (fun c hc => List.mem_of_mem_drop hc) hkr (by rw [q6, hpk, List.map_drop])
              · exact H.out.lk z (List.mem_append_right _ (List.mem_cons_of_mem _ e))
      · obtain rfl : false = bt := by rw [← HBT.out]; exact (decide_eq_false (by omega)).symm
        go_wp2_with fail
        go_meet
        have hres : res = (n.is, a.map (trOf d) ++ t' :: b.map (trOf d)) := by
          rw [HRES.out, if_neg (by rw [← HP.out.2.2.2.2]; exact h5)]
        refine ⟨n, a ++ c' :: b, ⟨rfl, ?_, ?_, HN2.out.ps, HN2.out.lk⟩, HM.out⟩
        · rw [hres]
        · rw [hres]; simp [HP.out.2.1]
    case rest =>
      obtain ⟨n', cs', hq, hM⟩ := hcut
      have Q := Lib.hid (And.intro hq hM)
      clear hq k1 k2 k3 l1
      have hk2 := hM.was
      have hr2 := hM.res
      rw [← HS.out] at hr2
      have z0 : wc.cell? ⟨k, 0, none⟩ = some (.int .i64 y.v) := by rw [cell_of_row _ _ 0 _ _ _ hk2]; rfl
      have z1 : wc.cell? ⟨k, 1, none⟩ = some (.int .i64 y.s) := by rw [cell_of_row _ _ 1 _ _ _ hk2]; rfl
      have z2 : wc.cell? ⟨k, 2, none⟩ = some (.bool y.dead) := by rw [cell_of_row _ _ 2 _ _ _ hk2]; rfl
      have r0 : wc.cell? ⟨s + 1, 0, none⟩ = some (.int .i64 0) := by rw [cell_of_row _ _ 0 _ _ _ hr2]; rfl
      have r1 : wc.cell? ⟨s + 1, 1, none⟩ = some (.int .i64 0) := by rw [cell_of_row _ _ 1 _ _ _ hr2]; rfl
      have r2 : wc.cell? ⟨s + 1, 2, none⟩ = some (.bool false) := by rw [cell_of_row _ _ 2 _ _ _ hr2]; rfl
      have rf := frozen_of hr2
      have HR := Lib.hid (res3 hr2 (.int .i64 y.v) (.int .i64 y.s) (.bool y.dead))
      clear hM hk2 hr2
      go_wp2_with fail
      refine bodyPost_ret (v := .tuple #[.agg #[.int .i64 y.v, .int .i64 y.s, .bool y.dead], .bool bo]) (by simp [results, Try.results110, go_sem, HR.out.1, HR.out.2.1, HR.out.2.2]) rfl ⟨n', cs', rfl, Q.out.1.1, Q.out.1.2.1, Q.out.1.2.2.1, Q.out.1.2.2.2.1, Q.out.1.2.2.2.2, ?_⟩
      exact Mv.res2 Q.out.2.mv (((At.set _ _ _ _).more _ _).more _ _) (by rw [HS.out]; omega) (by rw [HS.out]; exact Q.out.2.a2)
end Go.Proofs.Ytejpjbmbcdgomaa
