/- TFillW, TSetA, TSetB: put together. -/
import Derived.Test.YtejpjbmbcdgomaaPt07
/- A fill's walk. -/
namespace Go.Proofs.Ytejpjbmbcdgomaa
set_option maxRecDepth 100000
open Go.RowKit

section
variable {w : World} {d : Nat} {n : Nd} {cs : List (MT d)}
theorem NodeIn.mem (h : NodeIn w n cs) {z : MT d} (hz : z ∈ cs) : NdM w (root d z) :=
  h.all.m _ (List.mem_cons_of_mem _ (List.mem_flatMap.2 ⟨z, hz, by rw [nodes_eq]; exact List.mem_cons_self ..⟩))
theorem NodeIn.top (h : NodeIn w n cs) : NdM w n := h.all.m n (List.mem_cons_self ..)
/-- One below a node, as it lies. -/
theorem NodeIn.cell (h : NodeIn w n cs) {j : Nat} {z : MT d} (hz : cs[j]? = some z) : ∃ gu cu A c, n.u = .slice (some ⟨gu, 0, none⟩) n.ps.length cu ∧ (j : Int) < (n.ps.length : Int) ∧ w.cell? ⟨n.p, 1, none⟩ = some (.slice (some ⟨gu, 0, none⟩) n.ps.length cu) ∧
    w.cell? ⟨gu, j, none⟩ = some (.pointer (some ⟨(root d z).p, 0, none⟩)) ∧ w.cell? ⟨(root d z).p, 0, none⟩ = some (.slice A (root d z).is.length c) := by
  have hp : n.ps[j]? = some (root d z).p := by rw [h.ps, List.getElem?_map, hz]; rfl
  obtain ⟨gu, cu, e1, e2, _, e3, e4⟩ := h.top.kd hp
  have hm := h.mem (List.mem_of_getElem? hz)
  obtain ⟨A, c, e5, _⟩ := hm.items
  have h0 := hm.c0
  rw [e5] at h0
  exact ⟨gu, cu, A, c, e1, e2, e3, e4, h0⟩
end
theorem get_mid {β : Type} (A : List β) (m : β) (B : List β) (i : Nat) (h : A.length = i) : (A ++ m :: B)[i]? = some m := by
  subst h
  rw [List.getElem?_append_right (Nat.le_refl _), Nat.sub_self]
  rfl
end Go.Proofs.Ytejpjbmbcdgomaa

/- A set at a node: the item is there, or it goes into a leaf. -/
namespace Go.Proofs.Ytejpjbmbcdgomaa
set_option maxRecDepth 100000
open Go.RowKit

def itemV (x : Ix) : Obj := .cells #[.int .i64 x.c.v, .int .i64 x.c.s, .bool x.c.dead, .int .i64 x.k] 166
/-- The world behind a set's first step: the item boxed, the result's cell. -/
def W2 (w : World) (x : Ix) : World := (w.alloc (.cells #[.int .i64 x.c.v, .int .i64 x.c.s, .bool x.c.dead, .int .i64 x.k] 166)).alloc (.cells #[.int .i64 0, .int .i64 0, .bool false] 44)
theorem W2.below (w : World) (x : Ix) : Below w.heap.size w (W2 w x) := ((Below.refl _ w).alloc (Nat.le_refl _) _).alloc (by simp) _
theorem W2.size (w : World) (x : Ix) : (W2 w x).heap.size = w.heap.size + 2 := by simp [W2]
theorem W2.box (w : World) (x : Ix) : (W2 w x).heap[w.heap.size]? = some (.cells #[.int .i64 x.c.v, .int .i64 x.c.s, .bool x.c.dead, .int .i64 x.k] 166 (0, 0)) := by
  rw [W2, ((Below.refl _ (w.alloc _)).alloc (Nat.le_refl _) _).block _ (by simp)]
  exact heap_alloc_new w _
theorem W2.res (w : World) (x : Ix) : (W2 w x).heap[w.heap.size + 1]? = some (.cells #[.int .i64 0, .int .i64 0, .bool false] 44 (0, 0)) := by
  have := heap_alloc_new (w.alloc (.cells #[.int .i64 x.c.v, .int .i64 x.c.s, .bool x.c.dead, .int .i64 x.k] 166)) (.cells #[.int .i64 0, .int .i64 0, .bool false] 44)
  have e : (w.alloc (.cells #[.int .i64 x.c.v, .int .i64 x.c.s, .bool x.c.dead, .int .i64 x.k] 166)).heap.size = w.heap.size + 1 := by simp
  rw [e] at this
  exact this
/-- The two cells yet stand. -/
structure Bx (w0 w : World) (x : Ix) : Prop where
  b : Below (w0.heap.size + 2) (W2 w0 x) w
  h : w0.heap.size + 2 ≤ w.heap.size
section
variable {w0 w w' : World} {x : Ix}
theorem Bx.start (w : World) (x : Ix) : Bx w (W2 w x) x := ⟨Below.refl _ _, by rw [W2.size]; exact Nat.le_refl _⟩
theorem Bx.box (B : Bx w0 w x) : w.heap[w0.heap.size]? = some (.cells #[.int .i64 x.c.v, .int .i64 x.c.s, .bool x.c.dead, .int .i64 x.k] 166 (0, 0)) := (B.b.block _ (by omega)).trans (W2.box w0 x)
theorem Bx.res (B : Bx w0 w x) : w.heap[w0.heap.size + 1]? = some (.cells #[.int .i64 0, .int .i64 0, .bool false] 44 (0, 0)) := (B.b.block _ (by omega)).trans (W2.res w0 x)
theorem Bx.below (B : Bx w0 w x) : Below w0.heap.size w0 w := (W2.below w0 x).trans (B.b.mono (by omega))
theorem Bx.later (B : Bx w0 w x) (h : Below w.heap.size w w') : Bx w0 w' x := ⟨B.b.trans (h.mono B.h), Nat.le_trans B.h h.size⟩
end
/-- One block alone is changed. -/
structure At (w w' : World) (r : Nat) : Prop where
  os : w'.os = w.os
  tape : w'.tape = w.tape
  output : w'.output = w.output
  size : w'.heap.size = w.heap.size
  block : ∀ k, k ≠ r → w'.heap[k]? = w.heap[k]?
theorem At.set (w : World) (r o : Nat) (v : Value) : At w (w.setCell ⟨r, o, none⟩ v) r := ⟨rfl, rfl, rfl, World.size_setCell _ _ _, fun _ hk => heap_ne w r o v hk⟩
theorem At.trans {w w1 w2 : World} {r : Nat} (h : At w w1 r) (k : At w1 w2 r) : At w w2 r :=
  ⟨k.os.trans h.os, k.tape.trans h.tape, k.output.trans h.output, k.size.trans h.size, fun q hq => (k.block q hq).trans (h.block q hq)⟩
theorem At.more {w w1 : World} {r : Nat} (h : At w w1 r) (o : Nat) (v : Value) : At w (w1.setCell ⟨r, o, none⟩ v) r := h.trans (At.set w1 r o v)
/-- Behind a deed the result's cell is laid. -/
theorem Mv.res {w0 w2 wc W3 : World} {l l' : List Nd} {r : Nat} (hb : Below w0.heap.size w0 w2) (hl : All w0 l) (M : Mv w2 wc l l') (A : At wc W3 r) (hr : w0.heap.size ≤ r) (hr2 : r < w2.heap.size) : Mv w0 W3 l l' := by
  have M1 := (Mv.below hl hb).trans M
  have hne : ∀ k, BL l' k → k ≠ r := fun k e e2 => by
    rcases M.fr k e with e | e
    · have := hl.lt e; omega
    · omega
  refine ⟨⟨fun n hn => (M1.all.m n hn).keep fun k hk => A.block k (hne k ⟨n, hn, hk⟩), M1.all.ap⟩, ?_, M1.fr⟩
  exact M1.ch.trans (⟨A.os, A.tape, A.output, by rw [A.size]; exact Nat.le_refl _, fun k _ hk => A.block k hk⟩ : Ch wc W3 (fun k => k = r)) (fun q e => .inr (by subst e; exact hr))
theorem res3 {W : World} {r : Nat} {a b c : Value} {t : TypeId} (h : W.heap[r]? = some (.cells #[a, b, c] t (0, 0))) (x y z : Value) :
    (((W.setCell ⟨r, 0, none⟩ x).setCell ⟨r, 1, none⟩ y).setCell ⟨r, 2, none⟩ z).cell? ⟨r, 0, none⟩ = some x ∧ (((W.setCell ⟨r, 0, none⟩ x).setCell ⟨r, 1, none⟩ y).setCell ⟨r, 2, none⟩ z).cell? ⟨r, 1, none⟩ = some y ∧ (((W.setCell ⟨r, 0, none⟩ x).setCell ⟨r, 1, none⟩ y).setCell ⟨r, 2, none⟩ z).cell? ⟨r, 2, none⟩ = some z := by
  have h3 := heap_set _ r 2 z (heap_set _ r 1 y (heap_set W r 0 x h))
  exact ⟨cell_of_row _ _ 0 _ _ _ h3, cell_of_row _ _ 1 _ _ _ h3, cell_of_row _ _ 2 _ _ _ h3⟩
theorem set_drew {w w1 : World} {n n' : Nd} (h : NdM w1 n' ∧ Ch w w1 n.B ∧ Fr w n n') : NdM w1.drew n' ∧ Ch w w1.drew n.B ∧ Fr w n n' :=
  ⟨h.1.below (below_drewI (Below.refl _ _)), h.2.1.trans (Ch.of_below (below_drewI (Below.refl _ _)) fun _ => False) (fun _ e => e.elim), h.2.2⟩
set_option maxHeartbeats 4000000 in
theorem set_found {w : World} {n : Nd} (h : NdM w n) (hu : Up n.is) (hl : n.is.length ≤ 1000) (x y : Ix) (hf : foundAt n.is x.k = some y) :
    Calls Try.prog 110 #[.pointer (some ⟨n.p, 0, none⟩), .agg #[.int .i64 x.c.v, .int .i64 x.c.s, .bool x.c.dead, .int .i64 x.k]] w fun e w' => ∃ n', e = .returned (.tuple #[.agg #[.int .i64 y.c.v, .int .i64 y.c.s, .bool y.c.dead], .bool true]) ∧ n'.is = n.is.set (place n.is x.k) x ∧ n'.ps = n.ps ∧ n'.p = n.p ∧ Mv w w' [n] [n'] := by
  have HF := Lib.hid (find_any (h.below (W2.below w x)) hu hl x.k)
  have hfb : foundB n.is x.k = true := by unfold foundB; rw [hf]; rfl
  obtain ⟨i, hi⟩ : ∃ i, i = place n.is x.k := ⟨_, rfl⟩
  have hy : n.is[i]? = some y := by
    unfold foundAt at hf
    rw [← hi] at hf
    cases hq : n.is[i]? with
    | none => rw [hq] at hf; cases hf
    | some z =>
      rw [hq] at hf
      dsimp only at hf
      split at hf
      · exact hf
      · cases hf
  rw [hfb, ← hi] at HF
  rw [← hi]
  have HY := Lib.hid hy
  have HI := Lib.hid (List.getElem?_eq_some_iff.1 hy).1
  have H := Lib.hid h
  unfold W2 at HF
  clear h hu hl hf hfb hi hy
  go_enter Try.func110, Try.ntmps110
  go_wp2_with fail
  refine Calls.mono HF.out ?_
  rintro e w1 ⟨rfl, hb1⟩
  have BB := Lib.hid ((Bx.start w x).later hb1)
  clear hb1 HF
  obtain ⟨gn, cn, env, f3, hnl, hn0, x0, x1, x2, x3, hnz⟩ := (H.out.below BB.out.below).it HY.out
  have HV := Lib.hid env
  clear env
  obtain ⟨s, hs⟩ : ∃ s, s = w.heap.size := ⟨_, rfl⟩
  have y0 : w1.cell? ⟨s, 0, none⟩ = some (.int .i64 x.c.v) := by rw [hs, cell_of_row _ _ 0 _ _ _ BB.out.box]; rfl
  have y1 : w1.cell? ⟨s, 1, none⟩ = some (.int .i64 x.c.s) := by rw [hs, cell_of_row _ _ 1 _ _ _ BB.out.box]; rfl
  have y2 : w1.cell? ⟨s, 2, none⟩ = some (.bool x.c.dead) := by rw [hs, cell_of_row _ _ 2 _ _ _ BB.out.box]; rfl
  have y3 : w1.cell? ⟨s, 3, none⟩ = some (.int .i64 x.k) := by rw [hs, cell_of_row _ _ 3 _ _ _ BB.out.box]; rfl
  rw [← hs]
  have HS := Lib.hid hs
  clear hs
  go_upto_region 3 with fail
  go_cut [8] from 19 to 26 (fun r wx => ∃ k, r = .pointer (some ⟨k, 0, none⟩) ∧ wx.heap[k]? = some (.cells #[.int .i64 y.c.v, .int .i64 y.c.s, .bool y.c.dead] 44 (0, 0)) ∧ w1.heap.size ≤ k ∧ Below w1.heap.size w1 wx)
  case first =>
    go_wp2_with fail
    go_meet
    exact ⟨w1.heap.size, rfl, heap_alloc_new w1 _, Nat.le_refl _, (Below.refl _ _).alloc (Nat.le_refl _) _⟩
  case rest =>
    clear hn0 x0 x1 x2 x3 hnz y0 y1 y2 y3 f3 hnl HV
    obtain ⟨k, rfl, hk, hks, hb⟩ := hcut
    rename World => w2
    have BC := Lib.hid (BB.out.later hb)
    have HK := Lib.hid (And.intro hk hks)
    clear hk hks hb
    obtain ⟨gn, cn, env, f3, hnl, hn0, _, _, _, _, hnz⟩ := (H.out.below BC.out.below).it HY.out
    have HV := Lib.hid env
    clear env
    have y0 : w2.cell? ⟨s, 0, none⟩ = some (.int .i64 x.c.v) := by rw [HS.out, cell_of_row _ _ 0 _ _ _ BC.out.box]; rfl
    have y1 : w2.cell? ⟨s, 1, none⟩ = some (.int .i64 x.c.s) := by rw [HS.out, cell_of_row _ _ 1 _ _ _ BC.out.box]; rfl
    have y2 : w2.cell? ⟨s, 2, none⟩ = some (.bool x.c.dead) := by rw [HS.out, cell_of_row _ _ 2 _ _ _ BC.out.box]; rfl
    have y3 : w2.cell? ⟨s, 3, none⟩ = some (.int .i64 x.k) := by rw [HS.out, cell_of_row _ _ 3 _ _ _ BC.out.box]; rfl
    go_upto_region 4 with fail
    go_cut [] from 27 to 33 (fun wx => ∃ n' : Nd, n'.is = n.is.set i x ∧ (n'.ps = n.ps ∧ n'.p = n.p) ∧ NdM wx n' ∧ Ch w2 wx n.B ∧ Fr w2 n n')
    case first =>
      go_region_law (fail)
      all_goals (go_wp2_with fail; go_meet; (first | exact ⟨n.put0 n.v (n.is.set i x), rfl, ⟨rfl, rfl⟩, NdM.set ((H.out.below BC.out.below).below (below_drewI (Below.refl _ _))) HI.out HV.out x rfl⟩ | exact ⟨n.put0 n.v (n.is.set i x), rfl, ⟨rfl, rfl⟩, set_drew (NdM.set (H.out.below BC.out.below) HI.out HV.out x rfl)⟩))
    case rest =>
      clear hn0 hnz y0 y1 y2 y3 f3 hnl HV
      obtain ⟨n', q1, ⟨q2, q3⟩, q4, q5, q6⟩ := hcut
      have Q := Lib.hid (And.intro q1 (And.intro q2 (And.intro q3 (And.intro q4 (And.intro q5 q6)))))
      have hlt : ∀ b, n.B b → b < w.heap.size := fun b hb => H.out.lt hb
      have hkw : w.heap.size + 2 ≤ k := Nat.le_trans BB.out.h HK.out.2
      have hkc : k < w2.heap.size := (Array.getElem?_eq_some_iff.1 HK.out.1).1
      have hk2 : wc.heap[k]? = some (.cells #[.int .i64 y.c.v, .int .i64 y.c.s, .bool y.c.dead] 44 (0, 0)) := (q5.block k hkc (fun e => by have := hlt k e; omega)).trans HK.out.1
      have hr2 : wc.heap[s + 1]? = some (.cells #[.int .i64 0, .int .i64 0, .bool false] 44 (0, 0)) := by
        rw [HS.out]
        exact (q5.block _ (by have := BC.out.h; omega) (fun e => by have := hlt _ e; omega)).trans BC.out.res
      have z0 : wc.cell? ⟨k, 0, none⟩ = some (.int .i64 y.c.v) := by rw [cell_of_row _ _ 0 _ _ _ hk2]; rfl
      have z1 : wc.cell? ⟨k, 1, none⟩ = some (.int .i64 y.c.s) := by rw [cell_of_row _ _ 1 _ _ _ hk2]; rfl
      have z2 : wc.cell? ⟨k, 2, none⟩ = some (.bool y.c.dead) := by rw [cell_of_row _ _ 2 _ _ _ hk2]; rfl
      have r0 : wc.cell? ⟨s + 1, 0, none⟩ = some (.int .i64 0) := by rw [cell_of_row _ _ 0 _ _ _ hr2]; rfl
      have r1 : wc.cell? ⟨s + 1, 1, none⟩ = some (.int .i64 0) := by rw [cell_of_row _ _ 1 _ _ _ hr2]; rfl
      have r2 : wc.cell? ⟨s + 1, 2, none⟩ = some (.bool false) := by rw [cell_of_row _ _ 2 _ _ _ hr2]; rfl
      have rf := frozen_of hr2
      have HR := Lib.hid (res3 hr2 (.int .i64 y.c.v) (.int .i64 y.c.s) (.bool y.c.dead))
      clear q1 q2 q3 q4 q5 q6 hlt hkw hkc hk2 hr2
      go_wp2_with fail
      refine bodyPost_ret (v := .tuple #[.agg #[.int .i64 y.c.v, .int .i64 y.c.s, .bool y.c.dead], .bool true]) (by simp [results, Try.results110, go_sem, HR.out.1, HR.out.2.1, HR.out.2.2]) rfl ⟨n', rfl, Q.out.1, Q.out.2.1, Q.out.2.2.1, ?_⟩
      exact Mv.res BC.out.below ⟨fun m hm => by rw [List.mem_singleton.1 hm]; exact H.out, List.pairwise_singleton _ _⟩ (Mv.one Q.out.2.2.2) (((At.set _ _ _ _).more _ _).more _ _) (by rw [HS.out]; omega) (by rw [HS.out]; have := BC.out.h; omega)
end Go.Proofs.Ytejpjbmbcdgomaa

/- A set at a node: the item goes into a leaf. -/
namespace Go.Proofs.Ytejpjbmbcdgomaa
set_option maxRecDepth 100000
open Go.RowKit

set_option maxHeartbeats 4000000 in
theorem set_leaf {w : World} {n : Nd} (h : NdM w n) (hu : Up n.is) (hl : n.is.length ≤ 1000) (x : Ix) (hf : foundAt n.is x.k = none) (hp : n.ps = []) :
    Calls Try.prog 110 #[.pointer (some ⟨n.p, 0, none⟩), .agg #[.int .i64 x.c.v, .int .i64 x.c.s, .bool x.c.dead, .int .i64 x.k]] w fun e w' => ∃ n', e = .returned (.tuple #[.agg #[.int .i64 0, .int .i64 0, .bool false], .bool false]) ∧ n'.is = insAt n.is (place n.is x.k) x ∧ n'.ps = n.ps ∧ n'.p = n.p ∧ Mv w w' [n] [n'] := by
  have HF := Lib.hid (find_any (h.below (W2.below w x)) hu hl x.k)
  have hfb : foundB n.is x.k = false := by unfold foundB; rw [hf]; rfl
  have hpl := place_le n.is x.k
  obtain ⟨i, hi⟩ : ∃ i, i = place n.is x.k := ⟨_, rfl⟩
  rw [hfb, ← hi] at HF
  rw [← hi] at hpl ⊢
  have HI := Lib.hid (And.intro hpl (And.intro hl hp))
  have H := Lib.hid h
  unfold W2 at HF
  clear h hu hl hf hfb hi hp hpl
  go_enter Try.func110, Try.ntmps110
  go_wp2_with fail
  refine Calls.mono HF.out ?_
  rintro e w1 ⟨rfl, hb1⟩
  have BB := Lib.hid ((Bx.start w x).later hb1)
  clear hb1 HF
  have HLE := Lib.hid (leaf_any (H.out.below BB.out.below))
  have t0 : ((n.ps.length : Int) == 0) = true := by rw [HI.out.2.2]; rfl
  obtain ⟨s, hs⟩ : ∃ s, s = w.heap.size := ⟨_, rfl⟩
  rw [← hs]
  have HS := Lib.hid hs
  clear hs
  go_wp2_with fail
  refine Calls.mono HLE.out ?_
  rintro e w2 ⟨rfl, rfl⟩
  clear HLE
  have hn0 := (H.out.below BB.out.below).c0
  have ln := (H.out.below BB.out.below).lt (.inl rfl)
  have hnf := (H.out.below BB.out.below).fr
  have y0 : w1.cell? ⟨s, 0, none⟩ = some (.int .i64 x.c.v) := by rw [HS.out, cell_of_row _ _ 0 _ _ _ BB.out.box]; rfl
  have y1 : w1.cell? ⟨s, 1, none⟩ = some (.int .i64 x.c.s) := by rw [HS.out, cell_of_row _ _ 1 _ _ _ BB.out.box]; rfl
  have y2 : w1.cell? ⟨s, 2, none⟩ = some (.bool x.c.dead) := by rw [HS.out, cell_of_row _ _ 2 _ _ _ BB.out.box]; rfl
  have y3 : w1.cell? ⟨s, 3, none⟩ = some (.int .i64 x.k) := by rw [HS.out, cell_of_row _ _ 3 _ _ _ BB.out.box]; rfl
  have g0 : ∀ o, (w1.drew.alloc o).cell? ⟨n.p, 0, none⟩ = some n.v := fun o => ((Below.refl _ w1).alloc (Nat.le_refl _) o).cell (p := ⟨n.p, 0, none⟩) ln ▸ hn0
  have HN : Hid (NdM w1 n) := Lib.hid (H.out.below BB.out.below)
  have HC := Lib.hid (insert_newI (w := w1.drew) (HN.out.below (below_drewI (Below.refl _ _))).own rfl i HI.out.1 (by have := HI.out.2.1; omega) x 166)
  go_upto_region 7 with fail
  go_cut [] from 37 to 47 (fun wx => ∃ n' : Nd, n'.is = insAt n.is i x ∧ (n'.ps = n.ps ∧ n'.p = n.p) ∧ NdM wx n' ∧ Ch w1 wx n.B ∧ Fr w1 n n')
  case first =>
    go_region_law (go_simp; go_at_call 123; refine Calls.mono HC.out ?_; rintro e8 w8 ⟨v8, rfl, ho, hg, hq⟩; obtain ⟨A9, c9, rfl⟩ := own_form ho; obtain ⟨k8, k9⟩ := HN.out.after0 (grown_drew hg); have HO := Lib.hid ho; have HG := Lib.hid (grown_drew hg); have HQ := Lib.hid hq; clear ho hg hq)
    all_goals (go_wp2_with fail; go_meet; exact ⟨n.put0 _ (insAt n.is i x), rfl, ⟨rfl, rfl⟩, HN.out.put0 rfl (m := n.is.length + 1) (is := insAt n.is i x) (by unfold insAt; simp; have := HI.out.1; omega) HO.out HG.out (fun q e => HQ.out q e)⟩)
  case rest =>
    clear hn0 ln hnf y0 y1 y2 y3 g0 HC
    obtain ⟨n', q1, ⟨q2, q3⟩, q4, q5, q6⟩ := hcut
    have Q := Lib.hid (And.intro q1 (And.intro q2 (And.intro q3 (And.intro q4 (And.intro q5 q6)))))
    have hr2 : wc.heap[s + 1]? = some (.cells #[.int .i64 0, .int .i64 0, .bool false] 44 (0, 0)) := by
      rw [HS.out]
      exact (q5.block _ (by have := BB.out.h; omega) (fun e => by have := H.out.lt e; omega)).trans BB.out.res
    have r0 : wc.cell? ⟨s + 1, 0, none⟩ = some (.int .i64 0) := by rw [cell_of_row _ _ 0 _ _ _ hr2]; rfl
    have r1 : wc.cell? ⟨s + 1, 1, none⟩ = some (.int .i64 0) := by rw [cell_of_row _ _ 1 _ _ _ hr2]; rfl
    have r2 : wc.cell? ⟨s + 1, 2, none⟩ = some (.bool false) := by rw [cell_of_row _ _ 2 _ _ _ hr2]; rfl
    have rf := frozen_of hr2
    have HR := Lib.hid (res3 hr2 (.int .i64 0) (.int .i64 0) (.bool false))
    clear q1 q2 q3 q4 q5 q6 hr2
    go_wp2_with fail
    refine bodyPost_ret (v := .tuple #[.agg #[.int .i64 0, .int .i64 0, .bool false], .bool false]) (by simp [results, Try.results110, go_sem, HR.out.1, HR.out.2.1, HR.out.2.2]) rfl ⟨n', rfl, Q.out.1, Q.out.2.1, Q.out.2.2.1, ?_⟩
    exact Mv.res BB.out.below ⟨fun m hm => by rw [List.mem_singleton.1 hm]; exact H.out, List.pairwise_singleton _ _⟩ (Mv.one Q.out.2.2.2) (((At.set _ _ _ _).more _ _).more _ _) (by rw [HS.out]; omega) (by rw [HS.out]; have := BB.out.h; omega)
end Go.Proofs.Ytejpjbmbcdgomaa
