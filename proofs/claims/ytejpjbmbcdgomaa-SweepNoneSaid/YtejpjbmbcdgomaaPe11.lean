/- TLast, TDrA, TDrB: put together. -/
import Derived.Test.YtejpjbmbcdgomaaPe10
import Derived.Deep.LoopGhost
import Derived.BigFrame
/- The last item at or below a node. -/
namespace Go.Proofs.Ytejpjbmbcdgomaa
set_option maxRecDepth 100000
open Go.RowKit

structure Tm (w : World) (d : Nat) (m : MT d) : Prop where
  lk : Lk d m
  all : All w (nodes d m)
  ok : Ok d (trOf d m)
  ne : 0 < (root d m).is.length
  few : (root d m).is.length ≤ 6
section
variable {w w1 : World} {d : Nat}
theorem Tm.below {m : MT d} (h : Tm w d m) (hb : Below w.heap.size w w1) : Tm w1 d m := ⟨h.lk, h.all.below hb, h.ok, h.ne, h.few⟩
theorem Tm.top {m : MT d} (h : Tm w d m) : NdM w (root d m) := h.all.m _ (by rw [nodes_eq]; exact List.mem_cons_self ..)
theorem Tm.kid {m : MT (d + 1)} (h : Tm w (d + 1) m) {c : MT d} (hc : c ∈ m.2) : Tm w d c := by
  obtain ⟨h1, h2, h3⟩ := h.ok.2 (trOf d c) (List.mem_map.2 ⟨c, hc, rfl⟩)
  rw [its_tr] at h2 h3
  obtain ⟨a, b, e⟩ := List.append_of_mem hc
  have hA : All w (m.1 :: m.2.flatMap (nodes d)) := h.all
  rw [e] at hA
  exact ⟨h.lk.2 c hc, kid_all hA, h1, by omega, by omega⟩
theorem Tm.len {m : MT (d + 1)} (h : Tm w (d + 1) m) : m.2.length = m.1.is.length + 1 := by
  have h2 : (m.2.map (trOf d)).length = m.1.is.length + 1 := h.ok.1
  rwa [List.length_map] at h2
theorem Tm.pslen {m : MT (d + 1)} (h : Tm w (d + 1) m) : m.1.ps.length = m.1.is.length + 1 := by rw [h.lk.1, List.length_map, h.len]
theorem Tm.node {m : MT (d + 1)} (h : Tm w (d + 1) m) : NodeIn w m.1 m.2 := ⟨h.all, h.lk.1, h.lk.2, h.len, h.few, fun z hz => by
  obtain ⟨h1, _, h3⟩ := h.ok.2 (trOf d z) (List.mem_map.2 ⟨z, hz, rfl⟩)
  rw [its_tr] at h3
  exact ⟨h1, by omega⟩⟩
end
theorem res4 {W : World} {r : Nat} {a b c d : Value} {t : TypeId} (h : W.heap[r]? = some (.cells #[a, b, c, d] t (0, 0))) (x y z u : Value) :
    ((((W.setCell ⟨r, 0, none⟩ x).setCell ⟨r, 1, none⟩ y).setCell ⟨r, 2, none⟩ z).setCell ⟨r, 3, none⟩ u).cell? ⟨r, 0, none⟩ = some x ∧ ((((W.setCell ⟨r, 0, none⟩ x).setCell ⟨r, 1, none⟩ y).setCell ⟨r, 2, none⟩ z).setCell ⟨r, 3, none⟩ u).cell? ⟨r, 1, none⟩ = some y ∧ ((((W.setCell ⟨r, 0, none⟩ x).setCell ⟨r, 1, none⟩ y).setCell ⟨r, 2, none⟩ z).setCell ⟨r, 3, none⟩ u).cell? ⟨r, 2, none⟩ = some z ∧ ((((W.setCell ⟨r, 0, none⟩ x).setCell ⟨r, 1, none⟩ y).setCell ⟨r, 2, none⟩ z).setCell ⟨r, 3, none⟩ u).cell? ⟨r, 3, none⟩ = some u := by
  have h3 := heap_set _ r 3 u (heap_set _ r 2 z (heap_set _ r 1 y (heap_set W r 0 x h)))
  exact ⟨cell_of_row _ _ 0 _ _ _ h3, cell_of_row _ _ 1 _ _ _ h3, cell_of_row _ _ 2 _ _ _ h3, cell_of_row _ _ 3 _ _ _ h3⟩
/-- A new block may be written. -/
structure Sb (w wr : World) (s : Nat) : Prop where
  le : w.heap.size ≤ s
  b : Below w.heap.size w wr
theorem Sb.drew {w wr : World} {s : Nat} (h : Sb w wr s) : Sb w wr.drew s := ⟨h.le, below_drewI h.b⟩
theorem Sb.s1 {w wr : World} {s : Nat} (h : Sb w wr s) (o : Nat) (v : Value) : Sb w (wr.setCell ⟨s, o, none⟩ v) s := ⟨h.le, h.b.setCell (p := ⟨s, o, none⟩) h.le v⟩
theorem Sb.s4 {w wr : World} {s : Nat} (h : Sb w wr s) {a b c d : Nat} {x y z u : Value} : Sb w ((((wr.setCell ⟨s, a, none⟩ x).setCell ⟨s, b, none⟩ y).setCell ⟨s, c, none⟩ z).setCell ⟨s, d, none⟩ u) s := (((h.s1 _ _).s1 _ _).s1 _ _).s1 _ _
set_option maxHeartbeats 4000000 in
theorem last_any {w : World} {d : Nat} {m : MT d} (h : Tm w d m) (x0 : Ix) {y : Ix} (hy : y = lastT x0 d (trOf d m)) :
    Calls Try.prog 120 #[.pointer (some ⟨(root d m).p, 0, none⟩)] w fun e w' => e = .returned (.agg #[.int .i64 y.c.v, .int .i64 y.c.s, .bool y.c.dead, .int .i64 y.k]) ∧ Below w.heap.size w w' := by
  obtain ⟨W1, hW1⟩ : ∃ W1, W1 = w.alloc (.cells #[.int .i64 0, .int .i64 0, .bool false, .int .i64 0] 166) := ⟨_, rfl⟩
  have hb1 : Below w.heap.size w W1 := by rw [hW1]; exact (Below.refl _ _).alloc (Nat.le_refl _) _
  have hr1 : W1.heap[w.heap.size]? = some (.cells #[.int .i64 0, .int .i64 0, .bool false, .int .i64 0] 166 (0, 0)) := by rw [hW1]; exact heap_alloc_new w _
  have HB1 := Lib.hid (And.intro hb1 hr1)
  have H1 := Lib.hid (h.below hb1)
  have HY := Lib.hid hy
  obtain ⟨s, hs⟩ : ∃ s, s = w.heap.size := ⟨_, rfl⟩
  have HS := Lib.hid hs
  have HW := Lib.hid hW1
  obtain ⟨p, hp⟩ : ∃ p, p = (root d m).p := ⟨_, rfl⟩
  have HPP := Lib.hid hp
  rw [← hp]
  clear h hy hb1 hr1 hW1 hp
  go_enter Try.func120, Try.ntmps120
  go_wp2_with fail
  rw [← hs, ← HW.out]
  clear hs
  go_loopg [0, 4, 5, 6, 7, 8, 9, 10, 11, 12, 13, 14, 15, 16, 17] d (fun k p _ _ _ _ _ _ _ _ _ _ _ _ _ _ wr => ∃ m' : MT k, p = .pointer (some ⟨(root k m').p, 0, none⟩) ∧ Tm wr k m' ∧ y = lastT x0 k (trOf k m') ∧ Below W1.heap.size W1 wr)
  case atStart => exact ⟨m, by rw [HPP.out], H1.out, HY.out, Below.refl _ _⟩
  case round =>
    obtain ⟨m', rfl, hT, hL, hb⟩ := hrel
    have HT := Lib.hid hT
    have HL := Lib.hid hL
    have HB := Lib.hid hb
    clear hT hL hb
    have HLE := Lib.hid (leaf_any HT.out.top)
    have hne := HT.out.ne
    have hfew := HT.out.few
    cases gk with
    | zero =>
      have t0 : (((root 0 m').ps.length : Int) == 0) = true := by
        have : (root 0 m').ps = [] := HT.out.lk
        rw [this]; rfl
      obtain ⟨e, he⟩ : ∃ e, (root 0 m').is.length = e + 1 := ⟨(root 0 m').is.length - 1, by omega⟩
      have hz : (root 0 m').is[e]? = some y := by
        rw [HL.out]
        show _ = some (List.getLastD (α := Ix) (root 0 m').is x0)
        rw [List.getLastD_eq_getLast?, List.getLast?_eq_getElem?, he, Nat.add_sub_cancel, List.getElem?_eq_getElem (by omega)]
        rfl
      obtain ⟨gn, cn, env, f3, hnl, hn0, x0', x1, x2, x3, _⟩ := HT.out.top.it hz
      rw [he] at hn0 f3 hnl
      have f6 : IntKind.i64.wrap (e : Int) = (e : Int) := by rw [IntKind.wrap_i64]; omega
      have hr : wr.heap[s]? = some (.cells #[.int .i64 0, .int .i64 0, .bool false, .int .i64 0] 166 (0, 0)) := by
        rw [HS.out]
        exact (HB.out.block _ (Array.getElem?_eq_some_iff.1 HB1.out.2).1).trans HB1.out.2
      have r0 : wr.cell? ⟨s, 0, none⟩ = some (.int .i64 0) := by rw [cell_of_row _ _ 0 _ _ _ hr]; rfl
      have r1 : wr.cell? ⟨s, 1, none⟩ = some (.int .i64 0) := by rw [cell_of_row _ _ 1 _ _ _ hr]; rfl
      have r2 : wr.cell? ⟨s, 2, none⟩ = some (.bool false) := by rw [cell_of_row _ _ 2 _ _ _ hr]; rfl
      have r3 : wr.cell? ⟨s, 3, none⟩ = some (.int .i64 0) := by rw [cell_of_row _ _ 3 _ _ _ hr]; rfl
      have rf := frozen_of hr
      have HR := Lib.hid hr
      have HB2 := Lib.hid (Sb.mk (by rw [HS.out]; omega) (HB1.out.1.trans (HB.out.mono HB1.out.1.size)) : Sb w wr s)
      have f4 : (e : Int) < (e : Int) + 1 := by omega
      clear env hne hfew he hz hr f3
      go_wp2_with fail
      refine Calls.mono HLE.out ?_
      rintro e9 w9 ⟨rfl, rfl⟩
      clear HLE
      go_upto_region 3 with fail
      go_cut [] from 18 to 29 (fun wx => (wx.cell? ⟨s, 0, none⟩ = some (.int .i64 y.c.v) ∧ wx.cell? ⟨s, 1, none⟩ = some (.int .i64 y.c.s) ∧ wx.cell? ⟨s, 2, none⟩ = some (.bool y.c.dead) ∧ wx.cell? ⟨s, 3, none⟩ = some (.int .i64 y.k)) ∧ Below w.heap.size w wx)
      case first =>
        have HR4 := Lib.hid (fun (W : World) (h : W.heap = wr.heap) => res4 (W := W) (by rw [h]; exact HR.out) (.int .i64 y.c.v) (.int .i64 y.c.s) (.bool y.c.dead) (.int .i64 y.k))
        go_region_law (fail)
        all_goals (go_wp2_with fail; go_meet; (first | exact ⟨HR4.out wr.drew rfl, HB2.out.drew.s4.b⟩ | exact ⟨HR4.out wr rfl, HB2.out.s4.drew.b⟩))
      case rest =>
        obtain ⟨⟨u0, u1, u2, u3⟩, hb9⟩ := hcut
        have HB9 := Lib.hid hb9
        clear hb9
        go_wp2_with fail
        exact bodyPost_ret (v := .agg #[.int .i64 y.c.v, .int .i64 y.c.s, .bool y.c.dead, .int .i64 y.k]) (by simp [results, Try.results120, go_sem, u0, u1, u2, u3]) rfl ⟨rfl, HB9.out⟩
    | succ k =>
      have t0 : (((root (k + 1) m').ps.length : Int) == 0) = false := by
        have : (root (k + 1) m').ps.length = (root (k + 1) m').is.length + 1 := HT.out.pslen
        rw [beq_eq_false_iff_ne]; omega
      have hl := HT.out.len
      obtain ⟨e, he⟩ : ∃ e, m'.1.is.length = e := ⟨_, rfl⟩
      have hcs : m'.2[e]? = some m'.2[e] := List.getElem?_eq_getElem (by omega)
      obtain ⟨c, hc⟩ : ∃ c, c = m'.2[e] := ⟨_, rfl⟩
      rw [← hc] at hcs
      obtain ⟨gu, cu, A, cc, e1, l1, k1, k2, _⟩ := HT.out.node.cell hcs
      have hps := HT.out.pslen
      rw [hps, he] at k1 l1
      have f6 : IntKind.i64.wrap (e : Int) = (e : Int) := by rw [IntKind.wrap_i64]; have : m'.1.is.length ≤ 6 := hfew; omega
      change wr.cell? ⟨(root (k + 1) m').p, 1, none⟩ = _ at k1
      have hce : 0 ≤ (e : Int) := by omega
      have HC := Lib.hid (And.intro hcs he)
      have HYC := Lib.hid (show y = lastT x0 k (trOf k c) from by
        rw [HL.out]
        show lastT x0 k ((m'.2.map (trOf k)).getLastD (emptyT k)) = _
        rw [List.getLastD_eq_getLast?, List.getLast?_map, List.getLast?_eq_getElem?, hl, he, Nat.add_sub_cancel, hcs]
        rfl)
      have f4 : (e : Int) < (e : Int) + 1 := by omega
      clear e1 hne hfew he hcs hc hl hps l1
      go_wp2_with fail
      refine Calls.mono HLE.out ?_
      rintro e9 w9 ⟨rfl, rfl⟩
      clear HLE
      go_upto_region 2 with fail
      go_region_law (fail)
      all_goals
        go_wp2_with fail
        go_roundg k
        case measure => omega
        case rel => exact ⟨c, rfl, (HT.out.kid (List.mem_of_getElem? HC.out.1)).below (below_drewI (Below.refl _ _)), HYC.out, HB.out.trans ((below_drewI (Below.refl _ _)).mono HB.out.size)⟩
end Go.Proofs.Ytejpjbmbcdgomaa

/- A drop at a node that is a leaf. -/
namespace Go.Proofs.Ytejpjbmbcdgomaa
set_option maxRecDepth 100000
open Go.RowKit

/-- The result's cell stands. -/
structure Rx (w0 w : World) : Prop where
  b : Below (w0.heap.size + 1) (w0.alloc (.cells #[.int .i64 0, .int .i64 0, .bool false] 44)) w
  h : w0.heap.size + 1 ≤ w.heap.size
section
variable {w0 w w' : World}
theorem Rx.start (w : World) : Rx w (w.alloc (.cells #[.int .i64 0, .int .i64 0, .bool false] 44)) := ⟨Below.refl _ _, by simp⟩
theorem Rx.res (B : Rx w0 w) : w.heap[w0.heap.size]? = some (.cells #[.int .i64 0, .int .i64 0, .bool false] 44 (0, 0)) := (B.b.block _ (by omega)).trans (heap_alloc_new w0 _)
theorem Rx.below (B : Rx w0 w) : Below w0.heap.size w0 w := ((Below.refl _ w0).alloc (Nat.le_refl _) _).trans (B.b.mono (by omega))
theorem Rx.later (B : Rx w0 w) (h : Below w.heap.size w w') : Rx w0 w' := ⟨B.b.trans (h.mono B.h), Nat.le_trans B.h h.size⟩
end
/-- The state ahead of the last step: the cell that was, the result's cell, both apart of the nodes. -/
structure Md (w0 wx : World) (l l' : List Nd) (k r : Nat) (y : Cl) : Prop where
  mv : Mv w0 wx l l'
  was : wx.heap[k]? = some (.cells #[.int .i64 y.v, .int .i64 y.s, .bool y.dead] 44 (0, 0))
  res : wx.heap[r]? = some (.cells #[.int .i64 0, .int .i64 0, .bool false] 44 (0, 0))
  a1 : ¬ BL l' k
  a2 : ¬ BL l' r
section
variable {w w1 w2 : World} {l l1 l2 : List Nd} {k r : Nat} {y : Cl}
theorem Md.step (M : Md w w1 l l1 k r y) (T : Mv w1 w2 l1 l2) : Md w w2 l l2 k r y := by
  have h1 : k < w1.heap.size := (Array.getElem?_eq_some_iff.1 M.was).1
  have h2 : r < w1.heap.size := (Array.getElem?_eq_some_iff.1 M.res).1
  exact ⟨M.mv.trans T, (T.ch.block _ h1 M.a1).trans M.was, (T.ch.block _ h2 M.a2).trans M.res, fun e => (T.fr _ e).elim M.a1 (fun e => by omega), fun e => (T.fr _ e).elim M.a2 (fun e => by omega)⟩
/-- Made by a call below that leaves the result's cell, and a fresh cell behind it. -/
theorem Md.fresh (hA : All w l) (B : Rx w w1) (M : Mv w1 w2 l l1) (y : Cl) : Md w (w2.alloc (.cells #[.int .i64 y.v, .int .i64 y.s, .bool y.dead] 44)) l l1 w2.heap.size w.heap.size y := by
  have hb := (Below.refl _ w2).alloc (Nat.le_refl _) (.cells #[.int .i64 y.v, .int .i64 y.s, .bool y.dead] 44)
  have h1 : Mv w w2 l l1 := (Mv.below hA B.below).trans M
  have hh := B.h
  have hr : w2.heap[w.heap.size]? = some (.cells #[.int .i64 0, .int .i64 0, .bool false] 44 (0, 0)) := (M.ch.block _ (by omega) (fun e => by have := hA.lt e; omega)).trans B.res
  refine ⟨h1.trans (Mv.below h1.all hb), heap_alloc_new w2 _, (hb.block _ (Array.getElem?_eq_some_iff.1 hr).1).trans hr, fun e => ?_, fun e => ?_⟩
  · have := h1.all.lt e; omega
  · rcases M.fr _ e with e | e
    · have := hA.lt e; omega
    · omega
theorem one_all' {n : Nd} (h : NdM w n) : All w [n] := ⟨fun m hm => by rw [List.mem_singleton.1 hm]; exact h, List.pairwise_singleton _ _⟩
end
set_option maxHeartbeats 4000000 in
theorem drop_none {w : World} {n : Nd} (h : NdM w n) (hu : Up n.is) (hl : n.is.length ≤ 1000) (k : Int) (hf : foundAt n.is k = none) (hp : n.ps = []) :
    Calls Try.prog 107 #[.pointer (some ⟨n.p, 0, none⟩), .int .i64 k] w fun e w' => e = .returned (.tuple #[.agg #[.int .i64 0, .int .i64 0, .bool false], .bool false]) ∧ Below w.heap.size w w' := by
  have HF := Lib.hid (find_any (h.below (Rx.start w).below) hu hl k)
  have hfb : foundB n.is k = false := by unfold foundB; rw [hf]; rfl
  obtain ⟨i, hi⟩ : ∃ i, i = place n.is k := ⟨_, rfl⟩
  rw [hfb, ← hi] at HF
  have HP := Lib.hid hp
  have H := Lib.hid h
  clear h hu hl hf hfb hi hp
  go_enter Try.func107, Try.ntmps107
  go_wp2_with fail
  refine Calls.mono HF.out ?_
  rintro e w1 ⟨rfl, hb1⟩
  have BB := Lib.hid ((Rx.start w).later hb1)
  clear hb1 HF
  have HLE := Lib.hid (leaf_any (H.out.below BB.out.below))
  have t0 : ((n.ps.length : Int) == 0) = true := by rw [HP.out]; rfl
  obtain ⟨s, hs⟩ : ∃ s, s = w.heap.size := ⟨_, rfl⟩
  rw [← hs]
  have HS := Lib.hid hs
  have hr := BB.out.res
  rw [← hs] at hr
  clear hs
  have r0 : w1.cell? ⟨s, 0, none⟩ = some (.int .i64 0) := by rw [cell_of_row _ _ 0 _ _ _ hr]; rfl
  have r1 : w1.cell? ⟨s, 1, none⟩ = some (.int .i64 0) := by rw [cell_of_row _ _ 1 _ _ _ hr]; rfl
  have r2 : w1.cell? ⟨s, 2, none⟩ = some (.bool false) := by rw [cell_of_row _ _ 2 _ _ _ hr]; rfl
  have rf := frozen_of hr
  have HR := Lib.hid (res3 hr (.int .i64 0) (.int .i64 0) (.bool false))
  clear hr
  go_wp2_with fail
  refine Calls.mono HLE.out ?_
  rintro e w2 ⟨rfl, rfl⟩
  clear HLE
  go_wp2_with fail
  refine bodyPost_ret (v := .tuple #[.agg #[.int .i64 0, .int .i64 0, .bool false], .bool false]) (by simp [results, Try.results107, go_sem, HR.out.1, HR.out.2.1, HR.out.2.2]) rfl ⟨rfl, ?_⟩
  have := (((⟨by rw [HS.out]; omega, BB.out.below⟩ : Sb w w1 s).s1 0 (.int .i64 0)).s1 1 (.int .i64 0)).s1 2 (.bool false)
  exact this.b
set_option maxHeartbeats 4000000 in
theorem drop_leaf {w : World} {n : Nd} (h : NdM w n) (hu : Up n.is) (hl : n.is.length ≤ 1000) (k : Int) {y : Ix} (hf : foundAt n.is k = some y) (hp : n.ps = []) :
    Calls Try.prog 107 #[.pointer (some ⟨n.p, 0, none⟩), .int .i64 k] w fun e w' => ∃ n', e = .returned (.tuple #[.agg #[.int .i64 y.c.v, .int .i64 y.c.s, .bool y.c.dead], .bool true]) ∧ n'.is = n.is.eraseIdx (place n.is k) ∧ n'.ps = n.ps ∧ n'.p = n.p ∧ Mv w w' [n] [n'] := by
  have HF := Lib.hid (find_any (h.below (Rx.start w).below) hu hl k)
  have hfb : foundB n.is k = true := by unfold foundB; rw [hf]; rfl
  obtain ⟨i, hi⟩ : ∃ i, i = place n.is k := ⟨_, rfl⟩
  have hy : n.is[i]? = some y := by
    unfold foundAt at hf
    rw [← hi] at hf
    cases hq : n.is[i]? with
    | none => rw [hq] at hf; cases hf
    | some z =>
      rw [hq] at hf
      dsimp only at hf
      split at hf
      · exact hf
      · cases hf
  rw [hfb, ← hi] at HF
  rw [← hi]
  obtain ⟨j, hj⟩ : ∃ j, j = i + 1 := ⟨_, rfl⟩
  have hlt := (List.getElem?_eq_some_iff.1 hy).1
  have f6 : IntKind.i64.wrap ((i : Int) + 1) = (j : Int) := by rw [IntKind.wrap_i64]; omega
  have HJ := Lib.hid (And.intro hj (And.intro hlt hl))
  have HY := Lib.hid hy
  have HP := Lib.hid hp
  have H := Lib.hid h
  clear h hu hl hf hfb hi hp hy hj hlt
  go_enter Try.func107, Try.ntmps107
  go_wp2_with fail
  refine Calls.mono HF.out ?_
  rintro e w1 ⟨rfl, hb1⟩
  have BB := Lib.hid ((Rx.start w).later hb1)
  clear hb1 HF
  have HLE := Lib.hid (leaf_any (H.out.below BB.out.below))
  have t0 : ((n.ps.length : Int) == 0) = true := by rw [HP.out]; rfl
  obtain ⟨s, hs⟩ : ∃ s, s = w.heap.size := ⟨_, rfl⟩
  rw [← hs]
  have HS := Lib.hid hs
  clear hs
  go_wp2_with fail
  refine Calls.mono HLE.out ?_
  rintro e w2 ⟨rfl, rfl⟩
  clear HLE
  obtain ⟨gn, cn, env, f3, hnl, hn0, x0, x1, x2, x3, _⟩ := (H.out.below BB.out.below).it HY.out
  clear env
  go_upto_region 5 with fail
  go_cut [8] from 24 to 31 (fun r wx => ∃ k, r = .pointer (some ⟨k, 0, none⟩) ∧ Md w wx [n] [n] k s y.c)
  case first =>
    go_wp2_with fail
    go_meet
    exact ⟨w1.heap.size, rfl, by rw [HS.out]; exact Md.fresh (one_all' H.out) BB.out (Mv.refl (one_all' (H.out.below BB.out.below))) y.c⟩
  case rest =>
    clear hn0 x0 x1 x2 x3 f3 hnl
    obtain ⟨kk, rfl, hM⟩ := hcut
    have HM := Lib.hid hM
    have HN := Lib.hid (hM.mv.all.m n (List.mem_singleton.2 rfl))
    clear hM
    obtain ⟨g7, c7, e7⟩ := own_has HN.out.own (by have := HJ.out.2.1; omega)
    have hn0 := HN.out.c0
    have hnf := HN.out.fr
    rw [e7] at hn0
    have ho7 := HN.out.own
    rw [e7] at ho7
    have HD := Lib.hid (del_atI ho7 rfl i HJ.out.2.1 HJ.out.1 (by have := HJ.out.2.2; omega))
    have HE7 := Lib.hid e7
    clear ho7 e7
    go_upto_region 6 with fail
    go_cut [] from 32 to 42 (fun wx => ∃ X : Nd, X.is = n.is.eraseIdx i ∧ (X.ps = n.ps ∧ X.p = n.p) ∧ Md w wx [n] [X] kk s y.c)
    case first =>
      go_wp2_with fail
      refine Calls.mono HD.out ?_
      rintro e w' ⟨rfl, ho, hg⟩
      have hg : wc.grownBy w' n.v.ownBlock := by rw [HE7.out]; exact hg
      obtain ⟨k8, k9⟩ := HN.out.after0 hg
      have HO := Lib.hid ho
      have HG := Lib.hid hg
      clear ho hg
      go_wp2_with fail
      go_meet
      exact ⟨n.put0 _ (n.is.eraseIdx i), rfl, ⟨rfl, rfl⟩, HM.out.step (Mv.one (HN.out.put0 rfl (List.length_eraseIdx_of_lt HJ.out.2.1) HO.out HG.out (fun q e => .inl (by rw [HE7.out]; exact e))))⟩
    case rest =>
      clear hn0 hnf HD HM HN
      obtain ⟨n', q1, ⟨q2, q3⟩, hM⟩ := hcut
      have Q := Lib.hid (And.intro q1 (And.intro q2 (And.intro q3 hM)))
      have hk2 := hM.was
      have hr2 := hM.res
      clear q1 q2 q3 hM
      have z0 : wc.cell? ⟨kk, 0, none⟩ = some (.int .i64 y.c.v) := by rw [cell_of_row _ _ 0 _ _ _ hk2]; rfl
      have z1 : wc.cell? ⟨kk, 1, none⟩ = some (.int .i64 y.c.s) := by rw [cell_of_row _ _ 1 _ _ _ hk2]; rfl
      have z2 : wc.cell? ⟨kk, 2, none⟩ = some (.bool y.c.dead) := by rw [cell_of_row _ _ 2 _ _ _ hk2]; rfl
      have r0 : wc.cell? ⟨s, 0, none⟩ = some (.int .i64 0) := by rw [cell_of_row _ _ 0 _ _ _ hr2]; rfl
      have r1 : wc.cell? ⟨s, 1, none⟩ = some (.int .i64 0) := by rw [cell_of_row _ _ 1 _ _ _ hr2]; rfl
      have r2 : wc.cell? ⟨s, 2, none⟩ = some (.bool false) := by rw [cell_of_row _ _ 2 _ _ _ hr2]; rfl
      have rf := frozen_of hr2
      have HR := Lib.hid (res3 hr2 (.int .i64 y.c.v) (.int .i64 y.c.s) (.bool y.c.dead))
      clear hk2 hr2
      go_wp2_with fail
      refine bodyPost_ret (v := .tuple #[.agg #[.int .i64 y.c.v, .int .i64 y.c.s, .bool y.c.dead], .bool true]) (by simp [results, Try.results107, go_sem, HR.out.1, HR.out.2.1, HR.out.2.2]) rfl ⟨n', rfl, Q.out.1, Q.out.2.1, Q.out.2.2.1, ?_⟩
      exact Mv.res2 Q.out.2.2.2.mv (((At.set _ _ _ _).more _ _).more _ _) (by rw [HS.out]; exact Nat.le_refl _) Q.out.2.2.2.a2
end Go.Proofs.Ytejpjbmbcdgomaa

/- A drop below a node. -/
namespace Go.Proofs.Ytejpjbmbcdgomaa
set_option maxRecDepth 100000
open Go.RowKit

set_option maxHeartbeats 8000000 in
theorem drop_kid {w : World} {d : Nat} {n : Nd} {a b : List (MT d)} {c : MT d} (x0 : Ix) (h : NodeIn w n (a ++ c :: b)) (k : Int) (hu : Up n.is) (hf : foundAt n.is k = none) {i : Nat} (hi : i = place n.is k) (ha : a.length = i) (hne : 0 < n.is.length) {t' : Tr Cl d} {y : Cl} {bo : Bool}
    (IH : ∀ w1, All w1 (nodes d c) → Calls Try.prog 107 #[.pointer (some ⟨(root d c).p, 0, none⟩), .int .i64 k] w1 (KidPost w1 c t' y bo))
    (hok : Ok d t') (h6 : (its d t').length ≤ 6) :
    Calls Try.prog 107 #[.pointer (some ⟨n.p, 0, none⟩), .int .i64 k] w
      (NodeOut w n (a ++ c :: b) (fillT x0 d n.is (a.map (trOf d) ++ t' :: b.map (trOf d)) i) y bo) := by
  have HF := Lib.hid (find_any (h.top.below (Rx.start w).below) hu (by have := h.few; omega) k)
  have hfb : foundB n.is k = false := by unfold foundB; rw [hf]; rfl
  rw [hfb, ← hi] at HF
  have hlen := h.len
  obtain ⟨res, hres⟩ : ∃ res, res = fillT x0 d n.is (a.map (trOf d) ++ t' :: b.map (trOf d)) i := ⟨_, rfl⟩
  rw [← hres]
  have HRES := Lib.hid hres
  clear hres
  have HA := Lib.hid ha
  have hpz : 0 < n.ps.length := by rw [h.ps, List.length_map, hlen]; omega
  have HPZ := Lib.hid (And.intro hpz hne)
  have HI := Lib.hid IH
  have HOK := Lib.hid (And.intro hok h6)
  have H := Lib.hid h
  clear h hu hf hfb hi hlen ha IH hok h6 hpz hne
  go_enter Try.func107, Try.ntmps107
  go_wp2_with fail
  refine Calls.mono HF.out ?_
  rintro e w1 ⟨rfl, hb1⟩
  have BB := Lib.hid ((Rx.start w).later hb1)
  clear hb1 HF
  have HLE := Lib.hid (leaf_any (H.out.top.below BB.out.below))
  have t0 : ((n.ps.length : Int) == 0) = false := by rw [beq_eq_false_iff_ne]; have := HPZ.out.1; omega
  obtain ⟨s, hs⟩ : ∃ s, s = w.heap.size := ⟨_, rfl⟩
  rw [← hs]
  have HS := Lib.hid hs
  clear hs
  go_wp2_with fail
  refine Calls.mono HLE.out ?_
  rintro e w2 ⟨rfl, rfl⟩
  clear HLE
  have HN := Lib.hid (H.out.below BB.out.below)
  obtain ⟨gu, cu, A, cc, e1, l1, k1, k2, _⟩ := HN.out.cell (get_mid a c b i HA.out)
  clear e1
  go_upto_region 9 with fail
  go_cut [9, 10] from 46 to 57 (fun r q wx => ∃ k c', r = .pointer (some ⟨k, 0, none⟩) ∧ q = .bool bo ∧ (pOf d c' = pOf d c ∧ trOf d c' = t' ∧ Lk d c') ∧ Md w wx (n :: (a ++ c :: b).flatMap (nodes d)) (n :: (a ++ c' :: b).flatMap (nodes d)) k s y)
  case first =>
    go_wp2_with fail
    refine Calls.mono (HI.out _ (kid_all HN.out.all)) ?_
    rintro e8 w8 ⟨c', rfl, p1, p2, p3, M8⟩
    have HP := Lib.hid (And.intro p1 (And.intro p2 p3))
    have HM := Lib.hid (Md.fresh H.out.all BB.out (kid_mv HN.out.all M8) y)
    clear p1 p2 p3 M8
    go_wp2_with fail
    go_meet
    exact ⟨_, c', rfl, rfl, HP.out, by rw [HS.out]; exact HM.out⟩
  case rest =>
    clear k1 k2 l1 t0
    obtain ⟨kk, c', rfl, rfl, ⟨p1, p2, p3⟩, hM⟩ := hcut
    have hroot : (root d c').is.length = (its d t').length := by rw [← p2, its_tr]
    have hn' := H.out.kid p1 p3 ⟨by rw [p2]; exact HOK.out.1, by rw [hroot]; exact HOK.out.2⟩ hM.mv.all
    have HFL := Lib.hid (fill_node x0 hn' HPZ.out.2 i HA.out)
    have HM := Lib.hid hM
    have HP := Lib.hid (And.intro p1 (And.intro p2 p3))
    clear p1 p2 p3 hroot hn' hM
    go_wp2_with fail
    refine Calls.mono HFL.out ?_
    rintro e9 w9 ⟨n', cs', rfl, q1, q2, q3, q4, q5, T⟩
    have hM := HM.out.step T
    have Q := Lib.hid (And.intro q1 (And.intro q2 (And.intro q3 (And.intro q4 (And.intro q5 hM)))))
    have hk2 := hM.was
    have hr2 := hM.res
    clear q1 q2 q3 q4 q5 T hM
    have z0 : w9.cell? ⟨kk, 0, none⟩ = some (.int .i64 y.v) := by rw [cell_of_row _ _ 0 _ _ _ hk2]; rfl
    have z1 : w9.cell? ⟨kk, 1, none⟩ = some (.int .i64 y.s) := by rw [cell_of_row _ _ 1 _ _ _ hk2]; rfl
    have z2 : w9.cell? ⟨kk, 2, none⟩ = some (.bool y.dead) := by rw [cell_of_row _ _ 2 _ _ _ hk2]; rfl
    have r0 : w9.cell? ⟨s, 0, none⟩ = some (.int .i64 0) := by rw [cell_of_row _ _ 0 _ _ _ hr2]; rfl
    have r1 : w9.cell? ⟨s, 1, none⟩ = some (.int .i64 0) := by rw [cell_of_row _ _ 1 _ _ _ hr2]; rfl
    have r2 : w9.cell? ⟨s, 2, none⟩ = some (.bool false) := by rw [cell_of_row _ _ 2 _ _ _ hr2]; rfl
    have rf := frozen_of hr2
    have HR := Lib.hid (res3 hr2 (.int .i64 y.v) (.int .i64 y.s) (.bool y.dead))
    clear hk2 hr2
    go_wp2_with fail
    have hmp : (a ++ c' :: b).map (trOf d) = a.map (trOf d) ++ t' :: b.map (trOf d) := by simp [HP.out.2.1]
    refine bodyPost_ret (v := .tuple #[.agg #[.int .i64 y.v, .int .i64 y.s, .bool y.dead], .bool bo]) (by simp [results, Try.results107, go_sem, HR.out.1, HR.out.2.1, HR.out.2.2]) rfl ⟨n', cs', rfl, Q.out.1, ?_, ?_, Q.out.2.2.2.1, Q.out.2.2.2.2.1, ?_⟩
    · rw [Q.out.2.1, HRES.out, hmp]
    · rw [Q.out.2.2.1, HRES.out, hmp]
    · exact Mv.res2 Q.out.2.2.2.2.2.mv (((At.set _ _ _ _).more _ _).more _ _) (by rw [HS.out]; exact Nat.le_refl _) Q.out.2.2.2.2.2.a2
end Go.Proofs.Ytejpjbmbcdgomaa
