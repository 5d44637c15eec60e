/- TSetD, TLast: put together. -/
import Derived.Test.YtejpjbmbcdgomaaPa18
import Derived.Deep.LoopGhost
import Derived.BigFrame
/- A set in a tree. -/
namespace Go.Proofs.Ytejpjbmbcdgomaa
set_option maxRecDepth 100000
open Go.RowKit

def cv (o : Option Cl) : Cl := o.getD ⟨0, 0, false⟩
theorem snoc_cons {β : Type} (A : List β) (m : β) (B : List β) : A ++ m :: B = (A ++ [m]) ++ B := by simp
section
variable {w : World} {d : Nat}
/-- A tree's node with those below. -/
theorem node_in {m : MT (d + 1)} (hl : Lk (d + 1) m) (hA : All w (nodes (d + 1) m)) (hok : Ok (d + 1) (trOf (d + 1) m)) (h5 : (its (d + 1) (trOf (d + 1) m)).length ≤ 5) : NodeIn w m.1 m.2 := by
  refine ⟨hA, hl.1, hl.2, ?_, Nat.le_trans h5 (by omega), fun z hz => ?_⟩
  · have := hok.1
    show m.2.length = m.1.is.length + 1
    have h2 : (m.2.map (trOf d)).length = m.1.is.length + 1 := this
    rwa [List.length_map] at h2
  · obtain ⟨h1, _, h3⟩ := hok.2 (trOf d z) (List.mem_map.2 ⟨z, hz, rfl⟩)
    rw [its_tr] at h3
    exact ⟨h1, by omega⟩
theorem up_is {m : MT (d + 1)} (hok : Ok (d + 1) (trOf (d + 1) m)) (hu : Up (flat (d + 1) (trOf (d + 1) m))) : Up m.1.is := hu.sub (weave_sub (trOf (d + 1) m).1 ((trOf (d + 1) m).2.map (flat d)) (ok_its hok))
theorem up_kid {t : Tr Cl (d + 1)} (hok : Ok (d + 1) t) (hu : Up (flat (d + 1) t)) {z : Tr Cl d} (hz : z ∈ t.2) : Up (flat d z) := by
  obtain ⟨i, hi, rfl⟩ := List.mem_iff_getElem.1 hz
  have hl := hok.1
  obtain ⟨bs1, m, bs2, he, h1, h2⟩ := node_cut hok (a := t.1.take i) (b := t.1.drop i) (List.take_append_drop i _).symm
  have hm : t.2[i] = m := by
    have e : t.2 = bs1 ++ m :: bs2 := congrArg Prod.snd he
    have h3 : bs1.length = i := by rw [← h1, List.length_take]; omega
    have e2 : t.2[i]? = some m := by rw [e]; exact get_mid _ _ _ _ h3
    exact (List.getElem?_eq_some_iff.1 e2).2
  rw [hm]
  rw [he, flat_node h1 h2] at hu
  exact (List.pairwise_append.1 (List.pairwise_append.1 hu).2.1).1
theorem kid_cut {m : MT (d + 1)} (hok : Ok (d + 1) (trOf (d + 1) m)) (i : Nat) (hi : i ≤ m.1.is.length) : ∃ a c b, m.2 = a ++ c :: b ∧ a.length = i := by
  have h2 : (m.2.map (trOf d)).length = m.1.is.length + 1 := hok.1
  rw [List.length_map] at h2
  have hlt : i < m.2.length := by omega
  exact ⟨m.2.take i, m.2[i], m.2.drop (i + 1), by rw [List.getElem_cons_drop, List.take_append_drop], by rw [List.length_take]; omega⟩
end
theorem set_any (x : Ix) : ∀ (d : Nat) (m : MT d) (w : World), Lk d m → All w (nodes d m) → Ok d (trOf d m) → Up (flat d (trOf d m)) → (its d (trOf d m)).length ≤ 5 →
    Calls Try.prog 110 #[.pointer (some ⟨(root d m).p, 0, none⟩), .agg #[.int .i64 x.c.v, .int .i64 x.c.s, .bool x.c.dead, .int .i64 x.k]] w (KidPost w m (setT d (trOf d m) x).1 (cv (setT d (trOf d m) x).2) (setT d (trOf d m) x).2.isSome)
  | 0, m, w, hl, hA, _, hu, h5 => by
    have hn := hA.m m (List.mem_singleton.2 rfl)
    have hu : Up (Nd.is m) := hu
    have h5 : (Nd.is m).length ≤ 5 := h5
    cases hf : foundAt (Nd.is m) x.k with
    | some y =>
      have e : setT 0 (trOf 0 m) x = ((List.set (α := Ix) (Nd.is m) (place (Nd.is m) x.k) x : List Ix), some y.c) := by
        show setT 0 (Nd.is m) x = _
        simp only [setT, hf]
        rfl
      rw [e]
      refine Calls.mono (set_found hn hu (by omega) x y hf) ?_
      rintro e9 w' ⟨n', rfl, q1, q2, q3, q4⟩
      exact ⟨n', rfl, q3, q1, q2.trans hl, q4⟩
    | none =>
      have e : setT 0 (trOf 0 m) x = ((insAt (Nd.is m) (place (Nd.is m) x.k) x : List Ix), none) := by
        show setT 0 (Nd.is m) x = _
        simp only [setT, hf]
        rfl
      rw [e]
      refine Calls.mono (set_leaf hn hu (by omega) x hf hl) ?_
      rintro e9 w' ⟨n', rfl, q1, q2, q3, q4⟩
      exact ⟨n', rfl, q3, q1, q2.trans hl, q4⟩
  | d + 1, m, w, hl, hA, hok, hu, h5 => by
    have hN := node_in hl hA hok h5
    have hui := up_is hok hu
    have h5' : m.1.is.length ≤ 5 := h5
    cases hf : foundAt m.1.is x.k with
    | some y =>
      have e : setT (d + 1) (trOf (d + 1) m) x = ((m.1.is.set (place m.1.is x.k) x, m.2.map (trOf d)), some y.c) := by
        show setT (d + 1) ((m.1.is, m.2.map (trOf d)) : Tr Cl (d + 1)) x = _
        simp only [setT, hf]
        rfl
      rw [e]
      refine Calls.mono (set_found hN.top hui (by omega) x y hf) ?_
      rintro e9 w' ⟨n', rfl, q1, q2, q3, q4⟩
      refine ⟨(n', m.2), rfl, q3, ?_, ⟨q2.trans hl.1, hl.2⟩, Mv.frame (l := [m.1]) (r := m.2.flatMap (nodes d)) hA q4⟩
      show (n'.is, m.2.map (trOf d)) = _
      rw [q1]
    | none =>
      obtain ⟨a, c, b, hcs, ha⟩ := kid_cut hok (place m.1.is x.k) (place_le _ _)
      have hmem : trOf d c ∈ (trOf (d + 1) m).2 := List.mem_map.2 ⟨c, by rw [hcs]; simp, rfl⟩
      obtain ⟨o1, o2, o3⟩ := hok.2 _ hmem
      have huc := up_kid hok hu hmem
      obtain ⟨s1, s2, s3, s4, s5⟩ := set_spec x d (trOf d c) o1 huc o3
      have hlc : Lk d c := hl.2 c (by rw [hcs]; simp)
      have hg : (m.2.map (trOf d))[place m.1.is x.k]? = some (trOf d c) := by rw [hcs, List.map_append, List.map_cons]; exact get_mid _ _ _ _ (by simpa using ha)
      rw [hcs] at hN
      have hk := set_kid hN x hui hf rfl ha (t' := (setT d (trOf d c) x).1) (y := cv (setT d (trOf d c) x).2) (bo := (setT d (trOf d c) x).2.isSome) (fun w1 h1 => set_any x d c w1 hlc h1 o1 huc o3) s3 (by omega)
      refine Calls.mono hk ?_
      rintro e9 w' ⟨n', cs', rfl, q1, q2, q3, q4, q5, q6⟩
      have e : setT (d + 1) (trOf (d + 1) m) x = (((if 5 < (its d (setT d (trOf d c) x).1).length then (insAt m.1.is (place m.1.is x.k) (splitT x d (setT d (trOf d c) x).1).2.1, a.map (trOf d) ++ (splitT x d (setT d (trOf d c) x).1).1 :: (splitT x d (setT d (trOf d c) x).1).2.2 :: b.map (trOf d)) else (m.1.is, a.map (trOf d) ++ (setT d (trOf d c) x).1 :: b.map (trOf d))) : List Ix × List (Tr Cl d)), (setT d (trOf d c) x).2) := by
        show setT (d + 1) ((m.1.is, m.2.map (trOf d)) : Tr Cl (d + 1)) x = _
        simp only [setT, hf, hg]
        have e1 : (m.2.map (trOf d)).take (place m.1.is x.k) = a.map (trOf d) := by rw [hcs, List.map_append, List.take_append_of_le_length (by simp [ha]), List.take_of_length_le (by simp [ha])]
        have e2 : (m.2.map (trOf d)).drop (place m.1.is x.k + 1) = b.map (trOf d) := by
          rw [hcs, List.map_append, List.map_cons, snoc_cons, List.drop_append_of_le_length (by simp [ha]), List.drop_of_length_le (by simp [ha])]
          rfl
        have e3 : (m.2.map (trOf d)).set (place m.1.is x.k) (setT d (trOf d c) x).1 = a.map (trOf d) ++ (setT d (trOf d c) x).1 :: b.map (trOf d) := by
          rw [hcs, List.map_append, List.map_cons]
          exact set_mid _ _ _ _ _ (by simpa using ha)
        rw [e1, e2, e3]
        by_cases h : 5 < (its d (setT d (trOf d c) x).1).length
        · rw [if_pos h, if_pos h]; rfl
        · rw [if_neg h, if_neg h]; rfl
      rw [e]
      refine ⟨(n', cs'), rfl, q1, ?_, ⟨q4, q5⟩, ?_⟩
      · show (n'.is, cs'.map (trOf d)) = _
        rw [q2, q3]
      · show Mv w w' (m.1 :: m.2.flatMap (nodes d)) _
        rw [hcs]
        exact q6
end Go.Proofs.Ytejpjbmbcdgomaa

/- The last item at or below a node. -/
namespace Go.Proofs.Ytejpjbmbcdgomaa
set_option maxRecDepth 100000
open Go.RowKit

structure Tm (w : World) (d : Nat) (m : MT d) : Prop where
  lk : Lk d m
  all : All w (nodes d m)
  ok : Ok d (trOf d m)
  ne : 0 < (root d m).is.length
  few : (root d m).is.length ≤ 6
section
variable {w w1 : World} {d : Nat}
theorem Tm.below {m : MT d} (h : Tm w d m) (hb : Below w.heap.size w w1) : Tm w1 d m := ⟨h.lk, h.all.below hb, h.ok, h.ne, h.few⟩
theorem Tm.top {m : MT d} (h : Tm w d m) : NdM w (root d m) := h.all.m _ (by rw [nodes_eq]; exact List.mem_cons_self ..)
theorem Tm.kid {m : MT (d + 1)} (h : Tm w (d + 1) m) {c : MT d} (hc : c ∈ m.2) : Tm w d c := by
  obtain ⟨h1, h2, h3⟩ := h.ok.2 (trOf d c) (List.mem_map.2 ⟨c, hc, rfl⟩)
  rw [its_tr] at h2 h3
  obtain ⟨a, b, e⟩ := List.append_of_mem hc
  have hA : All w (m.1 :: m.2.flatMap (nodes d)) := h.all
  rw [e] at hA
  exact ⟨h.lk.2 c hc, kid_all hA, h1, by omega, by omega⟩
theorem Tm.len {m : MT (d + 1)} (h : Tm w (d + 1) m) : m.2.length = m.1.is.length + 1 := by
  have h2 : (m.2.map (trOf d)).length = m.1.is.length + 1 := h.ok.1
  rwa [List.length_map] at h2
theorem Tm.pslen {m : MT (d + 1)} (h : Tm w (d + 1) m) : m.1.ps.length = m.1.is.length + 1 := by rw [h.lk.1, List.length_map, h.len]
theorem Tm.node {m : MT (d + 1)} (h : Tm w (d + 1) m) : NodeIn w m.1 m.2 := ⟨h.all, h.lk.1, h.lk.2, h.len, h.few, fun z hz => by
  obtain ⟨h1, _, h3⟩ := h.ok.2 (trOf d z) (List.mem_map.2 ⟨z, hz, rfl⟩)
  rw [its_tr] at h3
  exact ⟨h1, by omega⟩⟩
end
theorem res4 {W : World} {r : Nat} {a b c d : Value} {t : TypeId} (h : W.heap[r]? = some (.cells #[a, b, c, d] t (0, 0))) (x y z u : Value) :
    ((((W.setCell ⟨r, 0, none⟩ x).setCell ⟨r, 1, none⟩ y).setCell ⟨r, 2, none⟩ z).setCell ⟨r, 3, none⟩ u).cell? ⟨r, 0, none⟩ = some x ∧ ((((W.setCell ⟨r, 0, none⟩ x).setCell ⟨r, 1, none⟩ y).setCell ⟨r, 2, none⟩ z).setCell ⟨r, 3, none⟩ u).cell? ⟨r, 1, none⟩ = some y ∧ ((((W.setCell ⟨r, 0, none⟩ x).setCell ⟨r, 1, none⟩ y).setCell ⟨r, 2, none⟩ z).setCell ⟨r, 3, none⟩ u).cell? ⟨r, 2, none⟩ = some z ∧ ((((W.setCell ⟨r, 0, none⟩ x).setCell ⟨r, 1, none⟩ y).setCell ⟨r, 2, none⟩ z).setCell ⟨r, 3, none⟩ u).cell? ⟨r, 3, none⟩ = some u := by
  have h3 := heap_set _ r 3 u (heap_set _ r 2 z (heap_set _ r 1 y (heap_set W r 0 x h)))
  exact ⟨cell_of_row _ _ 0 _ _ _ h3, cell_of_row _ _ 1 _ _ _ h3, cell_of_row _ _ 2 _ _ _ h3, cell_of_row _ _ 3 _ _ _ h3⟩
/-- A new block may be written. -/
structure Sb (w wr : World) (s : Nat) : Prop where
  le : w.heap.size ≤ s
  b : Below w.heap.size w wr
theorem Sb.drew {w wr : World} {s : Nat} (h : Sb w wr s) : Sb w wr.drew s := ⟨h.le, below_drewI h.b⟩
theorem Sb.s1 {w wr : World} {s : Nat} (h : Sb w wr s) (o : Nat) (v : Value) : Sb w (wr.setCell ⟨s, o, none⟩ v) s := ⟨h.le, h.b.setCell (p := ⟨s, o, none⟩) h.le v⟩
theorem Sb.s4 {w wr : World} {s : Nat} (h : Sb w wr s) {a b c d : Nat} {x y z u : Value} : Sb w ((((wr.setCell ⟨s, a, none⟩ x).setCell ⟨s, b, none⟩ y).setCell ⟨s, c, none⟩ z).setCell ⟨s, d, none⟩ u) s := (((h.s1 _ _).s1 _ _).s1 _ _).s1 _ _
set_option maxHeartbeats 4000000 in
theorem last_any {w : World} {d : Nat} {m : MT d} (h : Tm w d m) (x0 : Ix) {y : Ix} (hy : y = lastT x0 d (trOf d m)) :
    Calls Try.prog 120 #[.pointer (some ⟨(root d m).p, 0, none⟩)] w fun e w' => e = .returned (.agg #[.int .i64 y.c.v, .int .i64 y.c.s, .bool y.c.dead, .int .i64 y.k]) ∧ Below w.heap.size w w' := by
  obtain ⟨W1, hW1⟩ : ∃ W1, W1 = w.alloc (.cells #[.int .i64 0, .int .i64 0, .bool false, .int .i64 0] 166) := ⟨_, rfl⟩
  have hb1 : Below w.heap.size w W1 := by rw [hW1]; exact (Below.refl _ _).alloc (Nat.le_refl _) _
  have hr1 : W1.heap[w.heap.size]? = some (.cells #[.int .i64 0, .int .i64 0, .bool false, .int .i64 0] 166 (0, 0)) := by rw [hW1]; exact heap_alloc_new w _
  have HB1 := Lib.hid (And.intro hb1 hr1)
  have H1 := Lib.hid (h.below hb1)
  have HY := Lib.hid hy
  obtain ⟨s, hs⟩ : ∃ s, s = w.heap.size := ⟨_, rfl⟩
  have HS := Lib.hid hs
  have HW := Lib.hid hW1
  obtain ⟨p, hp⟩ : ∃ p, p = (root d m).p := ⟨_, rfl⟩
  have HPP := Lib.hid hp
  rw [← hp]
  clear h hy hb1 hr1 hW1 hp
  go_enter Try.func120, Try.ntmps120
  go_wp2_with fail
  rw [← hs, ← HW.out]
  clear hs
  go_loopg [0, 4, 5, 6, 7, 8, 9, 10, 11, 12, 13, 14, 15, 16, 17] d (fun k p _ _ _ _ _ _ _ _ _ _ _ _ _ _ wr => ∃ m' : MT k, p = .pointer (some ⟨(root k m').p, 0, none⟩) ∧ Tm wr k m' ∧ y = lastT x0 k (trOf k m') ∧ Below W1.heap.size W1 wr)
  case atStart => exact ⟨m, by rw [HPP.out], H1.out, HY.out, Below.refl _ _⟩
  case round =>
    obtain ⟨m', rfl, hT, hL, hb⟩ := hrel
    have HT := Lib.hid hT
    have HL := Lib.hid hL
    have HB := Lib.hid hb
    clear hT hL hb
    have HLE := Lib.hid (leaf_any HT.out.top)
    have hne := HT.out.ne
    have hfew := HT.out.few
    cases gk with
    | zero =>
      have t0 : (((root 0 m').ps.length : Int) == 0) = true := by
        have : (root 0 m').ps = [] := HT.out.lk
        rw [this]; rfl
      obtain ⟨e, he⟩ : ∃ e, (root 0 m').is.length = e + 1 := ⟨(root 0 m').is.length - 1, by omega⟩
      have hz : (root 0 m').is[e]? = some y := by
        rw [HL.out]
        show _ = some (List.getLastD (α := Ix) (root 0 m').is x0)
        rw [List.getLastD_eq_getLast?, List.getLast?_eq_getElem?, he, Nat.add_sub_cancel, List.getElem?_eq_getElem (by omega)]
        rfl
      obtain ⟨gn, cn, env, f3, hnl, hn0, x0', x1, x2, x3, _⟩ := HT.out.top.it hz
      rw [he] at hn0 f3 hnl
      have f6 : IntKind.i64.wrap (e : Int) = (e : Int) := by rw [IntKind.wrap_i64]; omega
      have hr : wr.heap[s]? = some (.cells #[.int .i64 0, .int .i64 0, .bool false, .int .i64 0] 166 (0, 0)) := by
        rw [HS.out]
        exact (HB.out.block _ (Array.getElem?_eq_some_iff.1 HB1.out.2).1).trans HB1.out.2
      have r0 : wr.cell? ⟨s, 0, none⟩ = some (.int .i64 0) := by rw [cell_of_row _ _ 0 _ _ _ hr]; rfl
      have r1 : wr.cell? ⟨s, 1, none⟩ = some (.int .i64 0) := by rw [cell_of_row _ _ 1 _ _ _ hr]; rfl
      have r2 : wr.cell? ⟨s, 2, none⟩ = some (.bool false) := by rw [cell_of_row _ _ 2 _ _ _ hr]; rfl
      have r3 : wr.cell? ⟨s, 3, none⟩ = some (.int .i64 0) := by rw [cell_of_row _ _ 3 _ _ _ hr]; rfl
      have rf := frozen_of hr
      have HR := Lib.hid hr
      have HB2 := Lib.hid (Sb.mk (by rw [HS.out]; omega) (HB1.out.1.trans (HB.out.mono HB1.out.1.size)) : Sb w wr s)
      have f4 : (e : Int) < (e : Int) + 1 := by omega
      clear env hne hfew he hz hr f3
      go_wp2_with fail
      refine Calls.mono HLE.out ?_
      rintro e9 w9 ⟨rfl, rfl⟩
      clear HLE
      go_upto_region 3 with fail
      go_cut [] from 18 to 29 (fun wx => (wx.cell? ⟨s, 0, none⟩ = some (.int .i64 y.c.v) ∧ wx.cell? ⟨s, 1, none⟩ = some (.int .i64 y.c.s) ∧ wx.cell? ⟨s, 2, none⟩ = some (.bool y.c.dead) ∧ wx.cell? ⟨s, 3, none⟩ = some (.int .i64 y.k)) ∧ Below w.heap.size w wx)
      case first =>
        have HR4 := Lib.hid (fun (W : World) (h : W.heap = wr.heap) => res4 (W := W) (by rw [h]; exact HR.out) (.int .i64 y.c.v) (.int .i64 y.c.s) (.bool y.c.dead) (.int .i64 y.k))
        go_region_law (fail)
        all_goals (go_wp2_with fail; go_meet; (first | exact ⟨HR4.out wr.drew rfl, HB2.out.drew.s4.b⟩ | exact ⟨HR4.out wr rfl, HB2.out.s4.drew.b⟩))
      case rest =>
        obtain ⟨⟨u0, u1, u2, u3⟩, hb9⟩ := hcut
        have HB9 := Lib.hid hb9
        clear hb9
        go_wp2_with fail
        exact bodyPost_ret (v := .agg #[.int .i64 y.c.v, .int .i64 y.c.s, .bool y.c.dead, .int .i64 y.k]) (by simp [results, Try.results120, go_sem, u0, u1, u2, u3]) rfl ⟨rfl, HB9.out⟩
    | succ k =>
      have t0 : (((root (k + 1) m').ps.length : Int) == 0) = false := by
        have : (root (k + 1) m').ps.length = (root (k + 1) m').is.length + 1 := HT.out.pslen
        rw [beq_eq_false_iff_ne]; omega
      have hl := HT.out.len
      obtain ⟨e, he⟩ : ∃ e, m'.1.is.length = e := ⟨_, rfl⟩
      have hcs : m'.2[e]? = some m'.2[e] := List.getElem?_eq_getElem (by omega)
      obtain ⟨c, hc⟩ : ∃ c, c = m'.2[e] := ⟨_, rfl⟩
      rw [← hc] at hcs
      obtain ⟨gu, cu, A, cc, e1, l1, k1, k2, _⟩ := HT.out.node.cell hcs
      have hps := HT.out.pslen
      rw [hps, he] at k1 l1
      have f6 : IntKind.i64.wrap (e : Int) = (e : Int) := by rw [IntKind.wrap_i64]; have : m'.1.is.length ≤ 6 := hfew; omega
      change wr.cell? ⟨(root (k + 1) m').p, 1, none⟩ = _ at k1
      have hce : 0 ≤ (e : Int) := by omega
      have HC := Lib.hid (And.intro hcs he)
      have HYC := Lib.hid (show y = lastT x0 k (trOf k c) from by
        rw [HL.out]
        show lastT x0 k ((m'.2.map (trOf k)).getLastD (emptyT k)) = _
        rw [List.getLastD_eq_getLast?, List.getLast?_map, List.getLast?_eq_getElem?, hl, he, Nat.add_sub_cancel, hcs]
        rfl)
      have f4 : (e : Int) < (e : Int) + 1 := by omega
      clear e1 hne hfew he hcs hc hl hps l1
      go_wp2_with fail
      refine Calls.mono HLE.out ?_
      rintro e9 w9 ⟨rfl, rfl⟩
      clear HLE
      go_upto_region 2 with fail
      go_region_law (fail)
      all_goals
        go_wp2_with fail
        go_roundg k
        case measure => omega
        case rel => exact ⟨c, rfl, (HT.out.kid (List.mem_of_getElem? HC.out.1)).below (below_drewI (Below.refl _ _)), HYC.out, HB.out.trans ((below_drewI (Below.refl _ _)).mono HB.out.size)⟩
end Go.Proofs.Ytejpjbmbcdgomaa
