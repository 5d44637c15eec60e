/- TSetD, TLast, TDrA, TDrB: put together. -/
import Derived.Test.YtejpjbmbcdgomaaPt09
import Derived.Deep.LoopGhost
import Derived.BigFrame
/- A set in a tree. -/
namespace Go.Proofs.Ytejpjbmbcdgomaa
set_option maxRecDepth 100000
open Go.RowKit

def cv (o : Option Cl) : Cl := o.getD ⟨0, 0, false⟩
theorem snoc_cons {β : Type} (A : List β) (m : β) (B : List β) : A ++ m :: B = (A ++ [m]) ++ B := by simp
section
variable {w : World} {d : Nat}
/-- A tree's node with those below. -/
theorem node_in {m : MT (d + 1)} (hl : Lk (d + 1) m) (hA : All w (nodes (d + 1) m)) (hok : Ok (d + 1) (trOf (d + 1) m)) (h5 : (its (d + 1) (trOf (d + 1) m)).length ≤ 5) : NodeIn w m.1 m.2 := by
  refine ⟨hA, hl.1, hl.2, ?_, Nat.le_trans h5 (by omega), fun z hz => ?_⟩
  · have := hok.1
    show m.2.length = m.1.is.length + 1
    have h2 : (m.2.map (trOf d)).length = m.1.is.length + 1 := this
    rwa [List.length_map] at h2
  · obtain ⟨h1, _, h3⟩ := hok.2 (trOf d z) (List.mem_map.2 ⟨z, hz, rfl⟩)
    rw [its_tr] at h3
    exact ⟨h1, by omega⟩
theorem up_is {m : MT (d + 1)} (hok : Ok (d + 1) (trOf (d + 1) m)) (hu : Up (flat (d + 1) (trOf (d + 1) m))) : Up m.1.is := hu.sub (weave_sub (trOf (d + 1) m).1 ((trOf (d + 1) m).2.map (flat d)) (ok_its hok))
theorem up_kid {t : Tr Cl (d + 1)} (hok : Ok (d + 1) t) (hu : Up (flat (d + 1) t)) {z : Tr Cl d} (hz : z ∈ t.2) : Up (flat d z) := by
  obtain ⟨i, hi, rfl⟩ := List.mem_iff_getElem.1 hz
  have hl := hok.1
  obtain ⟨bs1, m, bs2, he, h1, h2⟩ := node_cut hok (a := t.1.take i) (b := t.1.drop i) (List.take_append_drop i _).symm
  have hm : t.2[i] = m := by
    have e : t.2 = bs1 ++ m :: bs2 := congrArg Prod.snd he
    have h3 : bs1.length = i := by rw [← h1, List.length_take]; omega
    have e2 : t.2[i]? = some m := by rw [e]; exact get_mid _ _ _ _ h3
    exact (List.getElem?_eq_some_iff.1 e2).2
  rw [hm]
  rw [he, flat_node h1 h2] at hu
  exact (List.pairwise_append.1 (List.pairwise_append.1 hu).2.1).1
theorem kid_cut {m : MT (d + 1)} (hok : Ok (d + 1) (trOf (d + 1) m)) (i : Nat) (hi : i ≤ m.1.is.length) : ∃ a c b, m.2 = a ++ c :: b ∧ a.length = i := by
  have h2 : (m.2.map (trOf d)).length = m.1.is.length + 1 := hok.1
  rw [List.length_map] at h2
  have hlt : i < m.2.length := by omega
  exact ⟨m.2.take i, m.2[i], m.2.drop (i + 1), by rw [List.getElem_cons_drop, List.take_append_drop], by rw [List.length_take]; omega⟩
end
theorem set_any (x : Ix) : ∀ (d : Nat) (m : MT d) (w : World), Lk d m → All w (nodes d m) → Ok d (trOf d m) → Up (flat d (trOf d m)) → (its d (trOf d m)).length ≤ 5 →
    Calls Try.prog 110 #[.pointer (some ⟨(root d m).p, 0, none⟩), .agg #[.int .i64 x.c.v, .int .i64 x.c.s, .bool x.c.dead, .int .i64 x.k]] w (KidPost w m (setT d (trOf d m) x).1 (cv (setT d (trOf d m) x).2) (setT d (trOf d m) x).2.isSome)
  | 0, m, w, hl, hA, _, hu, h5 => by
    have hn := hA.m m (List.mem_singleton.2 rfl)
    have hu : Up (Nd.is m) := hu
    have h5 : (Nd.is m).length ≤ 5 := h5
    cases hf : foundAt (Nd.is m) x.k with
    | some y =>
      have e : setT 0 (trOf 0 m) x = ((List.set (α := Ix) (Nd.is m) (place (Nd.is m) x.k) x : List Ix), some y.c) := by
        show setT 0 (Nd.is m) x = _
        simp only [setT, hf]
        rfl
      rw [e]
      refine Calls.mono (set_found hn hu (by omega) x y hf) ?_
      rintro e9 w' ⟨n', rfl, q1, q2, q3, q4⟩
      exact ⟨n', rfl, q3, q1, q2.trans hl, q4⟩
    | none =>
      have e : setT 0 (trOf 0 m) x = ((insAt (Nd.is m) (place (Nd.is m) x.k) x : List Ix), none) := by
        show setT 0 (Nd.is m) x = _
        simp only [setT, hf]
        rfl
      rw [e]
      refine Calls.mono (set_leaf hn hu (by omega) x hf hl) ?_
      rintro e9 w' ⟨n', rfl, q1, q2, q3, q4⟩
      exact ⟨n', rfl, q3, q1, q2.trans hl, q4⟩
  | d + 1, m, w, hl, hA, hok, hu, h5 => by
    have hN := node_in hl hA hok h5
    have hui := up_is hok hu
    have h5' : m.1.is.length ≤ 5 := h5
    cases hf : foundAt m.1.is x.k with
    | some y =>
      have e : setT (d + 1) (trOf (d + 1) m) x = ((m.1.is.set (place m.1.is x.k) x, m.2.map (trOf d)), some y.c) := by
        show setT (d + 1) ((m.1.is, m.2.map (trOf d)) : Tr Cl (d + 1)) x = _
        simp only [setT, hf]
        rfl
      rw [e]
      refine Calls.mono (set_found hN.top hui (by omega) x y hf) ?_
      rintro e9 w' ⟨n', rfl, q1, q2, q3, q4⟩
      refine ⟨(n', m.2), rfl, q3, ?_, ⟨q2.trans hl.1, hl.2⟩, Mv.frame (l := [m.1]) (r := m.2.flatMap (nodes d)) hA q4⟩
      show (n'.is, m.2.map (trOf d)) = _
      rw [q1]
    | none =>
      obtain ⟨a, c, b, hcs, ha⟩ := kid_cut hok (place m.1.is x.k) (place_le _ _)
      have hmem : trOf d c ∈ (trOf (d + 1) m).2 := List.mem_map.2 ⟨c, by rw [hcs]; simp, rfl⟩
      obtain ⟨o1, o2, o3⟩ := hok.2 _ hmem
      have huc := up_kid hok hu hmem
      obtain ⟨s1, s2, s3, s4, s5⟩ := set_spec x d (trOf d c) o1 huc o3
      have hlc : Lk d c := hl.2 c (by rw [hcs]; simp)
      have hg : (m.2.map (trOf d))[place m.1.is x.k]? = some (trOf d c) := by rw [hcs, List.map_append, List.map_cons]; exact get_mid _ _ _ _ (by simpa using ha)
      rw [hcs] at hN
      have hk := set_kid hN x hui hf rfl ha (t' := (setT d (trOf d c) x).1) (y := cv (setT d (trOf d c) x).2) (bo := (setT d (trOf d c) x).2.isSome) (fun w1 h1 => set_any x d c w1 hlc h1 o1 huc o3) s3 (by omega)
      refine Calls.mono hk ?_
      rintro e9 w' ⟨n', cs', rfl, q1, q2, q3, q4, q5, q6⟩
      have e : setT (d + 1) (trOf (d + 1) m) x = (((if 5 < (its d (setT d (trOf d c) x).1).length then (insAt m.1.is (place m.1.is x.k) (splitT x d (setT d (trOf d c) x).1).2.1, a.map (trOf d) ++ (splitT x d (setT d (trOf d c) x).1).1 :: (splitT x d (setT d (trOf d c) x).1).2.2 :: b.map (trOf d)) else (m.1.is, a.map (trOf d) ++ (setT d (trOf d c) x).1 :: b.map (trOf d))) : List Ix × List (Tr Cl d)), (setT d (trOf d c) x).2) := by
        show setT (d + 1) ((m.1.is, m.2.map (trOf d)) : Tr Cl (d + 1)) x = _
        simp only [setT, hf, hg]
        have e1 : (m.2.map (trOf d)).take (place m.1.is x.k) = a.map (trOf d) := by rw [hcs, List.map_append, List.take_append_of_le_length (by simp [ha]), List.take_of_length_le (by simp [ha])]
        have e2 : (m.2.map (trOf d)).drop (place m.1.is x.k + 1) = b.map (trOf d) := by
          rw [hcs, List.map_append, List.map_cons, snoc_cons, List.drop_append_of_le_length (by simp [ha]), List.drop_of_length_le (by simp [ha])]
          rfl
        have e3 : (m.2.map (trOf d)).set (place m.1.is x.k) (setT d (trOf d c) x).1 = a.map (trOf d) ++ (setT d (trOf d c) x).1 :: b.map (trOf d) := by
          rw [hcs, List.map_append, List.map_cons]
          exact set_mid _ _ _ _ _ (by simpa using ha)
        rw [e1, e2, e3]
        by_cases h : 5 < (its d (setT d (trOf d c) x).1).length
        · rw [if_pos h, if_pos h]; rfl
        · rw [if_neg h, if_neg h]; rfl
      rw [e]
      refine ⟨(n', cs'), rfl, q1, ?_, ⟨q4, q5⟩, ?_⟩
      · show (n'.is, cs'.map (trOf d)) = _
        rw [q2, q3]
      · show Mv w w' (m.1 :: m.2.flatMap (nodes d)) _
        rw [hcs]
        exact q6
end Go.Proofs.Ytejpjbmbcdgomaa

/- The last item at or below a node. -/
namespace Go.Proofs.Ytejpjbmbcdgomaa
set_option maxRecDepth 100000
open Go.RowKit

structure Tm (w : World) (d : Nat) (m : MT d) : Prop where
  lk : Lk d m
  all : All w (nodes d m)
  ok : Ok d (trOf d m)
  ne : 0 < (root d m).is.length
  few : (root d m).is.length ≤ 6
section
variable {w w1 : World} {d : Nat}
theorem Tm.below {m : MT d} (h : Tm w d m) (hb : Below w.heap.size w w1) : Tm w1 d m := ⟨h.lk, h.all.below hb, h.ok, h.ne, h.few⟩
theorem Tm.top {m : MT d} (h : Tm w d m) : NdM w (root d m) := h.all.m _ (by rw [nodes_eq]; exact List.mem_cons_self ..)
theorem Tm.kid {m : MT (d + 1)} (h : Tm w (d + 1) m) {c : MT d} (hc : c ∈ m.2) : Tm w d c := by
  obtain ⟨h1, h2, h3⟩ := h.ok.2 (trOf d c) (List.mem_map.2 ⟨c, hc, rfl⟩)
  rw [its_tr] at h2 h3
  obtain ⟨a, b, e⟩ := List.append_of_mem hc
  have hA : All w (m.1 :: m.2.flatMap (nodes d)) := h.all
  rw [e] at hA
  exact ⟨h.lk.2 c hc, kid_all hA, h1, by omega, by omega⟩
theorem Tm.len {m : MT (d + 1)} (h : Tm w (d + 1) m) : m.2.length = m.1.is.length + 1 := by
  have h2 : (m.2.map (trOf d)).length = m.1.is.length + 1 := h.ok.1
  rwa [List.length_map] at h2
theorem Tm.pslen {m : MT (d + 1)} (h : Tm w (d + 1) m) : m.1.ps.length = m.1.is.length + 1 := by rw [h.lk.1, List.length_map, h.len]
theorem Tm.node {m : MT (d + 1)} (h : Tm w (d + 1) m) : NodeIn w m.1 m.2 := ⟨h.all, h.lk.1, h.lk.2, h.len, h.few, fun z hz => by
  obtain ⟨h1, _, h3⟩ := h.ok.2 (trOf d z) (List.mem_map.2 ⟨z, hz, rfl⟩)
  rw [its_tr] at h3
  exact ⟨h1, by omega⟩⟩
end
/-- A new block may be written. -/
structure Sb (w wr : World) (s : Nat) : Prop where
  le : w.heap.size ≤ s
  b : Below w.heap.size w wr
theorem Sb.drew {w wr : World} {s : Nat} (h : Sb w wr s) : Sb w wr.drew s := ⟨h.le, below_drewI h.b⟩
theorem Sb.s1 {w wr : World} {s : Nat} (h : Sb w wr s) (o : Nat) (v : Value) : Sb w (wr.setCell ⟨s, o, none⟩ v) s := ⟨h.le, h.b.setCell (p := ⟨s, o, none⟩) h.le v⟩
theorem Sb.s4 {w wr : World} {s : Nat} (h : Sb w wr s) {a b c d : Nat} {x y z u : Value} : Sb w ((((wr.setCell ⟨s, a, none⟩ x).setCell ⟨s, b, none⟩ y).setCell ⟨s, c, none⟩ z).setCell ⟨s, d, none⟩ u) s := (((h.s1 _ _).s1 _ _).s1 _ _).s1 _ _
end Go.Proofs.Ytejpjbmbcdgomaa

/- A drop at a node that is a leaf. -/
namespace Go.Proofs.Ytejpjbmbcdgomaa
set_option maxRecDepth 100000
open Go.RowKit

/-- The result's cell stands. -/
structure Rx (w0 w : World) : Prop where
  b : Below (w0.heap.size + 1) (w0.alloc (.cells #[.int .i64 0, .int .i64 0, .bool false] 44)) w
  h : w0.heap.size + 1 ≤ w.heap.size
section
variable {w0 w w' : World}
theorem Rx.start (w : World) : Rx w (w.alloc (.cells #[.int .i64 0, .int .i64 0, .bool false] 44)) := ⟨Below.refl _ _, by simp⟩
theorem Rx.res (B : Rx w0 w) : w.heap[w0.heap.size]? = some (.cells #[.int .i64 0, .int .i64 0, .bool false] 44 (0, 0)) := (B.b.block _ (by omega)).trans (heap_alloc_new w0 _)
theorem Rx.below (B : Rx w0 w) : Below w0.heap.size w0 w := ((Below.refl _ w0).alloc (Nat.le_refl _) _).trans (B.b.mono (by omega))
theorem Rx.later (B : Rx w0 w) (h : Below w.heap.size w w') : Rx w0 w' := ⟨B.b.trans (h.mono B.h), Nat.le_trans B.h h.size⟩
end
/-- The state ahead of the last step: the cell that was, the result's cell, both apart of the nodes. -/
structure Md (w0 wx : World) (l l' : List Nd) (k r : Nat) (y : Cl) : Prop where
  mv : Mv w0 wx l l'
  was : wx.heap[k]? = some (.cells #[.int .i64 y.v, .int .i64 y.s, .bool y.dead] 44 (0, 0))
  res : wx.heap[r]? = some (.cells #[.int .i64 0, .int .i64 0, .bool false] 44 (0, 0))
  a1 : ¬ BL l' k
  a2 : ¬ BL l' r
section
variable {w w1 w2 : World} {l l1 l2 : List Nd} {k r : Nat} {y : Cl}
theorem Md.step (M : Md w w1 l l1 k r y) (T : Mv w1 w2 l1 l2) : Md w w2 l l2 k r y := by
  have h1 : k < w1.heap.size := (Array.getElem?_eq_some_iff.1 M.was).1
  have h2 : r < w1.heap.size := (Array.getElem?_eq_some_iff.1 M.res).1
  exact ⟨M.mv.trans T, (T.ch.block _ h1 M.a1).trans M.was, (T.ch.block _ h2 M.a2).trans M.res, fun e => (T.fr _ e).elim M.a1 (fun e => by omega), fun e => (T.fr _ e).elim M.a2 (fun e => by omega)⟩
/-- Made by a call below that leaves the result's cell, and a fresh cell behind it. -/
theorem Md.fresh (hA : All w l) (B : Rx w w1) (M : Mv w1 w2 l l1) (y : Cl) : Md w (w2.alloc (.cells #[.int .i64 y.v, .int .i64 y.s, .bool y.dead] 44)) l l1 w2.heap.size w.heap.size y := by
  have hb := (Below.refl _ w2).alloc (Nat.le_refl _) (.cells #[.int .i64 y.v, .int .i64 y.s, .bool y.dead] 44)
  have h1 : Mv w w2 l l1 := (Mv.below hA B.below).trans M
  have hh := B.h
  have hr : w2.heap[w.heap.size]? = some (.cells #[.int .i64 0, .int .i64 0, .bool false] 44 (0, 0)) := (M.ch.block _ (by omega) (fun e => by have := hA.lt e; omega)).trans B.res
  refine ⟨h1.trans (Mv.below h1.all hb), heap_alloc_new w2 _, (hb.block _ (Array.getElem?_eq_some_iff.1 hr).1).trans hr, fun e => ?_, fun e => ?_⟩
  · have := h1.all.lt e; omega
  · rcases M.fr _ e with e | e
    · have := hA.lt e; omega
    · omega
theorem one_all' {n : Nd} (h : NdM w n) : All w [n] := ⟨fun m hm => by rw [List.mem_singleton.1 hm]; exact h, List.pairwise_singleton _ _⟩
end
end Go.Proofs.Ytejpjbmbcdgomaa

/- A drop below a node. -/
namespace Go.Proofs.Ytejpjbmbcdgomaa
set_option maxRecDepth 100000
open Go.RowKit

end Go.Proofs.Ytejpjbmbcdgomaa
