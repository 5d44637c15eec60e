/- A set in a tree. -/
import Derived.Test.YtdbckolndaodeaaTSetC
namespace Go.Proofs.Ytdbckolndaodeaa
set_option maxRecDepth 100000
open Go.RowKit

def cv (o : Option Cl) : Cl := o.getD ⟨0, 0, false⟩
theorem snoc_cons {β : Type} (A : List β) (m : β) (B : List β) : A ++ m :: B = (A ++ [m]) ++ B := by simp
section
variable {w : World} {d : Nat}
/-- A tree's node with those below. -/
theorem node_in {m : MT (d + 1)} (hl : Lk (d + 1) m) (hA : All w (nodes (d + 1) m)) (hok : Ok (d + 1) (trOf (d + 1) m)) (h5 : (its (d + 1) (trOf (d + 1) m)).length ≤ 5) : NodeIn w m.1 m.2 := by
  refine ⟨hA, hl.1, hl.2, ?_, Nat.le_trans h5 (by omega), fun z hz => ?_⟩
  · have := hok.1
    show m.2.length = m.1.is.length + 1
    have h2 : (m.2.map (trOf d)).length = m.1.is.length + 1 := this
    rwa [List.length_map] at h2
  · obtain ⟨h1, _, h3⟩ := hok.2 (trOf d z) (List.mem_map.2 ⟨z, hz, rfl⟩)
    rw [its_tr] at h3
    exact ⟨h1, by omega⟩
theorem up_is {m : MT (d + 1)} (hok : Ok (d + 1) (trOf (d + 1) m)) (hu : Up (flat (d + 1) (trOf (d + 1) m))) : Up m.1.is := hu.sub (weave_sub (trOf (d + 1) m).1 ((trOf (d + 1) m).2.map (flat d)) (ok_its hok))
theorem up_kid {t : Tr Cl (d + 1)} (hok : Ok (d + 1) t) (hu : Up (flat (d + 1) t)) {z : Tr Cl d} (hz : z ∈ t.2) : Up (flat d z) := by
  obtain ⟨i, hi, rfl⟩ := List.mem_iff_getElem.1 hz
  have hl := hok.1
  obtain ⟨bs1, m, bs2, he, h1, h2⟩ := node_cut hok (a := t.1.take i) (b := t.1.drop i) (List.take_append_drop i _).symm
  have hm : t.2[i] = m := by
    have e : t.2 = bs1 ++ m :: bs2 := congrArg Prod.snd he
    have h3 : bs1.length = i := by rw [← h1, List.length_take]; omega
    have e2 : t.2[i]? = some m := by rw [e]; exact get_mid _ _ _ _ h3
    exact (List.getElem?_eq_some_iff.1 e2).2
  rw [hm]
  rw [he, flat_node h1 h2] at hu
  exact (List.pairwise_append.1 (List.pairwise_append.1 hu).2.1).1
theorem kid_cut {m : MT (d + 1)} (hok : Ok (d + 1) (trOf (d + 1) m)) (i : Nat) (hi : i ≤ m.1.is.length) : ∃ a c b, m.2 = a ++ c :: b ∧ a.length = i := by
  have h2 : (m.2.map (trOf d)).length = m.1.is.length + 1 := hok.1
  rw [List.length_map] at h2
  have hlt : i < m.2.length := by omega
  exact ⟨m.2.take i, m.2[i], m.2.drop (i + 1), by rw [List.getElem_cons_drop, List.take_append_drop], by rw [List.length_take]; omega⟩
end
theorem set_any (x : Ix) : ∀ (d : Nat) (m : MT d) (w : World), Lk d m → All w (nodes d m) → Ok d (trOf d m) → Up (flat d (trOf d m)) → (its d (trOf d m)).length ≤ 5 →
    Calls Try.prog 30 #[.pointer (some ⟨(root d m).p, 0, none⟩), .agg #[.int .i64 x.c.v, .int .i64 x.c.s, .bool x.c.dead, .int .i64 x.k]] w (KidPost w m (setT d (trOf d m) x).1 (cv (setT d (trOf d m) x).2) (setT d (trOf d m) x).2.isSome)
  | 0, m, w, hl, hA, _, hu, h5 => by
    have hn := hA.m m (List.mem_singleton.2 rfl)
    have hu : Up (Nd.is m) := hu
    have h5 : (Nd.is m).length ≤ 5 := h5
    cases hf : foundAt (Nd.is m) x.k with
    | some y =>
      have e : setT 0 (trOf 0 m) x = ((List.set (α := Ix) (Nd.is m) (place (Nd.is m) x.k) x : List Ix), some y.c) := by
        show setT 0 (Nd.is m) x = _
        simp only [setT, hf]
        rfl
      rw [e]
      refine Calls.mono (set_found hn hu (by omega) x y hf) ?_
      rintro e9 w' ⟨n', rfl, q1, q2, q3, q4⟩
      exact ⟨n', rfl, q3, q1, q2.trans hl, q4⟩
    | none =>
      have e : setT 0 (trOf 0 m) x = ((insAt (Nd.is m) (place (Nd.is m) x.k) x : List Ix), none) := by
        show setT 0 (Nd.is m) x = _
        simp only [setT, hf]
        rfl
      rw [e]
      refine Calls.mono (set_leaf hn hu (by omega) x hf hl) ?_
      rintro e9 w' ⟨n', rfl, q1, q2, q3, q4⟩
      exact ⟨n', rfl, q3, q1, q2.trans hl, q4⟩
  | d + 1, m, w, hl, hA, hok, hu, h5 => by
    have hN := node_in hl hA hok h5
    have hui := up_is hok hu
    have h5' : m.1.is.length ≤ 5 := h5
    cases hf : foundAt m.1.is x.k with
    | some y =>
      have e : setT (d + 1) (trOf (d + 1) m) x = ((m.1.is.set (place m.1.is x.k) x, m.2.map (trOf d)), some y.c) := by
        show setT (d + 1) ((m.1.is, m.2.map (trOf d)) : Tr Cl (d + 1)) x = _
        simp only [setT, hf]
        rfl
      rw [e]
      refine Calls.mono (set_found hN.top hui (by omega) x y hf) ?_
      rintro e9 w' ⟨n', rfl, q1, q2, q3, q4⟩
      refine ⟨(n', m.2), rfl, q3, ?_, ⟨q2.trans hl.1, hl.2⟩, Mv.frame (l := [m.1]) (r := m.2.flatMap (nodes d)) hA q4⟩
      show (n'.is, m.2.map (trOf d)) = _
      rw [q1]
    | none =>
      obtain ⟨a, c, b, hcs, ha⟩ := kid_cut hok (place m.1.is x.k) (place_le _ _)
      have hmem : trOf d c ∈ (trOf (d + 1) m).2 := List.mem_map.2 ⟨c, by rw [hcs]; simp, rfl⟩
      obtain ⟨o1, o2, o3⟩ := hok.2 _ hmem
      have huc := up_kid hok hu hmem
      obtain ⟨s1, s2, s3, s4, s5⟩ := set_spec x d (trOf d c) o1 huc o3
      have hlc : Lk d c := hl.2 c (by rw [hcs]; simp)
      have hg : (m.2.map (trOf d))[place m.1.is x.k]? = some (trOf d c) := by rw [hcs, List.map_append, List.map_cons]; exact get_mid _ _ _ _ (by simpa using ha)
      rw [hcs] at hN
      have hk := set_kid hN x hui hf rfl ha (t' := (setT d (trOf d c) x).1) (y := cv (setT d (trOf d c) x).2) (bo := (setT d (trOf d c) x).2.isSome) (fun w1 h1 => set_any x d c w1 hlc h1 o1 huc o3) s3 (by omega)
      refine Calls.mono hk ?_
      rintro e9 w' ⟨n', cs', rfl, q1, q2, q3, q4, q5, q6⟩
      have e : setT (d + 1) (trOf (d + 1) m) x = (((if 5 < (its d (setT d (trOf d c) x).1).length then (insAt m.1.is (place m.1.is x.k) (splitT x d (setT d (trOf d c) x).1).2.1, a.map (trOf d) ++ (splitT x d (setT d (trOf d c) x).1).1 :: (splitT x d (setT d (trOf d c) x).1).2.2 :: b.map (trOf d)) else (m.1.is, a.map (trOf d) ++ (setT d (trOf d c) x).1 :: b.map (trOf d))) : List Ix × List (Tr Cl d)), (setT d (trOf d c) x).2) := by
        show setT (d + 1) ((m.1.is, m.2.map (trOf d)) : Tr Cl (d + 1)) x = _
        simp only [setT, hf, hg]
        have e1 : (m.2.map (trOf d)).take (place m.1.is x.k) = a.map (trOf d) := by rw [hcs, List.map_append, List.take_append_of_le_length (by simp [ha]), List.take_of_length_le (by simp [ha])]
        have e2 : (m.2.map (trOf d)).drop (place m.1.is x.k + 1) = b.map (trOf d) := by
          rw [hcs, List.map_append, List.map_cons, snoc_cons, List.drop_append_of_le_length (by simp [ha]), List.drop_of_length_le (by simp [ha])]
          rfl
        have e3 : (m.2.map (trOf d)).set (place m.1.is x.k) (setT d (trOf d c) x).1 = a.map (trOf d) ++ (setT d (trOf d c) x).1 :: b.map (trOf d) := by
          rw [hcs, List.map_append, List.map_cons]
          exact set_mid _ _ _ _ _ (by simpa using ha)
        rw [e1, e2, e3]
        by_cases h : 5 < (its d (setT d (trOf d c) x).1).length
        · rw [if_pos h, if_pos h]; rfl
        · rw [if_neg h, if_neg h]; rfl
      rw [e]
      refine ⟨(n', cs'), rfl, q1, ?_, ⟨q4, q5⟩, ?_⟩
      · show (n'.is, cs'.map (trOf d)) = _
        rw [q2, q3]
      · show Mv w w' (m.1 :: m.2.flatMap (nodes d)) _
        rw [hcs]
        exact q6
end Go.Proofs.Ytdbckolndaodeaa
