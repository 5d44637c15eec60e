/- A drop in a tree. -/
import Derived.Test.YtdbckolndaodeaaTDrC
namespace Go.Proofs.Ytdbckolndaodeaa
set_option maxRecDepth 100000
open Go.RowKit

theorem drop_any (x0 : Ix) : ∀ (d : Nat) (m : MT d) (w : World) (k : Int), Lk d m → All w (nodes d m) → Ok d (trOf d m) → Up (flat d (trOf d m)) → (its d (trOf d m)).length ≤ 5 → (d = 0 ∨ 0 < (its d (trOf d m)).length) →
    Calls Try.prog 29 #[.pointer (some ⟨(root d m).p, 0, none⟩), .int .i64 k] w (KidPost w m (dropT x0 d (trOf d m) k).1 (cv (dropT x0 d (trOf d m) k).2) (dropT x0 d (trOf d m) k).2.isSome)
  | 0, m, w, k, hl, hA, _, hu, h5, _ => by
    have hn := hA.m m (List.mem_singleton.2 rfl)
    have hu : Up (Nd.is m) := hu
    have h5 : (Nd.is m).length ≤ 5 := h5
    cases hf : foundAt (Nd.is m) k with
    | some y =>
      have e : dropT x0 0 (trOf 0 m) k = ((List.eraseIdx (α := Ix) (Nd.is m) (place (Nd.is m) k) : List Ix), some y.c) := by
        show dropT x0 0 (Nd.is m) k = _
        simp only [dropT, hf]
        rfl
      rw [e]
      refine Calls.mono (drop_leaf hn hu (by omega) k hf hl) ?_
      rintro e9 w' ⟨n', rfl, q1, q2, q3, q4⟩
      exact ⟨n', rfl, q3, q1, q2.trans hl, q4⟩
    | none =>
      have e : dropT x0 0 (trOf 0 m) k = ((Nd.is m : List Ix), none) := by
        show dropT x0 0 (Nd.is m) k = _
        simp only [dropT, hf]
        rfl
      rw [e]
      refine Calls.mono (drop_none hn hu (by omega) k hf hl) ?_
      rintro e9 w' ⟨rfl, hb⟩
      exact ⟨m, rfl, rfl, rfl, hl, Mv.below hA hb⟩
  | d + 1, m, w, k, hl, hA, hok, hu, h5, hne => by
    have hN := node_in hl hA hok h5
    have hui := up_is hok hu
    have h5' : m.1.is.length ≤ 5 := h5
    have hne' : 0 < m.1.is.length := by
      rcases hne with e | e
      · cases e
      · exact e
    obtain ⟨a, c, b, hcs, ha⟩ := kid_cut hok (place m.1.is k) (place_le _ _)
    have hmem : trOf d c ∈ (trOf (d + 1) m).2 := List.mem_map.2 ⟨c, by rw [hcs]; simp, rfl⟩
    obtain ⟨o1, o2, o3⟩ := hok.2 _ hmem
    have huc := up_kid hok hu hmem
    have hlc : Lk d c := hl.2 c (by rw [hcs]; simp)
    have hg : (m.2.map (trOf d))[place m.1.is k]? = some (trOf d c) := by rw [hcs, List.map_append, List.map_cons]; exact get_mid _ _ _ _ (by simpa using ha)
    have hset : ∀ t', (m.2.map (trOf d)).set (place m.1.is k) t' = a.map (trOf d) ++ t' :: b.map (trOf d) := fun t' => by
      rw [hcs, List.map_append, List.map_cons]
      exact set_mid _ _ _ _ _ (by simpa using ha)
    rw [hcs] at hN
    cases hf : foundAt m.1.is k with
    | some y =>
      obtain ⟨z, hz⟩ : ∃ z, z = lastT x0 d (trOf d c) := ⟨_, rfl⟩
      obtain ⟨s1, s2, s3, s4, s5⟩ := drop_spec x0 d (trOf d c) z.k o1 huc o3 (.inr (by omega))
      have e : dropT x0 (d + 1) (trOf (d + 1) m) k = ((fillT x0 d (m.1.is.set (place m.1.is k) z) (a.map (trOf d) ++ (dropT x0 d (trOf d c) z.k).1 :: b.map (trOf d)) (place m.1.is k) : List Ix × List (Tr Cl d)), some y.c) := by
        show dropT x0 (d + 1) ((m.1.is, m.2.map (trOf d)) : Tr Cl (d + 1)) k = _
        simp only [dropT, hf, hg]
        rw [← hz, hset]
        rfl
      rw [e]
      refine Calls.mono (drop_mid x0 hN k hui hf rfl ha (fun w1 h1 => ⟨hlc, h1, o1, by rw [its_tr] at o2; omega, by rw [its_tr] at o3; omega⟩) hz (t' := (dropT x0 d (trOf d c) z.k).1) (yy := cv (dropT x0 d (trOf d c) z.k).2) (bo := (dropT x0 d (trOf d c) z.k).2.isSome) (fun w1 h1 => drop_any x0 d c w1 z.k hlc h1 o1 huc o3 (.inr (by omega))) s3 (by omega)) ?_
      rintro e9 w' ⟨n', cs', rfl, q1, q2, q3, q4, q5, q6⟩
      refine ⟨(n', cs'), rfl, q1, ?_, ⟨q4, q5⟩, ?_⟩
      · show (n'.is, cs'.map (trOf d)) = _
        rw [q2, q3]
      · show Mv w w' (m.1 :: m.2.flatMap (nodes d)) _
        rw [hcs]
        exact q6
    | none =>
      obtain ⟨s1, s2, s3, s4, s5⟩ := drop_spec x0 d (trOf d c) k o1 huc o3 (.inr (by omega))
      have e : dropT x0 (d + 1) (trOf (d + 1) m) k = ((fillT x0 d m.1.is (a.map (trOf d) ++ (dropT x0 d (trOf d c) k).1 :: b.map (trOf d)) (place m.1.is k) : List Ix × List (Tr Cl d)), (dropT x0 d (trOf d c) k).2) := by
        show dropT x0 (d + 1) ((m.1.is, m.2.map (trOf d)) : Tr Cl (d + 1)) k = _
        simp only [dropT, hf, hg]
        rw [hset]
        rfl
      rw [e]
      refine Calls.mono (drop_kid x0 hN k hui hf rfl ha hne' (t' := (dropT x0 d (trOf d c) k).1) (y := cv (dropT x0 d (trOf d c) k).2) (bo := (dropT x0 d (trOf d c) k).2.isSome) (fun w1 h1 => drop_any x0 d c w1 k hlc h1 o1 huc o3 (.inr (by omega))) s3 (by omega)) ?_
      rintro e9 w' ⟨n', cs', rfl, q1, q2, q3, q4, q5, q6⟩
      refine ⟨(n', cs'), rfl, q1, ?_, ⟨q4, q5⟩, ?_⟩
      · show (n'.is, cs'.map (trOf d)) = _
        rw [q2, q3]
      · show Mv w w' (m.1 :: m.2.flatMap (nodes d)) _
        rw [hcs]
        exact q6
end Go.Proofs.Ytdbckolndaodeaa
