/- TDrD, TGet: put together. -/
import Derived.Test.YtejpjbmbcdgomaaPa22
import Derived.Test.YtejpjbmbcdgomaaPa00
/- A drop in a tree. -/
namespace Go.Proofs.Ytejpjbmbcdgomaa
set_option maxRecDepth 100000
open Go.RowKit

theorem drop_any (x0 : Ix) : ∀ (d : Nat) (m : MT d) (w : World) (k : Int), Lk d m → All w (nodes d m) → Ok d (trOf d m) → Up (flat d (trOf d m)) → (its d (trOf d m)).length ≤ 5 → (d = 0 ∨ 0 < (its d (trOf d m)).length) →
    Calls Try.prog 107 #[.pointer (some ⟨(root d m).p, 0, none⟩), .int .i64 k] w (KidPost w m (dropT x0 d (trOf d m) k).1 (cv (dropT x0 d (trOf d m) k).2) (dropT x0 d (trOf d m) k).2.isSome)
  | 0, m, w, k, hl, hA, _, hu, h5, _ => by
    have hn := hA.m m (List.mem_singleton.2 rfl)
    have hu : Up (Nd.is m) := hu
    have h5 : (Nd.is m).length ≤ 5 := h5
    cases hf : foundAt (Nd.is m) k with
    | some y =>
      have e : dropT x0 0 (trOf 0 m) k = ((List.eraseIdx (α := Ix) (Nd.is m) (place (Nd.is m) k) : List Ix), some y.c) := by
        show dropT x0 0 (Nd.is m) k = _
        simp only [dropT, hf]
        rfl
      rw [e]
      refine Calls.mono (drop_leaf hn hu (by omega) k hf hl) ?_
      rintro e9 w' ⟨n', rfl, q1, q2, q3, q4⟩
      exact ⟨n', rfl, q3, q1, q2.trans hl, q4⟩
    | none =>
      have e : dropT x0 0 (trOf 0 m) k = ((Nd.is m : List Ix), none) := by
        show dropT x0 0 (Nd.is m) k = _
        simp only [dropT, hf]
        rfl
      rw [e]
      refine Calls.mono (drop_none hn hu (by omega) k hf hl) ?_
      rintro e9 w' ⟨rfl, hb⟩
      exact ⟨m, rfl, rfl, rfl, hl, Mv.below hA hb⟩
  | d + 1, m, w, k, hl, hA, hok, hu, h5, hne => by
    have hN := node_in hl hA hok h5
    have hui := up_is hok hu
    have h5' : m.1.is.length ≤ 5 := h5
    have hne' : 0 < m.1.is.length := by
      rcases hne with e | e
      · cases e
      · exact e
    obtain ⟨a, c, b, hcs, ha⟩ := kid_cut hok (place m.1.is k) (place_le _ _)
    have hmem : trOf d c ∈ (trOf (d + 1) m).2 := List.mem_map.2 ⟨c, by rw [hcs]; simp, rfl⟩
    obtain ⟨o1, o2, o3⟩ := hok.2 _ hmem
    have huc := up_kid hok hu hmem
    have hlc : Lk d c := hl.2 c (by rw [hcs]; simp)
    have hg : (m.2.map (trOf d))[place m.1.is k]? = some (trOf d c) := by rw [hcs, List.map_append, List.map_cons]; exact get_mid _ _ _ _ (by simpa using ha)
    have hset : ∀ t', (m.2.map (trOf d)).set (place m.1.is k) t' = a.map (trOf d) ++ t' :: b.map (trOf d) := fun t' => by
      rw [hcs, List.map_append, List.map_cons]
      exact set_mid _ _ _ _ _ (by simpa using ha)
    rw [hcs] at hN
    cases hf : foundAt m.1.is k with
    | some y =>
      obtain ⟨z, hz⟩ : ∃ z, z = lastT x0 d (trOf d c) := ⟨_, rfl⟩
      obtain ⟨s1, s2, s3, s4, s5⟩ := drop_spec x0 d (trOf d c) z.k o1 huc o3 (.inr (by omega))
      have e : dropT x0 (d + 1) (trOf (d + 1) m) k = ((fillT x0 d (m.1.is.set (place m.1.is k) z) (a.map (trOf d) ++ (dropT x0 d (trOf d c) z.k).1 :: b.map (trOf d)) (place m.1.is k) : List Ix × List (Tr Cl d)), some y.c) := by
        show dropT x0 (d + 1) ((m.1.is, m.2.map (trOf d)) : Tr Cl (d + 1)) k = _
        simp only [dropT, hf, hg]
        rw [← hz, hset]
        rfl
      rw [e]
      refine Calls.mono (drop_mid x0 hN k hui hf rfl ha (fun w1 h1 => ⟨hlc, h1, o1, by rw [its_tr] at o2; omega, by rw [its_tr] at o3; omega⟩) hz (t' := (dropT x0 d (trOf d c) z.k).1) (yy := cv (dropT x0 d (trOf d c) z.k).2) (bo := (dropT x0 d (trOf d c) z.k).2.isSome) (fun w1 h1 => drop_any x0 d c w1 z.k hlc h1 o1 huc o3 (.inr (by omega))) s3 (by omega)) ?_
      rintro e9 w' ⟨n', cs', rfl, q1, q2, q3, q4, q5, q6⟩
      refine ⟨(n', cs'), rfl, q1, ?_, ⟨q4, q5⟩, ?_⟩
      · show (n'.is, cs'.map (trOf d)) = _
        rw [q2, q3]
      · show Mv w w' (m.1 :: m.2.flatMap (nodes d)) _
        rw [hcs]
        exact q6
    | none =>
      obtain ⟨s1, s2, s3, s4, s5⟩ := drop_spec x0 d (trOf d c) k o1 huc o3 (.inr (by omega))
      have e : dropT x0 (d + 1) (trOf (d + 1) m) k = ((fillT x0 d m.1.is (a.map (trOf d) ++ (dropT x0 d (trOf d c) k).1 :: b.map (trOf d)) (place m.1.is k) : List Ix × List (Tr Cl d)), (dropT x0 d (trOf d c) k).2) := by
        show dropT x0 (d + 1) ((m.1.is, m.2.map (trOf d)) : Tr Cl (d + 1)) k = _
        simp only [dropT, hf, hg]
        rw [hset]
        rfl
      rw [e]
      refine Calls.mono (drop_kid x0 hN k hui hf rfl ha hne' (t' := (dropT x0 d (trOf d c) k).1) (y := cv (dropT x0 d (trOf d c) k).2) (bo := (dropT x0 d (trOf d c) k).2.isSome) (fun w1 h1 => drop_any x0 d c w1 k hlc h1 o1 huc o3 (.inr (by omega))) s3 (by omega)) ?_
      rintro e9 w' ⟨n', cs', rfl, q1, q2, q3, q4, q5, q6⟩
      refine ⟨(n', cs'), rfl, q1, ?_, ⟨q4, q5⟩, ?_⟩
      · show (n'.is, cs'.map (trOf d)) = _
        rw [q2, q3]
      · show Mv w w' (m.1 :: m.2.flatMap (nodes d)) _
        rw [hcs]
        exact q6
end Go.Proofs.Ytejpjbmbcdgomaa

/- A tree as it lies; what it answers. -/
namespace Go.Proofs.Ytejpjbmbcdgomaa
set_option maxRecDepth 100000
open Go.RowKit

/-- A node's tree as the walks want it: rising, good. -/
structure Tu (w : World) (d : Nat) (m : MT d) : Prop where
  lk : Lk d m
  all : All w (nodes d m)
  ok : Ok d (trOf d m)
  up : Up (flat d (trOf d m))
  few : (root d m).is.length ≤ 5
section
variable {w w1 : World} {d : Nat}
theorem Tu.below {m : MT d} (h : Tu w d m) (hb : Below w.heap.size w w1) : Tu w1 d m := ⟨h.lk, h.all.below hb, h.ok, h.up, h.few⟩
theorem Tu.top {m : MT d} (h : Tu w d m) : NdM w (root d m) := h.all.m _ (by rw [nodes_eq]; exact List.mem_cons_self ..)
theorem Tu.upis : ∀ {d : Nat} {m : MT d}, Tu w d m → Up (root d m).is
  | 0, _, h => h.up
  | _ + 1, _, h => up_is h.ok h.up
theorem Tu.kid {m : MT (d + 1)} (h : Tu w (d + 1) m) {c : MT d} (hc : c ∈ m.2) : Tu w d c := by
  have hm : trOf d c ∈ (trOf (d + 1) m).2 := List.mem_map.2 ⟨c, hc, rfl⟩
  obtain ⟨h1, h2, h3⟩ := h.ok.2 (trOf d c) hm
  rw [its_tr] at h3
  obtain ⟨a, b, e⟩ := List.append_of_mem hc
  have hA : All w (m.1 :: m.2.flatMap (nodes d)) := h.all
  rw [e] at hA
  exact ⟨h.lk.2 c hc, kid_all hA, h1, up_kid h.ok h.up hm, h3⟩
theorem Tu.len {m : MT (d + 1)} (h : Tu w (d + 1) m) : m.2.length = m.1.is.length + 1 := by
  have h2 : (m.2.map (trOf d)).length = m.1.is.length + 1 := h.ok.1
  rwa [List.length_map] at h2
theorem Tu.pslen {m : MT (d + 1)} (h : Tu w (d + 1) m) : m.1.ps.length = m.1.is.length + 1 := by rw [h.lk.1, List.length_map, h.len]
theorem Tu.node {m : MT (d + 1)} (h : Tu w (d + 1) m) : NodeIn w m.1 m.2 := node_in h.lk h.all h.ok h.few
theorem Tu.leafb : ∀ {d : Nat} {m : MT d}, Tu w d m → (((root d m).ps.length : Int) == 0) = decide (d = 0)
  | 0, m, h => by
    have : (root 0 m).ps = [] := h.lk
    rw [this]; rfl
  | d + 1, m, h => by
    have : (root (d + 1) m).ps.length = (root (d + 1) m).is.length + 1 := h.pslen
    rw [decide_eq_false (by omega), beq_eq_false_iff_ne]; omega
end
/-- The tree: its block, its top. -/
structure TrM (w : World) (F : Nat → Prop) (tb : Nat) (T : Top Cl) (m : MT T.d) : Prop where
  ok : TOk T
  tr : trOf T.d m = T.t
  lk : Lk T.d m
  all : All w (nodes T.d m)
  block : w.heap[tb]? = some (.cells #[.pointer (some ⟨(root T.d m).p, 0, none⟩), .int .i64 (T.items.length : Int)] 157 (0, 0))
  own : ¬ BL (nodes T.d m) tb
  F : ∀ k, F k ↔ BL (nodes T.d m) k ∨ k = tb
/-- A tree that holds a rising list, d levels below its top. -/
def TL (w : World) (F : Nat → Prop) (tb : Nat) (l : List Ix) (d : Nat) : Prop := ∃ (T : Top Cl) (m : MT T.d), T.d = d ∧ T.items = l ∧ TrM w F tb T m
section
variable {w w1 : World} {F : Nat → Prop} {tb d : Nat} {l : List Ix}
theorem TrM.tu {T : Top Cl} {m : MT T.d} (h : TrM w F tb T m) : Tu w T.d m := ⟨h.lk, h.all, by rw [h.tr]; exact h.ok.ok, by rw [h.tr]; exact h.ok.up, by rw [← its_tr, h.tr]; exact h.ok.few⟩
theorem TL.up (h : TL w F tb l d) : Up l := by
  obtain ⟨T, m, _, rfl, hT⟩ := h
  exact hT.ok.up
theorem TL.lt (h : TL w F tb l d) {k : Nat} (hk : F k) : k < w.heap.size := by
  obtain ⟨T, m, _, rfl, hT⟩ := h
  rcases (hT.F k).1 hk with e | e
  · exact hT.all.lt e
  · rw [e]; exact (Array.getElem?_eq_some_iff.1 hT.block).1
/-- What is changed is not the tree's. -/
theorem TL.keep (h : TL w F tb l d) (hk : ∀ k, F k → w1.heap[k]? = w.heap[k]?) : TL w1 F tb l d := by
  obtain ⟨T, m, e1, e2, hT⟩ := h
  exact ⟨T, m, e1, e2, hT.ok, hT.tr, hT.lk, ⟨fun n hn => (hT.all.m n hn).keep fun k hb => hk k ((hT.F k).2 (.inl ⟨n, hn, hb⟩)), hT.all.ap⟩, (hk tb ((hT.F tb).2 (.inr rfl))).trans hT.block, hT.own, hT.F⟩
theorem TL.below (h : TL w F tb l d) (hb : Below w.heap.size w w1) : TL w1 F tb l d := h.keep fun k hk => hb.block k (h.lt hk)
theorem TL.deep (h : TL w F tb l d) (hd : 0 < d) : 2 * 3 ^ d ≤ l.length + 1 := by
  obtain ⟨T, m, rfl, rfl, hT⟩ := h
  exact top_deep T hT.ok hd
end
theorem get_none {d : Nat} {m : MT (d + 1)} {k : Int} (hf : foundAt m.1.is k = none) {a b : List (MT d)} {c : MT d} (hcs : m.2 = a ++ c :: b) (ha : a.length = place m.1.is k) : getT (d + 1) (trOf (d + 1) m) k = getT d (trOf d c) k := by
  show getT (d + 1) ((m.1.is, m.2.map (trOf d)) : Tr Cl (d + 1)) k = _
  have hg : (m.2.map (trOf d))[place m.1.is k]? = some (trOf d c) := by rw [hcs, List.map_append, List.map_cons]; exact get_mid _ _ _ _ (by simpa using ha)
  simp only [getT, hf, hg]
theorem get_found : ∀ {d : Nat} {m : MT d} {k : Int} {y : Ix}, foundAt (root d m).is k = some y → getT d (trOf d m) k = some y.c
  | 0, m, k, y, hf => by
    show (foundAt (root 0 m).is k).map It.c = _
    rw [hf]; rfl
  | d + 1, m, k, y, hf => by
    have hf : foundAt m.1.is k = some y := hf
    show getT (d + 1) ((m.1.is, m.2.map (trOf d)) : Tr Cl (d + 1)) k = _
    simp only [getT, hf]
theorem found_at {l : List Ix} {k : Int} {y : Ix} (hf : foundAt l k = some y) : l[place l k]? = some y := by
  unfold foundAt at hf
  cases hq : l[place l k]? with
  | none => rw [hq] at hf; cases hf
  | some z =>
    rw [hq] at hf
    dsimp only at hf
    split at hf
    · exact hf
    · cases hf
set_option maxHeartbeats 8000000 in
theorem get_any {w : World} {F : Nat → Prop} {tb d : Nat} {l : List Ix} (h : TL w F tb l d) (k : Int) : Calls Try.prog 96 #[.pointer (some ⟨tb, 0, none⟩), .int .i64 k] w fun e w' => e = .returned (.tuple #[.agg #[.int .i64 (cv (getC k l)).v, .int .i64 (cv (getC k l)).s, .bool (cv (getC k l)).dead], .bool (getC k l).isSome]) ∧ Below w.heap.size w w' := by
  obtain ⟨T, m, _, rfl, hT⟩ := h
  have hg := get_spec T.d T.t k hT.ok.ok hT.ok.up
  have hbl := hT.block
  obtain ⟨G, hG⟩ : ∃ G, G = getC k T.items := ⟨_, rfl⟩
  have hg2 : getT T.d (trOf T.d m) k = G := by rw [hT.tr, hg, hG]; rfl
  rw [← hG]
  obtain ⟨W1, hW1⟩ : ∃ W1, W1 = w.alloc (.cells #[.int .i64 0, .int .i64 0, .bool false] 44) := ⟨_, rfl⟩
  have hR1 : Rx w W1 := by rw [hW1]; exact Rx.start w
  have c0 : (w.alloc (.cells #[.int .i64 0, .int .i64 0, .bool false] 44)).cell? ⟨tb, 0, none⟩ = some (.pointer (some ⟨(root T.d m).p, 0, none⟩)) := by
    rw [← hW1, cell_of_row _ _ 0 _ _ _ ((hR1.below.block _ (Array.getElem?_eq_some_iff.1 hbl).1).trans hbl)]; rfl
  have HT := Lib.hid (hT.tu.below hR1.below)
  have HG := Lib.hid hg2
  have HR1 := Lib.hid hR1
  have HW := Lib.hid hW1
  obtain ⟨s, hs⟩ : ∃ s, s = w.heap.size := ⟨_, rfl⟩
  have HS := Lib.hid hs
  clear hT hg hbl hG hg2 hR1 hW1
  obtain ⟨dd, hdd⟩ : ∃ dd, dd = T.d := ⟨_, rfl⟩
  generalize T.d = dd at m HT HG c0
  obtain ⟨p, hp⟩ : ∃ p, p = (root dd m).p := ⟨_, rfl⟩
  have HP := Lib.hid hp
  rw [← hp] at c0
  clear hp hdd
  go_enter Try.func96, Try.ntmps96
  go_wp2_with fail
  rw [← hs, ← HW.out]
  clear hs c0
  go_loopg [6, 7, 8, 16, 17, 18, 19, 20, 21, 22, 23, 24, 25, 26, 27, 28, 29, 30, 31, 32, 33, 34, 35, 36, 37, 38, 39, 40] dd (fun k' p _ _ _ _ _ _ _ _ _ _ _ _ _ _ _ _ _ _ _ _ _ _ _ _ _ _ _ wr => ∃ m' : MT k', p = .pointer (some ⟨(root k' m').p, 0, none⟩) ∧ Tu wr k' m' ∧ getT k' (trOf k' m') k = G ∧ Below W1.heap.size W1 wr)
  case atStart => exact ⟨m, by rw [HP.out], HT.out, HG.out, Below.refl _ _⟩
  case round =>
    obtain ⟨m', rfl, hT, hL, hb⟩ := hrel
    have HT2 := Lib.hid hT
    have HL := Lib.hid hL
    have HR := Lib.hid (HR1.out.later hb)
    have HB := Lib.hid hb
    have HF := Lib.hid (find_any hT.top hT.upis (by have := hT.few; omega) k)
    have hpl := place_le (root gk m').is k
    obtain ⟨i, hi⟩ : ∃ i, i = place (root gk m').is k := ⟨_, rfl⟩
    obtain ⟨fb, hfb⟩ : ∃ fb, fb = foundB (root gk m').is k := ⟨_, rfl⟩
    rw [← hfb, ← hi] at HF
    rw [← hi] at hpl
    have HI := Lib.hid (And.intro hi hpl)
    have HFB := Lib.hid hfb
    obtain ⟨q, hq⟩ : ∃ q, q = (root gk m').p := ⟨_, rfl⟩
    have HQ := Lib.hid hq
    rw [← hq] at HF ⊢
    clear hT hL hb hi hfb hpl hq
    go_wp2_with fail
    refine Calls.mono HF.out ?_
    rintro e w1 ⟨rfl, hb1⟩
    have HTX := Lib.hid (HT2.out.below hb1)
    have HRX := Lib.hid (HR.out.later hb1)
    have HBX := Lib.hid (HB.out.trans (hb1.mono HB.out.size))
    have hr := HRX.out.res
    rw [← HS.out] at hr
    have r0 : w1.cell? ⟨s, 0, none⟩ = some (.int .i64 0) := by rw [cell_of_row _ _ 0 _ _ _ hr]; rfl
    have r1 : w1.cell? ⟨s, 1, none⟩ = some (.int .i64 0) := by rw [cell_of_row _ _ 1 _ _ _ hr]; rfl
    have r2 : w1.cell? ⟨s, 2, none⟩ = some (.bool false) := by rw [cell_of_row _ _ 2 _ _ _ hr]; rfl
    have rf := frozen_of hr
    have HRR := Lib.hid (fun x y z => res3 hr x y z)
    have HSB := Lib.hid (⟨by rw [HS.out]; omega, HRX.out.below⟩ : Sb w w1 s)
    clear hb1 hr HF HB HR
    cases hf : foundAt (root gk m').is k with
    | some y =>
      obtain rfl : fb = true := by rw [HFB.out]; unfold foundB; rw [hf]; rfl
      obtain ⟨gn, cn, env, f3, hnl, hn0, x0, x1, x2, x3, _⟩ := HTX.out.top.it (show (root gk m').is[i]? = some y from by rw [HI.out.1]; exact found_at hf)
      rw [← HQ.out] at hn0
      have HGG := Lib.hid (show G = some y.c from by rw [← HL.out]; exact get_found hf)
      clear env hf
      go_wp2_with fail
      refine bodyPost_ret (v := .tuple #[.agg #[.int .i64 y.c.v, .int .i64 y.c.s, .bool y.c.dead], .bool true]) (by simp [results, Try.results96, go_sem, (HRR.out (.int .i64 y.c.v) (.int .i64 y.c.s) (.bool y.c.dead)).1, (HRR.out (.int .i64 y.c.v) (.int .i64 y.c.s) (.bool y.c.dead)).2.1, (HRR.out (.int .i64 y.c.v) (.int .i64 y.c.s) (.bool y.c.dead)).2.2]) rfl ⟨by rw [HGG.out]; rfl, (((HSB.out.s1 0 _).s1 1 _).s1 2 _).b⟩
    | none =>
      obtain rfl : fb = false := by rw [HFB.out]; unfold foundB; rw [hf]; rfl
      have HLE := Lib.hid (leaf_any HTX.out.top)
      rw [← HQ.out, HTX.out.leafb] at HLE
      cases gk with
      | zero =>
        have HGG := Lib.hid (show G = none from by
          rw [← HL.out]
          show (foundAt (root 0 m').is k).map It.c = none
          rw [hf]; rfl)
        rw [show decide (0 = 0) = true from rfl] at HLE
        clear hf
        go_wp2_with fail
        refine Calls.mono HLE.out ?_
        rintro e w2 ⟨rfl, rfl⟩
        go_wp2_with fail
        refine bodyPost_ret (v := .tuple #[.agg #[.int .i64 0, .int .i64 0, .bool false], .bool false]) (by simp [results, Try.results96, go_sem, (HRR.out (.int .i64 0) (.int .i64 0) (.bool false)).1, (HRR.out (.int .i64 0) (.int .i64 0) (.bool false)).2.1, (HRR.out (.int .i64 0) (.int .i64 0) (.bool false)).2.2]) rfl ⟨by rw [HGG.out]; rfl, (((HSB.out.s1 0 _).s1 1 _).s1 2 _).b⟩
      | succ k' =>
        rw [show decide (k' + 1 = 0) = false from rfl] at HLE
        obtain ⟨a, c, b, hcs, ha⟩ := kid_cut HTX.out.ok i HI.out.2
        obtain ⟨gu, cu, A, cc, e1, l1, k1, k2, _⟩ := (show NodeIn w1 m'.1 m'.2 from HTX.out.node).cell (j := i) (z := c) (by rw [hcs]; exact get_mid a c b i ha)
        change w1.cell? ⟨(root (k' + 1) m').p, 1, none⟩ = _ at k1
        rw [← HQ.out] at k1
        have HC := Lib.hid (And.intro hcs ha)
        have HGN := Lib.hid (get_none hf hcs (by rw [ha]; exact HI.out.1))
        clear hf e1 hcs ha
        go_wp2_with fail
        refine Calls.mono HLE.out ?_
        rintro e w2 ⟨rfl, rfl⟩
        go_wp2_with fail
        go_roundg k'
        case measure => omega
        case rel => exact ⟨c, rfl, HTX.out.kid (by rw [HC.out.1]; simp), by rw [← HGN.out]; exact HL.out, HBX.out⟩
end Go.Proofs.Ytejpjbmbcdgomaa
