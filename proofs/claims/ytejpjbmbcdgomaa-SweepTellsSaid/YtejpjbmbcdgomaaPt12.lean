/- TDrC, TDrD, TGet, TMt, TCopy, TWalk: put together. -/
import Derived.Test.YtejpjbmbcdgomaaPt10
import Derived.Test.YtejpjbmbcdgomaaPt11
import Derived.Test.YtejpjbmbcdgomaaPt00
/- A drop of an item that stands between two nodes. -/
namespace Go.Proofs.Ytejpjbmbcdgomaa
set_option maxRecDepth 100000
open Go.RowKit

section
variable {W : World} {k1 k2 : Nat}
def W7 (W : World) (k1 k2 : Nat) (y : Cl) (z : Ix) : World := (((((((W.setCell ⟨k1, 0, none⟩ (.int .i64 y.v)).setCell ⟨k1, 1, none⟩ (.int .i64 y.s)).setCell ⟨k1, 2, none⟩ (.bool y.dead)).setCell ⟨k2, 0, none⟩ (.int .i64 z.c.v)).setCell ⟨k2, 1, none⟩ (.int .i64 z.c.s)).setCell ⟨k2, 2, none⟩ (.bool z.c.dead)).setCell ⟨k2, 3, none⟩ (.int .i64 z.k))
theorem W7.below {B : Nat} {W0 : World} (h : Below B W0 W) (h1 : B ≤ k1) (h2 : B ≤ k2) (y : Cl) (z : Ix) : Below B W0 (W7 W k1 k2 y z) := by
  unfold W7
  exact ((((((h.setCell (p := ⟨k1, 0, none⟩) h1 _).setCell (p := ⟨k1, 1, none⟩) h1 _).setCell (p := ⟨k1, 2, none⟩) h1 _).setCell (p := ⟨k2, 0, none⟩) h2 _).setCell (p := ⟨k2, 1, none⟩) h2 _).setCell (p := ⟨k2, 2, none⟩) h2 _).setCell (p := ⟨k2, 3, none⟩) h2 _
end
/-- The state between: besides, the item that comes in its place. -/
structure Me (w0 wx : World) (l l' : List Nd) (k r k2 : Nat) (y : Cl) (z : Ix) : Prop where
  md : Md w0 wx l l' k r y
  nx : wx.heap[k2]? = some (.cells #[.int .i64 z.c.v, .int .i64 z.c.s, .bool z.c.dead, .int .i64 z.k] 166 (0, 0))
  a3 : ¬ BL l' k2
theorem Me.step {w w1 w2 : World} {l l1 l2 : List Nd} {k r k2 : Nat} {y : Cl} {z : Ix} (M : Me w w1 l l1 k r k2 y z) (T : Mv w1 w2 l1 l2) : Me w w2 l l2 k r k2 y z := by
  have h1 : k2 < w1.heap.size := (Array.getElem?_eq_some_iff.1 M.nx).1
  exact ⟨M.md.step T, (T.ch.block _ h1 M.a3).trans M.nx, fun e => (T.fr _ e).elim M.a3 (fun e => by omega)⟩
theorem NodeIn.put {w : World} {d : Nat} {n n' : Nd} {cs : List (MT d)} (h : NodeIn w n cs) {w' : World} (hA : All w' (n' :: cs.flatMap (nodes d))) (hp : n'.ps = n.ps) (hl : n'.is.length = n.is.length) : NodeIn w' n' cs := ⟨hA, hp.trans h.ps, h.lk, by rw [h.len, hl], by rw [hl]; exact h.few, h.ok⟩
end Go.Proofs.Ytejpjbmbcdgomaa

/- A drop in a tree. -/
namespace Go.Proofs.Ytejpjbmbcdgomaa
set_option maxRecDepth 100000
open Go.RowKit

end Go.Proofs.Ytejpjbmbcdgomaa

/- A tree as it lies; what it answers. -/
namespace Go.Proofs.Ytejpjbmbcdgomaa
set_option maxRecDepth 100000
open Go.RowKit

/-- A node's tree as the walks want it: rising, good. -/
structure Tu (w : World) (d : Nat) (m : MT d) : Prop where
  lk : Lk d m
  all : All w (nodes d m)
  ok : Ok d (trOf d m)
  up : Up (flat d (trOf d m))
  few : (root d m).is.length ≤ 5
section
variable {w w1 : World} {d : Nat}
theorem Tu.below {m : MT d} (h : Tu w d m) (hb : Below w.heap.size w w1) : Tu w1 d m := ⟨h.lk, h.all.below hb, h.ok, h.up, h.few⟩
theorem Tu.top {m : MT d} (h : Tu w d m) : NdM w (root d m) := h.all.m _ (by rw [nodes_eq]; exact List.mem_cons_self ..)
theorem Tu.upis : ∀ {d : Nat} {m : MT d}, Tu w d m → Up (root d m).is
  | 0, _, h => h.up
  | _ + 1, _, h => up_is h.ok h.up
theorem Tu.kid {m : MT (d + 1)} (h : Tu w (d + 1) m) {c : MT d} (hc : c ∈ m.2) : Tu w d c := by
  have hm : trOf d c ∈ (trOf (d + 1) m).2 := List.mem_map.2 ⟨c, hc, rfl⟩
  obtain ⟨h1, h2, h3⟩ := h.ok.2 (trOf d c) hm
  rw [its_tr] at h3
  obtain ⟨a, b, e⟩ := List.append_of_mem hc
  have hA : All w (m.1 :: m.2.flatMap (nodes d)) := h.all
  rw [e] at hA
  exact ⟨h.lk.2 c hc, kid_all hA, h1, up_kid h.ok h.up hm, h3⟩
theorem Tu.len {m : MT (d + 1)} (h : Tu w (d + 1) m) : m.2.length = m.1.is.length + 1 := by
  have h2 : (m.2.map (trOf d)).length = m.1.is.length + 1 := h.ok.1
  rwa [List.length_map] at h2
theorem Tu.pslen {m : MT (d + 1)} (h : Tu w (d + 1) m) : m.1.ps.length = m.1.is.length + 1 := by rw [h.lk.1, List.length_map, h.len]
theorem Tu.node {m : MT (d + 1)} (h : Tu w (d + 1) m) : NodeIn w m.1 m.2 := node_in h.lk h.all h.ok h.few
theorem Tu.leafb : ∀ {d : Nat} {m : MT d}, Tu w d m → (((root d m).ps.length : Int) == 0) = decide (d = 0)
  | 0, m, h => by
    have : (root 0 m).ps = [] := h.lk
    rw [this]; rfl
  | d + 1, m, h => by
    have : (root (d + 1) m).ps.length = (root (d + 1) m).is.length + 1 := h.pslen
    rw [decide_eq_false (by omega), beq_eq_false_iff_ne]; omega
end
/-- The tree: its block, its top. -/
structure TrM (w : World) (F : Nat → Prop) (tb : Nat) (T : Top Cl) (m : MT T.d) : Prop where
  ok : TOk T
  tr : trOf T.d m = T.t
  lk : Lk T.d m
  all : All w (nodes T.d m)
  block : w.heap[tb]? = some (.cells #[.pointer (some ⟨(root T.d m).p, 0, none⟩), .int .i64 (T.items.length : Int)] 157 (0, 0))
  own : ¬ BL (nodes T.d m) tb
  F : ∀ k, F k ↔ BL (nodes T.d m) k ∨ k = tb
/-- A tree that holds a rising list, d levels below its top. -/
def TL (w : World) (F : Nat → Prop) (tb : Nat) (l : List Ix) (d : Nat) : Prop := ∃ (T : Top Cl) (m : MT T.d), T.d = d ∧ T.items = l ∧ TrM w F tb T m
section
variable {w w1 : World} {F : Nat → Prop} {tb d : Nat} {l : List Ix}
theorem TrM.tu {T : Top Cl} {m : MT T.d} (h : TrM w F tb T m) : Tu w T.d m := ⟨h.lk, h.all, by rw [h.tr]; exact h.ok.ok, by rw [h.tr]; exact h.ok.up, by rw [← its_tr, h.tr]; exact h.ok.few⟩
theorem TL.up (h : TL w F tb l d) : Up l := by
  obtain ⟨T, m, _, rfl, hT⟩ := h
  exact hT.ok.up
theorem TL.lt (h : TL w F tb l d) {k : Nat} (hk : F k) : k < w.heap.size := by
  obtain ⟨T, m, _, rfl, hT⟩ := h
  rcases (hT.F k).1 hk with e | e
  · exact hT.all.lt e
  · rw [e]; exact (Array.getElem?_eq_some_iff.1 hT.block).1
/-- What is changed is not the tree's. -/
theorem TL.keep (h : TL w F tb l d) (hk : ∀ k, F k → w1.heap[k]? = w.heap[k]?) : TL w1 F tb l d := by
  obtain ⟨T, m, e1, e2, hT⟩ := h
  exact ⟨T, m, e1, e2, hT.ok, hT.tr, hT.lk, ⟨fun n hn => (hT.all.m n hn).keep fun k hb => hk k ((hT.F k).2 (.inl ⟨n, hn, hb⟩)), hT.all.ap⟩, (hk tb ((hT.F tb).2 (.inr rfl))).trans hT.block, hT.own, hT.F⟩
theorem TL.below (h : TL w F tb l d) (hb : Below w.heap.size w w1) : TL w1 F tb l d := h.keep fun k hk => hb.block k (h.lt hk)
theorem TL.deep (h : TL w F tb l d) (hd : 0 < d) : 2 * 3 ^ d ≤ l.length + 1 := by
  obtain ⟨T, m, rfl, rfl, hT⟩ := h
  exact top_deep T hT.ok hd
end
theorem get_none {d : Nat} {m : MT (d + 1)} {k : Int} (hf : foundAt m.1.is k = none) {a b : List (MT d)} {c : MT d} (hcs : m.2 = a ++ c :: b) (ha : a.length = place m.1.is k) : getT (d + 1) (trOf (d + 1) m) k = getT d (trOf d c) k := by
  show getT (d + 1) ((m.1.is, m.2.map (trOf d)) : Tr Cl (d + 1)) k = _
  have hg : (m.2.map (trOf d))[place m.1.is k]? = some (trOf d c) := by rw [hcs, List.map_append, List.map_cons]; exact get_mid _ _ _ _ (by simpa using ha)
  simp only [getT, hf, hg]
theorem get_found : ∀ {d : Nat} {m : MT d} {k : Int} {y : Ix}, foundAt (root d m).is k = some y → getT d (trOf d m) k = some y.c
  | 0, m, k, y, hf => by
    show (foundAt (root 0 m).is k).map It.c = _
    rw [hf]; rfl
  | d + 1, m, k, y, hf => by
    have hf : foundAt m.1.is k = some y := hf
    show getT (d + 1) ((m.1.is, m.2.map (trOf d)) : Tr Cl (d + 1)) k = _
    simp only [getT, hf]
theorem found_at {l : List Ix} {k : Int} {y : Ix} (hf : foundAt l k = some y) : l[place l k]? = some y := by
  unfold foundAt at hf
  cases hq : l[place l k]? with
  | none => rw [hq] at hf; cases hf
  | some z =>
    rw [hq] at hf
    dsimp only at hf
    split at hf
    · exact hf
    · cases hf
set_option maxHeartbeats 8000000 in
theorem get_any {w : World} {F : Nat → Prop} {tb d : Nat} {l : List Ix} (h : TL w F tb l d) (k : Int) : Calls Try.prog 96 #[.pointer (some ⟨tb, 0, none⟩), .int .i64 k] w fun e w' => e = .returned (.tuple #[.agg #[.int .i64 (cv (getC k l)).v, .int .i64 (cv (getC k l)).s, .bool (cv (getC k l)).dead], .bool (getC k l).isSome]) ∧ Below w.heap.size w w' := by
  obtain ⟨T, m, _, rfl, hT⟩ := h
  have hg := get_spec T.d T.t k hT.ok.ok hT.ok.up
  have hbl := hT.block
  obtain ⟨G, hG⟩ : ∃ G, G = getC k T.items := ⟨_, rfl⟩
  have hg2 : getT T.d (trOf T.d m) k = G := by rw [hT.tr, hg, hG]; rfl
  rw [← hG]
  obtain ⟨W1, hW1⟩ : ∃ W1, W1 = w.alloc (.cells #[.int .i64 0, .int .i64 0, .bool false] 44) := ⟨_, rfl⟩
  have hR1 : Rx w W1 := by rw [hW1]; exact Rx.start w
  have c0 : (w.alloc (.cells #[.int .i64 0, .int .i64 0, .bool false] 44)).cell? ⟨tb, 0, none⟩ = some (.pointer (some ⟨(root T.d m).p, 0, none⟩)) := by
    rw [← hW1, cell_of_row _ _ 0 _ _ _ ((hR1.below.block _ (Array.getElem?_eq_some_iff.1 hbl).1).trans hbl)]; rfl
  have HT := Lib.hid (hT.tu.below hR1.below)
  have HG := Lib.hid hg2
  have HR1 := Lib.hid hR1
  have HW := Lib.hid hW1
  obtain ⟨s, hs⟩ : ∃ s, s = w.heap.size := ⟨_, rfl⟩
  have HS := Lib.hid hs
  clear hT hg hbl hG hg2 hR1 hW1
  obtain ⟨dd, hdd⟩ : ∃ dd, dd = T.d := ⟨_, rfl⟩
  generalize T.d = dd at m HT HG c0
  obtain ⟨p, hp⟩ : ∃ p, p = (root dd m).p := ⟨_, rfl⟩
  have HP := Lib.hid hp
  rw [← hp] at c0
  clear hp hdd
  go_enter Try.func96, Try.ntmps96
  go_wp2_with fail
  rw [← hs, ← HW.out]
  clear hs c0
  go_loopg [6, 7, 8, 16, 17, 18, 19, 20, 21, 22, 23, 24, 25, 26, 27, 28, 29, 30, 31, 32, 33, 34, 35, 36, 37, 38, 39, 40] dd (fun k' p _ _ _ _ _ _ _ _ _ _ _ _ _ _ _ _ _ _ _ _ _ _ _ _ _ _ _ wr => ∃ m' : MT k', p = .pointer (some ⟨(root k' m').p, 0, none⟩) ∧ Tu wr k' m' ∧ getT k' (trOf k' m') k = G ∧ Below W1.heap.size W1 wr)
  case atStart => exact ⟨m, by rw [HP.out], HT.out, HG.out, Below.refl _ _⟩
  case round =>
    obtain ⟨m', rfl, hT, hL, hb⟩ := hrel
    have HT2 := Lib.hid hT
    have HL := Lib.hid hL
    have HR := Lib.hid (HR1.out.later hb)
    have HB := Lib.hid hb
    have HF := Lib.hid (find_any hT.top hT.upis (by have := hT.few; omega) k)
    have hpl := place_le (root gk m').is k
    obtain ⟨i, hi⟩ : ∃ i, i = place (root gk m').is k := ⟨_, rfl⟩
    obtain ⟨fb, hfb⟩ : ∃ fb, fb = foundB (root gk m').is k := ⟨_, rfl⟩
    rw [← hfb, ← hi] at HF
    rw [← hi] at hpl
    have HI := Lib.hid (And.intro hi hpl)
    have HFB := Lib.hid hfb
    obtain ⟨q, hq⟩ : ∃ q, q = (root gk m').p := ⟨_, rfl⟩
    have HQ := Lib.hid hq
    rw [← hq] at HF ⊢
    clear hT hL hb hi hfb hpl hq
    go_wp2_with fail
    refine Calls.mono HF.out ?_
    rintro e w1 ⟨rfl, hb1⟩
    have HTX := Lib.hid (HT2.out.below hb1)
    have HRX := Lib.hid (HR.out.later hb1)
    have HBX := Lib.hid (HB.out.trans (hb1.mono HB.out.size))
    have hr := HRX.out.res
    rw [← HS.out] at hr
    have r0 : w1.cell? ⟨s, 0, none⟩ = some (.int .i64 0) := by rw [cell_of_row _ _ 0 _ _ _ hr]; rfl
    have r1 : w1.cell? ⟨s, 1, none⟩ = some (.int .i64 0) := by rw [cell_of_row _ _ 1 _ _ _ hr]; rfl
    have r2 : w1.cell? ⟨s, 2, none⟩ = some (.bool false) := by rw [cell_of_row _ _ 2 _ _ _ hr]; rfl
    have rf := frozen_of hr
    have HRR := Lib.hid (fun x y z => res3 hr x y z)
    have HSB := Lib.hid (⟨by rw [HS.out]; omega, HRX.out.below⟩ : Sb w w1 s)
    clear hb1 hr HF HB HR
    cases hf : foundAt (root gk m').is k with
    | some y =>
      obtain rfl : fb = true := by rw [HFB.out]; unfold foundB; rw [hf]; rfl
      obtain ⟨gn, cn, env, f3, hnl, hn0, x0, x1, x2, x3, _⟩ := HTX.out.top.it (show (root gk m').is[i]? = some y from by rw [HI.out.1]; exact found_at hf)
      rw [← HQ.out] at hn0
      have HGG := Lib.hid (show G = some y.c from by rw [← HL.out]; exact get_found hf)
      clear env hf
      go_wp2_with fail
      refine bodyPost_ret (v := .tuple #[.agg #[.int .i64 y.c.v, .int .i64 y.c.s, .bool y.c.dead], .bool true]) (by simp [results, Try.results96, go_sem, (HRR.out (.int .i64 y.c.v) (.int .i64 y.c.s) (.bool y.c.dead)).1, (HRR.out (.int .i64 y.c.v) (.int .i64 y.c.s) (.bool y.c.dead)).2.1, (HRR.out (.int .i64 y.c.v) (.int .i64 y.c.s) (.bool y.c.dead)).2.2]) rfl ⟨by rw [HGG.out]; rfl, (((HSB.out.s1 0 _).s1 1 _).s1 2 _).b⟩
    | none =>
      obtain rfl : fb = false := by rw [HFB.out]; unfold foundB; rw [hf]; rfl
      have HLE := Lib.hid (leaf_any HTX.out.top)
      rw [← HQ.out, HTX.out.leafb] at HLE
      cases gk with
      | zero =>
        have HGG := Lib.hid (show G = none from by
          rw [← HL.out]
          show (foundAt (root 0 m').is k).map It.c = none
          rw [hf]; rfl)
        rw [show decide (0 = 0) = true from rfl] at HLE
        clear hf
        go_wp2_with fail
        refine Calls.mono HLE.out ?_
        rintro e w2 ⟨rfl, rfl⟩
        go_wp2_with fail
        refine bodyPost_ret (v := .tuple #[.agg #[.int .i64 0, .int .i64 0, .bool false], .bool false]) (by simp [results, Try.results96, go_sem, (HRR.out (.int .i64 0) (.int .i64 0) (.bool false)).1, (HRR.out (.int .i64 0) (.int .i64 0) (.bool false)).2.1, (HRR.out (.int .i64 0) (.int .i64 0) (.bool false)).2.2]) rfl ⟨by rw [HGG.out]; rfl, (((HSB.out.s1 0 _).s1 1 _).s1 2 _).b⟩
      | succ k' =>
        rw [show decide (k' + 1 = 0) = false from rfl] at HLE
        obtain ⟨a, c, b, hcs, ha⟩ := kid_cut HTX.out.ok i HI.out.2
        obtain ⟨gu, cu, A, cc, e1, l1, k1, k2, _⟩ := (show NodeIn w1 m'.1 m'.2 from HTX.out.node).cell (j := i) (z := c) (by rw [hcs]; exact get_mid a c b i ha)
        change w1.cell? ⟨(root (k' + 1) m').p, 1, none⟩ = _ at k1
        rw [← HQ.out] at k1
        have HC := Lib.hid (And.intro hcs ha)
        have HGN := Lib.hid (get_none hf hcs (by rw [ha]; exact HI.out.1))
        clear hf e1 hcs ha
        go_wp2_with fail
        refine Calls.mono HLE.out ?_
        rintro e w2 ⟨rfl, rfl⟩
        go_wp2_with fail
        go_roundg k'
        case measure => omega
        case rel => exact ⟨c, rfl, HTX.out.kid (by rw [HC.out.1]; simp), by rw [← HGN.out]; exact HL.out, HBX.out⟩
end Go.Proofs.Ytejpjbmbcdgomaa

/- A whole tree changed: its nodes, its own block, the result's cells. -/
namespace Go.Proofs.Ytejpjbmbcdgomaa
set_option maxRecDepth 100000
open Go.RowKit

theorem ins_len {α : Type} {l : List (It α)} (h : Up l) (x : It α) : (ins x l).length = l.length + (if (getC x.k l).isSome then 0 else 1) := by
  obtain ⟨a, b, hl, _, h1, h2⟩ := place_cut h x.k
  rcases h2 with ⟨y, b', rfl, hy, h3⟩ | ⟨_, h4⟩
  · subst hl
    rw [ins_at x y a b' hy h1 h3, getC_at y a b' x.k hy (fun z hz => by have := h1 z hz; omega)]
    simp
  · subst hl
    rw [ins_new x a b h1 h4, getC_none x.k _ (fun z hz => by
      rcases List.mem_append.1 hz with e | e
      · have := h1 z e; omega
      · have := h4 z e; omega)]
    simp; omega
/-- What is changed, and whose the new blocks are. -/
structure Cg (w w' : World) (F F' : Nat → Prop) : Prop where
  ch : Ch w w' F
  fr : ∀ k, F' k → F k ∨ w.heap.size ≤ k
structure Mt (w0 wx : World) (l l' : List Nd) (tb k r p : Nat) (many : Int) (y : Cl) : Prop where
  all : All wx l'
  ch : Ch w0 wx (fun q => BL l q ∨ q = tb)
  fr : ∀ q, BL l' q → BL l q ∨ w0.heap.size ≤ q
  tree : wx.heap[tb]? = some (.cells #[.pointer (some ⟨p, 0, none⟩), .int .i64 many] 157 (0, 0))
  was : wx.heap[k]? = some (.cells #[.int .i64 y.v, .int .i64 y.s, .bool y.dead] 44 (0, 0))
  res : wx.heap[r]? = some (.cells #[.int .i64 0, .int .i64 0, .bool false] 44 (0, 0))
  a0 : ¬ BL l' tb
  a1 : ¬ BL l' k
  a2 : ¬ BL l' r
  k0 : w0.heap.size ≤ k
  r0 : w0.heap.size ≤ r
  t0 : tb < w0.heap.size
section
variable {w0 w w1 w2 : World} {l l' l1 l2 : List Nd} {tb k r p : Nat} {many : Int} {y : Cl}
theorem Mt.step (M : Mt w0 w1 l l1 tb k r p many y) (T : Mv w1 w2 l1 l2) : Mt w0 w2 l l2 tb k r p many y := by
  have h1 := (Array.getElem?_eq_some_iff.1 M.was).1
  have h2 := (Array.getElem?_eq_some_iff.1 M.res).1
  have h3 := (Array.getElem?_eq_some_iff.1 M.tree).1
  have hs := M.ch.size
  refine ⟨T.all, M.ch.trans T.ch (fun q e => (M.fr q e).imp .inl id), fun q e => ?_, (T.ch.block _ h3 M.a0).trans M.tree, (T.ch.block _ h1 M.a1).trans M.was, (T.ch.block _ h2 M.a2).trans M.res, fun e => ?_, fun e => ?_, fun e => ?_, M.k0, M.r0, M.t0⟩
  · rcases T.fr q e with e | e
    · exact M.fr q e
    · exact .inr (Nat.le_trans hs e)
  · exact (T.fr _ e).elim M.a0 (fun e => by omega)
  · exact (T.fr _ e).elim M.a1 (fun e => by omega)
  · exact (T.fr _ e).elim M.a2 (fun e => by omega)
/-- The tree's own block is written. -/
theorem Mt.store (M : Mt w0 w1 l l1 tb k r p many y) (A : At w1 w2 tb) {p' : Nat} {many' : Int} (hb : w2.heap[tb]? = some (.cells #[.pointer (some ⟨p', 0, none⟩), .int .i64 many'] 157 (0, 0))) : Mt w0 w2 l l1 tb k r p' many' y := by
  have ht := M.t0
  have hk := M.k0
  have hr := M.r0
  refine ⟨⟨fun n hn => (M.all.m n hn).keep fun q hq => A.block q (fun e => M.a0 (by rw [← e]; exact ⟨n, hn, hq⟩)), M.all.ap⟩, M.ch.trans (⟨A.os, A.tape, A.output, by rw [A.size]; exact Nat.le_refl _, fun q _ hq => A.block q hq⟩ : Ch w1 w2 (fun q => q = tb)) (fun q e => .inl (.inr e)), M.fr, hb, (A.block _ (by omega)).trans M.was, (A.block _ (by omega)).trans M.res, M.a0, M.a1, M.a2, M.k0, M.r0, M.t0⟩
theorem Mt.sub (M : Mt w0 w1 l l1 tb k r p many y) (hs : l2.Sublist l1) : Mt w0 w1 l l2 tb k r p many y :=
  ⟨M.all.sub hs, M.ch, fun q e => M.fr q (BL.sub hs e), M.tree, M.was, M.res, fun e => M.a0 (BL.sub hs e), fun e => M.a1 (BL.sub hs e), fun e => M.a2 (BL.sub hs e), M.k0, M.r0, M.t0⟩
theorem Mt.below (M : Mt w0 w1 l l1 tb k r p many y) (hb : Below w1.heap.size w1 w2) : Mt w0 w2 l l1 tb k r p many y := M.step (Mv.below M.all hb)
theorem Md.mt (M : Md w0 w1 l l1 k r y) (_ : All w0 l) (ht : ¬ BL l tb) (hb : w0.heap[tb]? = some (.cells #[.pointer (some ⟨p, 0, none⟩), .int .i64 many] 157 (0, 0))) (hk : w0.heap.size ≤ k) (hr : w0.heap.size ≤ r) : Mt w0 w1 l l1 tb k r p many y := by
  have h3 := (Array.getElem?_eq_some_iff.1 hb).1
  exact ⟨M.mv.all, M.mv.ch.mono fun _ e => .inl e, M.mv.fr, (M.mv.ch.block _ h3 ht).trans hb, M.was, M.res, fun e => (M.mv.fr _ e).elim ht (fun e => by omega), M.a1, M.a2, hk, hr, h3⟩
/-- The result's cell is written: the tree stands. -/
theorem Mt.done (M : Mt w0 w1 l l1 tb k r p many y) (A : At w1 w2 r) {T : Top Cl} {m : MT T.d} (ok : TOk T) (tr : trOf T.d m = T.t) (lk : Lk T.d m) (hn : nodes T.d m = l1) (hp : (root T.d m).p = p) (hm : (T.items.length : Int) = many) {F : Nat → Prop} (hF : ∀ q, F q ↔ BL l q ∨ q = tb) :
    ∃ F', TL w2 F' tb T.items T.d ∧ Cg w0 w2 F F' := by
  have ht := M.t0
  have hr := M.r0
  subst hn hp hm
  refine ⟨fun q => BL (nodes T.d m) q ∨ q = tb, ⟨T, m, rfl, rfl, ok, tr, lk, ⟨fun n hn => (M.all.m n hn).keep fun q hq => A.block q (fun e => M.a2 (by rw [← e]; exact ⟨n, hn, hq⟩)), M.all.ap⟩, (A.block _ (by omega)).trans M.tree, M.a0, fun q => Iff.rfl⟩, ?_, fun q e => ?_⟩
  · exact (M.ch.trans (⟨A.os, A.tape, A.output, by rw [A.size]; exact Nat.le_refl _, fun q _ hq => A.block q hq⟩ : Ch w1 w2 (fun q => q = r)) (fun q e => .inr (by subst e; exact hr))).mono fun q e => (hF q).2 e
  · rcases e with e | e
    · exact (M.fr q e).imp (fun e => (hF q).2 (.inl e)) id
    · exact .inl ((hF q).2 (.inr e))
end
set_option maxHeartbeats 4000000 in
theorem new_any (w : World) : Calls Try.prog 47 #[] w fun e w' => ∃ F tb, e = .returned (.pointer (some ⟨tb, 0, none⟩)) ∧ TL w' F tb [] 0 ∧ (∀ k, F k → w.heap.size ≤ k) ∧ Below w.heap.size w w' := by
  obtain ⟨W, hW⟩ : ∃ W, W = (w.alloc (.cells #[.slice none 0 0, .slice none 0 0] 155)).alloc (.cells #[.pointer (some ⟨w.heap.size, 0, none⟩), .int .i64 0] 157) := ⟨_, rfl⟩
  have hb : Below w.heap.size w W := by rw [hW]; exact ((Below.refl _ _).alloc (Nat.le_refl _) _).alloc (by simp) _
  have h1 : W.heap[w.heap.size]? = some (.cells #[.slice none 0 0, .slice none 0 0] 155 (0, 0)) := by
    rw [hW, ((Below.refl _ (w.alloc _)).alloc (Nat.le_refl _) _).block _ (by simp)]
    exact heap_alloc_new w _
  have h2 : W.heap[w.heap.size + 1]? = some (.cells #[.pointer (some ⟨w.heap.size, 0, none⟩), .int .i64 0] 157 (0, 0)) := by
    have := heap_alloc_new (w.alloc (.cells #[.slice none 0 0, .slice none 0 0] 155)) (.cells #[.pointer (some ⟨w.heap.size, 0, none⟩), .int .i64 0] 157)
    have e : (w.alloc (.cells #[.slice none 0 0, .slice none 0 0] 155)).heap.size = w.heap.size + 1 := by simp
    rw [e, ← hW] at this
    exact this
  have HN : Hid (NdM W ⟨w.heap.size, .slice none 0 0, .slice none 0 0, [], []⟩) := Lib.hid ⟨h1, World.ownsRow_nil _ _ _ _, World.ownsRow_nil _ _ _ _⟩
  have H2 := Lib.hid h2
  have HB := Lib.hid hb
  have HW := Lib.hid hW
  clear h1 h2 hb hW
  go_enter Try.func47, Try.ntmps47
  go_wp2_with fail
  go_ret
  rw [← HW.out]
  have hB : ∀ k, Nd.B ⟨w.heap.size, .slice none 0 0, .slice none 0 0, [], []⟩ k → k = w.heap.size := fun k hk => by
    rcases hk with e | e | e
    · exact e
    · cases e
    · cases e
  refine ⟨fun q => BL [⟨w.heap.size, .slice none 0 0, .slice none 0 0, [], []⟩] q ∨ q = w.heap.size + 1, w.heap.size + 1, rfl, ⟨Top.new, (⟨w.heap.size, .slice none 0 0, .slice none 0 0, [], []⟩ : Nd), rfl, rfl, TOk.new, rfl, rfl, one_all' HN.out, H2.out, fun ⟨n, hn, e⟩ => ?_, fun q => Iff.rfl⟩, fun k hk => ?_, HB.out⟩
  · rw [List.mem_singleton.1 hn] at e
    have := hB _ e
    omega
  · rcases hk with ⟨n, hn, e⟩ | e
    · rw [List.mem_singleton.1 hn] at e
      have := hB _ e
      omega
    · omega
end Go.Proofs.Ytejpjbmbcdgomaa

/- A copy of a node's tree. -/
namespace Go.Proofs.Ytejpjbmbcdgomaa
set_option maxRecDepth 100000
open Go.RowKit

/-- A tree of new blocks alone. -/
def NewT (d : Nat) (B : Nat) (w w' : World) (t : Tr Cl d) (m' : MT d) : Prop := trOf d m' = t ∧ Lk d m' ∧ All w' (nodes d m') ∧ (∀ k, BL (nodes d m') k → B ≤ k) ∧ Below B w w'
/-- Those copied so far, below a new node. -/
structure Cop {d : Nat} (w wr : World) (n : Nd) (cs : List (MT d)) (ts : List (Tr Cl d)) : Prop where
  all : All wr (n :: cs.flatMap (nodes d))
  ps : n.ps = cs.map (pOf d)
  lk : ∀ z ∈ cs, Lk d z
  tr : cs.map (trOf d) = ts
  new : ∀ k, BL (n :: cs.flatMap (nodes d)) k → w.heap.size ≤ k
  b : Below w.heap.size w wr
section
variable {w wr w8 w9 : World} {d : Nat} {n n2 : Nd} {cs : List (MT d)} {ts : List (Tr Cl d)} {m' : MT d} {t : Tr Cl d}
/-- One copied more, not yet below the new node. -/
structure Cop1 {d : Nat} (w wr : World) (n : Nd) (cs : List (MT d)) (m' : MT d) : Prop where
  all : All wr (n :: (cs ++ [m']).flatMap (nodes d))
  ps : n.ps = cs.map (pOf d)
  lk : ∀ z ∈ cs ++ [m'], Lk d z
  new : ∀ k, BL (n :: (cs ++ [m']).flatMap (nodes d)) k → w.heap.size ≤ k
  b : Below w.heap.size w wr
theorem Cop.add (C : Cop w wr n cs ts) (h : NewT d wr.heap.size wr w8 t m') : Cop1 w w8 n cs m' := by
  obtain ⟨h1, h2, h3, h4, h5⟩ := h
  have e : n :: (cs ++ [m']).flatMap (nodes d) = (n :: cs.flatMap (nodes d)) ++ nodes d m' := by simp
  have hs := C.b.size
  refine ⟨?_, C.ps, fun z hz => ?_, fun k hk => ?_, C.b.trans (h5.mono hs)⟩
  · rw [e]
    refine ⟨fun x hx => ?_, List.pairwise_append.2 ⟨C.all.ap, h3.ap, fun a ha b hb k e1 e2 => ?_⟩⟩
    · rcases List.mem_append.1 hx with e | e
      · exact (C.all.m x e).below h5
      · exact h3.m x e
    · have := (C.all.m a ha).lt e1
      have := h4 k ⟨b, hb, e2⟩
      omega
  · rcases List.mem_append.1 hz with e | e
    · exact C.lk z e
    · rw [List.mem_singleton.1 e]; exact h2
  · rw [e] at hk
    rcases BL.app.1 hk with e | e
    · exact C.new k e
    · exact Nat.le_trans hs (h4 k e)
theorem Cop1.put (C : Cop1 w w8 n cs m') (h : NdM w9 n2 ∧ Ch w8 w9 n.B ∧ Fr w8 n n2) (hp : n2.ps = n.ps ++ [(root d m').p]) : Cop w w9 n2 (cs ++ [m']) ((cs ++ [m']).map (trOf d)) := by
  have M := Mv.frame (l := [n]) (r := (cs ++ [m']).flatMap (nodes d)) C.all (Mv.one h)
  have hs := C.b.size
  refine ⟨M.all, ?_, C.lk, rfl, fun k hk => ?_, ?_⟩
  · rw [hp, C.ps]; simp [pOf]
  · rcases M.fr k hk with e | e
    · exact C.new k e
    · exact Nat.le_trans hs e
  · exact ⟨M.ch.os.trans C.b.os, M.ch.tape.trans C.b.tape, M.ch.output.trans C.b.output, Nat.le_trans C.b.size M.ch.size, fun k hk => (M.ch.block k (Nat.lt_of_lt_of_le hk hs) (fun e => by have := C.new k e; omega)).trans (C.b.block k hk)⟩
end
end Go.Proofs.Ytejpjbmbcdgomaa

/- A walk shows a range. -/
namespace Go.Proofs.Ytejpjbmbcdgomaa
set_option maxRecDepth 100000
open Go.RowKit

/-- What is shown goes where. -/
structure Shows (G cb : Nat) (w0 : World) (Q : List Ix → World → Prop) : Prop where
  below : ∀ l w, Q l w → Below w0.heap.size w0 w
  later : ∀ l w w', Q l w → Below w.heap.size w w' → Q l w'
  shows : ∀ l w (x : Ix), Q l w → l.length < 100000 → Calls Try.prog G #[.agg #[.int .i64 x.c.v, .int .i64 x.c.s, .bool x.c.dead, .int .i64 x.k], .pointer (some ⟨cb, 0, none⟩)] w fun e w' => e = .returned (.tuple #[]) ∧ Q (l ++ [x]) w'
section
variable {hi : Int} {l : List Ix} {z : Nat} {x : Ix}
theorem lastL (hi : Int) (h : l.length ≤ z) : (l.drop z).takeWhile (fun y => decide (y.k ≤ hi)) = [] := by rw [List.drop_of_length_le h]; rfl
theorem drop_at {β : Type} {l : List β} {z : Nat} {x : β} (hx : l[z]? = some x) : l.drop z = x :: l.drop (z + 1) := by
  obtain ⟨h, e⟩ := List.getElem?_eq_some_iff.1 hx
  rw [List.drop_eq_getElem_cons h, e]
theorem stopL (hi : Int) (hx : l[z]? = some x) (h : hi < x.k) : (l.drop z).takeWhile (fun y => decide (y.k ≤ hi)) = [] := by
  rw [drop_at hx, List.takeWhile_cons, if_neg (by simp; omega)]
theorem goL (hi : Int) (hx : l[z]? = some x) (h : ¬ hi < x.k) : (l.drop z).takeWhile (fun y => decide (y.k ≤ hi)) = x :: (l.drop (z + 1)).takeWhile (fun y => decide (y.k ≤ hi)) := by
  rw [drop_at hx, List.takeWhile_cons, if_pos (by simp; omega)]
variable {β : Type} {bs : List β} {b : β}
theorem lastK (f : β → List Ix) (hi : Int) (h : l.length ≤ z) (hb : bs[z]? = some b) : walkN f hi (l.drop z) (bs.drop z) = f b := by
  rw [List.drop_of_length_le h, drop_at hb]; rfl
theorem preK (f : β → List Ix) (hi : Int) {l : List Ix} {bs : List β} {b : β} (hb : bs[0]? = some b) : ∃ r, walkN f hi l bs = f b ++ r := by
  cases bs with
  | nil => cases hb
  | cons b' bs =>
    have e : b' = b := by simpa using hb
    subst e
    cases l with
    | nil => exact ⟨[], by simp [walkN]⟩
    | cons x l => exact ⟨_, rfl⟩
theorem stopK (f : β → List Ix) (hi : Int) (hx : l[z]? = some x) (hb : bs[z]? = some b) (h : hi < x.k) : walkN f hi (l.drop z) (bs.drop z) = f b := by
  rw [drop_at hx, drop_at hb, walkN, if_pos h, List.append_nil]
theorem goK (f : β → List Ix) (hi : Int) (hx : l[z]? = some x) (hb : bs[z]? = some b) (h : ¬ hi < x.k) : walkN f hi (l.drop z) (bs.drop z) = f b ++ x :: walkN f hi (l.drop (z + 1)) (bs.drop (z + 1)) := by
  rw [drop_at hx, drop_at hb, walkN, if_neg h]
end
end Go.Proofs.Ytejpjbmbcdgomaa
