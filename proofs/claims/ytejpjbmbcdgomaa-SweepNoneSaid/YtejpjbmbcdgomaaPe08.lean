/- ZS: put together. -/
import Derived.Test.YtejpjbmbcdgomaaPe07
import Derived.Test.YtejpjbmbcdgomaaPe00
/- TMem, TPair, TFillM: put together. -/
/- Trees in memory: nodes apart; what is changed. -/
namespace Go.Proofs.Ytejpjbmbcdgomaa
set_option maxRecDepth 100000
open Go.RowKit

structure All (w : World) (l : List Nd) : Prop where
  m : ∀ n ∈ l, NdM w n
  ap : l.Pairwise Ap
def BL (l : List Nd) (k : Nat) : Prop := ∃ n ∈ l, n.B k
/-- Nodes became others. -/
structure Mv (w w' : World) (l l' : List Nd) : Prop where
  all : All w' l'
  ch : Ch w w' (BL l)
  fr : ∀ k, BL l' k → BL l k ∨ w.heap.size ≤ k
section
variable {w w' w1 w2 : World} {l l' l1 l2 r : List Nd}
theorem All.perm (h : All w l) (hp : l.Perm l') : All w l' := ⟨fun n hn => h.m n (hp.mem_iff.2 hn), (hp.pairwise_iff (fun e => Ap.symm e)).1 h.ap⟩
theorem BL.perm (hp : l.Perm l') {k : Nat} (h : BL l k) : BL l' k := by
  obtain ⟨n, h1, h2⟩ := h
  exact ⟨n, hp.mem_iff.1 h1, h2⟩
theorem All.sub (h : All w l) (hs : l'.Sublist l) : All w l' := ⟨fun n hn => h.m n (hs.subset hn), h.ap.sublist hs⟩
theorem BL.sub (hs : l'.Sublist l) {k : Nat} (h : BL l' k) : BL l k := by
  obtain ⟨n, h1, h2⟩ := h
  exact ⟨n, hs.subset h1, h2⟩
theorem All.lt (h : All w l) {k : Nat} (hk : BL l k) : k < w.heap.size := by
  obtain ⟨n, h1, h2⟩ := hk
  exact (h.m n h1).lt h2
theorem BL.app {k : Nat} : BL (l ++ r) k ↔ BL l k ∨ BL r k := by
  unfold BL
  constructor
  · rintro ⟨n, h1, h2⟩
    rcases List.mem_append.1 h1 with e | e
    · exact .inl ⟨n, e, h2⟩
    · exact .inr ⟨n, e, h2⟩
  · rintro (⟨n, h1, h2⟩ | ⟨n, h1, h2⟩)
    · exact ⟨n, List.mem_append_left _ h1, h2⟩
    · exact ⟨n, List.mem_append_right _ h1, h2⟩
theorem All.apart (h : All w (l ++ r)) {k : Nat} (h1 : BL l k) : ¬ BL r k := fun h2 => by
  obtain ⟨a, ha, e1⟩ := h1
  obtain ⟨b, hb, e2⟩ := h2
  exact (List.pairwise_append.1 h.ap).2.2 a ha b hb k e1 e2
theorem All.left (h : All w (l ++ r)) : All w l := h.sub (List.sublist_append_left l r)
theorem All.right (h : All w (l ++ r)) : All w r := h.sub (List.sublist_append_right l r)
theorem All.below (h : All w l) (hb : Below w.heap.size w w') : All w' l := ⟨fun n hn => (h.m n hn).below hb, h.ap⟩
theorem Mv.below (h : All w l) (hb : Below w.heap.size w w') : Mv w w' l l := ⟨h.below hb, Ch.of_below hb _, fun _ e => .inl e⟩
theorem Mv.refl (h : All w l) : Mv w w l l := Mv.below h (Below.refl _ _)
theorem Mv.trans (h : Mv w w1 l l1) (k : Mv w1 w2 l1 l2) : Mv w w2 l l2 :=
  ⟨k.all, h.ch.trans k.ch h.fr, fun q e => by
    rcases k.fr q e with e | e
    · exact h.fr q e
    · exact .inr (Nat.le_trans h.ch.size e)⟩
theorem Mv.perm (h : Mv w w' l l') (hp : l.Perm l1) (hq : l'.Perm l2) : Mv w w' l1 l2 :=
  ⟨h.all.perm hq, h.ch.mono fun _ e => BL.perm hp e, fun k e => (h.fr k (BL.perm hq.symm e)).imp (BL.perm hp) id⟩
theorem Mv.sub (h : Mv w w' l l') (hs : l1.Sublist l') : Mv w w' l l1 := ⟨h.all.sub hs, h.ch, fun k e => h.fr k (BL.sub hs e)⟩
theorem Mv.frame (h : All w (l ++ r)) (k : Mv w w' l l') : Mv w w' (l ++ r) (l' ++ r) := by
  refine ⟨⟨fun n hn => ?_, List.pairwise_append.2 ⟨k.all.ap, h.right.ap, fun a ha b hb q e1 e2 => ?_⟩⟩, k.ch.mono fun _ e => BL.app.2 (.inl e), fun q e => ?_⟩
  · rcases List.mem_append.1 hn with e | e
    · exact k.all.m n e
    · exact (h.right.m n e).keep fun q hq => k.ch.block q ((h.right.m n e).lt hq) fun e2 => h.apart e2 ⟨n, e, hq⟩
  · rcases k.fr q ⟨a, ha, e1⟩ with e | e
    · exact h.apart e ⟨b, hb, e2⟩
    · have := (h.right.m b hb).lt e2
      omega
  · rcases BL.app.1 e with e | e
    · exact (k.fr q e).imp (fun e => BL.app.2 (.inl e)) id
    · exact .inl (BL.app.2 (.inr e))
theorem bl3 {a b c : Nd} {k : Nat} : BL [a, b, c] k ↔ a.B k ∨ b.B k ∨ c.B k := by
  unfold BL
  simp
theorem bl2 {a b : Nd} {k : Nat} : BL [a, b] k ↔ a.B k ∨ b.B k := by
  unfold BL
  simp
theorem all3 {n L R : Nd} (hn : NdM w n) (hL : NdM w L) (hR : NdM w R) (a1 : Ap n L) (a2 : Ap n R) (a3 : Ap L R) : All w [n, L, R] :=
  ⟨fun m hm => by
    simp at hm
    rcases hm with rfl | rfl | rfl <;> assumption, by simp [a1, a2, a3]⟩
theorem Mv.of_tri {n0 L0 R0 n L R : Nd} (T : Tri w w' n0 L0 R0 n L R) : Mv w w' [n0, L0, R0] [n, L, R] :=
  ⟨all3 T.hn T.hL T.hR T.a1 T.a2 T.a3, T.ch.mono fun _ e => bl3.2 e, fun k e => by
    rcases bl3.1 e with e | e | e
    · exact (T.fn.new k e).imp (fun e => bl3.2 (.inl e)) id
    · exact (T.fL.new k e).imp (fun e => bl3.2 (.inr (.inl e))) id
    · exact (T.fR.new k e).imp (fun e => bl3.2 (.inr (.inr e))) id⟩
theorem Tri.of_all {n L R : Nd} (h : All w [n, L, R]) : Tri w w n L R n L R := by
  have := h.ap
  simp at this
  exact Tri.refl (h.m n (by simp)) (h.m L (by simp)) (h.m R (by simp)) this.1.1 this.1.2 this.2
/-- One node alone. -/
theorem Mv.one {n n' : Nd} (h : NdM w' n' ∧ Ch w w' n.B ∧ Fr w n n') : Mv w w' [n] [n'] :=
  ⟨⟨fun m hm => by rw [List.mem_singleton.1 hm]; exact h.1, List.pairwise_singleton _ _⟩, h.2.1.mono fun _ e => ⟨n, by simp, e⟩, fun k ⟨m, hm, e⟩ => by
    rw [List.mem_singleton.1 hm] at e
    exact (h.2.2.new k e).imp (fun e => ⟨n, by simp, e⟩) id⟩
end
/-- A tree in memory whose leaves lie d levels below. -/
def MT : Nat → Type
  | 0 => Nd
  | d + 1 => Nd × List (MT d)
def root : (d : Nat) → MT d → Nd
  | 0, n => n
  | _ + 1, m => m.1
def kid : (d : Nat) → MT d → List (MT (d - 1))
  | 0, _ => []
  | _ + 1, m => m.2
def mkT : (d : Nat) → Nd → List (MT (d - 1)) → MT d
  | 0, n, _ => n
  | _ + 1, n, cs => (n, cs)
def nodes : (d : Nat) → MT d → List Nd
  | 0, n => [n]
  | d + 1, m => m.1 :: m.2.flatMap (nodes d)
def trOf : (d : Nat) → MT d → Tr Cl d
  | 0, n => n.is
  | d + 1, m => (m.1.is, m.2.map (trOf d))
def pOf (d : Nat) (m : MT d) : Nat := (root d m).p
def Lk : (d : Nat) → MT d → Prop
  | 0, n => n.ps = []
  | d + 1, m => m.1.ps = m.2.map (pOf d) ∧ ∀ c ∈ m.2, Lk d c
theorem mk_eta : ∀ (d : Nat) (m : MT d), mkT d (root d m) (kid d m) = m
  | 0, _ => rfl
  | _ + 1, _ => rfl
theorem kid_zero (d : Nat) (m : MT d) (h : d = 0) : kid d m = [] := by
  subst h
  rfl
theorem nodes_mk : ∀ (d : Nat) (n : Nd) (cs : List (MT (d - 1))), (d = 0 → cs = []) → nodes d (mkT d n cs) = n :: cs.flatMap (nodes (d - 1))
  | 0, n, cs, h => by rw [h rfl]; rfl
  | _ + 1, _, _, _ => rfl
theorem root_mk : ∀ (d : Nat) (n : Nd) (cs : List (MT (d - 1))), root d (mkT d n cs) = n
  | 0, _, _ => rfl
  | _ + 1, _, _ => rfl
theorem lk_mk : ∀ (d : Nat) (n : Nd) (cs : List (MT (d - 1))), (d = 0 → cs = []) → (Lk d (mkT d n cs) ↔ n.ps = cs.map (pOf (d - 1)) ∧ ∀ c ∈ cs, Lk (d - 1) c)
  | 0, n, cs, h => by
    rw [h rfl]
    show n.ps = [] ↔ _
    simp
  | _ + 1, _, _, _ => Iff.rfl
theorem nodes_eq (d : Nat) (m : MT d) : nodes d m = root d m :: (kid d m).flatMap (nodes (d - 1)) := by
  conv => lhs; rw [← mk_eta d m]
  exact nodes_mk d _ _ (kid_zero d m)
theorem lk_eq (d : Nat) (m : MT d) : Lk d m ↔ (root d m).ps = (kid d m).map (pOf (d - 1)) ∧ ∀ c ∈ kid d m, Lk (d - 1) c := by
  conv => lhs; rw [← mk_eta d m]
  exact lk_mk d _ _ (kid_zero d m)
theorem its_tr : ∀ (d : Nat) (m : MT d), its d (trOf d m) = (root d m).is
  | 0, _ => rfl
  | _ + 1, _ => rfl
/-- How many lie below a node. -/
theorem kids_len : ∀ (d : Nat) (m : MT d), Lk d m → Ok d (trOf d m) → (root d m).ps = [] ∨ (root d m).ps.length = (root d m).is.length + 1
  | 0, _, h, _ => .inl h
  | d + 1, m, h, hok => .inr (by
    have h1 : m.1.ps.length = m.2.length := by rw [h.1, List.length_map]
    have h2 : (m.2.map (trOf d)).length = m.1.is.length + 1 := hok.1
    rw [List.length_map] at h2
    show m.1.ps.length = m.1.is.length + 1
    omega)
end Go.Proofs.Ytejpjbmbcdgomaa

/- Two neighbours below a node, changed: the whole again. -/
namespace Go.Proofs.Ytejpjbmbcdgomaa
set_option maxRecDepth 100000
open Go.RowKit

section
variable {w w' : World} {d : Nat} {n n' L' R' : Nd} {a b : List (MT d)} {l r : MT d} {kl kr : List (MT (d - 1))}
open Classical in
theorem pair_perm (kl kr : List (MT (d - 1))) (hkl : d = 0 → kl = []) (hkr : d = 0 → kr = []) (n L R : Nd) (a b : List (MT d)) : (n :: (a ++ mkT d L kl :: mkT d R kr :: b).flatMap (nodes d)).Perm ([n, L, R] ++ ((kl ++ kr).flatMap (nodes (d - 1)) ++ (a ++ b).flatMap (nodes d))) := by
  rw [List.perm_iff_count]
  intro z
  simp only [List.flatMap_append, List.flatMap_cons, nodes_mk d _ _ hkl, nodes_mk d _ _ hkr, List.count_append, List.count_cons, List.count_nil]
  omega
open Classical in
theorem one_perm (kl : List (MT (d - 1))) (hkl : d = 0 → kl = []) (n L : Nd) (a b : List (MT d)) : (n :: (a ++ mkT d L kl :: b).flatMap (nodes d)).Perm ([n, L] ++ (kl.flatMap (nodes (d - 1)) ++ (a ++ b).flatMap (nodes d))) := by
  rw [List.perm_iff_count]
  intro z
  simp only [List.flatMap_append, List.flatMap_cons, nodes_mk d _ _ hkl, List.count_append, List.count_cons, List.count_nil]
  omega
theorem pair_all (h : All w (n :: (a ++ l :: r :: b).flatMap (nodes d))) : All w ([n, root d l, root d r] ++ ((kid d l ++ kid d r).flatMap (nodes (d - 1)) ++ (a ++ b).flatMap (nodes d))) := by
  rw [← mk_eta d l, ← mk_eta d r] at h
  have := h.perm (pair_perm _ _ (kid_zero d l) (kid_zero d r) n (root d l) (root d r) a b)
  exact this
theorem pair_mv (h : All w (n :: (a ++ l :: r :: b).flatMap (nodes d))) (T : Tri w w' n (root d l) (root d r) n' L' R') (hk : kl ++ kr = kid d l ++ kid d r) (hkl : d = 0 → kl = []) (hkr : d = 0 → kr = []) :
    Mv w w' (n :: (a ++ l :: r :: b).flatMap (nodes d)) (n' :: (a ++ mkT d L' kl :: mkT d R' kr :: b).flatMap (nodes d)) := by
  have h1 := Mv.frame (pair_all h) (Mv.of_tri T)
  have p2 := pair_perm kl kr hkl hkr n' L' R' a b
  rw [hk] at p2
  have p1 := pair_perm _ _ (kid_zero d l) (kid_zero d r) n (root d l) (root d r) a b
  rw [mk_eta, mk_eta] at p1
  exact h1.perm p1.symm p2.symm
theorem merge_mv (h : All w (n :: (a ++ l :: r :: b).flatMap (nodes d))) (T : Tri w w' n (root d l) (root d r) n' L' R') :
    Mv w w' (n :: (a ++ l :: r :: b).flatMap (nodes d)) (n' :: (a ++ mkT d L' (kid d l ++ kid d r) :: b).flatMap (nodes d)) := by
  have h1 := Mv.frame (pair_all h) (Mv.of_tri T)
  have p2 := one_perm (kid d l ++ kid d r) (fun e => by rw [kid_zero d l e, kid_zero d r e]; rfl) n' L' a b
  have p1 := pair_perm _ _ (kid_zero d l) (kid_zero d r) n (root d l) (root d r) a b
  rw [mk_eta, mk_eta] at p1
  refine (h1.sub (l1 := [n', L'] ++ ((kid d l ++ kid d r).flatMap (nodes (d - 1)) ++ (a ++ b).flatMap (nodes d))) ?_).perm p1.symm p2.symm
  refine List.Sublist.append ?_ (List.Sublist.refl _)
  exact .cons_cons _ (.cons_cons _ (.cons _ (List.Sublist.refl _)))
end
theorem last_parts {β : Type} (l : List β) : l.dropLast ++ l.getLast?.toList = l := by
  rcases List.eq_nil_or_concat l with e | ⟨a, y, e⟩
  · subst e; rfl
  · subst e; simp
theorem head_parts {β : Type} (l : List β) : l.head?.toList ++ l.tail = l := by cases l <;> rfl
theorem fromL_tr (x0 x : Ix) : ∀ (d : Nat) (l r : MT d) (L' R' : Nd), L'.is = (root d l).is.dropLast → R'.is = x :: (root d r).is → (d = 0 ∨ kid d l ≠ []) →
    fromL x0 d (trOf d l) x (trOf d r) = (trOf d (mkT d L' (kid d l).dropLast), (root d l).is.getLastD x0, trOf d (mkT d R' ((kid d l).getLast?.toList ++ kid d r)))
  | 0, l, r, L', R', h1, h2, _ => by
    show ((List.dropLast (α := Ix) (root 0 l).is : List Ix), _, ((x :: (root 0 r).is : List Ix))) = _
    rw [← h1, ← h2]
    rfl
  | d + 1, (ln, lc), (rn, rc), L', R', h1, h2, hk => by
    have h1 : L'.is = ln.is.dropLast := h1
    have h2 : R'.is = x :: rn.is := h2
    have hk : lc ≠ [] := by
      rcases hk with e | e
      · cases e
      · exact e
    rcases List.eq_nil_or_concat lc with e | ⟨ys, y, e⟩
    · exact absurd e hk
    · subst e
      show ((ln.is.dropLast, (List.map (trOf d) (ys.concat y)).dropLast), _, (x :: rn.is, (List.map (trOf d) (ys.concat y)).getLastD (emptyT d) :: rc.map (trOf d))) = ((L'.is, _), _, (R'.is, _))
      rw [h1, h2]
      show _ = ((_, List.map (trOf d) (List.dropLast (ys.concat y))), _, (_, List.map (trOf d) ((ys.concat y).getLast?.toList ++ rc)))
      simp
      exact ⟨rfl, rfl⟩
theorem fromR_tr (x0 x : Ix) : ∀ (d : Nat) (l r : MT d) (L' R' : Nd), L'.is = (root d l).is ++ [x] → R'.is = (root d r).is.tail → (d = 0 ∨ kid d r ≠ []) →
    fromR x0 d (trOf d l) x (trOf d r) = (trOf d (mkT d L' (kid d l ++ (kid d r).head?.toList)), (root d r).is.headD x0, trOf d (mkT d R' (kid d r).tail))
  | 0, l, r, L', R', h1, h2, _ => by
    show ((List.append (α := Ix) (root 0 l).is [x] : List Ix), _, (List.tail (α := Ix) (root 0 r).is : List Ix)) = _
    have h1 : L'.is = (root 0 l).is.append [x] := h1
    rw [← h1, ← h2]
    rfl
  | d + 1, (ln, lc), (rn, rc), L', R', h1, h2, hk => by
    have h1 : L'.is = ln.is ++ [x] := h1
    have h2 : R'.is = rn.is.tail := h2
    have hk : rc ≠ [] := by
      rcases hk with e | e
      · cases e
      · exact e
    cases rc with
    | nil => exact absurd rfl hk
    | cons y ys =>
      show ((ln.is ++ [x], lc.map (trOf d) ++ [trOf d y]), _, (rn.is.tail, ys.map (trOf d))) = ((L'.is, List.map (trOf d) (lc ++ [y])), _, (R'.is, ys.map (trOf d)))
      rw [h1, h2]
      simp
      exact ⟨rfl, rfl⟩
theorem merge_tr (x : Ix) : ∀ (d : Nat) (l r : MT d) (L' : Nd), L'.is = (root d l).is ++ x :: (root d r).is → mergeT d (trOf d l) x (trOf d r) = trOf d (mkT d L' (kid d l ++ kid d r))
  | 0, l, r, L', h => by
    show (List.append (α := Ix) (root 0 l).is (x :: (root 0 r).is) : List Ix) = L'.is
    rw [h]
    rfl
  | d + 1, (ln, lc), (rn, rc), L', h => by
    have h : L'.is = ln.is ++ x :: rn.is := h
    show (ln.is ++ [x] ++ rn.is, lc.map (trOf d) ++ rc.map (trOf d)) = (L'.is, List.map (trOf d) (lc ++ rc))
    rw [h]
    simp
theorem six_of {β : Type} (l : List β) (h : l.length = 6) : ∃ a b c e f g : β, l = [a, b, c, e, f, g] := by
  match l, h with
  | [a, b, c, e, f, g], _ => exact ⟨a, b, c, e, f, g, rfl⟩
theorem split_tr (x0 m : Ix) : ∀ (d : Nat) (c : MT d) (L' R' : Nd), (root d c).is.length = 6 → (root d c).is[3]? = some m → L'.is = (root d c).is.take 3 → R'.is = (root d c).is.drop 4 →
    splitT x0 d (trOf d c) = (trOf d (mkT d L' ((kid d c).take 4)), m, trOf d (mkT d R' ((kid d c).drop 4)))
  | 0, c, L', R', h6, hm, h1, h2 => by
    show splitT x0 0 ((root 0 c).is : List Ix) = ((L'.is : List Ix), m, (R'.is : List Ix))
    rw [h1, h2]
    generalize (root 0 c).is = l at h6 hm
    obtain ⟨y1, y2, y3, y4, y5, y6, rfl⟩ := six_of l h6
    simp at hm
    subst hm
    simp [splitT]
    rfl
  | d + 1, (cn, cc), L', R', h6, hm, h1, h2 => by
    have h6 : cn.is.length = 6 := h6
    have hm : cn.is[3]? = some m := hm
    have h1 : L'.is = cn.is.take 3 := h1
    have h2 : R'.is = cn.is.drop 4 := h2
    show splitT x0 (d + 1) ((cn.is, cc.map (trOf d)) : Tr Cl (d + 1)) = ((L'.is, List.map (trOf d) (cc.take 4)), m, (R'.is, List.map (trOf d) (cc.drop 4)))
    rw [h1, h2]
    generalize cn.is = l at h6 hm
    obtain ⟨y1, y2, y3, y4, y5, y6, rfl⟩ := six_of l h6
    simp at hm
    subst hm
    simp [splitT]
    rfl
end Go.Proofs.Ytejpjbmbcdgomaa

/- What a fill comes to, road by road; two neighbours' deeds as a node's. -/
namespace Go.Proofs.Ytejpjbmbcdgomaa
set_option maxRecDepth 100000
open Go.RowKit

section
variable {α : Type} {d : Nat}
theorem getD_some {β : Type} {l : List β} {i : Nat} {x e : β} (h : l[i]? = some x) : l.getD i e = x := by rw [List.getD_eq_getElem?_getD, h]; rfl
theorem fill_enough (x0 : It α) (is : List (It α)) (A : List (Tr α d)) (m : Tr α d) (B : List (Tr α d)) (i : Nat) (hi : A.length = i) (hm : 2 ≤ (its d m).length) : fillT x0 d is (A ++ m :: B) i = (is, A ++ m :: B) := by
  unfold fillT
  rw [getD_mid A B m _ i hi, if_pos hm]
theorem snoc_form {β : Type} (A : List β) (l m : β) (B : List β) : A ++ l :: m :: B = (A ++ [l]) ++ m :: B := by simp
theorem fill_left (x0 x : It α) (is : List (It α)) (A : List (Tr α d)) (l m : Tr α d) (B : List (Tr α d)) (i j : Nat) (hi : A.length = i) (hj : j = i + 1) (hx : is[i]? = some x) (hm : (its d m).length < 2) (hl : 2 < (its d l).length) :
    fillT x0 d is (A ++ l :: m :: B) j = (is.set i (fromL x0 d l x m).2.1, A ++ (fromL x0 d l x m).1 :: (fromL x0 d l x m).2.2 :: B) := by
  subst hj
  unfold fillT
  have e1 : (A ++ l :: m :: B).getD (i + 1) (emptyT d) = m := by rw [snoc_form]; exact getD_mid _ B m _ _ (by simp [hi])
  have e2 : (A ++ l :: m :: B).getD (i + 1 - 1) (emptyT d) = l := getD_mid A (m :: B) l _ _ hi
  rw [e1, if_neg (by omega), e2, if_pos ⟨by omega, hl⟩]
  have e3 : i + 1 - 1 = i := rfl
  rw [e3, getD_some hx, set_mid A (m :: B) l _ i hi, snoc_form, set_mid (A ++ [_]) B m _ (i + 1) (by simp [hi]), ← snoc_form]
theorem fill_right (x0 x : It α) (is : List (It α)) (A : List (Tr α d)) (m r : Tr α d) (B : List (Tr α d)) (i : Nat) (hi : A.length = i) (hx : is[i]? = some x) (hm : (its d m).length < 2) (hr : 2 < (its d r).length) (hl : ∀ A' l, A = A' ++ [l] → (its d l).length ≤ 2) :
    fillT x0 d is (A ++ m :: r :: B) i = (is.set i (fromR x0 d m x r).2.1, A ++ (fromR x0 d m x r).1 :: (fromR x0 d m x r).2.2 :: B) := by
  unfold fillT
  have e1 : (A ++ m :: r :: B).getD i (emptyT d) = m := getD_mid A (r :: B) m _ _ hi
  have e2 : (A ++ m :: r :: B).getD (i + 1) (emptyT d) = r := by rw [snoc_form]; exact getD_mid _ B r _ _ (by simp [hi])
  have hil : i < is.length := (List.getElem?_eq_some_iff.1 hx).1
  have e0 : ¬ (0 < i ∧ 2 < (its d ((A ++ m :: r :: B).getD (i - 1) (emptyT d))).length) := by
    rintro ⟨h1, h2⟩
    rcases List.eq_nil_or_concat A with e | ⟨A', l, e⟩
    · subst e; simp at hi; omega
    · have e' : A = A' ++ [l] := by rw [e]; simp
      have := hl A' l e'
      rw [e', ← snoc_form, getD_mid A' (m :: r :: B) l _ (i - 1) (by rw [← hi, e']; simp)] at h2
      omega
  rw [e1, if_neg (by omega), if_neg e0, e2, if_pos ⟨hil, hr⟩, getD_some hx, set_mid A (r :: B) m _ i hi, snoc_form, set_mid (A ++ [_]) B r _ (i + 1) (by simp [hi]), ← snoc_form]
theorem fill_mergel (x0 x : It α) (is : List (It α)) (A : List (Tr α d)) (l m : Tr α d) (B : List (Tr α d)) (i j : Nat) (hi : A.length = i) (hj : j = i + 1) (hx : is[i]? = some x) (hm : (its d m).length < 2) (hl : (its d l).length ≤ 2) (hr : ∀ r B', B = r :: B' → j < is.length → (its d r).length ≤ 2) (hb : B = [] → is.length ≤ j) :
    fillT x0 d is (A ++ l :: m :: B) j = (is.eraseIdx i, A ++ mergeT d l x m :: B) := by
  subst hj
  unfold fillT
  have e1 : (A ++ l :: m :: B).getD (i + 1) (emptyT d) = m := by rw [snoc_form]; exact getD_mid _ B m _ _ (by simp [hi])
  have e2 : (A ++ l :: m :: B).getD (i + 1 - 1) (emptyT d) = l := getD_mid A (m :: B) l _ _ hi
  have e0 : ¬ (i + 1 < is.length ∧ 2 < (its d ((A ++ l :: m :: B).getD (i + 1 + 1) (emptyT d))).length) := by
    rintro ⟨h1, h2⟩
    cases B with
    | nil => have := hb rfl; omega
    | cons r B' =>
      have := hr r B' rfl h1
      have e3 : A ++ l :: m :: r :: B' = (A ++ [l, m]) ++ r :: B' := by simp
      rw [e3, getD_mid _ B' r _ _ (by simp [hi])] at h2
      omega
  have e3 : i + 1 - 1 = i := rfl
  rw [e1, if_neg (by omega), e2, if_neg (fun e => by have := e.2; omega), if_neg e0, if_pos (by omega), e3, getD_some hx, set_mid A (m :: B) l _ i hi, snoc_form, erase_mid (A ++ [_]) B m (i + 1) (by simp [hi])]
  simp
theorem fill_merger (x0 x : It α) (is : List (It α)) (m r : Tr α d) (B : List (Tr α d)) (hx : is[0]? = some x) (hm : (its d m).length < 2) (hr : (its d r).length ≤ 2) :
    fillT x0 d is (m :: r :: B) 0 = (is.eraseIdx 0, mergeT d m x r :: B) := by
  unfold fillT
  have e1 : (m :: r :: B).getD 0 (emptyT d) = m := rfl
  have e2 : (m :: r :: B).getD (0 + 1) (emptyT d) = r := rfl
  rw [e1, if_neg (by omega), if_neg (fun e => by have := e.1; omega), e2, if_neg (fun e => by have := e.2; omega), if_neg (by omega), getD_some hx]
  rfl
end
/-- A node and those below it became others. -/
def NodePost {d : Nat} (w : World) (n : Nd) (cs : List (MT d)) (res : List Ix × List (Tr Cl d)) (e : Ending) (w' : World) : Prop :=
  ∃ (n' : Nd) (cs' : List (MT d)), e = .returned (.tuple #[]) ∧ n'.p = n.p ∧ n'.is = res.1 ∧ cs'.map (trOf d) = res.2 ∧ n'.ps = cs'.map (pOf d) ∧ (∀ z ∈ cs', Lk d z) ∧ Mv w w' (n :: cs.flatMap (nodes d)) (n' :: cs'.flatMap (nodes d))
structure NodeIn {d : Nat} (w : World) (n : Nd) (cs : List (MT d)) : Prop where
  all : All w (n :: cs.flatMap (nodes d))
  ps : n.ps = cs.map (pOf d)
  lk : ∀ z ∈ cs, Lk d z
  len : cs.length = n.is.length + 1
  few : n.is.length ≤ 6
  ok : ∀ z ∈ cs, Ok d (trOf d z) ∧ (root d z).is.length ≤ 6
section
variable {w : World} {d : Nat} {n : Nd} {a b : List (MT d)} {l r : MT d}
theorem kids_zero {z : MT d} (h1 : Lk d z) (h2 : Ok d (trOf d z)) : d = 0 ∨ kid d z ≠ [] := by
  cases d with
  | zero => exact .inl rfl
  | succ d =>
    refine .inr fun e => ?_
    have h3 : (z.2.map (trOf d)).length = z.1.is.length + 1 := h2.1
    have h4 : z.2 = [] := e
    rw [h4] at h3
    simp at h3
theorem ps_kid {z : MT d} (h : Lk d z) : (root d z).ps = (kid d z).map (pOf (d - 1)) := ((lk_eq d z).1 h).1
theorem ps_bound {z : MT d} (h1 : Lk d z) (h2 : Ok d (trOf d z)) (h3 : (root d z).is.length ≤ 6) : (root d z).ps.length ≤ 7 := by
  rcases kids_len d z h1 h2 with e | e
  · rw [e]; simp
  · omega
theorem NodeIn.pl (h : NodeIn w n (a ++ l :: r :: b)) {i : Nat} (hi : a.length = i) : n.ps[i]? = some (root d l).p := by
  rw [h.ps, List.map_append, List.map_cons, List.getElem?_append_right (by simp [hi]), List.length_map, hi, Nat.sub_self]
  rfl
theorem NodeIn.pr (h : NodeIn w n (a ++ l :: r :: b)) {i j : Nat} (hi : a.length = i) (hj : j = i + 1) : n.ps[j]? = some (root d r).p := by
  rw [h.ps, List.map_append, List.map_cons, List.map_cons, List.getElem?_append_right (by simp [hi]; omega), List.length_map, hi, hj, Nat.add_sub_cancel_left]
  rfl
theorem NodeIn.tri (h : NodeIn w n (a ++ l :: r :: b)) : Tri w w n (root d l) (root d r) n (root d l) (root d r) := Tri.of_all ((pair_all h.all).left)
theorem NodeIn.bound (h : NodeIn w n (a ++ l :: r :: b)) : n.is.length ≤ 100 ∧ n.ps.length ≤ 100 ∧ (root d l).is.length ≤ 100 ∧ (root d l).ps.length ≤ 100 ∧ (root d r).is.length ≤ 100 ∧ (root d r).ps.length ≤ 100 := by
  have h1 := h.ok l (by simp)
  have h2 := h.ok r (by simp)
  have h3 := ps_bound (h.lk l (by simp)) h1.1 h1.2
  have h4 := ps_bound (h.lk r (by simp)) h2.1 h2.2
  have h5 := h.few
  have h6 := h.len
  have h7 : n.ps.length = (a ++ l :: r :: b).length := by rw [h.ps, List.length_map]
  exact ⟨by omega, by omega, by omega, by omega, by omega, by omega⟩
theorem lk_sub {z : MT d} (h : Lk d z) {kl : List (MT (d - 1))} {L' : Nd} (hs : ∀ c ∈ kl, c ∈ kid d z) (hk : d = 0 → kl = []) (hp : L'.ps = kl.map (pOf (d - 1))) : Lk d (mkT d L' kl) :=
  (lk_mk d L' kl hk).2 ⟨hp, fun c hc => ((lk_eq d z).1 h).2 c (hs c hc)⟩
theorem leaf_form {z : MT d} (h1 : Lk d z) (h2 : Ok d (trOf d z)) {e : Nat} (he : (root d z).is.length = e + 1) : (root d z).ps = [] ∨ (root d z).ps.length = e + 2 := by
  rcases kids_len d z h1 h2 with h | h
  · exact .inl h
  · exact .inr (by omega)
theorem p_same {L' : Nd} {kl : List (MT (d - 1))} (h : L'.p = (root d l).p) : pOf d (mkT d L' kl) = pOf d l := by
  unfold pOf
  rw [root_mk, h]
/-- The left one hands over. -/
theorem left_node (x0 x : Ix) (h : NodeIn w n (a ++ l :: r :: b)) (i j : Nat) (hi : a.length = i) (hj : j = i + 1) (hx : n.is[i]? = some x) (hl : 0 < (root d l).is.length) :
    Calls Try.prog 128 #[.pointer (some ⟨n.p, 0, none⟩), .int .i64 (j : Int)] w (NodePost w n (a ++ l :: r :: b) (n.is.set i (fromL x0 d (trOf d l) x (trOf d r)).2.1, a.map (trOf d) ++ (fromL x0 d (trOf d l) x (trOf d r)).1 :: (fromL x0 d (trOf d l) x (trOf d r)).2.2 :: b.map (trOf d))) := by
  obtain ⟨e, he⟩ : ∃ e, (root d l).is.length = e + 1 := ⟨(root d l).is.length - 1, by omega⟩
  have hll := h.lk l (by simp)
  have hlr := h.lk r (by simp)
  have hol := h.ok l (by simp)
  obtain ⟨b1, b2, b3, b4, b5, b6⟩ := h.bound
  have hy : (root d l).is[e]? = some ((root d l).is.getLastD x0) := by
    rw [List.getLastD_eq_getLast?, List.getLast?_eq_getElem?, he, Nat.add_sub_cancel, List.getElem?_eq_getElem (by omega)]
    rfl
  refine Calls.mono (fromleft_any h.tri i e j hj hx (h.pl hi) (h.pr hi hj) he hy (leaf_form hll hol.1 he) b1 b2 b3 b4 b5 b6) ?_
  rintro e9 w' ⟨n', L', R', rfl, q1, q2, q3, q4, q5, q6, T⟩
  have hft := fromL_tr x0 x d l r L' R' q3 q5 (kids_zero hll hol.1)
  have hkl : d = 0 → (kid d l).dropLast = [] := fun e => by rw [kid_zero d l e]; rfl
  have hkr : d = 0 → (kid d l).getLast?.toList ++ kid d r = [] := fun e => by rw [kid_zero d l e, kid_zero d r e]; rfl
  have hps : L'.ps = ((kid d l).dropLast).map (pOf (d - 1)) := by rw [q4, ps_kid hll, List.map_dropLast]
  have hpr : R'.ps = ((kid d l).getLast?.toList ++ kid d r).map (pOf (d - 1)) := by
    rw [q6, ps_kid hll, ps_kid hlr, List.map_append, List.getLast?_map]
    cases (kid d l).getLast? <;> rfl
  refine ⟨n', a ++ mkT d L' (kid d l).dropLast :: mkT d R' ((kid d l).getLast?.toList ++ kid d r) :: b, rfl, T.fn.p, ?_, ?_, ?_, ?_, ?_⟩
  · rw [q1, hft]
  · rw [hft]; simp
  · rw [q2, h.ps, List.map_append, List.map_append, List.map_cons, List.map_cons, List.map_cons, List.map_cons, p_same T.fL.p, p_same T.fR.p]
  · intro z hz
    rcases List.mem_append.1 hz with e | e
    · exact h.lk z (List.mem_append_left _ e)
    · rcases List.mem_cons.1 e with e | e
      · subst e; exact lk_sub hll (fun c hc => (List.dropLast_subset _) hc) hkl hps
      · rcases List.mem_cons.1 e with e | e
        · subst e
          refine (lk_mk d R' _ hkr).2 ⟨hpr, fun c hc => ?_⟩
          rcases List.mem_append.1 hc with e | e
          · exact ((lk_eq d l).1 hll).2 c (by rw [← last_parts (kid d l)]; exact List.mem_append_right _ e)
          · exact ((lk_eq d r).1 hlr).2 c e
        · exact h.lk z (List.mem_append_right _ (List.mem_cons_of_mem _ (List.mem_cons_of_mem _ e)))
  · exact pair_mv h.all T (by rw [← List.append_assoc, last_parts]) hkl hkr
theorem right_node (x0 x : Ix) (h : NodeIn w n (a ++ l :: r :: b)) (i : Nat) (hi : a.length = i) (hx : n.is[i]? = some x) (hl : 0 < (root d r).is.length) :
    Calls Try.prog 129 #[.pointer (some ⟨n.p, 0, none⟩), .int .i64 (i : Int)] w (NodePost w n (a ++ l :: r :: b) (n.is.set i (fromR x0 d (trOf d l) x (trOf d r)).2.1, a.map (trOf d) ++ (fromR x0 d (trOf d l) x (trOf d r)).1 :: (fromR x0 d (trOf d l) x (trOf d r)).2.2 :: b.map (trOf d))) := by
  obtain ⟨e, he⟩ : ∃ e, (root d r).is.length = e + 1 := ⟨(root d r).is.length - 1, by omega⟩
  obtain ⟨j, hj⟩ : ∃ j, j = i + 1 := ⟨_, rfl⟩
  have hll := h.lk l (by simp)
  have hlr := h.lk r (by simp)
  have hor := h.ok r (by simp)
  obtain ⟨b1, b2, b3, b4, b5, b6⟩ := h.bound
  have hy : (root d r).is[0]? = some ((root d r).is.headD x0) := by
    cases hq : (root d r).is with
    | nil => rw [hq] at hl; simp at hl
    | cons y ys => rfl
  refine Calls.mono (fromright_any h.tri i j e hj hx (h.pl hi) (h.pr hi hj) he hy (leaf_form hlr hor.1 he) b1 b2 b3 b4 b5 b6) ?_
  rintro e9 w' ⟨n', L', R', rfl, q1, q2, q3, q4, q5, q6, T⟩
  have hft := fromR_tr x0 x d l r L' R' q3 q5 (kids_zero hlr hor.1)
  have hkl : d = 0 → kid d l ++ (kid d r).head?.toList = [] := fun e => by rw [kid_zero d l e, kid_zero d r e]; rfl
  have hkr : d = 0 → (kid d r).tail = [] := fun e => by rw [kid_zero d r e]; rfl
  have hps : L'.ps = (kid d l ++ (kid d r).head?.toList).map (pOf (d - 1)) := by
    rw [q4, ps_kid hll, ps_kid hlr, List.map_append, List.head?_map]
    cases (kid d r).head? <;> rfl
  have hpr : R'.ps = ((kid d r).tail).map (pOf (d - 1)) := by rw [q6, ps_kid hlr, List.map_tail]
  refine ⟨n', a ++ mkT d L' (kid d l ++ (kid d r).head?.toList) :: mkT d R' (kid d r).tail :: b, rfl, T.fn.p, ?_, ?_, ?_, ?_, ?_⟩
  · rw [q1, hft]
  · rw [hft]; simp
  · rw [q2, h.ps, List.map_append, List.map_append, List.map_cons, List.map_cons, List.map_cons, List.map_cons, p_same T.fL.p, p_same T.fR.p]
  · intro z hz
    rcases List.mem_append.1 hz with e | e
    · exact h.lk z (List.mem_append_left _ e)
    · rcases List.mem_cons.1 e with e | e
      · subst e
        refine (lk_mk d L' _ hkl).2 ⟨hps, fun c hc => ?_⟩
        rcases List.mem_append.1 hc with e | e
        · exact ((lk_eq d l).1 hll).2 c e
        · exact ((lk_eq d r).1 hlr).2 c (by rw [← head_parts (kid d r)]; exact List.mem_append_left _ e)
      · rcases List.mem_cons.1 e with e | e
        · subst e; exact lk_sub hlr (fun c hc => List.mem_of_mem_tail hc) hkr hpr
        · exact h.lk z (List.mem_append_right _ (List.mem_cons_of_mem _ (List.mem_cons_of_mem _ e)))
  · exact pair_mv h.all T (by rw [List.append_assoc, head_parts]) hkl hkr
theorem merge_node (x : Ix) (h : NodeIn w n (a ++ l :: r :: b)) (i : Nat) (hi : a.length = i) (hx : n.is[i]? = some x) :
    Calls Try.prog 130 #[.pointer (some ⟨n.p, 0, none⟩), .int .i64 (i : Int)] w (NodePost w n (a ++ l :: r :: b) (n.is.eraseIdx i, a.map (trOf d) ++ mergeT d (trOf d l) x (trOf d r) :: b.map (trOf d))) := by
  have hll := h.lk l (by simp)
  have hlr := h.lk r (by simp)
  obtain ⟨b1, b2, b3, b4, b5, b6⟩ := h.bound
  refine Calls.mono (merge_any h.tri i hx (h.pl hi) (h.pr hi rfl) b1 b2 b3 b4 b5 b6) ?_
  rintro e9 w' ⟨n', L', rfl, q1, q2, q3, q4, T⟩
  have hft := merge_tr x d l r L' q3
  have hkl : d = 0 → kid d l ++ kid d r = [] := fun e => by rw [kid_zero d l e, kid_zero d r e]; rfl
  have hps : L'.ps = (kid d l ++ kid d r).map (pOf (d - 1)) := by rw [q4, ps_kid hll, ps_kid hlr, List.map_append]
  refine ⟨n', a ++ mkT d L' (kid d l ++ kid d r) :: b, rfl, T.fn.p, q1, ?_, ?_, ?_, merge_mv h.all T⟩
  · rw [hft]; simp
  · rw [q2, h.ps, List.map_append, List.map_append, List.map_cons, List.map_cons, List.map_cons, p_same T.fL.p, snoc_form]
    rw [List.eraseIdx_append_of_length_le (by simp [hi])]
    simp [hi]
  · intro z hz
    rcases List.mem_append.1 hz with e | e
    · exact h.lk z (List.mem_append_left _ e)
    · rcases List.mem_cons.1 e with e | e
      · subst e
        refine (lk_mk d L' _ hkl).2 ⟨hps, fun c hc => ?_⟩
        rcases List.mem_append.1 hc with e | e
        · exact ((lk_eq d l).1 hll).2 c e
        · exact ((lk_eq d r).1 hlr).2 c e
      · exact h.lk z (List.mem_append_right _ (List.mem_cons_of_mem _ (List.mem_cons_of_mem _ e)))
end
end Go.Proofs.Ytejpjbmbcdgomaa
