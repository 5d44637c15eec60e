/- RTM: put together. -/
import Derived.Test.YtejpjbmbcdgomaaPc33
import Derived.Test.YtejpjbmbcdgomaaPc34
import Derived.Test.YtejpjbmbcdgomaaPc27
import Derived.Test.YtejpjbmbcdgomaaPc26
/- A store's text is taken: pure. -/
namespace Go.Proofs.Ytejpjbmbcdgomaa
set_option maxRecDepth 100000
open Go.RowKit

theorem fold_unfold {n : Nat} (hn : n < 18446744073709551616) : foldN (unfoldN n) = n ∧ Fits (unfoldN n) := by
  unfold unfoldN foldN Fits
  by_cases h : n % 2 = 1
  · rw [if_pos h, if_pos (by omega)]
    omega
  · rw [if_neg h, if_neg (by omega)]
    omega
theorem rcount_ways (bs : List Nat) : rcount bs = (0, [], true) ∨ ∃ x rest, rcount bs = (x, rest, false) := rcnt_ways 10 0 0 bs
theorem rcount_small {bs : List Nat} (hs : ∀ b ∈ bs, b < 256) : ∀ b ∈ (rcount bs).2.1, b < 256 := by
  rcases rcount_ways bs with h | ⟨x, rest, h⟩
  · rw [h]; intro b hb; cases hb
  · rw [h]
    intro b hb
    refine hs b ?_
    rw [(rcount_yes hs h).1]
    exact List.mem_append_right _ hb
theorem rcount_before {bs : List Nat} (h : (rcount (rcount bs).2.1).2.2 = false) : (rcount bs).2.2 = false := by
  rcases rcount_ways bs with h1 | ⟨x, rest, h1⟩
  · rw [h1] at h
    cases h
  · rw [h1]
/-- The next entry of a text: table, key, value, transaction; what is behind it. -/
def r4a (bs : List Nat) : List Nat := (rcount bs).2.1
def r4b (bs : List Nat) : List Nat := (rcount (r4a bs)).2.1
def r4c (bs : List Nat) : List Nat := (rcount (r4b bs)).2.1
def r4d (bs : List Nat) : List Nat := (rcount (r4c bs)).2.1
def r4t (bs : List Nat) : Nat := (rcount bs).1
def r4k (bs : List Nat) : Int := unfoldN (rcount (r4a bs)).1
def r4v (bs : List Nat) : Int := unfoldN (rcount (r4b bs)).1
def r4q (bs : List Nat) : Nat := (rcount (r4c bs)).1
def r4bad (bs : List Nat) : Bool := (rcount (r4c bs)).2.2
def r4e (bs : List Nat) : En := ⟨r4t bs, ⟨r4k bs, ⟨r4v bs, (r4q bs : Int), false⟩⟩⟩
def okE (bs : List Nat) : Prop := r4t bs < 4 ∧ 1 ≤ r4q bs ∧ r4q bs ≤ 4611686018427387903
instance (bs : List Nat) : Decidable (okE bs) := by unfold okE; infer_instance
theorem r4_bad {bs : List Nat} (h : r4bad bs = true) : r4q bs = 0 := by
  unfold r4bad at h
  unfold r4q
  rcases rcount_ways (r4c bs) with h1 | ⟨x, rest, h1⟩
  · rw [h1]
  · rw [h1] at h; cases h
theorem okE_good {bs : List Nat} (h : okE bs) : r4bad bs = false := by
  cases hb : r4bad bs with
  | false => rfl
  | true =>
    have := r4_bad hb
    obtain ⟨_, h1, _⟩ := h
    omega
def lastLess (l : List En) (e : En) : Bool := match l.getLast? with | none => true | some y => lessE y e
def takF : Nat → List Nat → List En → Option (List En × List Nat)
  | 0, bs, l => some (l, bs)
  | m + 1, bs, l => if okE bs ∧ lastLess l (r4e bs) = true then takF m (r4d bs) (l ++ [r4e bs]) else none
theorem takF_yes {m : Nat} {bs : List Nat} {l : List En} (h : okE bs) (h2 : lastLess l (r4e bs) = true) : takF (m + 1) bs l = takF m (r4d bs) (l ++ [r4e bs]) := if_pos ⟨h, h2⟩
theorem takF_bad {m : Nat} {bs : List Nat} {l : List En} (h : ¬ okE bs) : takF (m + 1) bs l = none := if_neg fun c => h c.1
theorem takF_low {m : Nat} {bs : List Nat} {l : List En} (h : lastLess l (r4e bs) = false) : takF (m + 1) bs l = none := if_neg fun c => by rw [h] at c; cases c.2
def takR (bs : List Nat) : Option (List En) :=
  if 4096 < (rcount bs).1 then none else match takF (rcount bs).1 (rcount bs).2.1 [] with
  | none => none
  | some (l, rest) => if rest = [83] then some l else none
theorem r4_small {bs : List Nat} (hs : ∀ b ∈ bs, b < 256) : ∀ b ∈ r4d bs, b < 256 := rcount_small (rcount_small (rcount_small (rcount_small hs)))
theorem r4_text {bs : List Nat} (hs : ∀ b ∈ bs, b < 256) (h : okE bs) : bs = entB (r4e bs) ++ r4d bs ∧ Fits (r4k bs) ∧ Fits (r4v bs) := by
  have g4 : (rcount (r4c bs)).2.2 = false := okE_good h
  have g3 : (rcount (r4b bs)).2.2 = false := rcount_before g4
  have g2 : (rcount (r4a bs)).2.2 = false := rcount_before g3
  have g1 : (rcount bs).2.2 = false := rcount_before g2
  have s1 : ∀ b ∈ r4a bs, b < 256 := rcount_small hs
  have s2 : ∀ b ∈ r4b bs, b < 256 := rcount_small s1
  have s3 : ∀ b ∈ r4c bs, b < 256 := rcount_small s2
  have e1 := (rcount_yes hs (show rcount bs = (r4t bs, r4a bs, false) by rw [← g1]; rfl))
  have e2 := (rcount_yes s1 (show rcount (r4a bs) = ((rcount (r4a bs)).1, r4b bs, false) by rw [← g2]; rfl))
  have e3 := (rcount_yes s2 (show rcount (r4b bs) = ((rcount (r4b bs)).1, r4c bs, false) by rw [← g3]; rfl))
  have e4 := (rcount_yes s3 (show rcount (r4c bs) = (r4q bs, r4d bs, false) by rw [← g4]; rfl))
  refine ⟨?_, (fold_unfold e2.2).2, (fold_unfold e3.2).2⟩
  have hx : entB (r4e bs) = cntN (r4t bs) ++ (cntN (rcount (r4a bs)).1 ++ (cntN (rcount (r4b bs)).1 ++ cntN (r4q bs))) := by
    unfold entB r4e r4k r4v
    simp only [(fold_unfold e2.2).1, (fold_unfold e3.2).1, Int.toNat_natCast]
  rw [hx, List.append_assoc, List.append_assoc, List.append_assoc, ← e4.1, ← e3.1, ← e2.1, ← e1.1]
def goodE (e : En) : Prop := e.t < 4 ∧ Fits e.x.k ∧ Fits e.x.c.v ∧ 1 ≤ e.x.c.s ∧ e.x.c.s ≤ 4611686018427387903 ∧ e.x.c.dead = false
theorem r4_good {bs : List Nat} (hs : ∀ b ∈ bs, b < 256) (h : okE bs) : goodE (r4e bs) := by
  obtain ⟨_, h1, h2⟩ := r4_text hs h
  obtain ⟨a, b, c⟩ := h
  exact ⟨a, h1, h2, by show (1 : Int) ≤ (r4q bs : Int); omega, by show (r4q bs : Int) ≤ 4611686018427387903; omega, rfl⟩
theorem takF_text : ∀ (m : Nat) {bs : List Nat} {l l' : List En} {rest : List Nat}, (∀ b ∈ bs, b < 256) → takF m bs l = some (l', rest) → ∃ x, l' = l ++ x ∧ bs = x.flatMap entB ++ rest ∧ x.length = m ∧ ∀ e ∈ x, e.x.c.dead = false
  | 0, bs, l, l', rest, _, h => by
    unfold takF at h
    cases h
    exact ⟨[], by simp, by simp, rfl, fun e he => by cases he⟩
  | m + 1, bs, l, l', rest, hs, h => by
    unfold takF at h
    split at h
    · rename_i hc
      obtain ⟨x, h1, h2, h3, h4⟩ := takF_text m (r4_small hs) h
      obtain ⟨e1, _⟩ := r4_text hs hc.1
      refine ⟨r4e bs :: x, by rw [h1]; simp, ?_, by simp [h3], fun e he => ?_⟩
      · rw [List.flatMap_cons, List.append_assoc, ← h2, ← e1]
      · rcases List.mem_cons.1 he with rfl | he
        · rfl
        · exact h4 e he
    · cases h
theorem takR_text {bs : List Nat} {l : List En} (hs : ∀ b ∈ bs, b < 256) (h : takR bs = some l) : bs = txtE l := by
  unfold takR at h
  split at h
  · cases h
  · split at h
    · cases h
    · rename_i l' rest he
      split at h
      · rename_i hr
        have e9 : l = l' := (Option.some.inj h).symm
        rw [e9]
        obtain ⟨x, h1, h2, h3, h4⟩ := takF_text _ (rcount_small hs) he
        rw [List.nil_append] at h1
        subst h1
        have hl : liveE l' = l' := List.filter_eq_self.2 fun e he => by simp [h4 e he]
        unfold txtE
        rw [hl, h3, ← hr, ← h2]
        rcases rcount_ways bs with h9 | ⟨n, r9, h9⟩
        · rw [h9] at h2
          have e1 : l'.flatMap entB ++ rest = [] := h2.symm
          rw [hr] at e1
          simp at e1
        · have := (rcount_yes hs h9).1
          rw [h9]
          exact this
      · cases h
theorem lessK_trans {t k t' k' t'' k'' : Int} (h : lessK t k t' k' = true) (h2 : lessK t' k' t'' k'' = true) : lessK t k t'' k'' = true := by
  unfold lessK at *
  simp only [Bool.or_eq_true, Bool.and_eq_true, decide_eq_true_eq] at *
  omega
theorem tag_pair {t : Nat} {l : List Ix} (h : Up l) : (tag t l).Pairwise fun a b => lessE a b = true := by
  unfold tag
  rw [List.pairwise_map]
  refine List.Pairwise.imp ?_ h
  intro a b hab
  unfold lessE lessK
  simp [hab]
theorem allE_pair {ps : Nat → List Ix} : ∀ (n i : Nat), (∀ j, i ≤ j → j < i + n → Up (ps j)) → (allE ps i n).Pairwise fun a b => lessE a b = true
  | 0, _, _ => List.Pairwise.nil
  | n + 1, i, h => by
    rw [allE, List.pairwise_append]
    refine ⟨tag_pair (h i (Nat.le_refl _) (by omega)), allE_pair n (i + 1) fun j a b => h j (by omega) (by omega), fun a ha b hb => ?_⟩
    have h1 := (mem_tag ha).1
    obtain ⟨h2, _, _⟩ := mem_allE hb
    have h3 : (a.t : Int) < (b.t : Int) := by omega
    unfold lessE lessK
    simp [h3]
theorem last_all {l : List En} {e : En} (hp : l.Pairwise fun a b => lessE a b = true) (h : lastLess l e = true) : ∀ x ∈ l, lessE x e = true := by
  unfold lastLess at h
  cases hl : l.getLast? with
  | none =>
    intro x hx
    rw [List.getLast?_eq_none_iff.1 hl] at hx
    cases hx
  | some y =>
    rw [hl] at h
    obtain ⟨i, rfl⟩ := List.getLast?_eq_some_iff.1 hl
    intro x hx
    rcases List.mem_append.1 hx with hx | hx
    · have := (List.pairwise_append.1 hp).2.2 x hx y (by simp)
      exact lessK_trans this h
    · rw [List.mem_singleton.1 hx]; exact h
/-- Is there an entry at a key or behind it? -/
def reachB (t k : Int) (ts : Tb) : Bool := !(fromE t k ts).isEmpty
theorem reach_last {ts : Tb} (hu : ∀ i, i < 4 → Up (ts i)) (hn : ∀ i, i < 4 → NumL (ts i)) (e : En) : reachB (e.t : Int) e.x.k ts = !lastLess (ents ts) e := by
  have hp := allE_pair (ps := ts) 4 0 fun j _ hj => hu j (by omega)
  unfold reachB
  rw [← from_ents hn]
  congr 1
  cases h : lastLess (ents ts) e with
  | true =>
    have := last_all hp h
    rw [List.isEmpty_iff, List.filter_eq_nil_iff]
    intro x hx
    have h9 := this x hx
    unfold lessE at h9
    simp [h9]
  | false =>
    unfold lastLess at h
    cases hl : (ents ts).getLast? with
    | none => rw [hl] at h; cases h
    | some y =>
      rw [hl] at h
      have hy : y ∈ ents ts := List.mem_of_getLast? hl
      have h8 : y ∈ (ents ts).filter fun e' => !lessK (e'.t : Int) e'.x.k (e.t : Int) e.x.k := List.mem_filter.2 ⟨hy, by unfold lessE at h; simp [h]⟩
      cases hf : (ents ts).filter fun e' => !lessK (e'.t : Int) e'.x.k (e.t : Int) e.x.k with
      | nil => rw [hf] at h8; cases h8
      | cons a b => rfl
theorem ents_snoc {ts : Tb} (hu : ∀ i, i < 4 → Up (ts i)) {e : En} (ht : e.t < 4) (h : lastLess (ents ts) e = true) : ents (ts.upd e.t (ins e.x (ts e.t))) = ents ts ++ [e] := by
  have hp := allE_pair (ps := ts) 4 0 fun j _ hj => hu j (by omega)
  rw [← goE_ents ht (hu _ ht) e.x]
  have h9 := goE_lo (f := e) (r := []) (ents ts) (last_all hp h)
  rw [List.append_nil] at h9
  exact h9
/-- The greatest transaction. -/
def maxQ (l : List En) : Int := l.foldl (fun m e => max m e.x.c.s) 0
theorem maxQ_snoc (l : List En) (e : En) : maxQ (l ++ [e]) = max (maxQ l) e.x.c.s := by
  unfold maxQ
  rw [List.foldl_append]
  rfl
theorem up_upd {ts : Tb} (hu : ∀ i, i < 4 → Up (ts i)) (t : Nat) (x : Ix) : ∀ i, i < 4 → Up (ts.upd t (ins x (ts t)) i) := fun i hi => by
  unfold Tb.upd
  split
  · rename_i e; subst e; exact (hu _ hi).ins _
  · exact hu i hi
theorem NumT.upd {ts : Tb} (h : NumT ts) {e : En} (hg : goodE e) : NumT (ts.upd e.t (ins e.x (ts e.t))) := fun i hi y hy => by
  unfold Tb.upd at hy
  split at hy
  · rename_i e9
    subst e9
    rcases mem_ins hy with rfl | hy
    · exact ⟨hg.2.1, hg.2.2.1, by have := hg.2.2.2.1; omega, by have := hg.2.2.2.2.1; omega⟩
    · exact h _ hi y hy
  · exact h i hi y hy
end Go.Proofs.Ytejpjbmbcdgomaa
