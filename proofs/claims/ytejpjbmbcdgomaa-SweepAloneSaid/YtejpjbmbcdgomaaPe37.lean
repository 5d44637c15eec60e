/- RTM, VAloneM, VStepD, VAloneS, VLong, VAlone, VIns0: put together. -/
import Derived.Test.YtejpjbmbcdgomaaPe35
import Derived.Test.YtejpjbmbcdgomaaPe36
import Derived.Test.YtejpjbmbcdgomaaPe26
import Derived.Test.YtejpjbmbcdgomaaPe25
import Derived.Test.YtejpjbmbcdgomaaPe33
import Derived.Test.YtejpjbmbcdgomaaPe32
import Derived.Test.YtejpjbmbcdgomaaPe34
import Derived.Test.YtejpjbmbcdgomaaPe20
/- A store's text is taken: pure. -/
namespace Go.Proofs.Ytejpjbmbcdgomaa
set_option maxRecDepth 100000
open Go.RowKit

theorem fold_unfold {n : Nat} (hn : n < 18446744073709551616) : foldN (unfoldN n) = n ∧ Fits (unfoldN n) := by
  unfold unfoldN foldN Fits
  by_cases h : n % 2 = 1
  · rw [if_pos h, if_pos (by omega)]
    omega
  · rw [if_neg h, if_neg (by omega)]
    omega
theorem rcount_ways (bs : List Nat) : rcount bs = (0, [], true) ∨ ∃ x rest, rcount bs = (x, rest, false) := rcnt_ways 10 0 0 bs
theorem rcount_small {bs : List Nat} (hs : ∀ b ∈ bs, b < 256) : ∀ b ∈ (rcount bs).2.1, b < 256 := by
  rcases rcount_ways bs with h | ⟨x, rest, h⟩
  · rw [h]; intro b hb; cases hb
  · rw [h]
    intro b hb
    refine hs b ?_
    rw [(rcount_yes hs h).1]
    exact List.mem_append_right _ hb
theorem rcount_before {bs : List Nat} (h : (rcount (rcount bs).2.1).2.2 = false) : (rcount bs).2.2 = false := by
  rcases rcount_ways bs with h1 | ⟨x, rest, h1⟩
  · rw [h1] at h
    cases h
  · rw [h1]
/-- The next entry of a text: table, key, value, transaction; what is behind it. -/
def r4a (bs : List Nat) : List Nat := (rcount bs).2.1
def r4b (bs : List Nat) : List Nat := (rcount (r4a bs)).2.1
def r4c (bs : List Nat) : List Nat := (rcount (r4b bs)).2.1
def r4d (bs : List Nat) : List Nat := (rcount (r4c bs)).2.1
def r4t (bs : List Nat) : Nat := (rcount bs).1
def r4k (bs : List Nat) : Int := unfoldN (rcount (r4a bs)).1
def r4v (bs : List Nat) : Int := unfoldN (rcount (r4b bs)).1
def r4q (bs : List Nat) : Nat := (rcount (r4c bs)).1
def r4bad (bs : List Nat) : Bool := (rcount (r4c bs)).2.2
def r4e (bs : List Nat) : En := ⟨r4t bs, ⟨r4k bs, ⟨r4v bs, (r4q bs : Int), false⟩⟩⟩
def okE (bs : List Nat) : Prop := r4t bs < 4 ∧ 1 ≤ r4q bs ∧ r4q bs ≤ 4611686018427387903
instance (bs : List Nat) : Decidable (okE bs) := by unfold okE; infer_instance
theorem r4_bad {bs : List Nat} (h : r4bad bs = true) : r4q bs = 0 := by
  unfold r4bad at h
  unfold r4q
  rcases rcount_ways (r4c bs) with h1 | ⟨x, rest, h1⟩
  · rw [h1]
  · rw [h1] at h; cases h
theorem okE_good {bs : List Nat} (h : okE bs) : r4bad bs = false := by
  cases hb : r4bad bs with
  | false => rfl
  | true =>
    have := r4_bad hb
    obtain ⟨_, h1, _⟩ := h
    omega
def lastLess (l : List En) (e : En) : Bool := match l.getLast? with | none => true | some y => lessE y e
def takF : Nat → List Nat → List En → Option (List En × List Nat)
  | 0, bs, l => some (l, bs)
  | m + 1, bs, l => if okE bs ∧ lastLess l (r4e bs) = true then takF m (r4d bs) (l ++ [r4e bs]) else none
theorem takF_yes {m : Nat} {bs : List Nat} {l : List En} (h : okE bs) (h2 : lastLess l (r4e bs) = true) : takF (m + 1) bs l = takF m (r4d bs) (l ++ [r4e bs]) := if_pos ⟨h, h2⟩
theorem takF_bad {m : Nat} {bs : List Nat} {l : List En} (h : ¬ okE bs) : takF (m + 1) bs l = none := if_neg fun c => h c.1
theorem takF_low {m : Nat} {bs : List Nat} {l : List En} (h : lastLess l (r4e bs) = false) : takF (m + 1) bs l = none := if_neg fun c => by rw [h] at c; cases c.2
def takR (bs : List Nat) : Option (List En) :=
  if 4096 < (rcount bs).1 then none else match takF (rcount bs).1 (rcount bs).2.1 [] with
  | none => none
  | some (l, rest) => if rest = [83] then some l else none
theorem r4_small {bs : List Nat} (hs : ∀ b ∈ bs, b < 256) : ∀ b ∈ r4d bs, b < 256 := rcount_small (rcount_small (rcount_small (rcount_small hs)))
theorem r4_text {bs : List Nat} (hs : ∀ b ∈ bs, b < 256) (h : okE bs) : bs = entB (r4e bs) ++ r4d bs ∧ Fits (r4k bs) ∧ Fits (r4v bs) := by
  have g4 : (rcount (r4c bs)).2.2 = false := okE_good h
  have g3 : (rcount (r4b bs)).2.2 = false := rcount_before g4
  have g2 : (rcount (r4a bs)).2.2 = false := rcount_before g3
  have g1 : (rcount bs).2.2 = false := rcount_before g2
  have s1 : ∀ b ∈ r4a bs, b < 256 := rcount_small hs
  have s2 : ∀ b ∈ r4b bs, b < 256 := rcount_small s1
  have s3 : ∀ b ∈ r4c bs, b < 256 := rcount_small s2
  have e1 := (rcount_yes hs (show rcount bs = (r4t bs, r4a bs, false) by rw [← g1]; rfl))
  have e2 := (rcount_yes s1 (show rcount (r4a bs) = ((rcount (r4a bs)).1, r4b bs, false) by rw [← g2]; rfl))
  have e3 := (rcount_yes s2 (show rcount (r4b bs) = ((rcount (r4b bs)).1, r4c bs, false) by rw [← g3]; rfl))
  have e4 := (rcount_yes s3 (show rcount (r4c bs) = (r4q bs, r4d bs, false) by rw [← g4]; rfl))
  refine ⟨?_, (fold_unfold e2.2).2, (fold_unfold e3.2).2⟩
  have hx : entB (r4e bs) = cntN (r4t bs) ++ (cntN (rcount (r4a bs)).1 ++ (cntN (rcount (r4b bs)).1 ++ cntN (r4q bs))) := by
    unfold entB r4e r4k r4v
    simp only [(fold_unfold e2.2).1, (fold_unfold e3.2).1, Int.toNat_natCast]
  rw [hx, List.append_assoc, List.append_assoc, List.append_assoc, ← e4.1, ← e3.1, ← e2.1, ← e1.1]
def goodE (e : En) : Prop := e.t < 4 ∧ Fits e.x.k ∧ Fits e.x.c.v ∧ 1 ≤ e.x.c.s ∧ e.x.c.s ≤ 4611686018427387903 ∧ e.x.c.dead = false
theorem r4_good {bs : List Nat} (hs : ∀ b ∈ bs, b < 256) (h : okE bs) : goodE (r4e bs) := by
  obtain ⟨_, h1, h2⟩ := r4_text hs h
  obtain ⟨a, b, c⟩ := h
  exact ⟨a, h1, h2, by show (1 : Int) ≤ (r4q bs : Int); omega, by show (r4q bs : Int) ≤ 4611686018427387903; omega, rfl⟩
theorem takF_text : ∀ (m : Nat) {bs : List Nat} {l l' : List En} {rest : List Nat}, (∀ b ∈ bs, b < 256) → takF m bs l = some (l', rest) → ∃ x, l' = l ++ x ∧ bs = x.flatMap entB ++ rest ∧ x.length = m ∧ ∀ e ∈ x, e.x.c.dead = false
  | 0, bs, l, l', rest, _, h => by
    unfold takF at h
    cases h
    exact ⟨[], by simp, by simp, rfl, fun e he => by cases he⟩
  | m + 1, bs, l, l', rest, hs, h => by
    unfold takF at h
    split at h
    · rename_i hc
      obtain ⟨x, h1, h2, h3, h4⟩ := takF_text m (r4_small hs) h
      obtain ⟨e1, _⟩ := r4_text hs hc.1
      refine ⟨r4e bs :: x, by rw [h1]; simp, ?_, by simp [h3], fun e he => ?_⟩
      · rw [List.flatMap_cons, List.append_assoc, ← h2, ← e1]
      · rcases List.mem_cons.1 he with rfl | he
        · rfl
        · exact h4 e he
    · cases h
theorem takR_text {bs : List Nat} {l : List En} (hs : ∀ b ∈ bs, b < 256) (h : takR bs = some l) : bs = txtE l := by
  unfold takR at h
  split at h
  · cases h
  · split at h
    · cases h
    · rename_i l' rest he
      split at h
      · rename_i hr
        have e9 : l = l' := (Option.some.inj h).symm
        rw [e9]
        obtain ⟨x, h1, h2, h3, h4⟩ := takF_text _ (rcount_small hs) he
        rw [List.nil_append] at h1
        subst h1
        have hl : liveE l' = l' := List.filter_eq_self.2 fun e he => by simp [h4 e he]
        unfold txtE
        rw [hl, h3, ← hr, ← h2]
        rcases rcount_ways bs with h9 | ⟨n, r9, h9⟩
        · rw [h9] at h2
          have e1 : l'.flatMap entB ++ rest = [] := h2.symm
          rw [hr] at e1
          simp at e1
        · have := (rcount_yes hs h9).1
          rw [h9]
          exact this
      · cases h
theorem lessK_trans {t k t' k' t'' k'' : Int} (h : lessK t k t' k' = true) (h2 : lessK t' k' t'' k'' = true) : lessK t k t'' k'' = true := by
  unfold lessK at *
  simp only [Bool.or_eq_true, Bool.and_eq_true, decide_eq_true_eq] at *
  omega
theorem tag_pair {t : Nat} {l : List Ix} (h : Up l) : (tag t l).Pairwise fun a b => lessE a b = true := by
  unfold tag
  rw [List.pairwise_map]
  refine List.Pairwise.imp ?_ h
  intro a b hab
  unfold lessE lessK
  simp [hab]
theorem allE_pair {ps : Nat → List Ix} : ∀ (n i : Nat), (∀ j, i ≤ j → j < i + n → Up (ps j)) → (allE ps i n).Pairwise fun a b => lessE a b = true
  | 0, _, _ => List.Pairwise.nil
  | n + 1, i, h => by
    rw [allE, List.pairwise_append]
    refine ⟨tag_pair (h i (Nat.le_refl _) (by omega)), allE_pair n (i + 1) fun j a b => h j (by omega) (by omega), fun a ha b hb => ?_⟩
    have h1 := (mem_tag ha).1
    obtain ⟨h2, _, _⟩ := mem_allE hb
    have h3 : (a.t : Int) < (b.t : Int) := by omega
    unfold lessE lessK
    simp [h3]
theorem last_all {l : List En} {e : En} (hp : l.Pairwise fun a b => lessE a b = true) (h : lastLess l e = true) : ∀ x ∈ l, lessE x e = true := by
  unfold lastLess at h
  cases hl : l.getLast? with
  | none =>
    intro x hx
    rw [List.getLast?_eq_none_iff.1 hl] at hx
    cases hx
  | some y =>
    rw [hl] at h
    obtain ⟨i, rfl⟩ := List.getLast?_eq_some_iff.1 hl
    intro x hx
    rcases List.mem_append.1 hx with hx | hx
    · have := (List.pairwise_append.1 hp).2.2 x hx y (by simp)
      exact lessK_trans this h
    · rw [List.mem_singleton.1 hx]; exact h
/-- Is there an entry at a key or behind it? -/
def reachB (t k : Int) (ts : Tb) : Bool := !(fromE t k ts).isEmpty
theorem reach_last {ts : Tb} (hu : ∀ i, i < 4 → Up (ts i)) (hn : ∀ i, i < 4 → NumL (ts i)) (e : En) : reachB (e.t : Int) e.x.k ts = !lastLess (ents ts) e := by
  have hp := allE_pair (ps := ts) 4 0 fun j _ hj => hu j (by omega)
  unfold reachB
  rw [← from_ents hn]
  congr 1
  cases h : lastLess (ents ts) e with
  | true =>
    have := last_all hp h
    rw [List.isEmpty_iff, List.filter_eq_nil_iff]
    intro x hx
    have h9 := this x hx
    unfold lessE at h9
    simp [h9]
  | false =>
    unfold lastLess at h
    cases hl : (ents ts).getLast? with
    | none => rw [hl] at h; cases h
    | some y =>
      rw [hl] at h
      have hy : y ∈ ents ts := List.mem_of_getLast? hl
      have h8 : y ∈ (ents ts).filter fun e' => !lessK (e'.t : Int) e'.x.k (e.t : Int) e.x.k := List.mem_filter.2 ⟨hy, by unfold lessE at h; simp [h]⟩
      cases hf : (ents ts).filter fun e' => !lessK (e'.t : Int) e'.x.k (e.t : Int) e.x.k with
      | nil => rw [hf] at h8; cases h8
      | cons a b => rfl
theorem ents_snoc {ts : Tb} (hu : ∀ i, i < 4 → Up (ts i)) {e : En} (ht : e.t < 4) (h : lastLess (ents ts) e = true) : ents (ts.upd e.t (ins e.x (ts e.t))) = ents ts ++ [e] := by
  have hp := allE_pair (ps := ts) 4 0 fun j _ hj => hu j (by omega)
  rw [← goE_ents ht (hu _ ht) e.x]
  have h9 := goE_lo (f := e) (r := []) (ents ts) (last_all hp h)
  rw [List.append_nil] at h9
  exact h9
/-- The greatest transaction. -/
def maxQ (l : List En) : Int := l.foldl (fun m e => max m e.x.c.s) 0
theorem maxQ_snoc (l : List En) (e : En) : maxQ (l ++ [e]) = max (maxQ l) e.x.c.s := by
  unfold maxQ
  rw [List.foldl_append]
  rfl
theorem up_upd {ts : Tb} (hu : ∀ i, i < 4 → Up (ts i)) (t : Nat) (x : Ix) : ∀ i, i < 4 → Up (ts.upd t (ins x (ts t)) i) := fun i hi => by
  unfold Tb.upd
  split
  · rename_i e; subst e; exact (hu _ hi).ins _
  · exact hu i hi
theorem NumT.upd {ts : Tb} (h : NumT ts) {e : En} (hg : goodE e) : NumT (ts.upd e.t (ins e.x (ts e.t))) := fun i hi y hy => by
  unfold Tb.upd at hy
  split at hy
  · rename_i e9
    subst e9
    rcases mem_ins hy with rfl | hy
    · exact ⟨hg.2.1, hg.2.2.1, by have := hg.2.2.2.1; omega, by have := hg.2.2.2.2.1; omega⟩
    · exact h _ hi y hy
  · exact h i hi y hy
end Go.Proofs.Ytejpjbmbcdgomaa

/- A sweep that nobody writes beside, pure. -/
namespace Go.Proofs.Ytejpjbmbcdgomaa
set_option maxRecDepth 100000
open Go.RowKit

/-- What lies at a key or behind it. -/
def restE (S : List En) (ct ck : Int) : List En := S.filter fun e => !lessK e.t e.x.k ct ck
theorem behind_keep {t k : Int} (x : En) (hx : Fits x.x.k) : (!lessK x.t x.x.k (bhT t k) (bhK k)) = lessK t k x.t x.x.k := by
  unfold Fits at hx
  unfold lessK bhT bhK
  by_cases h : k = 9223372036854775807
  · rw [if_pos h, if_pos h, Bool.eq_iff_iff]
    simp only [Bool.not_eq_true', Bool.or_eq_false_iff, decide_eq_false_iff_not, Bool.and_eq_false_iff, Bool.or_eq_true, decide_eq_true_eq, Bool.and_eq_true]
    omega
  · rw [if_neg h, if_neg h, Bool.eq_iff_iff]
    simp only [Bool.not_eq_true', Bool.or_eq_false_iff, decide_eq_false_iff_not, Bool.and_eq_false_iff, Bool.or_eq_true, decide_eq_true_eq, Bool.and_eq_true]
    omega
theorem rest_step {S r : List En} {y : En} {ct ck : Int} (hp : S.Pairwise fun a b => lessE a b = true) (hf : ∀ x ∈ S, Fits x.x.k) (h : restE S ct ck = y :: r) : restE S (bhT y.t y.x.k) (bhK y.x.k) = r := by
  have hy : y ∈ S ∧ (!lessK y.t y.x.k ct ck) = true := by
    have h1 : y ∈ restE S ct ck := by rw [h]; simp
    unfold restE at h1
    exact List.mem_filter.1 h1
  have e1 : restE S (bhT y.t y.x.k) (bhK y.x.k) = (restE S ct ck).filter (lessE y) := by
    unfold restE
    rw [List.filter_filter]
    refine List.filter_congr fun x hx => ?_
    rw [behind_keep x (hf x hx)]
    have h2 := hy.2
    unfold lessE
    rw [Bool.eq_iff_iff]
    unfold lessK at h2 ⊢
    simp only [Bool.not_eq_true', Bool.or_eq_false_iff, decide_eq_false_iff_not, Bool.and_eq_false_iff, Bool.or_eq_true, decide_eq_true_eq, Bool.and_eq_true] at h2 ⊢
    omega
  have hpr : (restE S ct ck).Pairwise fun a b => lessE a b = true := hp.filter _
  rw [h] at hpr e1
  rw [e1, List.filter_cons_of_neg (by unfold lessE lessK; simp)]
  exact List.filter_eq_self.2 fun x hx => (List.pairwise_cons.1 hpr).1 x hx
/-- A step where nothing is noted. -/
theorem stepS_none {S : List En} (hp : S.Pairwise fun a b => lessE a b = true) (hf : ∀ x ∈ S, x.t < 4 ∧ Fits x.x.k) : ∀ (n : Nat) (T : List En) (ct ck : Int), 0 ≤ ct → ct ≤ 4 → Fits ck →
    ∃ ct' ck', stepS n ((restE S ct ck).take n) [] T ct ck = ([], T ++ (restE S ct ck).take n, ct', ck', decide ((restE S ct ck).length < n)) ∧ restE S ct' ck' = (restE S ct ck).drop n ∧ 0 ≤ ct' ∧ ct' ≤ 4 ∧ Fits ck'
  | 0, T, ct, ck, h0, h1, h2 => ⟨ct, ck, by simp [stepS], by simp, h0, h1, h2⟩
  | n + 1, T, ct, ck, h0, h1, h2 => by
    cases h : restE S ct ck with
    | nil => exact ⟨ct, ck, by simp [stepS], by simpa using h, h0, h1, h2⟩
    | cons y r =>
      have hyS : y ∈ S := by
        have h3 : y ∈ restE S ct ck := by rw [h]; simp
        unfold restE at h3
        exact (List.mem_filter.1 h3).1
      have hr := rest_step hp (fun x hx => (hf x hx).2) h
      have hy := hf y hyS
      have hb : 0 ≤ bhT y.t y.x.k ∧ bhT y.t y.x.k ≤ 4 ∧ Fits (bhK y.x.k) := by
        have := hy.2
        unfold Fits at this ⊢
        unfold bhT bhK
        split <;> omega
      obtain ⟨ct', ck', g1, g2, g3⟩ := stepS_none hp hf n (T ++ [y]) (bhT y.t y.x.k) (bhK y.x.k) hb.1 hb.2.1 hb.2.2
      rw [hr] at g1 g2
      refine ⟨ct', ck', ?_, by rw [g2, List.drop_succ_cons], g3⟩
      rw [List.take_succ_cons]
      show stepS n (r.take n) [] (T ++ [y]) (bhT y.t y.x.k) (bhK y.x.k) = _
      rw [g1]
      simp
end Go.Proofs.Ytejpjbmbcdgomaa

/- A step of a sweep that is done, and of none. -/
namespace Go.Proofs.Ytejpjbmbcdgomaa
set_option maxRecDepth 100000
open Go.RowKit

theorem swstep_done {w : World} {xb : Nat} {so : Option Addr} {ct ck : Int} {nv tv : Value} (h : SwM w xb so ct ck nv tv true) (n : Int) : Calls Try.prog 42 #[.pointer (some ⟨xb, 0, none⟩), .int .i64 n] w fun e w' => e = .returned (.bool true) ∧ w = w' := by
  have HD := Lib.hid (swdone_any h)
  clear h
  go_enter Try.func42, Try.ntmps42
  go_wp2_with fail
  refine Calls.mono HD.out ?_
  rintro e w1 ⟨rfl, rfl⟩
  go_wp2_with fail
  go_ret
  exact ⟨rfl, rfl⟩
theorem swstep_nil (w : World) (n : Int) : Calls Try.prog 42 #[.pointer none, .int .i64 n] w fun e w' => e = .returned (.bool true) ∧ w = w' := by
  have HD := Lib.hid (swdone_nil w)
  go_enter Try.func42, Try.ntmps42
  go_wp2_with fail
  refine Calls.mono HD.out ?_
  rintro e w1 ⟨rfl, rfl⟩
  go_wp2_with fail
  go_ret
  exact ⟨rfl, rfl⟩
theorem swtext_nil (w : World) : Calls Try.prog 45 #[.pointer none] w fun e w' => e = .returned (.tuple #[.slice none 0 0, errV 11]) ∧ w = w' := by
  go_enter Try.func45, Try.ntmps45
  go_wp2_with fail
  exact bodyPost_ret (v := .tuple #[.slice none 0 0, errV 11]) (by simp [results, Try.results45, go_sem, errV]) rfl ⟨rfl, rfl⟩
theorem swtext_not {w : World} {xb : Nat} {so : Option Addr} {ct ck : Int} {nv tv : Value} (h : SwM w xb so ct ck nv tv false) : Calls Try.prog 45 #[.pointer (some ⟨xb, 0, none⟩)] w fun e w' => e = .returned (.tuple #[.slice none 0 0, errV 11]) ∧ w = w' := by
  obtain ⟨_, _, _, _, _, c5⟩ := h.at
  clear h
  go_enter Try.func45, Try.ntmps45
  go_wp2_with fail
  exact bodyPost_ret (v := .tuple #[.slice none 0 0, errV 11]) (by simp [results, Try.results45, go_sem, errV]) rfl ⟨rfl, rfl⟩
end Go.Proofs.Ytejpjbmbcdgomaa

/- A sweep that nobody writes beside, between two steps. -/
namespace Go.Proofs.Ytejpjbmbcdgomaa
set_option maxRecDepth 100000
open Go.RowKit

theorem live_rest {ts : Tb} (h : ∀ i, i < 4 → NumL (ts i)) (t k : Int) : liveE (fromE t k ts) = restE (liveE (ents ts)) t k := by
  unfold liveE restE
  rw [← from_ents h t k, List.filter_filter, List.filter_filter]
  exact List.filter_congr fun e _ => Bool.and_comm _ _
structure SwA (w wr : World) (xb sb : Nat) (ts : Tb) (G : Nat → Prop) (left : Int) : Prop where
  b : Below w.heap.size w wr
  m : ∃ last, SM wr G sb ts (liveT ts : Int) last
  low : (∀ q, G q → w.heap.size ≤ q) ∧ w.heap.size ≤ xb ∧ ¬ G xb
  st : (∃ ct ck nA nc A9 c9 T, left = ((restE (liveE (ents ts)) ct ck).length : Int) ∧ SwM wr xb (some ⟨sb, 0, none⟩) ct ck (.slice nA 0 nc) (.slice A9 T.length c9) false ∧ Sno wr w.heap.size (.slice A9 T.length c9) T ∧ (∀ q, (Value.slice A9 T.length c9).ownBlock = some q → ¬ G q) ∧ T.length + (restE (liveE (ents ts)) ct ck).length ≤ 1000 ∧ 0 ≤ ct ∧ ct ≤ 4 ∧ Fits ck) ∨
    (left = -1 ∧ ∃ so ct ck nv tv, SwM wr xb so ct ck nv tv true)
theorem SwA.step {w wr : World} {xb sb : Nat} {ts : Tb} {G : Nat → Prop} {left : Int} (h : SwA w wr xb sb ts G left) (hN : ∀ i, i < 4 → (ts i).length ≤ 10000) (hnum : NumT ts) (n : Int) (hn : n ≤ 200) :
    Calls Try.prog 42 #[.pointer (some ⟨xb, 0, none⟩), .int .i64 n] wr fun e w' => ∃ d left', e = .returned (.bool d) ∧ SwA w w' xb sb ts G left' ∧ (left < 0 → d = true ∧ left' = left) ∧ (0 ≤ left → d = decide (left < n.toNat) ∧ left' = if left < n.toNat then -1 else left - n.toNat) := by
  obtain ⟨last, hM⟩ := h.m
  rcases h.st with ⟨ct, ck, nA, nc, A9, c9, T, hl, hs, ho, hq, hsz, h0, h1, h2⟩ | ⟨hl, so, ct, ck, nv, tv, hs⟩
  · have hst := swstep_none n hM hnum hN (B := w.heap.size) (nA := nA) (nc := nc) (NS := []) (A9 := A9) (c9 := c9) (T := T) ⟨hs, ho, h.low.2.1, ⟨rfl, rfl, fun h => absurd h (by decide)⟩, ⟨rfl, rfl, fun h => absurd h (by decide)⟩, fun h => absurd h (by decide), fun h => absurd h (by decide), ⟨rfl, rfl, rfl, Nat.le_refl _, fun _ _ _ _ => rfl⟩, fun q e => .inl e⟩ (by simp only [List.length_nil]; omega) ⟨h0, h1, h2⟩ (fun x hx => by cases hx) (by omega) rfl
    rw [live_rest hnum.numL] at hst
    obtain ⟨ct', ck', g1, g2, g3, g4, g5⟩ := stepS_none (S := liveE (ents ts)) ((allE_pair 4 0 fun j _ hj => hM.up j (by omega)).filter _) (fun x hx => by
      have h9 := NumT.ents hnum x (List.mem_filter.1 hx).1
      exact ⟨h9.1, h9.2.1⟩) n.toNat T ct ck h0 h1 h2
    rw [g1] at hst
    refine Calls.mono hst ?_
    rintro e w' ⟨rfl, so, nA', nc', A8, c8, k1, k2, k3, k4, k5, k6, k7⟩
    have hb' : Below w.heap.size w w' := h.b.trans (k6.below h.low.2.1 (fun q e => own_ge ho e) h.b.size)
    have hM' : SM w' G sb ts (liveT ts : Int) last := hM.keep fun q e => k6.block q (hM.lt e) (fun e2 => h.low.2.2 (e2 ▸ e)) fun e2 => hq q e2 e
    refine ⟨_, if left < n.toNat then -1 else left - n.toNat, rfl, ⟨hb', ⟨last, hM'⟩, h.low, ?_⟩, fun e => by omega, fun _ => ⟨?_, rfl⟩⟩
    · by_cases hd : (restE (liveE (ents ts)) ct ck).length < n.toNat
      · have k1' := k1
        simp only [decide_eq_true hd] at k1'
        exact .inr ⟨by rw [if_pos (by omega)], so, ct', ck', _, _, k1'⟩
      · have hso := k2 (decide_eq_false hd)
        subst hso
        have k1' := k1
        simp only [decide_eq_false hd] at k1'
        refine .inl ⟨ct', ck', nA', nc', A8, c8, T ++ (restE (liveE (ents ts)) ct ck).take n.toNat, ?_, k1', k3, fun q e c => ?_, ?_, g3, g4, g5⟩
        · rw [if_neg (by omega), g2, List.length_drop]
          omega
        · rcases k7 q e with e | e
          · exact hq q e c
          · have := hM.lt c; omega
        · rw [g2, List.length_append, List.length_take, List.length_drop]
          omega
    · rw [hl]
      exact decide_eq_decide.2 (by omega)
  · refine Calls.mono (swstep_done hs n) ?_
    rintro e w' ⟨rfl, rfl⟩
    exact ⟨true, left, rfl, h, fun _ => ⟨rfl, rfl⟩, fun e => by omega⟩
end Go.Proofs.Ytejpjbmbcdgomaa

/- More than is played: no script. -/
namespace Go.Proofs.Ytejpjbmbcdgomaa
set_option maxRecDepth 100000
open Go.RowKit

theorem long18_nil (w : World) (A : Option Addr) (n c : Nat) : Calls Try.prog 35 #[.slice A n c, .slice none 0 0] w fun e w' => e = .returned (.bool (decide (60 < n))) ∧ Below w.heap.size w w' := by
  by_cases h : 60 < n
  · have d1 : (60 : Int) < (n : Int) := by omega
    rw [decide_eq_true h]
    clear h
    go_enter Try.func35, Try.ntmps35
    go_wp2_with fail
    go_ret
    exact ⟨rfl, Below.refl _ _⟩
  · have d1 : ¬ (60 : Int) < (n : Int) := by omega
    rw [decide_eq_false h]
    clear h
    go_enter Try.func35, Try.ntmps35
    go_wp2_with fail
    go_loopw [5, 6, 12, 13, 14, 15, 16, 17, 18, 19, 20, 21, 22, 23, 24, 25, 26, 27, 28, 29, 30] (fun _ _ ix _ _ _ _ _ _ _ _ _ _ _ _ _ _ _ _ _ _ wr => ix = .int .i64 0 ∧ wr = w) (fun _ _ ix _ _ _ _ _ _ _ _ _ _ _ _ _ _ _ _ _ _ wr => 0)
    case atStart => exact ⟨rfl, rfl⟩
    case round =>
      obtain ⟨rfl, rfl⟩ := hrel
      go_wp2_with fail
      go_ret
      exact ⟨rfl, Below.refl _ _⟩
end Go.Proofs.Ytejpjbmbcdgomaa

/- SweepAlone, over the fixed fact. -/
namespace Go.Proofs.Ytejpjbmbcdgomaa
set_option maxRecDepth 100000
open Go.RowKit

abbrev Nms (w : World) (A : Option Addr) (l : List Int) : Prop := RowAt (fun n : Int => [Value.int .i64 n]) 1 w A l.length l
theorem rest_all {ts : Tb} (h : NumT ts) : restE (liveE (ents ts)) 0 (-9223372036854775808) = liveE (ents ts) := by
  unfold restE
  refine List.filter_eq_self.2 fun e he => ?_
  have h9 := (NumT.ents h e (List.mem_filter.1 he).1).2.1
  unfold Fits at h9
  unfold lessK
  simp only [Bool.not_eq_true', Bool.or_eq_false_iff, decide_eq_false_iff_not, Bool.and_eq_false_iff]
  omega
set_option maxHeartbeats 16000000 in
theorem alone18_law (HAL : ∀ w, Calls Try.prog 34 #[] w fun e w' => e = .returned (.bool true) ∧ Below w.heap.size w w') {w : World} {A B : Option Addr} {c cb : Nat} {ws : List Wr} {ns : List Int} (h : Wrs w A ws) (hok : ∀ x ∈ ws, WrOk x) (hn : Nms w B ns) :
    Calls Try.prog 8 #[.slice A ws.length c, .slice B ns.length cb] w fun e w' => e = .returned (.bool true) ∧ Below w.heap.size w w' := by
  have HAL := Lib.hid HAL
  have HIN := Lib.hid (And.intro h (And.intro hok hn))
  obtain ⟨m, hm⟩ : ∃ m, m = ws.length := ⟨_, rfl⟩
  obtain ⟨k, hk⟩ : ∃ k, k = ns.length := ⟨_, rfl⟩
  have HMK := Lib.hid (And.intro hm hk)
  rw [← hm, ← hk]
  clear h hok hn hm hk
  go_enter Try.func8, Try.ntmps8
  go_wp2_with fail
  refine Calls.mono (HAL.out w) ?_
  rintro e w1 ⟨rfl, hb1⟩
  have HB1 := Lib.hid hb1
  clear hb1
  have HL := Lib.hid (long18_nil w1 A m c)
  go_wp2_with fail
  refine Calls.mono HL.out ?_
  rintro e w2 ⟨rfl, hb2⟩
  have HB2 := Lib.hid (HB1.out.trans (hb2.mono HB1.out.size))
  clear hb2
  by_cases hm60 : 60 < m
  · rw [decide_eq_true hm60]
    go_wp2_with fail
    go_ret
    exact ⟨rfl, HB2.out⟩
  · rw [decide_eq_false hm60]
    by_cases hk60 : 60 < k
    · have d1 : (60 : Int) < (k : Int) := by omega
      go_wp2_with fail
      go_ret
      exact ⟨rfl, HB2.out⟩
    · have d1 : ¬ (60 : Int) < (k : Int) := by omega
      have HMK2 := Lib.hid (And.intro hm60 hk60)
      clear hm60 hk60
      go_wp2_with fail
      refine Calls.mono (snew_any w2) ?_
      rintro e w3 ⟨rfl, ⟨G, hM, hG⟩, hb3⟩
      obtain ⟨sb, hsb⟩ : ∃ sb, sb = w2.heap.size := ⟨_, rfl⟩
      rw [← hsb] at hM ⊢
      have HS3 := Lib.hid (And.intro hM (And.intro hG (HB2.out.trans (hb3.mono HB2.out.size))))
      have HAP := Lib.hid (apply_any (c := c) 3 hM (RowAt.below HIN.out.1 HS3.out.2.2) (fun x hx => (HIN.out.2.1 x hx).1) (by have := HMK.out; have := HMK2.out; omega) (fun _ _ => by decide))
      obtain ⟨r, hr⟩ : ∃ r, r = apN 3 (fun _ => []) ws := ⟨_, rfl⟩
      rw [← hr, ← HMK.out.1] at HAP
      have HR := Lib.hid hr
      clear hsb hM hG hb3 hr
      go_wp2_with fail
      refine Calls.mono HAP.out ?_
      rintro e w4 ⟨rfl, G', ts, last, hM4, hC4, hA4⟩
      have hlo := hC4.low HS3.out.2.2.size fun q e => Nat.le_trans HB2.out.size (HS3.out.2.1 q e)
      have HM4 := Lib.hid (And.intro hM4 (And.intro (HS3.out.2.2.trans hlo.1) hlo.2))
      have HTS : Hid ((∀ i, i < 4 → (ts i).length ≤ 60) ∧ NumT ts) := Lib.hid (by
        have hm60 := HMK2.out.1
        have hml := HMK.out.1
        rcases hA4.out with ⟨_, rfl, rfl⟩ | ⟨_, rfl, rfl⟩
        · exact ⟨fun i hi => Nat.le_trans (force_le (n := 0) ws (fun _ _ => Nat.le_refl _) i hi) (by omega), NumT.force _ NumT.none HIN.out.2.1 (by decide) (by decide)⟩
        · exact ⟨fun _ _ => Nat.zero_le _, NumT.none⟩)
      clear hM4 hC4 hA4 hlo
      go_wp2_with fail
      refine Calls.mono (swbegin_any w4 _) ?_
      rintro e w5 ⟨rfl, hs5, hb5⟩
      obtain ⟨xb, hxb⟩ : ∃ xb, xb = w4.heap.size := ⟨_, rfl⟩
      rw [← hxb] at hs5 ⊢
      have HLV := Lib.hid (slive_any (HM4.out.1.below hb5))
      have HA5 : Hid (SwA w w5 xb sb ts G' (liveT ts : Int)) := Lib.hid ⟨HM4.out.2.1.trans (hb5.mono HM4.out.2.1.size), ⟨last, HM4.out.1.below hb5⟩, ⟨HM4.out.2.2, by have := HM4.out.2.1.size; omega, fun e => by have := HM4.out.1.lt e; omega⟩,
        .inl ⟨0, -9223372036854775808, none, 0, none, 0, [], by rw [rest_all HTS.out.2, liveE_ents], hs5, World.ownsRow_nil _ _ _ _, (fun q e => by cases e), by rw [rest_all HTS.out.2, liveE_ents]; have := liveT_le (n := 60) HTS.out.1; simp; omega, by decide, by decide, by unfold Fits; decide⟩⟩
      have HLB : Hid (liveT ts ≤ 240) := Lib.hid (by have := liveT_le (n := 60) HTS.out.1; omega)
      clear hs5 hb5 hxb
      go_wp2_with fail
      refine Calls.mono HLV.out ?_
      rintro e w6 ⟨rfl, rfl⟩
      go_wp2_with fail
      go_loopw [4, 7, 9, 10, 30, 31, 32, 33, 34, 35, 36, 37, 38, 39, 40, 41, 42, 43, 44, 45, 46, 47, 48, 49, 50, 51, 52, 53, 54, 55, 56, 57, 58, 59, 60, 61, 62] (fun _ lx _ _ ix _ _ _ _ _ _ _ _ _ _ _ _ _ _ _ _ _ _ _ _ _ _ _ _ _ _ _ _ _ _ _ _ wr => ∃ (z : Nat) (left : Int), ix = .int .i64 (z : Int) ∧ lx = .int .i64 left ∧ z ≤ k ∧ (-1 ≤ left ∧ left ≤ 240) ∧ SwA w wr xb sb ts G' left) (fun _ lx _ _ ix _ _ _ _ _ _ _ _ _ _ _ _ _ _ _ _ _ _ _ _ _ _ _ _ _ _ _ _ _ _ _ _ wr => k - (intOf ix).toNat)
      case atStart => exact ⟨0, _, rfl, rfl, Nat.zero_le _, by have := HLB.out; omega, HA5.out⟩
      case round =>
        obtain ⟨z, left, rfl, rfl, hz, hlb, hA⟩ := hrel
        have HA := Lib.hid (And.intro hA (And.intro hz hlb))
        clear hA hz hlb
        by_cases hlt : z < k
        · have hzl : z < ns.length := by rw [← HMK.out.2]; exact hlt
          obtain ⟨b, off, rfl, hcl⟩ := RowAt.cells (RowAt.below HIN.out.2.2 HA.out.1.b) (fun _ => rfl) (by omega)
          have x0 := hcl z hzl 0 _ (by decide) rfl
          obtain ⟨n, hn⟩ : ∃ n, n = ns[z] := ⟨_, rfl⟩
          rw [← hn, Nat.mul_one, Nat.add_zero] at x0
          have hk60 : k ≤ 60 := by have := HMK2.out.2; omega
          clear hcl hzl hn
          by_cases h200 : (200 : Int) < n
          · have HBW := Lib.hid HA.out.1.b
            go_wp2_with fail
            go_ret
            exact ⟨rfl, HBW.out⟩
          · have HST := Lib.hid (HA.out.1.step (fun i hi => Nat.le_trans (HTS.out.1 i hi) (by decide)) HTS.out.2 n (by omega))
            go_wp2_with fail
            refine Calls.mono HST.out ?_
            rintro e w9 ⟨d, left', rfl, hA', h1, h2⟩
            have hlb := HA.out.2.2
            by_cases hl0 : left < 0
            · obtain ⟨rfl, rfl⟩ := h1 hl0
              obtain rfl : left' = -1 := by omega
              have HA' := Lib.hid hA'
              clear hA' h1 h2 x0
              by_cases hn0 : 0 < n
              · have d1 : (-1 : Int) < n := by omega
                go_wp2_with fail
                go_roundw
                case rel => exact ⟨z + 1, _, by go_num, by go_num, by omega, by omega, HA'.out⟩
                case measure => simp [intOf]; omega
              · have d1 : ¬ (0 : Int) < n := hn0
                go_wp2_with fail
                go_roundw
                case rel => exact ⟨z + 1, _, by go_num, by go_num, by omega, by omega, HA'.out⟩
                case measure => simp [intOf]; omega
            · have h3 := h2 (by omega)
              clear h1 h2 x0
              by_cases hn0 : 0 < n
              · have e2 : (n.toNat : Int) = n := Int.toNat_of_nonneg (by omega)
                rw [e2] at h3
                by_cases hl2 : left < n
                · rw [decide_eq_true hl2, if_pos hl2] at h3
                  obtain ⟨rfl, rfl⟩ := h3
                  have HA' := Lib.hid hA'
                  clear hA' e2
                  go_wp2_with fail
                  go_roundw
                  case rel => exact ⟨z + 1, _, by go_num, by go_num, by omega, by omega, HA'.out⟩
                  case measure => simp [intOf]; omega
                · rw [decide_eq_false hl2, if_neg hl2] at h3
                  obtain ⟨rfl, rfl⟩ := h3
                  have HA' := Lib.hid hA'
                  clear hA' e2
                  go_wp2_with fail
                  go_roundw
                  case rel => exact ⟨z + 1, _, by go_num, by go_num, by omega, by omega, HA'.out⟩
                  case measure => simp [intOf]; omega
              · have e2 : n.toNat = 0 := by omega
                rw [e2, decide_eq_false (by omega), if_neg (by omega)] at h3
                obtain ⟨rfl, rfl⟩ := h3
                have HA' : Hid (SwA w w9 xb sb ts G' left) := Lib.hid (by simpa using hA')
                clear hA' e2
                go_wp2_with fail
                go_roundw
                case rel => exact ⟨z + 1, _, by go_num, by go_num, by omega, by omega, HA'.out⟩
                case measure => simp [intOf]; omega
        · obtain rfl : z = k := by have := HA.out.2.1; omega
          have HBW := Lib.hid HA.out.1.b
          go_wp2_with fail
          go_ret
          exact ⟨rfl, HBW.out⟩
end Go.Proofs.Ytejpjbmbcdgomaa

/- sort.Search over nothing; slices.Insert at the end of the notes. -/
namespace Go.Proofs.Ytejpjbmbcdgomaa
set_option maxRecDepth 100000
open Go.RowKit

theorem search_none (w : World) (f : Value) : Calls Try.prog 103 #[.int .i64 0, f] w fun e w' => e = .returned (.int .i64 0) ∧ w = w' := by
  go_enter Try.func103, Try.ntmps103
  go_wp2_with fail
  go_loopw [5, 6, 7, 9, 10, 11, 12, 13, 14, 15, 16, 17, 18, 19, 20, 21, 22, 23, 24] (fun lx hx _ _ _ _ _ _ _ _ _ _ _ _ _ _ _ _ _ wr => lx = .int .i64 0 ∧ hx = .int .i64 0 ∧ wr = w) (fun lx hx _ _ _ _ _ _ _ _ _ _ _ _ _ _ _ _ _ wr => 0)
  case atStart => exact ⟨rfl, rfl, rfl⟩
  case round =>
    obtain ⟨rfl, rfl, rfl⟩ := hrel
    go_wp2_with fail
    go_ret
    exact ⟨rfl, rfl⟩
theorem elemNt : ElemT Try.prog 143 149 6 48 :=
  ⟨Try.underlying143, by kernel_rfl, by
    obtain ⟨i, hi, hz, h1, _⟩ := info_parts (show (Try.prog.info? 149).map (fun i => (i.zero, i.size, i.bytes)) = some (some (.agg #[.int .i64 0, .int .i64 0, .int .i64 0, .int .i64 0, .bool false, .bool false]), 6, 48) by kernel_rfl)
    exact ⟨i, _, hi, hz, rfl⟩, by decide⟩
theorem nt1 (x : Nt) : ∀ u ∈ x.vals, u.oneCell' = true := fun u hu => by
  simp [Nt.vals] at hu
  rcases hu with rfl | rfl | rfl | rfl | rfl | rfl <;> rfl
theorem insert_end {w : World} {B : Nat} {v : Value} {NS : List Nt} {x : Nt} {b c2 : Nat} (ho : w.ownsRow B 149 6 v NS.length (rowV Nt.vals NS)) (hx : Rdv w (some ⟨b, 0, none⟩) 1 6 x.vals) (hl : NS.length ≤ 100000) (hB : B ≤ w.heap.size) :
    Calls Try.prog 105 #[v, .int .i64 (NS.length : Int), .slice (some ⟨b, 0, none⟩) 1 c2] w fun e w' => ∃ v', e = .returned v' ∧ w'.ownsRow B 149 6 v' (NS ++ [x]).length (rowV Nt.vals (NS ++ [x])) ∧ w.grownBy w' v.ownBlock ∧ (∀ q, v'.ownBlock = some q → v.ownBlock = some q ∨ w.heap.size ≤ q) := by
  obtain ⟨A, c, hv, _, hnc, hle⟩ := rdv_own ho
  obtain ⟨n, hn⟩ : ∃ n, n = NS.length := ⟨_, rfl⟩
  rw [← hn] at hv hle ho
  subst hv
  have HO := Lib.hid (And.intro ho (And.intro hx (And.intro hB (And.intro hn hl))))
  have HNN : Hid ((NS ++ [x]).length = n + 1 ∧ rowV Nt.vals (NS ++ [x]) = rowV Nt.vals NS ++ x.vals) := Lib.hid ⟨by simp [hn], by rw [rowV_append]; simp [rowV]⟩
  have er : ((n : Int) == (n : Int)) = true := by simp
  rw [← hn]
  have hn18 : n ≤ 100000 := by rw [hn]; exact hl
  clear ho hx hB hn hl
  go_enter Try.func105, Try.ntmps105
  go_wp2_with (at_builtin; refine wpList_append_rowg elemNt rfl (.tmp 23) (.tmp 24) rfl B (.slice A n c) n (rowV Nt.vals NS) rfl HO.out.1 (some ⟨b, 0, none⟩) 1 c2 x.vals rfl HO.out.2.1 (nt1 _) (fun h => by cases h) (by unfold maxLen; omega) (by omega) HO.out.2.2.1 ?_; intro v' w' ho hg hq; have H9 := Lib.hid (And.intro ho (And.intro hg hq)); clear ho hg hq)
  all_goals
    go_ret
    try rw [show (Value.slice A n n).ownBlock = (Value.slice A n c).ownBlock by cases A <;> rfl]
    exact ⟨_, rfl, by rw [HNN.out.2, ← HO.out.2.2.2.1]; exact H9.out.1, H9.out.2.1, H9.out.2.2⟩
end Go.Proofs.Ytejpjbmbcdgomaa
