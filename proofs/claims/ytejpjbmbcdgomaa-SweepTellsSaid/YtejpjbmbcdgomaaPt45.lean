/- RTM, VAloneM, VTellM, SStands: put together. -/
import Derived.Test.YtejpjbmbcdgomaaPt44
import Derived.Test.YtejpjbmbcdgomaaPt26
import Derived.Test.YtejpjbmbcdgomaaPt33
import Derived.Test.YtejpjbmbcdgomaaPt40
/- A store's text is taken: pure. -/
namespace Go.Proofs.Ytejpjbmbcdgomaa
set_option maxRecDepth 100000
open Go.RowKit

/-- The next entry of a text: table, key, value, transaction; what is behind it. -/
def r4a (bs : List Nat) : List Nat := (rcount bs).2.1
def r4b (bs : List Nat) : List Nat := (rcount (r4a bs)).2.1
def r4c (bs : List Nat) : List Nat := (rcount (r4b bs)).2.1
def r4d (bs : List Nat) : List Nat := (rcount (r4c bs)).2.1
def r4t (bs : List Nat) : Nat := (rcount bs).1
def r4k (bs : List Nat) : Int := unfoldN (rcount (r4a bs)).1
def r4v (bs : List Nat) : Int := unfoldN (rcount (r4b bs)).1
def r4q (bs : List Nat) : Nat := (rcount (r4c bs)).1
def r4bad (bs : List Nat) : Bool := (rcount (r4c bs)).2.2
def r4e (bs : List Nat) : En := ⟨r4t bs, ⟨r4k bs, ⟨r4v bs, (r4q bs : Int), false⟩⟩⟩
def okE (bs : List Nat) : Prop := r4t bs < 4 ∧ 1 ≤ r4q bs ∧ r4q bs ≤ 4611686018427387903
instance (bs : List Nat) : Decidable (okE bs) := by unfold okE; infer_instance
def lastLess (l : List En) (e : En) : Bool := match l.getLast? with | none => true | some y => lessE y e
def takF : Nat → List Nat → List En → Option (List En × List Nat)
  | 0, bs, l => some (l, bs)
  | m + 1, bs, l => if okE bs ∧ lastLess l (r4e bs) = true then takF m (r4d bs) (l ++ [r4e bs]) else none
def takR (bs : List Nat) : Option (List En) :=
  if 4096 < (rcount bs).1 then none else match takF (rcount bs).1 (rcount bs).2.1 [] with
  | none => none
  | some (l, rest) => if rest = [83] then some l else none
def goodE (e : En) : Prop := e.t < 4 ∧ Fits e.x.k ∧ Fits e.x.c.v ∧ 1 ≤ e.x.c.s ∧ e.x.c.s ≤ 4611686018427387903 ∧ e.x.c.dead = false
theorem lessK_trans {t k t' k' t'' k'' : Int} (h : lessK t k t' k' = true) (h2 : lessK t' k' t'' k'' = true) : lessK t k t'' k'' = true := by
  unfold lessK at *
  simp only [Bool.or_eq_true, Bool.and_eq_true, decide_eq_true_eq] at *
  omega
theorem tag_pair {t : Nat} {l : List Ix} (h : Up l) : (tag t l).Pairwise fun a b => lessE a b = true := by
  unfold tag
  rw [List.pairwise_map]
  refine List.Pairwise.imp ?_ h
  intro a b hab
  unfold lessE lessK
  simp [hab]
theorem allE_pair {ps : Nat → List Ix} : ∀ (n i : Nat), (∀ j, i ≤ j → j < i + n → Up (ps j)) → (allE ps i n).Pairwise fun a b => lessE a b = true
  | 0, _, _ => List.Pairwise.nil
  | n + 1, i, h => by
    rw [allE, List.pairwise_append]
    refine ⟨tag_pair (h i (Nat.le_refl _) (by omega)), allE_pair n (i + 1) fun j a b => h j (by omega) (by omega), fun a ha b hb => ?_⟩
    have h1 := (mem_tag ha).1
    obtain ⟨h2, _, _⟩ := mem_allE hb
    have h3 : (a.t : Int) < (b.t : Int) := by omega
    unfold lessE lessK
    simp [h3]
theorem last_all {l : List En} {e : En} (hp : l.Pairwise fun a b => lessE a b = true) (h : lastLess l e = true) : ∀ x ∈ l, lessE x e = true := by
  unfold lastLess at h
  cases hl : l.getLast? with
  | none =>
    intro x hx
    rw [List.getLast?_eq_none_iff.1 hl] at hx
    cases hx
  | some y =>
    rw [hl] at h
    obtain ⟨i, rfl⟩ := List.getLast?_eq_some_iff.1 hl
    intro x hx
    rcases List.mem_append.1 hx with hx | hx
    · have := (List.pairwise_append.1 hp).2.2 x hx y (by simp)
      exact lessK_trans this h
    · rw [List.mem_singleton.1 hx]; exact h
/-- Is there an entry at a key or behind it? -/
def reachB (t k : Int) (ts : Tb) : Bool := !(fromE t k ts).isEmpty
theorem ents_snoc {ts : Tb} (hu : ∀ i, i < 4 → Up (ts i)) {e : En} (ht : e.t < 4) (h : lastLess (ents ts) e = true) : ents (ts.upd e.t (ins e.x (ts e.t))) = ents ts ++ [e] := by
  have hp := allE_pair (ps := ts) 4 0 fun j _ hj => hu j (by omega)
  rw [← goE_ents ht (hu _ ht) e.x]
  have h9 := goE_lo (f := e) (r := []) (ents ts) (last_all hp h)
  rw [List.append_nil] at h9
  exact h9
/-- The greatest transaction. -/
def maxQ (l : List En) : Int := l.foldl (fun m e => max m e.x.c.s) 0
theorem NumT.upd {ts : Tb} (h : NumT ts) {e : En} (hg : goodE e) : NumT (ts.upd e.t (ins e.x (ts e.t))) := fun i hi y hy => by
  unfold Tb.upd at hy
  split at hy
  · rename_i e9
    subst e9
    rcases mem_ins hy with rfl | hy
    · exact ⟨hg.2.1, hg.2.2.1, by have := hg.2.2.2.1; omega, by have := hg.2.2.2.2.1; omega⟩
    · exact h _ hi y hy
  · exact h i hi y hy
end Go.Proofs.Ytejpjbmbcdgomaa

/- A sweep that nobody writes beside, pure. -/
namespace Go.Proofs.Ytejpjbmbcdgomaa
set_option maxRecDepth 100000
open Go.RowKit

/-- What lies at a key or behind it. -/
def restE (S : List En) (ct ck : Int) : List En := S.filter fun e => !lessK e.t e.x.k ct ck
theorem behind_keep {t k : Int} (x : En) (hx : Fits x.x.k) : (!lessK x.t x.x.k (bhT t k) (bhK k)) = lessK t k x.t x.x.k := by
  unfold Fits at hx
  unfold lessK bhT bhK
  by_cases h : k = 9223372036854775807
  · rw [if_pos h, if_pos h, Bool.eq_iff_iff]
    simp only [Bool.not_eq_true', Bool.or_eq_false_iff, decide_eq_false_iff_not, Bool.and_eq_false_iff, Bool.or_eq_true, decide_eq_true_eq, Bool.and_eq_true]
    omega
  · rw [if_neg h, if_neg h, Bool.eq_iff_iff]
    simp only [Bool.not_eq_true', Bool.or_eq_false_iff, decide_eq_false_iff_not, Bool.and_eq_false_iff, Bool.or_eq_true, decide_eq_true_eq, Bool.and_eq_true]
    omega
end Go.Proofs.Ytejpjbmbcdgomaa

/- A sweep beside what is put, pure. -/
namespace Go.Proofs.Ytejpjbmbcdgomaa
set_option maxRecDepth 100000
open Go.RowKit

theorem filter_or {α : Type} {P Q : α → Bool} : ∀ {l : List α}, l.Pairwise (fun a b => ¬ (Q a = true ∧ P b = true)) → (∀ a ∈ l, ¬ (P a = true ∧ Q a = true)) → l.filter (fun a => P a || Q a) = l.filter P ++ l.filter Q
  | [], _, _ => rfl
  | a :: l, h, hd => by
    obtain ⟨h1, h2⟩ := List.pairwise_cons.1 h
    have ih := filter_or h2 fun b hb => hd b (by simp [hb])
    cases hp : P a with
    | true =>
      have hq : Q a = false := by
        cases hq : Q a with
        | false => rfl
        | true => exact absurd ⟨hp, hq⟩ (hd a (by simp))
      rw [List.filter_cons_of_pos (by simp [hp]), List.filter_cons_of_pos (by simp [hp]), List.filter_cons_of_neg (by simp [hq]), ih]
      rfl
    | false =>
      cases hq : Q a with
      | false => rw [List.filter_cons_of_neg (by simp [hp, hq]), List.filter_cons_of_neg (by simp [hp]), List.filter_cons_of_neg (by simp [hq]), ih]
      | true =>
        have hn : l.filter P = [] := List.filter_eq_nil_iff.2 fun b hb hpb => h1 b hb ⟨hq, hpb⟩
        rw [List.filter_cons_of_pos (by simp [hq]), List.filter_cons_of_neg (by simp [hp]), List.filter_cons_of_pos (by simp [hq]), ih, hn]
        rfl
def keyB (t k : Int) (e : En) : Bool := decide ((e.t : Int) = t) && decide (e.x.k = k)
theorem keyB_iff {t k : Int} {e : En} : keyB t k e = true ↔ (e.t : Int) = t ∧ e.x.k = k := by unfold keyB; simp
theorem lessK_irr (t k : Int) : lessK t k t k = false := by unfold lessK; simp
theorem lessE_key {a b : En} (h : lessE a b = true) : ¬ ((a.t : Int) = b.t ∧ a.x.k = b.x.k) := by
  unfold lessE lessK at h
  simp only [Bool.or_eq_true, decide_eq_true_eq, Bool.and_eq_true] at h
  omega
/-- Live entries in order. -/
structure OkL (L : List En) : Prop where
  pair : L.Pairwise fun a b => lessE a b = true
  num : ∀ x ∈ L, x.t < 4 ∧ Fits x.x.k
theorem OkL.uniq {L : List En} (h : OkL L) {a b : En} (ha : a ∈ L) (hb : b ∈ L) (e : (a.t : Int) = b.t ∧ a.x.k = b.x.k) : a = b := by
  obtain ⟨i, hi, rfl⟩ := List.mem_iff_getElem.1 ha
  obtain ⟨j, hj, rfl⟩ := List.mem_iff_getElem.1 hb
  have hp := List.pairwise_iff_getElem.1 h.pair
  rcases Nat.lt_trichotomy i j with hij | hij | hij
  · exact absurd e (lessE_key (hp i j hi hj hij))
  · subst hij; rfl
  · exact absurd ⟨e.1.symm, e.2.symm⟩ (lessE_key (hp j i hj hi hij))
theorem filter_key {L : List En} : ∀ (_ : OkL L) {e : En} (_ : e ∈ L), L.filter (keyB e.t e.x.k) = [e] := by
  induction L with
  | nil => intro _ e h; cases h
  | cons a L ih =>
    intro h e he
    obtain ⟨h1, h2⟩ := List.pairwise_cons.1 h.pair
    have h3 : OkL L := ⟨h2, fun x hx => h.num x (by simp [hx])⟩
    rcases List.mem_cons.1 he with rfl | he
    · rw [List.filter_cons_of_pos (keyB_iff.2 ⟨rfl, rfl⟩), List.filter_eq_nil_iff.2 fun b hb hk => ?_]
      have := keyB_iff.1 hk
      exact lessE_key (h1 b hb) ⟨this.1.symm, this.2.symm⟩
    · rw [List.filter_cons_of_neg fun hk => lessE_key (h1 e he) (keyB_iff.1 hk)]
      exact ih h3 he
theorem rest_behind {S : List En} (hf : ∀ x ∈ S, Fits x.x.k) {t k ct ck : Int} (hk : lessK t k ct ck = false) : restE S (bhT t k) (bhK k) = (restE S ct ck).filter fun e => lessK t k e.t e.x.k := by
  unfold restE
  rw [List.filter_filter]
  refine List.filter_congr fun x hx => ?_
  rw [behind_keep x (hf x hx), Bool.eq_iff_iff]
  unfold lessK at hk ⊢
  simp only [Bool.not_eq_true', Bool.or_eq_false_iff, decide_eq_false_iff_not, Bool.and_eq_false_iff, Bool.or_eq_true, decide_eq_true_eq, Bool.and_eq_true] at hk ⊢
  omega
theorem mem_rest {S : List En} {ct ck : Int} {e : En} : e ∈ restE S ct ck ↔ e ∈ S ∧ lessK e.t e.x.k ct ck = false := by
  unfold restE
  rw [List.mem_filter]
  simp
/-- Between two keys: L0 what lived at the beginning, L what lives now. -/
structure TellI (L0 L : List En) (NS : List Nt) (T : List En) (ct ck : Int) : Prop where
  t : T = L0.filter fun e => lessK e.t e.x.k ct ck
  up : UpN NS
  ge : ∀ x ∈ NS, lessK x.e.t x.e.x.k ct ck = false
  num : ∀ x ∈ NS, x.e.t < 4 ∧ Fits x.e.x.k
  wa : ∀ x ∈ NS, (x.live = true → x.e ∈ L0) ∧ (x.live = false → ∀ e ∈ L0, ¬ ((e.t : Int) = x.e.t ∧ e.x.k = x.e.x.k))
  eq : ∀ e : En, Fits e.x.k → lessK e.t e.x.k ct ck = false → (∀ x ∈ NS, ¬ ((x.e.t : Int) = e.t ∧ x.e.x.k = e.x.k)) → (e ∈ L0 ↔ e ∈ L)
  c : 0 ≤ ct ∧ ct ≤ 4 ∧ Fits ck
theorem TellI.start {L : List En} (h : OkL L) : TellI L L [] [] 0 (-9223372036854775808) := by
  refine ⟨(List.filter_eq_nil_iff.2 fun e he => ?_).symm, List.Pairwise.nil, (fun x hx => by cases hx), (fun x hx => by cases hx), (fun x hx => by cases hx), fun _ _ _ _ => Iff.rfl, ⟨by decide, by decide, by decide, by decide⟩⟩
  have := (h.num e he).2
  unfold Fits at this
  unfold lessK
  simp only [Bool.or_eq_true, decide_eq_true_eq, Bool.and_eq_true]
  omega
theorem bh_ok {t k : Int} (h0 : 0 ≤ t) (h1 : t < 4) (hk : Fits k) : 0 ≤ bhT t k ∧ bhT t k ≤ 4 ∧ Fits (bhK k) := by
  unfold Fits at hk ⊢
  unfold bhT bhK
  split <;> omega
theorem less_bh {t k : Int} (e : En) (he : Fits e.x.k) : lessK e.t e.x.k (bhT t k) (bhK k) = !lessK t k e.t e.x.k := by
  have := behind_keep (t := t) (k := k) e he
  rw [← this, Bool.not_not]
/-- A key is gone past. -/
theorem TellI.pass {L0 L : List En} {NS NS' : List Nt} {T : List En} {ct ck : Int} (h : TellI L0 L NS T ct ck) (h0 : OkL L0) {t k : Int} (ht : 0 ≤ t ∧ t < 4) (hk : Fits k) (hge : lessK t k ct ck = false)
    (hno : ∀ e ∈ L0, lessK e.t e.x.k ct ck = false → lessK e.t e.x.k t k = false) (hsub : ∀ x ∈ NS', x ∈ NS) (hup : UpN NS') (hgt : ∀ x ∈ NS', lessK t k x.e.t x.e.x.k = true) (hall : ∀ x ∈ NS, x ∈ NS' ∨ ((x.e.t : Int) = t ∧ x.e.x.k = k)) :
    TellI L0 L NS' (T ++ L0.filter (keyB t k)) (bhT t k) (bhK k) := by
  refine ⟨?_, hup, fun x hx => ?_, fun x hx => h.num x (hsub x hx), fun x hx => h.wa x (hsub x hx), fun e he hl hn => ?_, bh_ok ht.1 ht.2 hk⟩
  · rw [h.t, ← filter_or (P := fun e => lessK e.t e.x.k ct ck) (Q := keyB t k)]
    · refine List.filter_congr fun e he => ?_
      rw [less_bh e (h0.num e he).2, Bool.eq_iff_iff]
      have h9 := hno e he
      unfold keyB
      unfold lessK at h9 hge ⊢
      simp only [Bool.not_eq_true', Bool.or_eq_false_iff, decide_eq_false_iff_not, Bool.and_eq_false_iff, Bool.or_eq_true, decide_eq_true_eq, Bool.and_eq_true] at h9 hge ⊢
      omega
    · refine h0.pair.imp fun {a b} hab ⟨h1, h2⟩ => ?_
      have h3 := keyB_iff.1 h1
      unfold lessE lessK at hab
      unfold lessK at h2 hge
      simp only [Bool.or_eq_true, decide_eq_true_eq, Bool.and_eq_true, Bool.or_eq_false_iff, decide_eq_false_iff_not, Bool.and_eq_false_iff] at hab h2 hge
      omega
    · rintro a _ ⟨h1, h2⟩
      have h3 := keyB_iff.1 h2
      rw [h3.1, h3.2, hge] at h1
      cases h1
  · rw [less_bh x.e (h.num x (hsub x hx)).2, hgt x hx]
    rfl
  · rw [less_bh e he] at hl
    have hl2 : lessK t k e.t e.x.k = true := by simpa using hl
    refine h.eq e he ?_ fun x hx hs => ?_
    · unfold lessK at hge hl2 ⊢
      simp only [Bool.or_eq_true, decide_eq_true_eq, Bool.and_eq_true, Bool.or_eq_false_iff, decide_eq_false_iff_not, Bool.and_eq_false_iff] at hge hl2 ⊢
      omega
    · rcases hall x hx with h1 | h1
      · exact hn x h1 hs
      · rw [← hs.1, ← hs.2, h1.1, h1.2, lessK_irr] at hl2
        cases hl2
theorem stepS_same : ∀ (n : Nat) {A B : List En} (NS : List Nt) (T : List En) (ct ck : Int), A.take n = B.take n → stepS n A NS T ct ck = stepS n B NS T ct ck
  | 0, _, _, _, _, _, _, _ => rfl
  | n + 1, [], [], _, _, _, _, _ => rfl
  | n + 1, [], b :: B, _, _, _, _, h => by simp at h
  | n + 1, a :: A, [], _, _, _, _, h => by simp at h
  | n + 1, a :: A, b :: B, NS, T, ct, ck, h => by
    rw [List.take_succ_cons, List.take_succ_cons] at h
    injection h with h1 h2
    subst h1
    cases NS with
    | nil => exact stepS_same n [] (T ++ [a]) _ _ h2
    | cons x NS =>
      show (if lessK a.t a.x.k x.e.t x.e.x.k then stepS n A (x :: NS) (T ++ [a]) (bhT a.t a.x.k) (bhK a.x.k) else stepS n (if sameK a x.e then A else a :: A) NS (passT T x.e x.live) (bhT x.e.t x.e.x.k) (bhK x.e.x.k)) = (if lessK a.t a.x.k x.e.t x.e.x.k then stepS n B (x :: NS) (T ++ [a]) (bhT a.t a.x.k) (bhK a.x.k) else stepS n (if sameK a x.e then B else a :: B) NS (passT T x.e x.live) (bhT x.e.t x.e.x.k) (bhK x.e.x.k))
      split
      · exact stepS_same n (x :: NS) _ _ _ h2
      · refine stepS_same n NS _ _ _ ?_
        split
        · exact h2
        · cases n with
          | zero => rfl
          | succ n =>
            rw [List.take_succ_cons, List.take_succ_cons]
            have h3 := congrArg (List.take n) h2
            rw [List.take_take, List.take_take, Nat.min_eq_left (Nat.le_succ n)] at h3
            rw [h3]
/-- The key that is gone through next. -/
def nextK : List En → List Nt → Option (Int × Int)
  | [], [] => none
  | [], x :: _ => some (x.e.t, x.e.x.k)
  | y :: _, [] => some (y.t, y.x.k)
  | y :: _, x :: _ => if lessK y.t y.x.k x.e.t x.e.x.k then some (y.t, y.x.k) else some (x.e.t, x.e.x.k)
theorem TellI.all {L0 L : List En} {T : List En} {ct ck : Int} (h : TellI L0 L [] T ct ck) (h0 : OkL L0) (hr : restE L ct ck = []) : T = L0 := by
  rw [h.t]
  refine List.filter_eq_self.2 fun e he => ?_
  cases hc : lessK e.t e.x.k ct ck with
  | true => rfl
  | false =>
    have h1 := (h.eq e (h0.num e he).2 hc fun x hx => by cases hx).1 he
    have h2 : e ∈ restE L ct ck := mem_rest.2 ⟨h1, hc⟩
    rw [hr] at h2
    cases h2
theorem rest_ok {L : List En} (h : OkL L) (ct ck : Int) : OkL (restE L ct ck) := ⟨h.pair.filter _, fun x hx => h.num x (mem_rest.1 hx).1⟩
/-- One key more: the state behind it, as a step has it. -/
theorem TellI.one {L0 L : List En} {NS : List Nt} {T : List En} {ct ck : Int} (h : TellI L0 L NS T ct ck) (h0 : OkL L0) (hL : OkL L) (n : Nat) :
    (nextK (restE L ct ck) NS = none ∧ stepS (n + 1) (restE L ct ck) NS T ct ck = (NS, T, ct, ck, true) ∧ NS = [] ∧ T = L0) ∨
    ∃ (t : Nat) (k : Int) (NS' : List Nt) (T' : List En), nextK (restE L ct ck) NS = some ((t : Int), k) ∧ t < 4 ∧ Fits k ∧ lessK t k ct ck = false ∧ NS'.length ≤ NS.length ∧ (∀ x, x ∈ NS' ↔ x ∈ NS ∧ lessK t k x.e.t x.e.x.k = true) ∧ T'.length ≤ T.length + 1 ∧ TellI L0 L NS' T' (bhT t k) (bhK k) ∧ stepS (n + 1) (restE L ct ck) NS T ct ck = stepS n (restE L (bhT t k) (bhK k)) NS' T' (bhT t k) (bhK k) := by
  have hro := rest_ok hL ct ck
  cases hr : restE L ct ck with
  | nil =>
    cases NS with
    | nil => exact .inl ⟨rfl, rfl, rfl, h.all h0 hr⟩
    | cons x NS =>
      right
      obtain ⟨hx4, hxf⟩ := h.num x (by simp)
      have hge := h.ge x (by simp)
      obtain ⟨u1, u2⟩ := List.pairwise_cons.1 h.up
      have hno : ∀ e ∈ L0, lessK e.t e.x.k ct ck = false → lessK e.t e.x.k x.e.t x.e.x.k = false := fun e he hc => by
        cases hl : lessK e.t e.x.k x.e.t x.e.x.k with
        | false => rfl
        | true =>
          have h1 := (h.eq e (h0.num e he).2 hc fun z hz hs => ?_).1 he
          · have h2 : e ∈ restE L ct ck := mem_rest.2 ⟨h1, hc⟩
            rw [hr] at h2
            cases h2
          · rw [← hs.1, ← hs.2] at hl
            rcases List.mem_cons.1 hz with rfl | hz
            · rw [lessK_irr] at hl; cases hl
            · have := lessK_trans (u1 z hz) hl
              rw [lessK_irr] at this; cases this
      have hp := h.pass (NS' := NS) h0 (t := x.e.t) (k := x.e.x.k) ⟨by omega, by omega⟩ hxf hge hno (fun z hz => by simp [hz]) u2 (fun z hz => u1 z hz) (fun z hz => by
        rcases List.mem_cons.1 hz with rfl | hz
        · exact .inr ⟨rfl, rfl⟩
        · exact .inl hz)
      have hT : T ++ L0.filter (keyB x.e.t x.e.x.k) = passT T x.e x.live := by
        unfold passT
        cases hlv : x.live with
        | true => rw [filter_key h0 ((h.wa x (by simp)).1 hlv), if_pos rfl]
        | false => rw [List.filter_eq_nil_iff.2 fun e he hk => (h.wa x (by simp)).2 hlv e he (keyB_iff.1 hk), if_neg (by decide), List.append_nil]
      rw [hT] at hp
      refine ⟨x.e.t, x.e.x.k, NS, _, rfl, hx4, hxf, hge, by simp, fun z => ⟨fun hz => ⟨by simp [hz], u1 z hz⟩, fun hz => ?_⟩, ?_, hp, ?_⟩
      · rcases List.mem_cons.1 hz.1 with rfl | h1
        · have := hz.2; rw [lessK_irr] at this; cases this
        · exact h1
      · unfold passT; split <;> simp
      · rw [rest_behind (fun e he => (hL.num e he).2) hge, hr]
        rfl
  | cons y r =>
    have hyR : y ∈ restE L ct ck := by rw [hr]; simp
    obtain ⟨hyL, hyc⟩ := mem_rest.1 hyR
    obtain ⟨hy4, hyf⟩ := hL.num y hyL
    rw [hr] at hro
    obtain ⟨v1, v2⟩ := List.pairwise_cons.1 hro.pair
    have hyle : ∀ e ∈ L, lessK e.t e.x.k ct ck = false → lessK e.t e.x.k y.t y.x.k = false := fun e he hc => by
      have h2 : e ∈ restE L ct ck := mem_rest.2 ⟨he, hc⟩
      rw [hr] at h2
      rcases List.mem_cons.1 h2 with rfl | h2
      · exact lessK_irr _ _
      · cases hl : lessK e.t e.x.k y.t y.x.k with
        | false => rfl
        | true =>
          have := lessK_trans (v1 e h2) hl
          rw [lessK_irr] at this; cases this
    by_cases hch : ∃ x NS', NS = x :: NS' ∧ lessK y.t y.x.k x.e.t x.e.x.k = false
    · -- a note goes first
      obtain ⟨x, NS', rfl, hyx⟩ := hch
      right
      obtain ⟨hx4, hxf⟩ := h.num x (by simp)
      have hge := h.ge x (by simp)
      obtain ⟨u1, u2⟩ := List.pairwise_cons.1 h.up
      have hno : ∀ e ∈ L0, lessK e.t e.x.k ct ck = false → lessK e.t e.x.k x.e.t x.e.x.k = false := fun e he hc => by
        cases hl : lessK e.t e.x.k x.e.t x.e.x.k with
        | false => rfl
        | true =>
          have h1 := (h.eq e (h0.num e he).2 hc fun z hz hs => ?_).1 he
          · have h2 := hyle e h1 hc
            exfalso
            unfold lessK at h2 hl hyx
            simp only [Bool.or_eq_true, decide_eq_true_eq, Bool.and_eq_true, Bool.or_eq_false_iff, decide_eq_false_iff_not, Bool.and_eq_false_iff] at h2 hl hyx
            omega
          · rw [← hs.1, ← hs.2] at hl
            rcases List.mem_cons.1 hz with rfl | hz
            · rw [lessK_irr] at hl; cases hl
            · have := lessK_trans (u1 z hz) hl
              rw [lessK_irr] at this; cases this
      have hp := h.pass (NS' := NS') h0 (t := x.e.t) (k := x.e.x.k) ⟨by omega, by omega⟩ hxf hge hno (fun z hz => by simp [hz]) u2 (fun z hz => u1 z hz) (fun z hz => by
        rcases List.mem_cons.1 hz with rfl | hz
        · exact .inr ⟨rfl, rfl⟩
        · exact .inl hz)
      have hT : T ++ L0.filter (keyB x.e.t x.e.x.k) = passT T x.e x.live := by
        unfold passT
        cases hlv : x.live with
        | true => rw [filter_key h0 ((h.wa x (by simp)).1 hlv), if_pos rfl]
        | false => rw [List.filter_eq_nil_iff.2 fun e he hk => (h.wa x (by simp)).2 hlv e he (keyB_iff.1 hk), if_neg (by decide), List.append_nil]
      rw [hT] at hp
      refine ⟨x.e.t, x.e.x.k, NS', _, by show (if lessK y.t y.x.k x.e.t x.e.x.k then _ else _) = _; rw [if_neg (by rw [hyx]; decide)], hx4, hxf, hge, by simp, fun z => ⟨fun hz => ⟨by simp [hz], u1 z hz⟩, fun hz => ?_⟩, ?_, hp, ?_⟩
      · rcases List.mem_cons.1 hz.1 with rfl | h1
        · have := hz.2; rw [lessK_irr] at this; cases this
        · exact h1
      · unfold passT; split <;> simp
      · rw [rest_behind (fun e he => (hL.num e he).2) hge, hr]
        show (if lessK y.t y.x.k x.e.t x.e.x.k then _ else stepS n (if sameK y x.e then r else y :: r) NS' (passT T x.e x.live) (bhT x.e.t x.e.x.k) (bhK x.e.x.k)) = _
        rw [if_neg (by rw [hyx]; decide)]
        by_cases hs : sameK y x.e = true
        · rw [if_pos hs]
          unfold sameK at hs
          simp only [Bool.and_eq_true, decide_eq_true_eq] at hs
          rw [List.filter_cons_of_neg (by rw [hs.1, hs.2, lessK_irr]; decide), List.filter_eq_self.2 fun e he => ?_]
          have := v1 e he
          unfold lessE at this
          rw [hs.1, hs.2] at this
          exact this
        · rw [if_neg hs]
          have hxy : lessK x.e.t x.e.x.k y.t y.x.k = true := lessK_total hyx fun e => hs (by unfold sameK; simp [e.1, e.2])
          rw [List.filter_eq_self.2 fun e he => ?_]
          rcases List.mem_cons.1 he with rfl | he
          · exact hxy
          · exact lessK_trans hxy (v1 e he)
    · -- the live entry goes first
      right
      have hgt : ∀ x ∈ NS, lessK y.t y.x.k x.e.t x.e.x.k = true := fun x hx => by
        cases NS with
        | nil => cases hx
        | cons x0 NS' =>
          have h1 : lessK y.t y.x.k x0.e.t x0.e.x.k = true := by
            cases hc : lessK y.t y.x.k x0.e.t x0.e.x.k with
            | true => rfl
            | false => exact absurd ⟨x0, NS', rfl, hc⟩ hch
          rcases List.mem_cons.1 hx with rfl | hx
          · exact h1
          · exact lessK_trans h1 ((List.pairwise_cons.1 h.up).1 x hx)
      have hnot : ∀ e : En, lessK e.t e.x.k y.t y.x.k = true ∨ ((e.t : Int) = y.t ∧ e.x.k = y.x.k) → ∀ z ∈ NS, ¬ ((z.e.t : Int) = e.t ∧ z.e.x.k = e.x.k) := fun e he z hz hs => by
        have h1 := hgt z hz
        rw [hs.1, hs.2] at h1
        rcases he with he | he
        · have := lessK_trans he h1
          rw [lessK_irr] at this; cases this
        · rw [he.1, he.2, lessK_irr] at h1; cases h1
      have hno : ∀ e ∈ L0, lessK e.t e.x.k ct ck = false → lessK e.t e.x.k y.t y.x.k = false := fun e he hc => by
        cases hl : lessK e.t e.x.k y.t y.x.k with
        | false => rfl
        | true =>
          have h1 := (h.eq e (h0.num e he).2 hc (hnot e (.inl hl))).1 he
          have h2 := hyle e h1 hc
          rw [hl] at h2; cases h2
      have hy0 : y ∈ L0 := (h.eq y hyf hyc (hnot y (.inr ⟨rfl, rfl⟩))).2 hyL
      have hp := h.pass (NS' := NS) h0 (t := y.t) (k := y.x.k) ⟨by omega, by omega⟩ hyf hyc hno (fun z hz => hz) h.up hgt (fun z hz => .inl hz)
      rw [filter_key h0 hy0] at hp
      refine ⟨y.t, y.x.k, NS, _, ?_, hy4, hyf, hyc, Nat.le_refl _, fun z => ⟨fun hz => ⟨hz, hgt z hz⟩, fun hz => hz.1⟩, by simp, hp, ?_⟩
      · cases NS with
        | nil => rfl
        | cons x0 NS' =>
        show (if lessK y.t y.x.k x0.e.t x0.e.x.k then _ else _) = _
        rw [if_pos (hgt x0 (by simp))]
      · have hrb : restE L (bhT y.t y.x.k) (bhK y.x.k) = r := by
          rw [rest_behind (fun e he => (hL.num e he).2) hyc, hr, List.filter_cons_of_neg (by rw [lessK_irr]; decide)]
          exact List.filter_eq_self.2 fun e he => v1 e he
        rw [hrb]
        cases NS with
        | nil => rfl
        | cons x0 NS' =>
          show (if lessK y.t y.x.k x0.e.t x0.e.x.k then stepS n r (x0 :: NS') (T ++ [y]) (bhT y.t y.x.k) (bhK y.x.k) else _) = _
          rw [if_pos (hgt x0 (by simp))]
end Go.Proofs.Ytejpjbmbcdgomaa

/- The law's stands: a store stands as the document says. Written by gen_sstands.py. -/
namespace Go.Proofs.Ytejpjbmbcdgomaa
set_option maxRecDepth 100000
open Go.RowKit

theorem getC_mem : ∀ {l : List Ix}, Up l → ∀ {x : Ix}, x ∈ l → getC x.k l = some x.c
  | y :: l, h, x, hx => by
    obtain ⟨h1, h2⟩ := List.pairwise_cons.1 h
    rw [getC_cons]
    rcases List.mem_cons.1 hx with e | e
    · rw [if_pos (by rw [e]), e]
    · rw [if_neg (by have := h1 x e; omega)]
      exact getC_mem h2 e
theorem cellAt_mem {ts : Tb} (hu : ∀ i, i < 4 → Up (ts i)) {e : En} (he : e ∈ ents ts) : cellAt ts (e.t : Int) e.x.k = some e.x.c := by
  obtain ⟨_, h2, h3⟩ := mem_allE he
  rw [cellAt_in ⟨by omega, by omega⟩, Int.toNat_natCast]
  exact getC_mem (hu _ (by omega)) h3
end Go.Proofs.Ytejpjbmbcdgomaa
