/- VTellD: put together. -/
import Derived.Test.YtejpjbmbcdgomaaPt46
/- The document's step beside the program's, pure. -/
namespace Go.Proofs.Ytejpjbmbcdgomaa
set_option maxRecDepth 100000
open Go.RowKit

def betterB (k : Int × Int) : Option (Int × Int) → Bool
  | none => true
  | some b => lessK k.1 k.2 b.1 b.2
def pickB (c : Bool) (k : Int × Int) (o : Option (Int × Int)) : Option (Int × Int) := if c && betterB k o then some k else o
def bestE (b : Bool) (yt yk : Int) (E : List En) (o : Option (Int × Int)) : Option (Int × Int) := E.foldl (fun o e => pickB (!e.x.c.dead && aheadB b yt yk e.t e.x.k) ((e.t : Int), e.x.k) o) o
def bestN (b : Bool) (yt yk : Int) (KS : List (Int × Int)) (o : Option (Int × Int)) : Option (Int × Int) := KS.foldl (fun o p => pickB (aheadB b yt yk p.1 p.2) p o) o
theorem bestE_snoc (b : Bool) (yt yk : Int) (E : List En) (e : En) (o : Option (Int × Int)) : bestE b yt yk (E ++ [e]) o = pickB (!e.x.c.dead && aheadB b yt yk e.t e.x.k) ((e.t : Int), e.x.k) (bestE b yt yk E o) := by
  unfold bestE
  rw [List.foldl_append]
  rfl
theorem bestN_snoc (b : Bool) (yt yk : Int) (KS : List (Int × Int)) (p : Int × Int) (o : Option (Int × Int)) : bestN b yt yk (KS ++ [p]) o = pickB (aheadB b yt yk p.1 p.2) p (bestN b yt yk KS o) := by
  unfold bestN
  rw [List.foldl_append]
  rfl
/-- The least of some keys. -/
structure Least (C : Int × Int → Prop) (o : Option (Int × Int)) : Prop where
  no : o = none → ∀ c, ¬ C c
  yes : ∀ p, o = some p → C p ∧ ∀ c, C c → lessK c.1 c.2 p.1 p.2 = false
theorem Least.more {C : Int × Int → Prop} {o : Option (Int × Int)} (h : Least C o) (c : Bool) (k : Int × Int) : Least (fun q => C q ∨ (c = true ∧ q = k)) (pickB c k o) := by
  unfold pickB
  cases c with
  | false =>
    simp only [Bool.false_and, if_neg Bool.false_ne_true]
    refine ⟨fun e q hq => ?_, fun p e => ⟨.inl (h.yes p e).1, fun q hq => ?_⟩⟩
    · rcases hq with hq | ⟨hq, _⟩
      · exact h.no e q hq
      · cases hq
    · rcases hq with hq | ⟨hq, _⟩
      · exact (h.yes p e).2 q hq
      · cases hq
  | true =>
    cases o with
    | none =>
      rw [if_pos (by rfl)]
      exact ⟨fun e => (by cases e), fun p e => by
        injection e with e
        subst e
        exact ⟨.inr ⟨rfl, rfl⟩, fun q hq => by
          rcases hq with hq | ⟨_, rfl⟩
          · exact absurd hq (h.no rfl q)
          · exact lessK_irr _ _⟩⟩
    | some b =>
      cases hb : lessK k.1 k.2 b.1 b.2 with
      | true =>
        rw [if_pos (by show (true && lessK k.1 k.2 b.1 b.2) = true; rw [hb]; rfl)]
        exact ⟨fun e => (by cases e), fun p e => by
          injection e with e
          subst e
          exact ⟨.inr ⟨rfl, rfl⟩, fun q hq => by
            rcases hq with hq | ⟨_, rfl⟩
            · have h1 := (h.yes b rfl).2 q hq
              cases hc : lessK q.1 q.2 k.1 k.2 with
              | false => rfl
              | true => rw [lessK_trans hc hb] at h1; cases h1
            · exact lessK_irr _ _⟩⟩
      | false =>
        rw [if_neg (by show ¬ (true && lessK k.1 k.2 b.1 b.2) = true; rw [hb]; decide)]
        exact ⟨fun e => (by cases e), fun p e => by
          injection e with e
          subst e
          exact ⟨.inl (h.yes b rfl).1, fun q hq => by
            rcases hq with hq | ⟨_, rfl⟩
            · exact (h.yes b rfl).2 q hq
            · exact hb⟩⟩
theorem Least.iff {C D : Int × Int → Prop} {o : Option (Int × Int)} (h : Least C o) (he : ∀ q, C q ↔ D q) : Least D o :=
  ⟨fun e c hc => h.no e c ((he c).2 hc), fun p e => ⟨(he p).1 (h.yes p e).1, fun c hc => (h.yes p e).2 c ((he c).2 hc)⟩⟩
theorem Least.uniq {C : Int × Int → Prop} {o r : Option (Int × Int)} (h : Least C o) (g : Least C r) : o = r := by
  cases o with
  | none =>
    cases r with
    | none => rfl
    | some p => exact absurd (g.yes p rfl).1 (h.no rfl p)
  | some q =>
    cases r with
    | none => exact absurd (h.yes q rfl).1 (g.no rfl q)
    | some p =>
      have h1 := (h.yes q rfl).2 p (g.yes p rfl).1
      have h2 := (g.yes p rfl).2 q (h.yes q rfl).1
      obtain ⟨a, b⟩ := p
      obtain ⟨c, d⟩ := q
      unfold lessK at h1 h2
      simp only [Bool.or_eq_false_iff, decide_eq_false_iff_not, Bool.and_eq_false_iff] at h1 h2
      have e1 : c = a := by omega
      have e2 : d = b := by omega
      rw [e1, e2]
theorem least_E {C : Int × Int → Prop} (b : Bool) (yt yk : Int) : ∀ (E : List En) {o : Option (Int × Int)}, Least C o → Least (fun q => C q ∨ ∃ e ∈ E, (!e.x.c.dead && aheadB b yt yk e.t e.x.k) = true ∧ q = ((e.t : Int), e.x.k)) (bestE b yt yk E o) := fun E => by
  induction E generalizing C with
  | nil => intro o h; exact h.iff fun q => ⟨.inl, fun e => e.elim id fun ⟨_, e, _⟩ => (by cases e)⟩
  | cons e E ih =>
    intro o h
    refine (ih (h.more _ _)).iff fun q => ?_
    constructor
    · rintro ((hq | ⟨h1, rfl⟩) | ⟨f, hf, h1, rfl⟩)
      · exact .inl hq
      · exact .inr ⟨e, by simp, h1, rfl⟩
      · exact .inr ⟨f, by simp [hf], h1, rfl⟩
    · rintro (hq | ⟨f, hf, h1, rfl⟩)
      · exact .inl (.inl hq)
      · rcases List.mem_cons.1 hf with rfl | hf
        · exact .inl (.inr ⟨h1, rfl⟩)
        · exact .inr ⟨f, hf, h1, rfl⟩
theorem least_N {C : Int × Int → Prop} (b : Bool) (yt yk : Int) : ∀ (KS : List (Int × Int)) {o : Option (Int × Int)}, Least C o → Least (fun q => C q ∨ (q ∈ KS ∧ aheadB b yt yk q.1 q.2 = true)) (bestN b yt yk KS o) := fun KS => by
  induction KS generalizing C with
  | nil => intro o h; exact h.iff fun q => ⟨.inl, fun e => e.elim id fun ⟨e, _⟩ => (by cases e)⟩
  | cons p KS ih =>
    intro o h
    refine (ih (h.more _ _)).iff fun q => ?_
    constructor
    · rintro ((hq | ⟨h1, rfl⟩) | ⟨hf, h1⟩)
      · exact .inl hq
      · exact .inr ⟨by simp, h1⟩
      · exact .inr ⟨by simp [hf], h1⟩
    · rintro (hq | ⟨hf, h1⟩)
      · exact .inl (.inl hq)
      · rcases List.mem_cons.1 hf with rfl | hf
        · exact .inl (.inr ⟨h1, rfl⟩)
        · exact .inr ⟨hf, h1⟩
theorem least_next {LR : List En} {NS : List Nt} (hL : LR.Pairwise fun a b => lessE a b = true) (hN : UpN NS) : Least (fun q => (∃ e ∈ LR, q = ((e.t : Int), e.x.k)) ∨ ∃ x ∈ NS, q = ((x.e.t : Int), x.e.x.k)) (nextK LR NS) := by
  have kL : ∀ {y : En} {r : List En}, (y :: r).Pairwise (fun a b => lessE a b = true) → ∀ e ∈ y :: r, lessK e.t e.x.k y.t y.x.k = false := fun {y r} h e he => by
    rcases List.mem_cons.1 he with rfl | he
    · exact lessK_irr _ _
    · cases hc : lessK e.t e.x.k y.t y.x.k with
      | false => rfl
      | true => have := lessK_trans ((List.pairwise_cons.1 h).1 e he) hc; rw [lessK_irr] at this; cases this
  have kN : ∀ {y : Nt} {r : List Nt}, UpN (y :: r) → ∀ e ∈ y :: r, lessK e.e.t e.e.x.k y.e.t y.e.x.k = false := fun {y r} h e he => by
    rcases List.mem_cons.1 he with rfl | he
    · exact lessK_irr _ _
    · cases hc : lessK e.e.t e.e.x.k y.e.t y.e.x.k with
      | false => rfl
      | true => have := lessK_trans ((List.pairwise_cons.1 h).1 e he) hc; rw [lessK_irr] at this; cases this
  cases LR with
  | nil =>
    cases NS with
    | nil => exact ⟨fun _ c hc => (by rcases hc with ⟨_, e, _⟩ | ⟨_, e, _⟩ <;> cases e), fun p e => by cases e⟩
    | cons x NS =>
      refine ⟨fun e => (by cases e), fun p e => ?_⟩
      have e2 : some ((x.e.t : Int), x.e.x.k) = some p := e
      injection e2 with e2
      subst e2
      refine ⟨.inr ⟨x, by simp, rfl⟩, fun c hc => ?_⟩
      rcases hc with ⟨_, e, _⟩ | ⟨z, hz, rfl⟩
      · cases e
      · exact kN hN z hz
  | cons y r =>
    cases NS with
    | nil =>
      refine ⟨fun e => (by cases e), fun p e => ?_⟩
      have e2 : some ((y.t : Int), y.x.k) = some p := e
      injection e2 with e2
      subst e2
      refine ⟨.inl ⟨y, by simp, rfl⟩, fun c hc => ?_⟩
      rcases hc with ⟨z, hz, rfl⟩ | ⟨_, e, _⟩
      · exact kL hL z hz
      · cases e
    | cons x NS =>
      have e0 : nextK (y :: r) (x :: NS) = if lessK y.t y.x.k x.e.t x.e.x.k then some ((y.t : Int), y.x.k) else some ((x.e.t : Int), x.e.x.k) := rfl
      rw [e0]
      cases hc : lessK y.t y.x.k x.e.t x.e.x.k with
      | true =>
        rw [if_pos rfl]
        refine ⟨fun e => (by cases e), fun p e => ?_⟩
        injection e with e
        subst e
        refine ⟨.inl ⟨y, by simp, rfl⟩, fun c hcc => ?_⟩
        rcases hcc with ⟨z, hz, rfl⟩ | ⟨z, hz, rfl⟩
        · exact kL hL z hz
        · have h1 := kN hN z hz
          show lessK z.e.t z.e.x.k y.t y.x.k = false
          cases hd : lessK z.e.t z.e.x.k y.t y.x.k with
          | false => rfl
          | true => rw [lessK_trans hd hc] at h1; cases h1
      | false =>
        rw [if_neg (by decide)]
        refine ⟨fun e => (by cases e), fun p e => ?_⟩
        injection e with e
        subst e
        refine ⟨.inr ⟨x, by simp, rfl⟩, fun c hcc => ?_⟩
        rcases hcc with ⟨z, hz, rfl⟩ | ⟨z, hz, rfl⟩
        · have h1 := kL hL z hz
          show lessK z.t z.x.k x.e.t x.e.x.k = false
          unfold lessK at h1 hc ⊢
          simp only [Bool.or_eq_false_iff, decide_eq_false_iff_not, Bool.and_eq_false_iff] at h1 hc ⊢
          omega
        · exact kN hN z hz
/-- The next key, as the document finds it. -/
theorem best_next {E : List En} {L0 : List En} {KS : List (Int × Int)} {b : Bool} {yt yk : Int} {NS : List Nt} {T : List En} {ct ck : Int} (hL : OkL (liveE E)) (hT : TellI L0 (liveE E) NS T ct ck) (hD : DocI KS b yt yk NS ct ck) :
    bestN b yt yk KS (bestE b yt yk E none) = nextK (restE (liveE E) ct ck) NS := by
  have h0 : Least (fun _ => False) none := ⟨fun _ _ => id, fun p e => by cases e⟩
  refine Least.uniq (least_N b yt yk KS (least_E b yt yk E h0)) ((least_next (rest_ok hL ct ck).pair hT.up).iff fun q => ?_)
  constructor
  · rintro (⟨e, he, rfl⟩ | ⟨x, hx, rfl⟩)
    · obtain ⟨h1, h2⟩ := mem_rest.1 he
      have h3 := hL.num e h1
      unfold liveE at h1
      obtain ⟨h4, h5⟩ := List.mem_filter.1 h1
      exact .inl (.inr ⟨e, h4, by rw [hD.ah _ _ (by omega) (by omega) h3.2, h2, h5]; rfl, rfl⟩)
    · have h3 := hT.num x hx
      have h2 := hT.ge x hx
      exact .inr ⟨(hD.ks _ _ (by omega) (by omega) h3.2 h2).2 ⟨x, hx, rfl, rfl⟩, by show aheadB b yt yk (x.e.t : Int) x.e.x.k = true; rw [hD.ah _ _ (by omega) (by omega) h3.2, h2]; rfl⟩
  · rintro ((hf | ⟨e, he, h1, rfl⟩) | ⟨hq, h1⟩)
    · exact hf.elim
    · simp only [Bool.and_eq_true] at h1
      have h2 : e ∈ liveE E := by unfold liveE; exact List.mem_filter.2 ⟨he, h1.1⟩
      have h3 := hL.num e h2
      refine .inl ⟨e, mem_rest.2 ⟨h2, ?_⟩, rfl⟩
      have h4 := h1.2
      rw [hD.ah _ _ (by omega) (by omega) h3.2] at h4
      simpa using h4
    · obtain ⟨t, k⟩ := q
      obtain ⟨h3, h4⟩ := hD.ok _ hq
      rw [hD.ah _ _ h3.1 h3.2 h4] at h1
      obtain ⟨x, hx, e1, e2⟩ := (hD.ks t k h3.1 h3.2 h4 (by simpa using h1)).1 hq
      exact .inr ⟨x, hx, by rw [e1, e2]⟩
/-- What the document's step comes to. -/
def rsS (E : List En) (KS : List (Int × Int)) : Nat → Bool → Int → Int → Bool × Int × Int × Bool
  | 0, b, yt, yk => (b, yt, yk, false)
  | n + 1, b, yt, yk => match bestN b yt yk KS (bestE b yt yk E none) with
    | none => (b, yt, yk, true)
    | some p => rsS E KS n true p.1 p.2
theorem DocI.pass {KS : List (Int × Int)} {b : Bool} {yt yk : Int} {NS NS' : List Nt} {ct ck : Int} (h : DocI KS b yt yk NS ct ck) {t k : Int} (hge : lessK t k ct ck = false) (hmem : ∀ x, x ∈ NS' ↔ x ∈ NS ∧ lessK t k x.e.t x.e.x.k = true) : DocI KS true t k NS' (bhT t k) (bhK k) := by
  have hb : ∀ t' k' : Int, Fits k' → lessK t' k' (bhT t k) (bhK k) = !lessK t k t' k' := fun t' k' hk' => by
    unfold Fits at hk'
    unfold lessK bhT bhK
    by_cases h : k = 9223372036854775807
    · rw [if_pos h, if_pos h, Bool.eq_iff_iff]
      simp only [Bool.not_eq_true', Bool.or_eq_false_iff, decide_eq_false_iff_not, Bool.and_eq_false_iff, Bool.or_eq_true, decide_eq_true_eq, Bool.and_eq_true]
      omega
    · rw [if_neg h, if_neg h, Bool.eq_iff_iff]
      simp only [Bool.not_eq_true', Bool.or_eq_false_iff, decide_eq_false_iff_not, Bool.and_eq_false_iff, Bool.or_eq_true, decide_eq_true_eq, Bool.and_eq_true]
      omega
  refine ⟨fun t' k' _ _ hk' => ?_, fun t' k' h0 h1 hk' hl => ?_, h.ok⟩
  · rw [hb t' k' hk', Bool.not_not]
    rfl
  · rw [hb t' k' hk'] at hl
    have hl2 : lessK t k t' k' = true := by simpa using hl
    rw [h.ks t' k' h0 h1 hk' (by
      unfold lessK at hge hl2 ⊢
      simp only [Bool.or_eq_true, decide_eq_true_eq, Bool.and_eq_true, Bool.or_eq_false_iff, decide_eq_false_iff_not, Bool.and_eq_false_iff] at hge hl2 ⊢
      omega)]
    constructor
    · rintro ⟨x, hx, e1, e2⟩
      exact ⟨x, (hmem x).2 ⟨hx, by rw [e1, e2]; exact hl2⟩, e1, e2⟩
    · rintro ⟨x, hx, e⟩
      exact ⟨x, ((hmem x).1 hx).1, e⟩
/-- A step of both. -/
theorem step_both {L0 E : List En} {KS : List (Int × Int)} (h0 : OkL L0) (hL : OkL (liveE E)) : ∀ (n : Nat) {NS : List Nt} {T : List En} {ct ck : Int} {b : Bool} {yt yk : Int}, TellI L0 (liveE E) NS T ct ck → DocI KS b yt yk NS ct ck →
    ∃ (R : List Nt × List En × Int × Int × Bool) (D : Bool × Int × Int × Bool), R = stepS n (restE (liveE E) ct ck) NS T ct ck ∧ D = rsS E KS n b yt yk ∧ R.2.2.2.2 = D.2.2.2 ∧ UpN R.1 ∧ R.1.length ≤ NS.length ∧ (R.2.2.2.2 = true → R.2.1 = L0) ∧ (R.2.2.2.2 = false → TellI L0 (liveE E) R.1 R.2.1 R.2.2.1 R.2.2.2.1 ∧ DocI KS D.1 D.2.1 D.2.2.1 R.1 R.2.2.1 R.2.2.2.1)
  | 0, NS, T, ct, ck, b, yt, yk, hT, hD => ⟨_, _, rfl, rfl, rfl, hT.up, Nat.le_refl _, (fun e => by cases e), fun _ => ⟨hT, hD⟩⟩
  | n + 1, NS, T, ct, ck, b, yt, yk, hT, hD => by
    have hbn := best_next hL hT hD
    rcases hT.one h0 hL n with ⟨h1, h2, h3, h4⟩ | ⟨t, k, NS', T', h1, h2, h3, h4, h5, h6, _, h7, h8⟩
    · refine ⟨_, _, rfl, rfl, ?_, ?_, ?_, ?_, ?_⟩
      all_goals rw [h2]
      · show true = (rsS E KS (n + 1) b yt yk).2.2.2
        unfold rsS
        rw [hbn, h1]
      · exact hT.up
      · exact Nat.le_refl _
      · exact fun _ => h4
      · exact fun e => by cases e
    · obtain ⟨R, D, r1, r2, r3, r4, r5, r6, r7⟩ := step_both h0 hL n h7 (hD.pass h4 h6)
      refine ⟨R, D, by rw [h8]; exact r1, ?_, r3, r4, Nat.le_trans r5 h5, r6, r7⟩
      rw [r2]
      show _ = rsS E KS (n + 1) b yt yk
      conv => rhs; unfold rsS
      rw [hbn, h1]
end Go.Proofs.Ytejpjbmbcdgomaa
