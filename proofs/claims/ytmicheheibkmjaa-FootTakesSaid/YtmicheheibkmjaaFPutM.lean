/- A foot's bytes, there and back: the mathematics. -/
import Derived.Test.YtmicheheibkmjaaZW1
import Derived.Test.YtmicheheibkmjaaGMeet
namespace Go.Proofs.Ytmicheheibkmjaa
set_option maxRecDepth 100000
open Go.RowKit

section
variable {α : Type}
/-- Things read, one behind the other. -/
def loopR (R : List Nat → α × List Nat × Bool) : Nat → List Nat → Bool → List α × List Nat × Bool
  | 0, bs, bad => ([], bs, bad)
  | m + 1, bs, _ => ((R bs).1 :: (loopR R m (R bs).2.1 (R bs).2.2).1, (loopR R m (R bs).2.1 (R bs).2.2).2)
/-- How many rows are read. -/
def rowsN (bs : List Nat) : Nat := min (rcount bs).1 ((rcount bs).2.1.length + 1)
def listP (R : List Nat → α × List Nat × Bool) (bs : List Nat) : List α × List Nat × Bool := loopR R (rowsN bs) (rcount bs).2.1 (rcount bs).2.2
/-- A way to read, and the bytes that are read. -/
structure Codec (R : List Nat → α × List Nat × Bool) (E : α → List Nat) (p q : α → Prop) : Prop where
  put : ∀ x rest, p x → R (E x ++ rest) = (x, rest, false)
  one : ∀ x, 1 ≤ (E x).length
  yes : ∀ bs x rest, (∀ b ∈ bs, b < 256) → R bs = (x, rest, false) → q x → bs = E x ++ rest
  bad : ∀ bs, (R bs).2.2 = true → (R bs).2.1 = []
  nil : (R []).2.2 = true
  fit : ∀ bs, (∀ b ∈ bs, b < 256) → q (R bs).1 → p (R bs).1
variable {R : List Nat → α × List Nat × Bool} {E : α → List Nat} {p q : α → Prop}
theorem loop_length (m : Nat) : ∀ (bs : List Nat) (bad : Bool), (loopR R m bs bad).1.length = m := by
  induction m with
  | zero => intro bs bad; rfl
  | succ m ih => intro bs bad; simp only [loopR, List.length_cons, ih]
theorem loop_put (C : Codec R E p q) : ∀ (l : List α) (rest : List Nat), (∀ x ∈ l, p x) → loopR R l.length (l.flatMap E ++ rest) false = (l, rest, false)
  | [], rest, _ => rfl
  | x :: l, rest, h => by
    have h1 := C.put x (l.flatMap E ++ rest) (h x (List.mem_cons_self ..))
    have h2 := loop_put C l rest (fun y hy => h y (List.mem_cons_of_mem _ hy))
    simp only [List.length_cons, loopR, List.flatMap_cons, List.append_assoc, h1, h2]
theorem loop_nil (C : Codec R E p q) (m : Nat) : (loopR R m [] true).2 = ([], true) := by
  induction m with
  | zero => rfl
  | succ m ih =>
    simp only [loopR]
    rw [C.bad [] C.nil, C.nil]
    exact ih
theorem loop_bad (C : Codec R E p q) (m : Nat) : ∀ (bs : List Nat) (bad : Bool), (bad = true → bs = []) → (loopR R m bs bad).2.2 = true → (loopR R m bs bad).2.1 = [] := by
  induction m with
  | zero => intro bs bad h h2; exact h h2
  | succ m ih => intro bs bad h h2; simp only [loopR] at h2 ⊢; exact ih _ _ (C.bad bs) h2
theorem loop_yes (C : Codec R E p q) (m : Nat) : ∀ (bs : List Nat) (bad : Bool) (l : List α) (rest : List Nat), (bad = true → bs = []) → (∀ b ∈ bs, b < 256) → loopR R m bs bad = (l, rest, false) → (∀ x ∈ l, q x) → bad = false ∧ bs = l.flatMap E ++ rest := by
  induction m with
  | zero =>
    intro bs bad l rest _ _ h _
    simp only [loopR, Prod.mk.injEq] at h
    obtain ⟨rfl, rfl, rfl⟩ := h
    exact ⟨rfl, rfl⟩
  | succ m ih =>
    intro bs bad l rest hb hs h hq
    have hbad : bad = false := by
      cases bad with
      | false => rfl
      | true =>
        obtain rfl := hb rfl
        have h3 := loop_nil C (m + 1)
        have h4 : (loopR R (m + 1) [] true).2.2 = true := by rw [h3]
        rw [h] at h4
        cases h4
    refine ⟨hbad, ?_⟩
    simp only [loopR, Prod.mk.injEq] at h
    obtain ⟨h1, h2⟩ := h
    subst h1
    obtain ⟨⟨x, r1, b1⟩, hx⟩ : ∃ y, y = R bs := ⟨_, rfl⟩
    rw [← hx] at h2 hq ⊢
    have hc := C.bad bs
    rw [← hx] at hc
    have hb1 : b1 = false := by
      cases b1 with
      | false => rfl
      | true =>
        have e := hc rfl
        simp only at e
        subst e
        have h3 := loop_nil C m
        rw [h3] at h2
        cases h2
    subst hb1
    have e1 := C.yes bs x r1 hs hx.symm (hq x (List.mem_cons_self ..))
    have hs1 : ∀ b ∈ r1, b < 256 := fun b hb => hs b (by rw [e1]; exact List.mem_append_right _ hb)
    have e2 := (ih r1 false (loopR R m r1 false).1 rest (fun h => by cases h) hs1 (Prod.ext rfl h2) (fun y hy => hq y (List.mem_cons_of_mem _ hy))).2
    rw [List.flatMap_cons, List.append_assoc, ← e2]
    exact e1
theorem loop_fit (C : Codec R E p q) (m : Nat) : ∀ (bs : List Nat) (bad : Bool), (∀ b ∈ bs, b < 256) → (∀ bs, (∀ b ∈ bs, b < 256) → ∀ b ∈ (R bs).2.1, b < 256) → (∀ x ∈ (loopR R m bs bad).1, q x) → ∀ x ∈ (loopR R m bs bad).1, p x := by
  induction m with
  | zero => intro bs bad _ _ _ x hx; cases hx
  | succ m ih =>
    intro bs bad hs hr hq x hx
    simp only [loopR] at hq hx
    rcases List.mem_cons.1 hx with rfl | hx
    · exact C.fit bs hs (hq _ (List.mem_cons_self ..))
    · exact ih _ _ (hr bs hs) hr (fun y hy => hq y (List.mem_cons_of_mem _ hy)) x hx
theorem flatMap_long (C : Codec R E p q) (l : List α) : l.length ≤ (l.flatMap E).length := by
  induction l with
  | nil => simp
  | cons x l ih => have := C.one x; rw [List.flatMap_cons, List.length_append, List.length_cons]; omega
theorem list_put (C : Codec R E p q) (l : List α) (rest : List Nat) (h : ∀ x ∈ l, p x) (hl : l.length < 18446744073709551616) : listP R ((cntN l.length ++ l.flatMap E) ++ rest) = (l, rest, false) := by
  unfold listP rowsN
  rw [List.append_assoc, rcount_cntN _ hl]
  have := flatMap_long C l
  rw [show min l.length ((l.flatMap E ++ rest).length + 1) = l.length by rw [List.length_append]; omega]
  exact loop_put C l rest h
theorem rcount_bad (bs : List Nat) : (rcount bs).2.2 = true → (rcount bs).2.1 = [] := by
  intro h
  rcases rcnt_ways 10 0 0 bs with e | ⟨x, rest, e⟩
  · rw [show rcount bs = _ from e]
  · rw [show rcount bs = _ from e] at h; cases h
theorem list_bad (C : Codec R E p q) (bs : List Nat) : (listP R bs).2.2 = true → (listP R bs).2.1 = [] := loop_bad C _ _ _ (rcount_bad bs)
theorem list_nil (C : Codec R E p q) : (listP R []).2.2 = true := by
  have h := loop_nil C (rowsN [])
  show (loopR R (rowsN []) [] true).2.2 = true
  rw [h]
theorem list_yes (C : Codec R E p q) (bs : List Nat) (l : List α) (rest : List Nat) (hs : ∀ b ∈ bs, b < 256) (h : listP R bs = (l, rest, false)) (hq : ∀ x ∈ l, q x) : bs = (cntN l.length ++ l.flatMap E) ++ rest ∧ l.length < 18446744073709551616 := by
  unfold listP at h
  have hlen := loop_length (R := R) (rowsN bs) (rcount bs).2.1 (rcount bs).2.2
  rw [h] at hlen
  obtain ⟨⟨n, r1, b1⟩, hx⟩ : ∃ y, y = rcount bs := ⟨_, rfl⟩
  have hb := rcount_bad bs
  have hrow : rowsN bs = min n (r1.length + 1) := by unfold rowsN; rw [← hx]
  rw [← hx] at h hb
  have hb1 : b1 = false := by
    rcases rcnt_ways 10 0 0 bs with e | ⟨x, rest', e⟩
    · have e' : (n, r1, b1) = (0, [], true) := hx.trans e
      injection e' with e1 e2
      injection e2 with e2 e3
      subst e1 e2 e3
      have h3 := loop_nil C (rowsN bs)
      have h4 : (loopR R (rowsN bs) [] true).2.2 = true := by rw [h3]
      rw [h] at h4
      cases h4
    · have e' : (n, r1, b1) = (x, rest', false) := hx.trans e
      injection e' with _ e2
      injection e2
  subst hb1
  obtain ⟨e1, hn⟩ := rcount_yes hs hx.symm
  have hs1 : ∀ b ∈ r1, b < 256 := fun b hb => hs b (by rw [e1]; exact List.mem_append_right _ hb)
  have e2 := (loop_yes C _ r1 false l rest (fun h => by cases h) hs1 h hq).2
  have hfl := flatMap_long C l
  have hr1 : r1.length = (l.flatMap E).length + rest.length := by rw [e2, List.length_append]
  have hln : l.length = n := by rw [hlen, hrow]; rw [hlen, hrow] at hfl; omega
  subst hln
  exact ⟨by rw [List.append_assoc, ← e2]; exact e1, hn⟩
end

def kR (bs : List Nat) : K × List Nat × Bool := (⟨wrap64 ((rcount bs).1 : Int), unfoldN (rcount (rcount bs).2.1).1⟩, (rcount (rcount bs).2.1).2)
def sR (bs : List Nat) : Sp × List Nat × Bool :=
  (⟨wrap64 ((rcount bs).1 : Int), unfoldN (rcount (rcount bs).2.1).1, unfoldN (rcount (rcount (rcount bs).2.1).2.1).1⟩, (rcount (rcount (rcount bs).2.1).2.1).2)
def kB (x : K) : List Nat := cntN x.t.toNat ++ cntN (foldN x.k)
def sB (x : Sp) : List Nat := cntN x.t.toNat ++ (cntN (foldN x.lo) ++ cntN (foldN x.hi))
def tabP (t : Int) : Prop := 0 ≤ t ∧ t < 4
def FitK (x : K) : Prop := tabP x.t ∧ Fits x.k
def FitX (x : Sp) : Prop := tabP x.t ∧ Fits x.lo ∧ Fits x.hi
theorem rcount_nil' : rcount [] = (0, [], true) := rfl
theorem cntN_pos (n : Nat) : 1 ≤ (cntN n).length := by unfold cntN; rw [List.length_append]; simp
theorem wrap_tab {t : Int} (h : tabP t) : wrap64 ((t.toNat : Nat) : Int) = t := by
  unfold tabP at h
  rw [show ((t.toNat : Nat) : Int) = t by omega]
  unfold wrap64
  omega
theorem tab_wrap {n : Nat} (hn : n < 18446744073709551616) (h : tabP (wrap64 (n : Int))) : (wrap64 (n : Int)).toNat = n := by
  unfold tabP wrap64 at h
  unfold wrap64
  omega
theorem fold_unfold {n : Nat} (hn : n < 18446744073709551616) : foldN (unfoldN n) = n ∧ Fits (unfoldN n) := by
  unfold unfoldN foldN Fits
  split <;> split <;> omega
theorem rcount_rest {bs : List Nat} (hs : ∀ b ∈ bs, b < 256) : ∀ b ∈ (rcount bs).2.1, b < 256 := by
  intro b hb
  rcases rcnt_ways 10 0 0 bs with e | ⟨x, rest, e⟩
  · rw [show rcount bs = _ from e] at hb; cases hb
  · rw [show rcount bs = _ from e] at hb
    have e1 := (rcount_yes hs e).1
    exact hs b (by rw [e1]; exact List.mem_append_right _ hb)
/-- A count that was read well. -/
theorem rcount_ok {bs rest : List Nat} {x : Nat} {bad : Bool} (hs : ∀ b ∈ bs, b < 256) (h : rcount bs = (x, rest, bad)) (hb : bad = false) : bs = cntN x ++ rest ∧ x < 18446744073709551616 ∧ ∀ b ∈ rest, b < 256 := by
  subst hb
  obtain ⟨e, hx⟩ := rcount_yes hs h
  exact ⟨e, hx, fun b hb => hs b (by rw [e]; exact List.mem_append_right _ hb)⟩
/-- If the next one is read well, this one was. -/
theorem rcount_before {bs : List Nat} (h : (rcount (rcount bs).2.1).2.2 = false) : (rcount bs).2.2 = false := by
  cases hb : (rcount bs).2.2 with
  | false => rfl
  | true => rw [rcount_bad bs hb] at h; cases h
theorem codecK : Codec kR kB FitK (fun x => tabP x.t) where
  put := fun x rest hx => by
    obtain ⟨h1, h2⟩ := hx
    have h1' := h1
    unfold tabP at h1'
    unfold kR kB
    rw [List.append_assoc, rcount_cntN _ (by omega)]
    simp only [rcount_cntN _ (foldN_lt h2), unfold_fold h2, wrap_tab h1]
  one := fun x => by unfold kB; have := cntN_pos x.t.toNat; rw [List.length_append]; omega
  yes := fun bs x rest hs h hq => by
    unfold kR at h
    simp only [Prod.mk.injEq] at h
    obtain ⟨rfl, h⟩ := h
    have hb : (rcount (rcount bs).2.1).2.2 = false := by rw [h]
    have e1 := rcount_ok hs (show rcount bs = ((rcount bs).1, (rcount bs).2.1, (rcount bs).2.2) from rfl) (rcount_before hb)
    have e2 := rcount_ok e1.2.2 (show rcount (rcount bs).2.1 = ((rcount (rcount bs).2.1).1, rest, false) from Prod.ext rfl h) rfl
    unfold kB
    simp only at hq ⊢
    rw [tab_wrap e1.2.1 hq, (fold_unfold e2.2.1).1, List.append_assoc, ← e2.1]
    exact e1.1
  bad := fun bs h => rcount_bad _ h
  nil := rfl
  fit := fun bs hs hq => ⟨hq, (fold_unfold (rcount_lt _ (rcount_rest hs))).2⟩
theorem codecS : Codec sR sB FitX (fun x => tabP x.t) where
  put := fun x rest hx => by
    obtain ⟨h1, h2, h3⟩ := hx
    have h1' := h1
    unfold tabP at h1'
    unfold sR sB
    rw [List.append_assoc, List.append_assoc, rcount_cntN _ (by omega)]
    simp only [rcount_cntN _ (foldN_lt h2), rcount_cntN _ (foldN_lt h3), unfold_fold h2, unfold_fold h3, wrap_tab h1]
  one := fun x => by unfold sB; have := cntN_pos x.t.toNat; rw [List.length_append]; omega
  yes := fun bs x rest hs h hq => by
    unfold sR at h
    simp only [Prod.mk.injEq] at h
    obtain ⟨rfl, h⟩ := h
    have hb : (rcount (rcount (rcount bs).2.1).2.1).2.2 = false := by rw [h]
    have hb2 := rcount_before hb
    have e1 := rcount_ok hs (show rcount bs = ((rcount bs).1, (rcount bs).2.1, (rcount bs).2.2) from rfl) (rcount_before hb2)
    have e2 := rcount_ok e1.2.2 (show rcount (rcount bs).2.1 = ((rcount (rcount bs).2.1).1, (rcount (rcount bs).2.1).2.1, (rcount (rcount bs).2.1).2.2) from rfl) hb2
    have e3 := rcount_ok e2.2.2 (show rcount (rcount (rcount bs).2.1).2.1 = ((rcount (rcount (rcount bs).2.1).2.1).1, rest, false) from Prod.ext rfl h) rfl
    unfold sB
    simp only at hq ⊢
    rw [tab_wrap e1.2.1 hq, (fold_unfold e2.2.1).1, (fold_unfold e3.2.1).1, List.append_assoc, List.append_assoc, ← e3.1, ← e2.1]
    exact e1.1
  bad := fun bs h => rcount_bad _ h
  nil := rfl
  fit := fun bs hs hq => ⟨hq, (fold_unfold (rcount_lt _ (rcount_rest hs))).2, (fold_unfold (rcount_lt _ (rcount_rest (rcount_rest hs)))).2⟩
/-- The bytes of keys, of spans, of a foot. -/
def ksB (l : List K) : List Nat := cntN l.length ++ l.flatMap kB
def ssB (l : List Sp) : List Nat := cntN l.length ++ l.flatMap sB
def putB (f : Ft) : List Nat := ksB f.rs ++ (ssB f.sp ++ ksB f.ws)
/-- What is read of bytes: a foot, what is left, whether it was bad. -/
def takeP (bs : List Nat) : Ft × List Nat × Bool :=
  (⟨(listP kR bs).1, (listP sR (listP kR bs).2.1).1, (listP kR (listP sR (listP kR bs).2.1).2.1).1⟩, (listP kR (listP sR (listP kR bs).2.1).2.1).2)
structure FitF (f : Ft) : Prop where
  rs : ∀ x ∈ f.rs, FitK x
  sp : ∀ x ∈ f.sp, FitX x
  ws : ∀ x ∈ f.ws, FitK x
  few : f.rs.length < 18446744073709551616 ∧ f.sp.length < 18446744073709551616 ∧ f.ws.length < 18446744073709551616
/-- Its tables are some. -/
structure TabF (f : Ft) : Prop where
  rs : ∀ x ∈ f.rs, tabP x.t
  sp : ∀ x ∈ f.sp, tabP x.t
  ws : ∀ x ∈ f.ws, tabP x.t
theorem take_put (f : Ft) (h : FitF f) : takeP (putB f) = (f, [], false) := by
  have e1 := list_put codecK f.rs (ssB f.sp ++ ksB f.ws) h.rs h.few.1
  have e2 := list_put codecS f.sp (ksB f.ws) h.sp h.few.2.1
  have e3 := list_put codecK f.ws [] h.ws h.few.2.2
  rw [List.append_nil] at e3
  unfold takeP putB
  rw [show ksB f.rs = cntN f.rs.length ++ f.rs.flatMap kB from rfl, e1]
  simp only
  rw [show ssB f.sp = cntN f.sp.length ++ f.sp.flatMap sB from rfl, e2]
  simp only
  rw [show ksB f.ws = cntN f.ws.length ++ f.ws.flatMap kB from rfl, e3]
theorem listK_rest {bs : List Nat} (hs : ∀ b ∈ bs, b < 256) : ∀ b ∈ (listP kR bs).2.1, b < 256 := by
  have key : ∀ (m : Nat) (bs : List Nat) (bad : Bool), (∀ b ∈ bs, b < 256) → ∀ b ∈ (loopR kR m bs bad).2.1, b < 256 := by
    intro m
    induction m with
    | zero => intro bs bad hs; exact hs
    | succ m ih => intro bs bad hs; simp only [loopR]; exact ih _ _ (rcount_rest (rcount_rest hs))
  exact key _ _ _ (rcount_rest hs)
theorem listS_rest {bs : List Nat} (hs : ∀ b ∈ bs, b < 256) : ∀ b ∈ (listP sR bs).2.1, b < 256 := by
  have key : ∀ (m : Nat) (bs : List Nat) (bad : Bool), (∀ b ∈ bs, b < 256) → ∀ b ∈ (loopR sR m bs bad).2.1, b < 256 := by
    intro m
    induction m with
    | zero => intro bs bad hs; exact hs
    | succ m ih => intro bs bad hs; simp only [loopR]; exact ih _ _ (rcount_rest (rcount_rest (rcount_rest hs)))
  exact key _ _ _ (rcount_rest hs)
theorem listK_fit {bs : List Nat} (hs : ∀ b ∈ bs, b < 256) (h : ∀ x ∈ (listP kR bs).1, tabP x.t) : ∀ x ∈ (listP kR bs).1, FitK x :=
  loop_fit codecK _ _ _ (rcount_rest hs) (fun _ h => rcount_rest (rcount_rest h)) h
theorem listS_fit {bs : List Nat} (hs : ∀ b ∈ bs, b < 256) (h : ∀ x ∈ (listP sR bs).1, tabP x.t) : ∀ x ∈ (listP sR bs).1, FitX x :=
  loop_fit codecS _ _ _ (rcount_rest hs) (fun _ h => rcount_rest (rcount_rest (rcount_rest h))) h
theorem take_aux (bs r1 r2 : List Nat) (l1 l3 : List K) (l2 : List Sp) (b1 b2 : Bool) (hs : ∀ b ∈ bs, b < 256) (h1 : listP kR bs = (l1, r1, b1)) (h2 : listP sR r1 = (l2, r2, b2)) (h3 : listP kR r2 = (l3, [], false))
    (t1 : ∀ x ∈ l1, tabP x.t) (t2 : ∀ x ∈ l2, tabP x.t) (t3 : ∀ x ∈ l3, tabP x.t) : bs = putB ⟨l1, l2, l3⟩ ∧ FitF ⟨l1, l2, l3⟩ := by
  have hs1 := listK_rest hs
  have f1 := listK_fit hs
  rw [h1] at hs1 f1
  have hs2 := listS_rest hs1
  have f2 := listS_fit hs1
  rw [h2] at hs2 f2
  have f3 := listK_fit hs2
  rw [h3] at f3
  have hb2 : b2 = false := by
    cases b2 with
    | false => rfl
    | true =>
      have e := list_bad codecS r1 (by rw [h2])
      rw [h2] at e
      have e3 : r2 = [] := e
      subst e3
      have e2 := list_nil codecK
      rw [h3] at e2
      cases e2
  subst hb2
  have hb1 : b1 = false := by
    cases b1 with
    | false => rfl
    | true =>
      have e := list_bad codecK bs (by rw [h1])
      rw [h1] at e
      have e3 : r1 = [] := e
      subst e3
      have e2 := list_nil codecS
      rw [h2] at e2
      cases e2
  subst hb1
  obtain ⟨e1, n1⟩ := list_yes codecK bs l1 r1 hs h1 t1
  obtain ⟨e2, n2⟩ := list_yes codecS r1 l2 r2 hs1 h2 t2
  obtain ⟨e3, n3⟩ := list_yes codecK r2 l3 [] hs2 h3 t3
  refine ⟨?_, ⟨f1 t1, f2 t2, f3 t3, n1, n2, n3⟩⟩
  rw [List.append_nil] at e3
  rw [e1, e2, e3]
  rfl
/-- Bytes that are read well are a foot's. -/
theorem take_yes (bs : List Nat) (f : Ft) (hs : ∀ b ∈ bs, b < 256) (h : takeP bs = (f, [], false)) (ht : TabF f) : bs = putB f ∧ FitF f := by
  unfold takeP at h
  injection h with h1 h2
  subst h1
  exact take_aux bs _ _ _ _ _ _ _ hs rfl rfl (Prod.ext rfl h2) ht.rs ht.sp ht.ws
end Go.Proofs.Ytmicheheibkmjaa
