/- Tasks and workers, as numbers: what a pick comes to. -/
namespace Go.Proofs.Ytgdkgoiagjjccaa

/-- The first place of which it is so; -1: none. -/
def idx (n : Nat) (p : Nat → Bool) : Int :=
  match (List.range n).find? p with
  | some i => (i : Int)
  | none => -1
theorem idx_miss {n : Nat} {p : Nat → Bool} (h : ∀ j, j < n → p j = false) : idx n p = -1 := by
  unfold idx
  rw [List.find?_eq_none.2 (fun x hx => by simp [h x (List.mem_range.1 hx)])]
theorem idx_hit {n k : Nat} {p : Nat → Bool} (hk : k < n) (hp : p k = true) (h : ∀ j, j < k → p j = false) : idx n p = (k : Int) := by
  unfold idx
  have e : (List.range n).find? p = some k := by
    rw [List.find?_eq_some_iff_append]
    refine ⟨hp, List.range k, (List.range (n - k - 1)).map (k + 1 + ·), ?_, fun a ha => by simp [h a (List.mem_range.1 ha)]⟩
    apply List.ext_getElem
    · simp; omega
    · intro i h1 h2
      simp [List.getElem_append, List.getElem_cons]
      intro hki
      split <;> omega
  rw [e]
theorem idx_cases (n : Nat) (p : Nat → Bool) : (∃ k : Nat, k < n ∧ idx n p = (k : Int) ∧ p k = true ∧ ∀ j, j < k → p j = false) ∨ (idx n p = -1 ∧ ∀ j, j < n → p j = false) := by
  by_cases h : ∀ j, j < n → p j = false
  · exact .inr ⟨idx_miss h, h⟩
  · left
    have h2 : ∃ j, j < n ∧ p j = true := by
      apply Classical.byContradiction
      intro hc
      apply h
      intro j hj
      cases hp : p j with
      | false => rfl
      | true => exact absurd ⟨j, hj, hp⟩ hc
    have h3 : ∀ m, ∀ j, j ≤ m → j < n → p j = true → ∃ k, k < n ∧ p k = true ∧ ∀ i, i < k → p i = false := by
      intro m
      induction m with
      | zero => intro j hm hj hp; exact ⟨j, hj, hp, fun i hi => by omega⟩
      | succ m ih =>
        intro j hm hj hp
        by_cases hq : ∃ i, i < j ∧ p i = true
        · obtain ⟨i, hi, hpi⟩ := hq
          exact ih i (by omega) (by omega) hpi
        · refine ⟨j, hj, hp, fun i hi => ?_⟩
          cases hpi : p i with
          | false => rfl
          | true => exact absurd ⟨i, hi, hpi⟩ hq
    obtain ⟨j, hj, hp⟩ := h2
    obtain ⟨k, hk, hpk, hno⟩ := h3 j j (Nat.le_refl _) hj hp
    exact ⟨k, hk, idx_hit hk hpk hno, hpk, hno⟩

def upd {α : Type} (f : Nat → α) (i : Nat) (v : α) : Nat → α := fun x => if x = i then v else f x
theorem upd_same {α : Type} (f : Nat → α) (i : Nat) (v : α) : upd f i v i = v := if_pos rfl
theorem upd_other {α : Type} (f : Nat → α) {i x : Nat} (v : α) (h : x ≠ i) : upd f i v x = f x := if_neg h
theorem upd_self {α : Type} (f : Nat → α) (i : Nat) : upd f i (f i) = f := by
  funext x; unfold upd; split <;> simp_all

/-- How a plan stands. -/
structure PS where
  n : Nat
  m : Nat
  kd : Nat → Int
  wk : Nat → Int
  wt : Nat → Int
  ln : Nat → List Int
  ws : Nat → Int
  picks : Int
  left : Int

def decs : List Int → (Nat → Int) → (Nat → Int)
  | [], f => f
  | j :: l, f => decs l (upd f j.toNat (f j.toNat - 1))
theorem decs_append (l r : List Int) (f : Nat → Int) : decs (l ++ r) f = decs r (decs l f) := by
  induction l generalizing f with
  | nil => rfl
  | cons j l ih => exact ih _
theorem decs_snoc (l : List Int) (j : Int) (f : Nat → Int) : decs (l ++ [j]) f = upd (decs l f) j.toNat (decs l f j.toNat - 1) := by rw [decs_append]; rfl
/-- How many times a number stands in a list. -/
theorem decs_at (l : List Int) (hl : ∀ j ∈ l, 0 ≤ j) (f : Nat → Int) (x : Nat) : decs l f x = f x - (l.count (x : Int) : Nat) := by
  induction l generalizing f with
  | nil => simp [decs]
  | cons j l ih =>
    have h0 := hl j (by simp)
    rw [decs, ih (fun k hk => hl k (by simp [hk])), List.count_cons]
    unfold upd
    by_cases e : x = j.toNat
    · have e2 : j = (x : Int) := by omega
      simp [e2]; omega
    · have e2 : ¬ j = (x : Int) := by omega
      simp [e, e2]

namespace PS
def rdy (s : PS) (i : Nat) : Bool := decide (s.kd i = 0) && decide (s.wt i = 0)
def had (s : PS) (i : Nat) : Bool := !decide (s.wk i = -1)
def took (s : PS) (i w : Nat) : PS := { s with wk := upd s.wk i w, ws := upd s.ws w i }
def step (s : PS) (i : Nat) : PS :=
  if s.kd i + 1 = 3 then { s with picks := s.picks + 1, kd := upd s.kd i (s.kd i + 1), left := s.left - 1, ws := upd s.ws (s.wk i).toNat (-1), wk := upd s.wk i (-1), wt := decs (s.ln i) s.wt }
  else { s with picks := s.picks + 1, kd := upd s.kd i (s.kd i + 1) }
/-- What a pick comes to: the plan, the event, the error's number (3: none; else as told). -/
inductive Out where
  | ev (kind task worker : Int)
  | range
  | ended
deriving DecidableEq
def act (s : PS) (i : Nat) : PS × Out := (s.step i, .ev (s.kd i + 1) i (s.wk i))
def pick (s : PS) (w : Int) : PS × Out :=
  if w < 0 ∨ (s.m : Int) ≤ w then (s, .range)
  else if s.ws w.toNat ≠ -1 then s.act (s.ws w.toNat).toNat
  else if idx s.n s.rdy ≠ -1 then (s.took (idx s.n s.rdy).toNat w.toNat).act (idx s.n s.rdy).toNat
  else if idx s.n s.had ≠ -1 then s.act (idx s.n s.had).toNat
  else (s, .ended)
end PS

/-- On whom tasks lean: of a list of lists that is good. -/
def GoodL (ls : List (List Int)) : Prop := ∀ i : Nat, ∀ l, ls[i]? = some l → ∀ k : Nat, ∀ x, l[k]? = some x → 0 ≤ x ∧ x < (i : Int) ∧ ∀ y, 0 < k → l[k - 1]? = some y → y < x
noncomputable instance (ls : List (List Int)) : Decidable (GoodL ls) := Classical.propDecidable _

/-- What stands of a plan always. -/
structure Inv (ls : List (List Int)) (s : PS) : Prop where
  good : GoodL ls
  len : ls.length = s.n
  pos : 1 ≤ s.m
  kd : ∀ i, i < s.n → 0 ≤ s.kd i ∧ s.kd i ≤ 3
  has : ∀ i, i < s.n → (s.wk i = -1 ↔ s.kd i = 0 ∨ s.kd i = 3)
  wk : ∀ i, i < s.n → s.wk i ≠ -1 → 0 ≤ s.wk i ∧ s.wk i < (s.m : Int) ∧ s.ws (s.wk i).toNat = (i : Int)
  ws : ∀ w, w < s.m → s.ws w ≠ -1 → 0 ≤ s.ws w ∧ s.ws w < (s.n : Int) ∧ s.wk (s.ws w).toNat = (w : Int)
  wt : ∀ i, i < s.n → s.wt i = ((ls.getD i []).filter (fun j => !decide (s.kd j.toNat = 3))).length
  ln : ∀ j, j < s.n → s.kd j ≠ 3 → s.ln j = ((List.range s.n).filter (fun i => decide ((j : Int) ∈ ls.getD i []))).map Int.ofNat
  left : s.left = (((List.range s.n).filter (fun i => !decide (s.kd i = 3))).length : Nat)

theorem GoodL.mem {ls : List (List Int)} (h : GoodL ls) {i : Nat} {x : Int} (hx : x ∈ ls.getD i []) : 0 ≤ x ∧ x < (i : Int) := by
  rcases Nat.lt_or_ge i ls.length with hi | hi
  · have e : ls[i]? = some ls[i] := List.getElem?_eq_getElem hi
    have e2 : ls.getD i [] = ls[i] := by simp [List.getD_eq_getElem?_getD, hi]
    rw [e2] at hx
    obtain ⟨k, hk, rfl⟩ := List.getElem_of_mem hx
    obtain ⟨a, b, _⟩ := h i _ e k _ (List.getElem?_eq_getElem hk)
    exact ⟨a, b⟩
  · simp [List.getD_eq_getElem?_getD, hi] at hx
theorem rise_nodup (l : List Int) (h : ∀ k : Nat, ∀ x, l[k]? = some x → ∀ y, 0 < k → l[k - 1]? = some y → y < x) : l.Nodup := by
  have hp : l.Pairwise (· < ·) := by
    rw [List.pairwise_iff_getElem]
    intro i j hi hj hij
    induction j with
    | zero => omega
    | succ j ih =>
      have h1 := h (j + 1) _ (List.getElem?_eq_getElem hj) l[j] (by omega) (List.getElem?_eq_getElem (by omega))
      rcases Nat.lt_or_ge i j with h2 | h2
      · exact Int.lt_trans (ih (by omega) h2) h1
      · obtain rfl : i = j := by omega
        exact h1
  exact hp.imp (fun h => by omega)
theorem GoodL.nodup {ls : List (List Int)} (h : GoodL ls) (i : Nat) : (ls.getD i []).Nodup := by
  rcases Nat.lt_or_ge i ls.length with hi | hi
  · have e : ls[i]? = some ls[i] := List.getElem?_eq_getElem hi
    have e2 : ls.getD i [] = ls[i] := by simp [List.getD_eq_getElem?_getD, hi]
    rw [e2]
    exact rise_nodup _ fun k x hx y h0 hy => (h i _ e k x hx).2.2 y h0 hy
  · simp [List.getD_eq_getElem?_getD, hi]
theorem filter_ends (l : List Int) (hl : l.Nodup) (h0 : ∀ x ∈ l, 0 ≤ x) (f : Nat → Int) (i : Nat) (hi : f i ≠ 3) :
    ((l.filter (fun j => !decide (upd f i 3 j.toNat = 3))).length : Int) = (l.filter (fun j => !decide (f j.toNat = 3))).length - (if (i : Int) ∈ l then 1 else 0) := by
  induction l with
  | nil => simp
  | cons j l ih =>
    have ih := ih (List.nodup_cons.1 hl).2 (fun x hx => h0 x (by simp [hx]))
    have hj := h0 j (by simp)
    have hn := (List.nodup_cons.1 hl).1
    rw [List.filter_cons, List.filter_cons]
    by_cases e : j.toNat = i
    · have e2 : j = (i : Int) := by omega
      subst e2
      have u1 : upd f i 3 i = 3 := upd_same _ _ _
      simp only [Int.toNat_natCast, u1, hi, decide_true, decide_false, Bool.not_true, Bool.not_false, Bool.false_eq_true, if_false, if_true, List.length_cons, List.mem_cons, true_or]
      rw [ih, if_neg hn]; omega
    · have e2 : ¬ (i : Int) = j := by omega
      have u1 : upd f i 3 j.toNat = f j.toNat := upd_other _ _ e
      simp only [u1, List.mem_cons, e2, false_or]
      split
      · simp only [List.length_cons]; omega
      · exact ih
theorem filter_ends' (l : List Nat) (hl : l.Nodup) (f : Nat → Int) (i : Nat) (hi : f i ≠ 3) :
    ((l.filter (fun j => !decide (upd f i 3 j = 3))).length : Int) = (l.filter (fun j => !decide (f j = 3))).length - (if i ∈ l then 1 else 0) := by
  induction l with
  | nil => simp
  | cons j l ih =>
    have ih := ih (List.nodup_cons.1 hl).2
    have hn := (List.nodup_cons.1 hl).1
    rw [List.filter_cons, List.filter_cons]
    by_cases e : j = i
    · subst e
      have u1 : upd f j 3 j = 3 := upd_same _ _ _
      simp only [u1, hi, decide_true, decide_false, Bool.not_true, Bool.not_false, Bool.false_eq_true, if_false, if_true, List.length_cons, List.mem_cons, true_or]
      rw [ih, if_neg hn]; omega
    · have e2 : ¬ i = j := by omega
      have u1 : upd f i 3 j = f j := upd_other _ _ e
      simp only [u1, List.mem_cons, e2, false_or]
      split
      · simp only [List.length_cons]; omega
      · exact ih
theorem filter_same {α : Type} (l : List α) (p q : α → Bool) (h : ∀ x ∈ l, p x = q x) : l.filter p = l.filter q := List.filter_congr h
theorem count_map (l : List Nat) (x : Nat) : (l.map Int.ofNat).count (x : Int) = l.count x := by
  induction l with
  | nil => rfl
  | cons a l ih =>
    rw [List.map_cons, List.count_cons, List.count_cons, ih]
    have : (Int.ofNat a == (x : Int)) = (a == x) := by rw [Bool.eq_iff_iff]; simp; omega
    rw [this]
theorem count_range (n x : Nat) (p : Nat → Bool) (hx : x < n) : (((List.range n).filter p).map Int.ofNat).count (x : Int) = if p x then 1 else 0 := by
  rw [count_map]
  by_cases hp : p x = true
  · rw [if_pos hp, List.count_filter hp, List.count_range, if_pos hx]
  · rw [if_neg hp]
    exact List.count_eq_zero.2 (by simp [hp])

/-- A task that a worker has goes a step on. -/
theorem Inv.step {ls : List (List Int)} {s : PS} (h : Inv ls s) {i : Nat} (hi : i < s.n) (hk : s.wk i ≠ -1) : Inv ls (s.step i) := by
  have h3 := h.kd i hi
  have h4 := h.has i hi
  obtain ⟨w0, w1, w2⟩ := h.wk i hi hk
  unfold PS.step
  by_cases hc : s.kd i + 1 = 3
  · rw [if_pos hc, hc]
    refine ⟨h.good, h.len, h.pos, fun x hx => ?_, fun x hx => ?_, fun x hx hx1 => ?_, fun w hw hw1 => ?_, fun x hx => ?_, fun j hj hj1 => ?_, ?_⟩
    · show 0 ≤ upd s.kd i 3 x ∧ upd s.kd i 3 x ≤ 3
      by_cases e : x = i
      · subst e; rw [upd_same]; omega
      · rw [upd_other _ _ e]; exact h.kd x hx
    · show upd s.wk i (-1) x = -1 ↔ upd s.kd i 3 x = 0 ∨ upd s.kd i 3 x = 3
      by_cases e : x = i
      · subst e; rw [upd_same, upd_same]; simp
      · rw [upd_other _ _ e, upd_other _ _ e]; exact h.has x hx
    · change upd s.wk i (-1) x ≠ -1 at hx1
      show 0 ≤ upd s.wk i (-1) x ∧ upd s.wk i (-1) x < (s.m : Int) ∧ upd s.ws (s.wk i).toNat (-1) (upd s.wk i (-1) x).toNat = (x : Int)
      by_cases e : x = i
      · subst e; rw [upd_same] at hx1; exact absurd rfl hx1
      · rw [upd_other _ _ e] at hx1 ⊢
        obtain ⟨a, b, c⟩ := h.wk x hx hx1
        refine ⟨a, b, ?_⟩
        rw [upd_other _ _ (fun e2 => e (by rw [e2] at c; omega))]
        exact c
    · change upd s.ws (s.wk i).toNat (-1) w ≠ -1 at hw1
      show 0 ≤ upd s.ws (s.wk i).toNat (-1) w ∧ upd s.ws (s.wk i).toNat (-1) w < (s.n : Int) ∧ upd s.wk i (-1) (upd s.ws (s.wk i).toNat (-1) w).toNat = (w : Int)
      by_cases e : w = (s.wk i).toNat
      · subst e; rw [upd_same] at hw1; exact absurd rfl hw1
      · rw [upd_other _ _ e] at hw1 ⊢
        obtain ⟨a, b, c⟩ := h.ws w hw hw1
        refine ⟨a, b, ?_⟩
        rw [upd_other _ _ (fun e2 => e (by rw [e2] at c; omega))]
        exact c
    · show decs (s.ln i) s.wt x = _
      rw [h.ln i hi (by omega), decs_at _ (by simp only [List.mem_map]; rintro j ⟨y, _, rfl⟩; exact Int.natCast_nonneg y), count_range s.n x _ hx, h.wt x hx,
        filter_ends _ (h.good.nodup x) (fun y hy => (h.good.mem hy).1) _ _ (by omega)]
      simp only [decide_eq_true_eq]
      split <;> rfl
    · change upd s.kd i 3 j ≠ 3 at hj1
      have e : j ≠ i := fun e => by subst e; rw [upd_same] at hj1; exact hj1 rfl
      rw [upd_other _ _ e] at hj1
      exact h.ln j hj hj1
    · show s.left - 1 = _
      have hf := filter_ends' (List.range s.n) List.nodup_range s.kd i (by omega)
      rw [if_pos (List.mem_range.2 hi)] at hf
      rw [h.left]
      exact hf.symm
  · rw [if_neg hc]
    have hkd : s.kd i ≠ 0 ∧ s.kd i ≠ 3 := ⟨fun e => hk (h4.2 (.inl e)), fun e => hk (h4.2 (.inr e))⟩
    have same3 : ∀ x, decide (upd s.kd i (s.kd i + 1) x = 3) = decide (s.kd x = 3) := by
      intro x
      by_cases e : x = i
      · subst e; rw [upd_same]; simp [hc, hkd.2]
      · rw [upd_other _ _ e]
    refine ⟨h.good, h.len, h.pos, fun x hx => ?_, fun x hx => ?_, h.wk, h.ws, fun x hx => ?_, fun j hj hj1 => ?_, ?_⟩
    · show 0 ≤ upd s.kd i (s.kd i + 1) x ∧ upd s.kd i (s.kd i + 1) x ≤ 3
      by_cases e : x = i
      · subst e; rw [upd_same]; omega
      · rw [upd_other _ _ e]; exact h.kd x hx
    · show s.wk x = -1 ↔ upd s.kd i (s.kd i + 1) x = 0 ∨ upd s.kd i (s.kd i + 1) x = 3
      by_cases e : x = i
      · subst e; rw [upd_same]; constructor
        · intro h5; exact absurd h5 hk
        · intro h5; omega
      · rw [upd_other _ _ e]; exact h.has x hx
    · show s.wt x = _
      rw [h.wt x hx]
      simp only [same3]
    · change upd s.kd i (s.kd i + 1) j ≠ 3 at hj1
      refine h.ln j hj fun e => hj1 ?_
      have := same3 j
      rw [e] at this
      simpa using this
    · show s.left = _
      rw [h.left]
      simp only [same3]
/-- A task that is ready is taken by a worker that has none. -/
theorem Inv.took {ls : List (List Int)} {s : PS} (h : Inv ls s) {i w : Nat} (hi : i < s.n) (hw : w < s.m) (h0 : s.ws w = -1) (hk : s.kd i = 0) : Inv ls ((s.took i w).step i) := by
  have h4 := (h.has i hi).2 (.inl hk)
  have e1 : (s.took i w).kd i + 1 = 1 := by show s.kd i + 1 = 1; omega
  unfold PS.step
  rw [e1, if_neg (by decide)]
  have same3 : ∀ x, decide (upd s.kd i 1 x = 3) = decide (s.kd x = 3) := by
    intro x
    by_cases e : x = i
    · subst e; rw [upd_same]; simp [hk]
    · rw [upd_other _ _ e]
  refine ⟨h.good, h.len, h.pos, fun x hx => ?_, fun x hx => ?_, fun x hx hx1 => ?_, fun v hv hv1 => ?_, fun x hx => ?_, fun j hj hj1 => ?_, ?_⟩
  · show 0 ≤ upd s.kd i 1 x ∧ upd s.kd i 1 x ≤ 3
    by_cases e : x = i
    · subst e; rw [upd_same]; omega
    · rw [upd_other _ _ e]; exact h.kd x hx
  · show upd s.wk i (w : Int) x = -1 ↔ upd s.kd i 1 x = 0 ∨ upd s.kd i 1 x = 3
    by_cases e : x = i
    · subst e; rw [upd_same, upd_same]; omega
    · rw [upd_other _ _ e, upd_other _ _ e]; exact h.has x hx
  · change upd s.wk i (w : Int) x ≠ -1 at hx1
    show 0 ≤ upd s.wk i (w : Int) x ∧ upd s.wk i (w : Int) x < (s.m : Int) ∧ upd s.ws w (i : Int) (upd s.wk i (w : Int) x).toNat = (x : Int)
    by_cases e : x = i
    · subst e; rw [upd_same]; simp [upd_same]; omega
    · rw [upd_other _ _ e] at hx1 ⊢
      obtain ⟨a, b, c⟩ := h.wk x hx hx1
      refine ⟨a, b, ?_⟩
      rw [upd_other _ _ (fun e2 => by rw [e2] at c; omega)]
      exact c
  · change upd s.ws w (i : Int) v ≠ -1 at hv1
    show 0 ≤ upd s.ws w (i : Int) v ∧ upd s.ws w (i : Int) v < (s.n : Int) ∧ upd s.wk i (w : Int) (upd s.ws w (i : Int) v).toNat = (v : Int)
    by_cases e : v = w
    · subst e; rw [upd_same]; simp [upd_same]; omega
    · rw [upd_other _ _ e] at hv1 ⊢
      obtain ⟨a, b, c⟩ := h.ws v hv hv1
      refine ⟨a, b, ?_⟩
      rw [upd_other _ _ (fun e2 => by rw [e2] at c; omega)]
      exact c
  · show s.wt x = (((ls.getD x []).filter (fun j => !decide (upd s.kd i 1 j.toNat = 3))).length : Int)
    rw [h.wt x hx]
    simp only [same3]
  · change upd s.kd i 1 j ≠ 3 at hj1
    refine h.ln j hj fun e => hj1 ?_
    have := same3 j
    rw [e] at this
    simpa using this
  · show s.left = (((List.range s.n).filter (fun j => !decide (upd s.kd i 1 j = 3))).length : Int)
    rw [h.left]
    simp only [same3]
/-- Where a task is left, one is ready or one has a worker. -/
theorem Inv.some {ls : List (List Int)} {s : PS} (h : Inv ls s) {i : Nat} (hi : i < s.n) (hk : s.kd i ≠ 3) (hn : ∀ j, j < s.n → s.had j = false) : ∃ j, j < s.n ∧ s.rdy j = true := by
  have h3 : ∀ m, ∀ j, j ≤ m → j < s.n → s.kd j ≠ 3 → ∃ k, k < s.n ∧ s.kd k ≠ 3 ∧ ∀ i, i < k → s.kd i = 3 := by
    intro m
    induction m with
    | zero => intro j hm hj hp; exact ⟨j, hj, hp, fun i hi => by omega⟩
    | succ m ih =>
      intro j hm hj hp
      by_cases hq : ∃ i, i < j ∧ s.kd i ≠ 3
      · obtain ⟨i, hi, hpi⟩ := hq
        exact ih i (by omega) (by omega) hpi
      · refine ⟨j, hj, hp, fun i hi => Classical.byContradiction fun hc => hq ⟨i, hi, hc⟩⟩
  obtain ⟨k, hkn, hk3, hbelow⟩ := h3 i i (Nat.le_refl _) hi hk
  refine ⟨k, hkn, ?_⟩
  have hw : s.wk k = -1 := by simpa [PS.had] using hn k hkn
  have h0 : s.kd k = 0 := ((h.has k hkn).1 hw).resolve_right hk3
  have hwt := h.wt k hkn
  rw [List.filter_eq_nil_iff.2 (by
    intro x hx
    have hm := h.good.mem hx
    have := hbelow x.toNat (by omega)
    simp [this])] at hwt
  simp [PS.rdy, h0, hwt]
/-- A task that is ready leans on none that is left. -/
theorem Inv.ready {ls : List (List Int)} {s : PS} (h : Inv ls s) {i : Nat} (hi : i < s.n) : s.rdy i = true ↔ s.kd i = 0 ∧ ∀ j ∈ ls.getD i [], s.kd j.toNat = 3 := by
  have hwt := h.wt i hi
  simp only [PS.rdy, Bool.and_eq_true, decide_eq_true_eq]
  refine and_congr_right fun _ => ?_
  rw [hwt]
  constructor
  · intro h0 j hj
    have hn : (ls.getD i []).filter (fun j => !decide (s.kd j.toNat = 3)) = [] := List.eq_nil_of_length_eq_zero (by omega)
    have := (List.filter_eq_nil_iff.1 hn) j hj
    simpa using this
  · intro h0
    rw [List.filter_eq_nil_iff.2 (by intro x hx; simp [h0 x hx])]
    rfl
end Go.Proofs.Ytgdkgoiagjjccaa
