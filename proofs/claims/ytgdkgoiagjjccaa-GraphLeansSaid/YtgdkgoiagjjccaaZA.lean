/- SMath, GKeepM, GLeastM, GReachM, WideMath, SNewM, GLstM: put together. -/

/- Tasks and workers, as numbers: what a pick comes to. -/
namespace Go.Proofs.Ytgdkgoiagjjccaa

/-- The first place of which it is so; -1: none. -/
def idx (n : Nat) (p : Nat → Bool) : Int :=
  match (List.range n).find? p with
  | some i => (i : Int)
  | none => -1
theorem idx_miss {n : Nat} {p : Nat → Bool} (h : ∀ j, j < n → p j = false) : idx n p = -1 := by
  unfold idx
  rw [List.find?_eq_none.2 (fun x hx => by simp [h x (List.mem_range.1 hx)])]
theorem idx_hit {n k : Nat} {p : Nat → Bool} (hk : k < n) (hp : p k = true) (h : ∀ j, j < k → p j = false) : idx n p = (k : Int) := by
  unfold idx
  have e : (List.range n).find? p = some k := by
    rw [List.find?_eq_some_iff_append]
    refine ⟨hp, List.range k, (List.range (n - k - 1)).map (k + 1 + ·), ?_, fun a ha => by simp [h a (List.mem_range.1 ha)]⟩
    apply List.ext_getElem
    · simp; omega
    · intro i h1 h2
      simp [List.getElem_append, List.getElem_cons]
      intro hki
      split <;> omega
  rw [e]
theorem idx_cases (n : Nat) (p : Nat → Bool) : (∃ k : Nat, k < n ∧ idx n p = (k : Int) ∧ p k = true ∧ ∀ j, j < k → p j = false) ∨ (idx n p = -1 ∧ ∀ j, j < n → p j = false) := by
  by_cases h : ∀ j, j < n → p j = false
  · exact .inr ⟨idx_miss h, h⟩
  · left
    have h2 : ∃ j, j < n ∧ p j = true := by
      apply Classical.byContradiction
      intro hc
      apply h
      intro j hj
      cases hp : p j with
      | false => rfl
      | true => exact absurd ⟨j, hj, hp⟩ hc
    have h3 : ∀ m, ∀ j, j ≤ m → j < n → p j = true → ∃ k, k < n ∧ p k = true ∧ ∀ i, i < k → p i = false := by
      intro m
      induction m with
      | zero => intro j hm hj hp; exact ⟨j, hj, hp, fun i hi => by omega⟩
      | succ m ih =>
        intro j hm hj hp
        by_cases hq : ∃ i, i < j ∧ p i = true
        · obtain ⟨i, hi, hpi⟩ := hq
          exact ih i (by omega) (by omega) hpi
        · refine ⟨j, hj, hp, fun i hi => ?_⟩
          cases hpi : p i with
          | false => rfl
          | true => exact absurd ⟨i, hi, hpi⟩ hq
    obtain ⟨j, hj, hp⟩ := h2
    obtain ⟨k, hk, hpk, hno⟩ := h3 j j (Nat.le_refl _) hj hp
    exact ⟨k, hk, idx_hit hk hpk hno, hpk, hno⟩

def upd {α : Type} (f : Nat → α) (i : Nat) (v : α) : Nat → α := fun x => if x = i then v else f x
theorem upd_same {α : Type} (f : Nat → α) (i : Nat) (v : α) : upd f i v i = v := if_pos rfl
theorem upd_other {α : Type} (f : Nat → α) {i x : Nat} (v : α) (h : x ≠ i) : upd f i v x = f x := if_neg h
theorem upd_self {α : Type} (f : Nat → α) (i : Nat) : upd f i (f i) = f := by
  funext x; unfold upd; split <;> simp_all

/-- How a plan stands. -/
structure PS where
  n : Nat
  m : Nat
  kd : Nat → Int
  wk : Nat → Int
  wt : Nat → Int
  ln : Nat → List Int
  ws : Nat → Int
  picks : Int
  left : Int

def decs : List Int → (Nat → Int) → (Nat → Int)
  | [], f => f
  | j :: l, f => decs l (upd f j.toNat (f j.toNat - 1))
theorem decs_append (l r : List Int) (f : Nat → Int) : decs (l ++ r) f = decs r (decs l f) := by
  induction l generalizing f with
  | nil => rfl
  | cons j l ih => exact ih _
theorem decs_snoc (l : List Int) (j : Int) (f : Nat → Int) : decs (l ++ [j]) f = upd (decs l f) j.toNat (decs l f j.toNat - 1) := by rw [decs_append]; rfl
/-- How many times a number stands in a list. -/
theorem decs_at (l : List Int) (hl : ∀ j ∈ l, 0 ≤ j) (f : Nat → Int) (x : Nat) : decs l f x = f x - (l.count (x : Int) : Nat) := by
  induction l generalizing f with
  | nil => simp [decs]
  | cons j l ih =>
    have h0 := hl j (by simp)
    rw [decs, ih (fun k hk => hl k (by simp [hk])), List.count_cons]
    unfold upd
    by_cases e : x = j.toNat
    · have e2 : j = (x : Int) := by omega
      simp [e2]; omega
    · have e2 : ¬ j = (x : Int) := by omega
      simp [e, e2]

namespace PS
def rdy (s : PS) (i : Nat) : Bool := decide (s.kd i = 0) && decide (s.wt i = 0)
def had (s : PS) (i : Nat) : Bool := !decide (s.wk i = -1)
def took (s : PS) (i w : Nat) : PS := { s with wk := upd s.wk i w, ws := upd s.ws w i }
def step (s : PS) (i : Nat) : PS :=
  if s.kd i + 1 = 3 then { s with picks := s.picks + 1, kd := upd s.kd i (s.kd i + 1), left := s.left - 1, ws := upd s.ws (s.wk i).toNat (-1), wk := upd s.wk i (-1), wt := decs (s.ln i) s.wt }
  else { s with picks := s.picks + 1, kd := upd s.kd i (s.kd i + 1) }
/-- What a pick comes to: the plan, the event, the error's number (3: none; else as told). -/
inductive Out where
  | ev (kind task worker : Int)
  | range
  | ended
deriving DecidableEq
def act (s : PS) (i : Nat) : PS × Out := (s.step i, .ev (s.kd i + 1) i (s.wk i))
def pick (s : PS) (w : Int) : PS × Out :=
  if w < 0 ∨ (s.m : Int) ≤ w then (s, .range)
  else if s.ws w.toNat ≠ -1 then s.act (s.ws w.toNat).toNat
  else if idx s.n s.rdy ≠ -1 then (s.took (idx s.n s.rdy).toNat w.toNat).act (idx s.n s.rdy).toNat
  else if idx s.n s.had ≠ -1 then s.act (idx s.n s.had).toNat
  else (s, .ended)
end PS

/-- On whom tasks lean: of a list of lists that is good. -/
def GoodL (ls : List (List Int)) : Prop := ∀ i : Nat, ∀ l, ls[i]? = some l → ∀ k : Nat, ∀ x, l[k]? = some x → 0 ≤ x ∧ x < (i : Int) ∧ ∀ y, 0 < k → l[k - 1]? = some y → y < x
noncomputable instance (ls : List (List Int)) : Decidable (GoodL ls) := Classical.propDecidable _

/-- What stands of a plan always. -/
structure Inv (ls : List (List Int)) (s : PS) : Prop where
  good : GoodL ls
  len : ls.length = s.n
  pos : 1 ≤ s.m
  kd : ∀ i, i < s.n → 0 ≤ s.kd i ∧ s.kd i ≤ 3
  has : ∀ i, i < s.n → (s.wk i = -1 ↔ s.kd i = 0 ∨ s.kd i = 3)
  wk : ∀ i, i < s.n → s.wk i ≠ -1 → 0 ≤ s.wk i ∧ s.wk i < (s.m : Int) ∧ s.ws (s.wk i).toNat = (i : Int)
  ws : ∀ w, w < s.m → s.ws w ≠ -1 → 0 ≤ s.ws w ∧ s.ws w < (s.n : Int) ∧ s.wk (s.ws w).toNat = (w : Int)
  wt : ∀ i, i < s.n → s.wt i = ((ls.getD i []).filter (fun j => !decide (s.kd j.toNat = 3))).length
  ln : ∀ j, j < s.n → s.kd j ≠ 3 → s.ln j = ((List.range s.n).filter (fun i => decide ((j : Int) ∈ ls.getD i []))).map Int.ofNat
  left : s.left = (((List.range s.n).filter (fun i => !decide (s.kd i = 3))).length : Nat)

theorem GoodL.mem {ls : List (List Int)} (h : GoodL ls) {i : Nat} {x : Int} (hx : x ∈ ls.getD i []) : 0 ≤ x ∧ x < (i : Int) := by
  rcases Nat.lt_or_ge i ls.length with hi | hi
  · have e : ls[i]? = some ls[i] := List.getElem?_eq_getElem hi
    have e2 : ls.getD i [] = ls[i] := by simp [List.getD_eq_getElem?_getD, hi]
    rw [e2] at hx
    obtain ⟨k, hk, rfl⟩ := List.getElem_of_mem hx
    obtain ⟨a, b, _⟩ := h i _ e k _ (List.getElem?_eq_getElem hk)
    exact ⟨a, b⟩
  · simp [List.getD_eq_getElem?_getD, hi] at hx
theorem rise_nodup (l : List Int) (h : ∀ k : Nat, ∀ x, l[k]? = some x → ∀ y, 0 < k → l[k - 1]? = some y → y < x) : l.Nodup := by
  have hp : l.Pairwise (· < ·) := by
    rw [List.pairwise_iff_getElem]
    intro i j hi hj hij
    induction j with
    | zero => omega
    | succ j ih =>
      have h1 := h (j + 1) _ (List.getElem?_eq_getElem hj) l[j] (by omega) (List.getElem?_eq_getElem (by omega))
      rcases Nat.lt_or_ge i j with h2 | h2
      · exact Int.lt_trans (ih (by omega) h2) h1
      · obtain rfl : i = j := by omega
        exact h1
  exact hp.imp (fun h => by omega)
theorem GoodL.nodup {ls : List (List Int)} (h : GoodL ls) (i : Nat) : (ls.getD i []).Nodup := by
  rcases Nat.lt_or_ge i ls.length with hi | hi
  · have e : ls[i]? = some ls[i] := List.getElem?_eq_getElem hi
    have e2 : ls.getD i [] = ls[i] := by simp [List.getD_eq_getElem?_getD, hi]
    rw [e2]
    exact rise_nodup _ fun k x hx y h0 hy => (h i _ e k x hx).2.2 y h0 hy
  · simp [List.getD_eq_getElem?_getD, hi]
theorem filter_ends (l : List Int) (hl : l.Nodup) (h0 : ∀ x ∈ l, 0 ≤ x) (f : Nat → Int) (i : Nat) (hi : f i ≠ 3) :
    ((l.filter (fun j => !decide (upd f i 3 j.toNat = 3))).length : Int) = (l.filter (fun j => !decide (f j.toNat = 3))).length - (if (i : Int) ∈ l then 1 else 0) := by
  induction l with
  | nil => simp
  | cons j l ih =>
    have ih := ih (List.nodup_cons.1 hl).2 (fun x hx => h0 x (by simp [hx]))
    have hj := h0 j (by simp)
    have hn := (List.nodup_cons.1 hl).1
    rw [List.filter_cons, List.filter_cons]
    by_cases e : j.toNat = i
    · have e2 : j = (i : Int) := by omega
      subst e2
      have u1 : upd f i 3 i = 3 := upd_same _ _ _
      simp only [Int.toNat_natCast, u1, hi, decide_true, decide_false, Bool.not_true, Bool.not_false, Bool.false_eq_true, if_false, if_true, List.length_cons, List.mem_cons, true_or]
      rw [ih, if_neg hn]; omega
    · have e2 : ¬ (i : Int) = j := by omega
      have u1 : upd f i 3 j.toNat = f j.toNat := upd_other _ _ e
      simp only [u1, List.mem_cons, e2, false_or]
      split
      · simp only [List.length_cons]; omega
      · exact ih
theorem filter_ends' (l : List Nat) (hl : l.Nodup) (f : Nat → Int) (i : Nat) (hi : f i ≠ 3) :
    ((l.filter (fun j => !decide (upd f i 3 j = 3))).length : Int) = (l.filter (fun j => !decide (f j = 3))).length - (if i ∈ l then 1 else 0) := by
  induction l with
  | nil => simp
  | cons j l ih =>
    have ih := ih (List.nodup_cons.1 hl).2
    have hn := (List.nodup_cons.1 hl).1
    rw [List.filter_cons, List.filter_cons]
    by_cases e : j = i
    · subst e
      have u1 : upd f j 3 j = 3 := upd_same _ _ _
      simp only [u1, hi, decide_true, decide_false, Bool.not_true, Bool.not_false, Bool.false_eq_true, if_false, if_true, List.length_cons, List.mem_cons, true_or]
      rw [ih, if_neg hn]; omega
    · have e2 : ¬ i = j := by omega
      have u1 : upd f i 3 j = f j := upd_other _ _ e
      simp only [u1, List.mem_cons, e2, false_or]
      split
      · simp only [List.length_cons]; omega
      · exact ih
theorem filter_same {α : Type} (l : List α) (p q : α → Bool) (h : ∀ x ∈ l, p x = q x) : l.filter p = l.filter q := List.filter_congr h
theorem count_map (l : List Nat) (x : Nat) : (l.map Int.ofNat).count (x : Int) = l.count x := by
  induction l with
  | nil => rfl
  | cons a l ih =>
    rw [List.map_cons, List.count_cons, List.count_cons, ih]
    have : (Int.ofNat a == (x : Int)) = (a == x) := by rw [Bool.eq_iff_iff]; simp; omega
    rw [this]
theorem count_range (n x : Nat) (p : Nat → Bool) (hx : x < n) : (((List.range n).filter p).map Int.ofNat).count (x : Int) = if p x then 1 else 0 := by
  rw [count_map]
  by_cases hp : p x = true
  · rw [if_pos hp, List.count_filter hp, List.count_range, if_pos hx]
  · rw [if_neg hp]
    exact List.count_eq_zero.2 (by simp [hp])

/-- A task that a worker has goes a step on. -/
theorem Inv.step {ls : List (List Int)} {s : PS} (h : Inv ls s) {i : Nat} (hi : i < s.n) (hk : s.wk i ≠ -1) : Inv ls (s.step i) := by
  have h3 := h.kd i hi
  have h4 := h.has i hi
  obtain ⟨w0, w1, w2⟩ := h.wk i hi hk
  unfold PS.step
  by_cases hc : s.kd i + 1 = 3
  · rw [if_pos hc, hc]
    refine ⟨h.good, h.len, h.pos, fun x hx => ?_, fun x hx => ?_, fun x hx hx1 => ?_, fun w hw hw1 => ?_, fun x hx => ?_, fun j hj hj1 => ?_, ?_⟩
    · show 0 ≤ upd s.kd i 3 x ∧ upd s.kd i 3 x ≤ 3
      by_cases e : x = i
      · subst e; rw [upd_same]; omega
      · rw [upd_other _ _ e]; exact h.kd x hx
    · show upd s.wk i (-1) x = -1 ↔ upd s.kd i 3 x = 0 ∨ upd s.kd i 3 x = 3
      by_cases e : x = i
      · subst e; rw [upd_same, upd_same]; simp
      · rw [upd_other _ _ e, upd_other _ _ e]; exact h.has x hx
    · change upd s.wk i (-1) x ≠ -1 at hx1
      show 0 ≤ upd s.wk i (-1) x ∧ upd s.wk i (-1) x < (s.m : Int) ∧ upd s.ws (s.wk i).toNat (-1) (upd s.wk i (-1) x).toNat = (x : Int)
      by_cases e : x = i
      · subst e; rw [upd_same] at hx1; exact absurd rfl hx1
      · rw [upd_other _ _ e] at hx1 ⊢
        obtain ⟨a, b, c⟩ := h.wk x hx hx1
        refine ⟨a, b, ?_⟩
        rw [upd_other _ _ (fun e2 => e (by rw [e2] at c; omega))]
        exact c
    · change upd s.ws (s.wk i).toNat (-1) w ≠ -1 at hw1
      show 0 ≤ upd s.ws (s.wk i).toNat (-1) w ∧ upd s.ws (s.wk i).toNat (-1) w < (s.n : Int) ∧ upd s.wk i (-1) (upd s.ws (s.wk i).toNat (-1) w).toNat = (w : Int)
      by_cases e : w = (s.wk i).toNat
      · subst e; rw [upd_same] at hw1; exact absurd rfl hw1
      · rw [upd_other _ _ e] at hw1 ⊢
        obtain ⟨a, b, c⟩ := h.ws w hw hw1
        refine ⟨a, b, ?_⟩
        rw [upd_other _ _ (fun e2 => e (by rw [e2] at c; omega))]
        exact c
    · show decs (s.ln i) s.wt x = _
      rw [h.ln i hi (by omega), decs_at _ (by simp only [List.mem_map]; rintro j ⟨y, _, rfl⟩; exact Int.natCast_nonneg y), count_range s.n x _ hx, h.wt x hx,
        filter_ends _ (h.good.nodup x) (fun y hy => (h.good.mem hy).1) _ _ (by omega)]
      simp only [decide_eq_true_eq]
      split <;> rfl
    · change upd s.kd i 3 j ≠ 3 at hj1
      have e : j ≠ i := fun e => by subst e; rw [upd_same] at hj1; exact hj1 rfl
      rw [upd_other _ _ e] at hj1
      exact h.ln j hj hj1
    · show s.left - 1 = _
      have hf := filter_ends' (List.range s.n) List.nodup_range s.kd i (by omega)
      rw [if_pos (List.mem_range.2 hi)] at hf
      rw [h.left]
      exact hf.symm
  · rw [if_neg hc]
    have hkd : s.kd i ≠ 0 ∧ s.kd i ≠ 3 := ⟨fun e => hk (h4.2 (.inl e)), fun e => hk (h4.2 (.inr e))⟩
    have same3 : ∀ x, decide (upd s.kd i (s.kd i + 1) x = 3) = decide (s.kd x = 3) := by
      intro x
      by_cases e : x = i
      · subst e; rw [upd_same]; simp [hc, hkd.2]
      · rw [upd_other _ _ e]
    refine ⟨h.good, h.len, h.pos, fun x hx => ?_, fun x hx => ?_, h.wk, h.ws, fun x hx => ?_, fun j hj hj1 => ?_, ?_⟩
    · show 0 ≤ upd s.kd i (s.kd i + 1) x ∧ upd s.kd i (s.kd i + 1) x ≤ 3
      by_cases e : x = i
      · subst e; rw [upd_same]; omega
      · rw [upd_other _ _ e]; exact h.kd x hx
    · show s.wk x = -1 ↔ upd s.kd i (s.kd i + 1) x = 0 ∨ upd s.kd i (s.kd i + 1) x = 3
      by_cases e : x = i
      · subst e; rw [upd_same]; constructor
        · intro h5; exact absurd h5 hk
        · intro h5; omega
      · rw [upd_other _ _ e]; exact h.has x hx
    · show s.wt x = _
      rw [h.wt x hx]
      simp only [same3]
    · change upd s.kd i (s.kd i + 1) j ≠ 3 at hj1
      refine h.ln j hj fun e => hj1 ?_
      have := same3 j
      rw [e] at this
      simpa using this
    · show s.left = _
      rw [h.left]
      simp only [same3]
/-- A task that is ready is taken by a worker that has none. -/
theorem Inv.took {ls : List (List Int)} {s : PS} (h : Inv ls s) {i w : Nat} (hi : i < s.n) (hw : w < s.m) (h0 : s.ws w = -1) (hk : s.kd i = 0) : Inv ls ((s.took i w).step i) := by
  have h4 := (h.has i hi).2 (.inl hk)
  have e1 : (s.took i w).kd i + 1 = 1 := by show s.kd i + 1 = 1; omega
  unfold PS.step
  rw [e1, if_neg (by decide)]
  have same3 : ∀ x, decide (upd s.kd i 1 x = 3) = decide (s.kd x = 3) := by
    intro x
    by_cases e : x = i
    · subst e; rw [upd_same]; simp [hk]
    · rw [upd_other _ _ e]
  refine ⟨h.good, h.len, h.pos, fun x hx => ?_, fun x hx => ?_, fun x hx hx1 => ?_, fun v hv hv1 => ?_, fun x hx => ?_, fun j hj hj1 => ?_, ?_⟩
  · show 0 ≤ upd s.kd i 1 x ∧ upd s.kd i 1 x ≤ 3
    by_cases e : x = i
    · subst e; rw [upd_same]; omega
    · rw [upd_other _ _ e]; exact h.kd x hx
  · show upd s.wk i (w : Int) x = -1 ↔ upd s.kd i 1 x = 0 ∨ upd s.kd i 1 x = 3
    by_cases e : x = i
    · subst e; rw [upd_same, upd_same]; omega
    · rw [upd_other _ _ e, upd_other _ _ e]; exact h.has x hx
  · change upd s.wk i (w : Int) x ≠ -1 at hx1
    show 0 ≤ upd s.wk i (w : Int) x ∧ upd s.wk i (w : Int) x < (s.m : Int) ∧ upd s.ws w (i : Int) (upd s.wk i (w : Int) x).toNat = (x : Int)
    by_cases e : x = i
    · subst e; rw [upd_same]; simp [upd_same]; omega
    · rw [upd_other _ _ e] at hx1 ⊢
      obtain ⟨a, b, c⟩ := h.wk x hx hx1
      refine ⟨a, b, ?_⟩
      rw [upd_other _ _ (fun e2 => by rw [e2] at c; omega)]
      exact c
  · change upd s.ws w (i : Int) v ≠ -1 at hv1
    show 0 ≤ upd s.ws w (i : Int) v ∧ upd s.ws w (i : Int) v < (s.n : Int) ∧ upd s.wk i (w : Int) (upd s.ws w (i : Int) v).toNat = (v : Int)
    by_cases e : v = w
    · subst e; rw [upd_same]; simp [upd_same]; omega
    · rw [upd_other _ _ e] at hv1 ⊢
      obtain ⟨a, b, c⟩ := h.ws v hv hv1
      refine ⟨a, b, ?_⟩
      rw [upd_other _ _ (fun e2 => by rw [e2] at c; omega)]
      exact c
  · show s.wt x = (((ls.getD x []).filter (fun j => !decide (upd s.kd i 1 j.toNat = 3))).length : Int)
    rw [h.wt x hx]
    simp only [same3]
  · change upd s.kd i 1 j ≠ 3 at hj1
    refine h.ln j hj fun e => hj1 ?_
    have := same3 j
    rw [e] at this
    simpa using this
  · show s.left = (((List.range s.n).filter (fun j => !decide (upd s.kd i 1 j = 3))).length : Int)
    rw [h.left]
    simp only [same3]
/-- Where a task is left, one is ready or one has a worker. -/
theorem Inv.some {ls : List (List Int)} {s : PS} (h : Inv ls s) {i : Nat} (hi : i < s.n) (hk : s.kd i ≠ 3) (hn : ∀ j, j < s.n → s.had j = false) : ∃ j, j < s.n ∧ s.rdy j = true := by
  have h3 : ∀ m, ∀ j, j ≤ m → j < s.n → s.kd j ≠ 3 → ∃ k, k < s.n ∧ s.kd k ≠ 3 ∧ ∀ i, i < k → s.kd i = 3 := by
    intro m
    induction m with
    | zero => intro j hm hj hp; exact ⟨j, hj, hp, fun i hi => by omega⟩
    | succ m ih =>
      intro j hm hj hp
      by_cases hq : ∃ i, i < j ∧ s.kd i ≠ 3
      · obtain ⟨i, hi, hpi⟩ := hq
        exact ih i (by omega) (by omega) hpi
      · refine ⟨j, hj, hp, fun i hi => Classical.byContradiction fun hc => hq ⟨i, hi, hc⟩⟩
  obtain ⟨k, hkn, hk3, hbelow⟩ := h3 i i (Nat.le_refl _) hi hk
  refine ⟨k, hkn, ?_⟩
  have hw : s.wk k = -1 := by simpa [PS.had] using hn k hkn
  have h0 : s.kd k = 0 := ((h.has k hkn).1 hw).resolve_right hk3
  have hwt := h.wt k hkn
  rw [List.filter_eq_nil_iff.2 (by
    intro x hx
    have hm := h.good.mem hx
    have := hbelow x.toNat (by omega)
    simp [this])] at hwt
  simp [PS.rdy, h0, hwt]
/-- A task that is ready leans on none that is left. -/
theorem Inv.ready {ls : List (List Int)} {s : PS} (h : Inv ls s) {i : Nat} (hi : i < s.n) : s.rdy i = true ↔ s.kd i = 0 ∧ ∀ j ∈ ls.getD i [], s.kd j.toNat = 3 := by
  have hwt := h.wt i hi
  simp only [PS.rdy, Bool.and_eq_true, decide_eq_true_eq]
  refine and_congr_right fun _ => ?_
  rw [hwt]
  constructor
  · intro h0 j hj
    have hn : (ls.getD i []).filter (fun j => !decide (s.kd j.toNat = 3)) = [] := List.eq_nil_of_length_eq_zero (by omega)
    have := (List.filter_eq_nil_iff.1 hn) j hj
    simpa using this
  · intro h0
    rw [List.filter_eq_nil_iff.2 (by intro x hx; simp [h0 x hx])]
    rfl
end Go.Proofs.Ytgdkgoiagjjccaa

/- Which order keeps a list: the program's way and the document's. -/
namespace Go.Proofs.Ytgdkgoiagjjccaa

theorem sub_len {α : Type} [DecidableEq α] : ∀ {l r : List α}, l.Nodup → (∀ x ∈ l, x ∈ r) → l.length ≤ r.length
  | [], _, _, _ => Nat.zero_le _
  | a :: l, r, hl, h => by
    have h12 := List.nodup_cons.1 hl
    have h3 := sub_len (r := r.erase a) h12.2 fun x hx => (List.mem_erase_of_ne (show x ≠ a from fun e => h12.1 (e ▸ hx))).2 (h x (List.mem_cons_of_mem _ hx))
    rw [List.length_erase_of_mem (h a (List.mem_cons_self ..))] at h3
    have h4 : 0 < r.length := List.length_pos_of_mem (h a (List.mem_cons_self ..))
    simp only [List.length_cons]
    omega
/-- The numbers below n. -/
def below (n : Nat) : List Int := (List.range n).map Int.ofNat
theorem below_len (n : Nat) : (below n).length = n := by simp [below]
theorem below_mem {n : Nat} {x : Int} : x ∈ below n ↔ 0 ≤ x ∧ x < (n : Int) := by
  simp only [below, List.mem_map, List.mem_range]
  constructor
  · rintro ⟨a, ha, rfl⟩
    simp only [Int.ofNat_eq_natCast]
    omega
  · rintro ⟨h1, h2⟩
    exact ⟨x.toNat, by omega, by simp only [Int.ofNat_eq_natCast]; omega⟩
theorem below_nodup (n : Nat) : (below n).Nodup := by
  unfold below
  refine List.Pairwise.map _ ?_ (List.nodup_range (n := n))
  intro a b h e
  exact h (Int.ofNat.inj e)
theorem getD_of {o : List Int} {q : Nat} (h : q < o.length) : o.getD q 0 = o[q] := by simp [List.getD_eq_getElem?_getD, h]
theorem mem_take {o : List Int} {q : Nat} {x : Int} : x ∈ o.take q ↔ ∃ i, i < q ∧ i < o.length ∧ o.getD i 0 = x := by
  constructor
  · intro h
    obtain ⟨i, hi, he⟩ := List.getElem_of_mem h
    have h1 : i < q ∧ i < o.length := by rw [List.length_take] at hi; omega
    refine ⟨i, h1.1, h1.2, ?_⟩
    rw [getD_of h1.2, ← he]
    simp
  · rintro ⟨i, h1, h2, rfl⟩
    rw [getD_of h2]
    refine List.mem_of_getElem? (i := i) ?_
    rw [List.getElem?_take]
    simp [h1, h2]
theorem nodup_take {o : List Int} (h : ∀ q, q < o.length → o.getD q 0 ∉ o.take q) : o.Nodup := by
  unfold List.Nodup
  rw [List.pairwise_iff_getElem]
  intro i j hi hj hij e
  exact h j hj (mem_take.2 ⟨i, hij, hi, by rw [getD_of hi, getD_of hj, e]⟩)

/-- Where a number stands in an order; -1: nowhere. -/
def atL (o : List Int) (x : Int) : Int := idx o.length fun k => decide (o.getD k 0 = x)
theorem atL_cases (o : List Int) (x : Int) : (∃ k : Nat, k < o.length ∧ atL o x = (k : Int) ∧ o.getD k 0 = x ∧ ∀ j, j < k → o.getD j 0 ≠ x) ∨ (atL o x = -1 ∧ x ∉ o) := by
  rcases idx_cases o.length fun k => decide (o.getD k 0 = x) with ⟨k, h1, h2, h3, h4⟩ | ⟨h1, h2⟩
  · exact .inl ⟨k, h1, h2, of_decide_eq_true h3, fun j hj => of_decide_eq_false (h4 j hj)⟩
  · refine .inr ⟨h1, fun hx => ?_⟩
    obtain ⟨i, hi, he⟩ := List.getElem_of_mem hx
    exact of_decide_eq_false (h2 i hi) (by rw [getD_of hi]; exact he)
/-- The order keeps the list, as the program looks at it: up to a place. -/
def KeepG (ls : List (List Int)) (o : List Int) (n : Nat) : Prop := ∀ q, q < n → 0 ≤ o.getD q 0 ∧ o.getD q 0 < (ls.length : Int) ∧ o.getD q 0 ∉ o.take q ∧ ∀ j ∈ ls.getD (o.getD q 0).toNat [], j ∈ o.take q
/-- The order keeps the list, as the document says it. -/
def KeepR (ls : List (List Int)) (o : List Int) (n : Nat) : Prop := ∀ i : Nat, i < n → 0 ≤ atL o (i : Int) ∧ ∀ j ∈ ls.getD i [], atL o j ≤ atL o (i : Int)
theorem keep_iff {ls : List (List Int)} {o : List Int} (hg : GoodL ls) (hl : o.length = ls.length) : KeepG ls o o.length ↔ KeepR ls o ls.length := by
  constructor
  · intro hk
    have hnd : o.Nodup := nodup_take fun q hq => (hk q hq).2.2.1
    have hin : ∀ x ∈ o, x ∈ below ls.length := fun x hx => by
      obtain ⟨q, hq, he⟩ := List.getElem_of_mem hx
      obtain ⟨h1, h2, _⟩ := hk q hq
      rw [getD_of hq, he] at h1 h2
      exact below_mem.2 ⟨h1, h2⟩
    intro i hi
    have hmem : (i : Int) ∈ o := by
      apply Classical.byContradiction
      intro hno
      have hb : (i : Int) ∈ below ls.length := below_mem.2 ⟨by omega, by omega⟩
      have h1 := sub_len (r := (below ls.length).erase (i : Int)) hnd fun x hx => (List.mem_erase_of_ne (show x ≠ (i : Int) from fun e => hno (e ▸ hx))).2 (hin x hx)
      rw [List.length_erase_of_mem hb, below_len] at h1
      omega
    rcases atL_cases o (i : Int) with ⟨k, h1, h2, h3, _⟩ | ⟨_, h2⟩
    · refine ⟨by omega, fun j hj => ?_⟩
      have h5 := (hk k h1).2.2.2 j (by rw [h3]; exact hj)
      obtain ⟨k', q1, q2, q3⟩ := mem_take.1 h5
      rcases atL_cases o j with ⟨k2, r1, r2, r3, r4⟩ | ⟨r2, r3⟩
      · rw [r2, h2]
        have : k2 ≤ k' := Nat.le_of_not_lt fun hlt => r4 k' hlt q3
        omega
      · omega
    · exact absurd hmem h2
  · intro hk
    have hall : ∀ x ∈ below ls.length, x ∈ o := fun x hx => by
      obtain ⟨h1, h2⟩ := below_mem.1 hx
      obtain ⟨i, rfl⟩ : ∃ i : Nat, x = (i : Int) := ⟨x.toNat, by omega⟩
      have h3 := (hk i (by omega)).1
      rcases atL_cases o (i : Int) with ⟨k, q1, _, q3, _⟩ | ⟨q1, _⟩
      · rw [← q3, getD_of q1]; exact List.getElem_mem q1
      · omega
    intro q hq
    have hqo : o.getD q 0 ∈ o := by rw [getD_of hq]; exact List.getElem_mem hq
    have hr : o.getD q 0 ∈ below ls.length := by
      apply Classical.byContradiction
      intro hno
      have h1 := sub_len (r := o.erase (o.getD q 0)) (below_nodup ls.length) fun x hx => (List.mem_erase_of_ne (show x ≠ o.getD q 0 from fun e => hno (e ▸ hx))).2 (hall x hx)
      rw [List.length_erase_of_mem hqo, below_len] at h1
      omega
    have hnt : o.getD q 0 ∉ o.take q := by
      intro hin
      have h1 := sub_len (r := o.eraseIdx q) (below_nodup ls.length) fun x hx => by
        rw [List.eraseIdx_eq_take_drop_succ, List.mem_append]
        have h2 := hall x hx
        rw [← List.take_append_drop q o, List.mem_append, List.drop_eq_getElem_cons hq, List.mem_cons] at h2
        rcases h2 with h2 | h2 | h2
        · exact .inl h2
        · left; rw [h2, ← getD_of hq]; exact hin
        · exact .inr h2
      rw [List.length_eraseIdx_of_lt hq, below_len] at h1
      omega
    obtain ⟨h1, h2⟩ := below_mem.1 hr
    refine ⟨h1, h2, hnt, fun j hj => ?_⟩
    obtain ⟨i, hi⟩ : ∃ i : Nat, o.getD q 0 = (i : Int) := ⟨(o.getD q 0).toNat, by omega⟩
    rw [hi, Int.toNat_natCast] at hj
    have hjr := hg.mem hj
    have h3 := (hk i (by omega)).2 j hj
    have hq2 : atL o (i : Int) = (q : Int) := by
      rcases atL_cases o (i : Int) with ⟨k, q1, q2, q3, q4⟩ | ⟨_, q2⟩
      · rw [q2]
        rcases Nat.lt_trichotomy k q with h5 | h5 | h5
        · exact absurd (mem_take.2 ⟨k, h5, q1, by rw [q3, hi]⟩) hnt
        · rw [h5]
        · exact absurd hi (q4 q h5)
      · exact absurd (hi ▸ hqo) q2
    rcases atL_cases o j with ⟨k, q1, q2, q3, q4⟩ | ⟨_, q2⟩
    · refine mem_take.2 ⟨k, ?_, q1, q3⟩
      rw [hq2, q2] at h3
      rcases Nat.lt_or_eq_of_le (show k ≤ q by omega) with h5 | h5
      · exact h5
      · subst h5; rw [hi] at q3; omega
    · exact absurd (hall j (below_mem.2 ⟨hjr.1, by omega⟩)) q2
end Go.Proofs.Ytgdkgoiagjjccaa

/- What is reached through others: the mathematics. -/
namespace Go.Proofs.Ytgdkgoiagjjccaa

theorem any_same {α : Type} {l : List α} {p q : α → Bool} (h : ∀ y ∈ l, p y = q y) : l.any p = l.any q := by
  induction l with
  | nil => rfl
  | cons a l ih => rw [List.any_cons, List.any_cons, h a (List.mem_cons_self ..), ih fun y hy => h y (List.mem_cons_of_mem _ hy)]
/-- A place leans on another one, also through others, in so many steps. -/
def rF (ls : List (List Int)) : Nat → Nat → Int → Bool
  | 0, _, _ => false
  | f + 1, a, x => (ls.getD a []).any fun n => decide (n = x) || rF ls f n.toNat x
theorem rF_fuel {ls : List (List Int)} (h : GoodL ls) (x : Int) : ∀ b a, a < b → ∀ f g, a < f → a < g → rF ls f a x = rF ls g a x := by
  intro b
  induction b with
  | zero => intro a ha; omega
  | succ b ih =>
    intro a ha f g hf hg
    obtain ⟨f, rfl⟩ : ∃ k, f = k + 1 := ⟨f - 1, by omega⟩
    obtain ⟨g, rfl⟩ : ∃ k, g = k + 1 := ⟨g - 1, by omega⟩
    unfold rF
    refine any_same fun n hn => ?_
    have hb := h.mem hn
    rw [ih n.toNat (by omega) f g (by omega) (by omega)]
/-- A place leans on another one, also through others. -/
def rB (ls : List (List Int)) (a : Nat) (x : Int) : Bool := rF ls (a + 1) a x
theorem rB_eq {ls : List (List Int)} (h : GoodL ls) (a : Nat) (x : Int) : rB ls a x = (ls.getD a []).any fun n => decide (n = x) || rB ls n.toNat x := by
  show rF ls (a + 1) a x = _
  unfold rF
  refine any_same fun n hn => ?_
  have hb := h.mem hn
  unfold rB
  rw [rF_fuel h x (n.toNat + 1) n.toNat (by omega) a (n.toNat + 1) (by omega) (by omega)]
theorem rB_iff {ls : List (List Int)} (h : GoodL ls) {a : Nat} {x : Int} : rB ls a x = true ↔ ∃ n ∈ ls.getD a [], n = x ∨ rB ls n.toNat x = true := by
  rw [rB_eq h, List.any_eq_true]
  simp only [Bool.or_eq_true, decide_eq_true_eq]
theorem rB_one {ls : List (List Int)} (h : GoodL ls) {a : Nat} {x : Int} (hx : x ∈ ls.getD a []) : rB ls a x = true := (rB_iff h).2 ⟨x, hx, .inl rfl⟩
theorem rB_lt {ls : List (List Int)} (h : GoodL ls) {x : Int} : ∀ b a, a < b → rB ls a x = true → 0 ≤ x ∧ x < (a : Int) := by
  intro b
  induction b with
  | zero => intro a ha; omega
  | succ b ih =>
    intro a ha hr
    obtain ⟨n, hn, e⟩ := (rB_iff h).1 hr
    have hb := h.mem hn
    rcases e with rfl | e
    · exact hb
    · have := ih n.toNat (by omega) e
      omega
theorem rB_trans {ls : List (List Int)} (h : GoodL ls) {x y : Int} : ∀ b a, a < b → rB ls a y = true → rB ls y.toNat x = true → rB ls a x = true := by
  intro b
  induction b with
  | zero => intro a ha; omega
  | succ b ih =>
    intro a ha h1 h2
    obtain ⟨n, hn, e⟩ := (rB_iff h).1 h1
    have hb := h.mem hn
    refine (rB_iff h).2 ⟨n, hn, .inr ?_⟩
    rcases e with rfl | e
    · exact h2
    · exact ih n.toNat (by omega) e h2
/-- What is told of a place but for those through others. -/
def leastRow (ls : List (List Int)) (i : Nat) : List Int := (ls.getD i []).filter fun n => !((ls.getD i []).any fun j => rB ls j.toNat n)
def leastL (ls : List (List Int)) : List (List Int) := (List.range ls.length).map (leastRow ls)
theorem leastL_len (ls : List (List Int)) : (leastL ls).length = ls.length := by simp [leastL]
theorem leastL_at (ls : List (List Int)) (i : Nat) : (leastL ls).getD i [] = leastRow ls i := by
  rcases Nat.lt_or_ge i ls.length with h | h
  · simp [leastL, List.getD_eq_getElem?_getD, h]
  · have e : ls.getD i [] = [] := by simp [List.getD_eq_getElem?_getD, h]
    unfold leastRow
    rw [e]
    simp [leastL, List.getD_eq_getElem?_getD, h]
theorem leastRow_mem {ls : List (List Int)} {i : Nat} {x : Int} : x ∈ leastRow ls i ↔ x ∈ ls.getD i [] ∧ ∀ j ∈ ls.getD i [], rB ls j.toNat x = false := by
  unfold leastRow
  rw [List.mem_filter]
  simp
theorem rise_of {ls : List (List Int)} (h : GoodL ls) (i : Nat) : (ls.getD i []).Pairwise (· < ·) := by
  rcases Nat.lt_or_ge i ls.length with hi | hi
  · have e : ls[i]? = some ls[i] := List.getElem?_eq_getElem hi
    have e2 : ls.getD i [] = ls[i] := by simp [List.getD_eq_getElem?_getD, hi]
    rw [e2, List.pairwise_iff_getElem]
    intro a b ha hb hab
    induction b with
    | zero => omega
    | succ b ih =>
      have h1 := (h i _ e (b + 1) _ (List.getElem?_eq_getElem hb)).2.2 ls[i][b] (by omega) (List.getElem?_eq_getElem (by omega))
      rcases Nat.lt_or_ge a b with h2 | h2
      · exact Int.lt_trans (ih (by omega) h2) h1
      · obtain rfl : a = b := by omega
        exact h1
  · simp [List.getD_eq_getElem?_getD, hi]
theorem good_of {ls : List (List Int)} (h1 : ∀ i, (ls.getD i []).Pairwise (· < ·)) (h2 : ∀ i, ∀ x ∈ ls.getD i [], 0 ≤ x ∧ x < (i : Int)) : GoodL ls := by
  intro i l hl q x hx
  have e : ls.getD i [] = l := by simp [List.getD_eq_getElem?_getD, hl]
  have h3 := h1 i
  have h4 := h2 i
  rw [e] at h3 h4
  have h5 := h4 x (List.mem_of_getElem? hx)
  refine ⟨h5.1, h5.2, fun y hq hy => ?_⟩
  obtain ⟨q1, rfl⟩ := List.getElem?_eq_some_iff.1 hx
  obtain ⟨q2, rfl⟩ := List.getElem?_eq_some_iff.1 hy
  exact List.pairwise_iff_getElem.1 h3 (q - 1) q q2 q1 (by omega)
theorem leastL_good {ls : List (List Int)} (h : GoodL ls) : GoodL (leastL ls) := by
  refine good_of (fun i => ?_) fun i x hx => ?_
  · rw [leastL_at]
    exact (rise_of h i).filter _
  · rw [leastL_at] at hx
    exact h.mem (leastRow_mem.1 hx).1
/-- What is reached is reached by what is told. -/
theorem least_reach {ls : List (List Int)} (h : GoodL ls) : ∀ b a, a < b → ∀ x, rB ls a x = true → rB (leastL ls) a x = true := by
  have hm := leastL_good h
  intro b
  induction b with
  | zero => intro a ha; omega
  | succ b ih =>
    intro a ha
    have edge : ∀ d : Nat, ∀ n ∈ ls.getD a [], (a : Int) - n < (d : Int) → rB (leastL ls) a n = true := by
      intro d
      induction d with
      | zero => intro n hn hd; have := h.mem hn; omega
      | succ d ihd =>
        intro n hn hd
        by_cases hin : n ∈ leastRow ls a
        · exact rB_one hm (by rw [leastL_at]; exact hin)
        · have : ∃ j ∈ ls.getD a [], rB ls j.toNat n = true := by
            apply Classical.byContradiction
            intro hc
            refine hin (leastRow_mem.2 ⟨hn, fun j hj => ?_⟩)
            cases hr : rB ls j.toNat n with
            | false => rfl
            | true => exact absurd ⟨j, hj, hr⟩ hc
          obtain ⟨j, hj, hr⟩ := this
          have hjb := h.mem hj
          have hlt := rB_lt h _ j.toNat (Nat.lt_succ_self _) hr
          exact rB_trans hm _ a (Nat.lt_succ_self _) (ihd j hj (by omega)) (ih j.toNat (by omega) n hr)
    intro x hr
    obtain ⟨n, hn, e⟩ := (rB_iff h).1 hr
    have hb := h.mem hn
    have h1 := edge (a + 1) n hn (by omega)
    rcases e with rfl | e
    · exact h1
    · exact rB_trans hm _ a (Nat.lt_succ_self _) h1 (ih n.toNat (by omega) x e)
theorem keepR_reach {ls : List (List Int)} (h : GoodL ls) {o : List Int} (hk : KeepR ls o ls.length) {x : Int} : ∀ b a, a < b → a < ls.length → rB ls a x = true → atL o x ≤ atL o (a : Int) := by
  intro b
  induction b with
  | zero => intro a ha; omega
  | succ b ih =>
    intro a ha hl hr
    obtain ⟨n, hn, e⟩ := (rB_iff h).1 hr
    have hb := h.mem hn
    have h1 := (hk a hl).2 n hn
    rcases e with rfl | e
    · exact h1
    · have h2 := ih n.toNat (by omega) (by omega) e
      rw [show ((n.toNat : Nat) : Int) = n by omega] at h2
      omega
/-- An order keeps what is told just if it keeps all. -/
theorem keep_least {ls : List (List Int)} (h : GoodL ls) (o : List Int) : KeepR ls o ls.length ↔ KeepR (leastL ls) o (leastL ls).length := by
  have hm := leastL_good h
  constructor
  · intro hk i hi
    rw [leastL_len] at hi
    refine ⟨(hk i hi).1, fun j hj => (hk i hi).2 j ?_⟩
    rw [leastL_at] at hj
    exact (leastRow_mem.1 hj).1
  · intro hk i hi
    refine ⟨(hk i (by rw [leastL_len]; exact hi)).1, fun j hj => ?_⟩
    exact keepR_reach hm hk _ i (Nat.lt_succ_self _) (by rw [leastL_len]; exact hi) (least_reach h _ i (Nat.lt_succ_self _) j (rB_one h hj))
end Go.Proofs.Ytgdkgoiagjjccaa

/- What a search marks: the mathematics of graph.reach. -/
namespace Go.Proofs.Ytgdkgoiagjjccaa

/-- How a search stands: M is what is marked, M0 what was marked when it began, T what is still to do. Elements of T are 'from' or marked; what is marked is old or reached; what is marked and not to do has its own marked, down to 'least'; so has 'from' when it is no longer to do. -/
structure Rch (ls : List (List Int)) (fr : Nat) (least : Int) (M0 M : Nat → Bool) (T : List Int) : Prop where
  todo : ∀ x ∈ T, x = (fr : Int) ∨ (0 ≤ x ∧ M x.toNat = true)
  low : ∀ x ∈ T, x = (fr : Int) ∨ rB ls fr x = true
  old : ∀ x, M0 x = true → M x = true
  new : ∀ x, M x = true → M0 x = true ∨ (least ≤ (x : Int) ∧ rB ls fr (x : Int) = true)
  shut : ∀ x, M x = true → (x : Int) ∉ T → ∀ j ∈ ls.getD x [], least ≤ j → M j.toNat = true
  from' : (fr : Int) ∉ T → ∀ j ∈ ls.getD fr [], least ≤ j → M j.toNat = true
/-- When nothing is left to do, all that is reached down to 'least' is marked. -/
theorem Rch.done {ls : List (List Int)} (h : GoodL ls) {fr : Nat} {least : Int} {M0 M : Nat → Bool} (r : Rch ls fr least M0 M []) : ∀ x : Nat, M x = true ↔ M0 x = true ∨ (least ≤ (x : Int) ∧ rB ls fr (x : Int) = true) := by
  intro x
  refine ⟨r.new x, fun hx => ?_⟩
  rcases hx with hx | ⟨hx, hr⟩
  · exact r.old x hx
  · have key : ∀ b a, a < b → (a = fr ∨ M a = true) → rB ls a (x : Int) = true → M x = true := by
      intro b
      induction b with
      | zero => intro a ha; omega
      | succ b ih =>
        intro a ha hm hr
        obtain ⟨n, hn, e⟩ := (rB_iff h).1 hr
        have hb := h.mem hn
        have hle : least ≤ n := by
          rcases e with rfl | e
          · exact hx
          · have := rB_lt h _ n.toNat (Nat.lt_succ_self _) e
            omega
        have hmn : M n.toNat = true := by
          rcases hm with rfl | hm
          · exact r.from' (by simp) n hn hle
          · exact r.shut a hm (by simp) n hn hle
        rcases e with rfl | e
        · rwa [Int.toNat_natCast] at hmn
        · exact ih n.toNat (by omega) (.inr hmn) e
    exact key (fr + 1) fr (Nat.lt_succ_self _) (.inl rfl) hr
/-- How a search stands while what place x leans on is looked at: up to q. -/
structure RchI (ls : List (List Int)) (fr : Nat) (least : Int) (M0 M : Nat → Bool) (T : List Int) (x q : Nat) : Prop where
  todo : ∀ y ∈ T, y = (fr : Int) ∨ (0 ≤ y ∧ M y.toNat = true)
  low : ∀ y ∈ T, y = (fr : Int) ∨ rB ls fr y = true
  old : ∀ y, M0 y = true → M y = true
  new : ∀ y, M y = true → M0 y = true ∨ (least ≤ (y : Int) ∧ rB ls fr (y : Int) = true)
  shut : ∀ y, M y = true → (y : Int) ∉ T → y ≠ x → ∀ j ∈ ls.getD y [], least ≤ j → M j.toNat = true
  from' : (fr : Int) ∉ T → fr ≠ x → ∀ j ∈ ls.getD fr [], least ≤ j → M j.toNat = true
  part : ∀ p, p < q → p < (ls.getD x []).length → least ≤ (ls.getD x []).getD p 0 → M ((ls.getD x []).getD p 0).toNat = true
  here : x = fr ∨ rB ls fr (x : Int) = true
section
variable {ls : List (List Int)} {fr : Nat} {least : Int} {M0 M : Nat → Bool} {T : List Int} {x q : Nat}
theorem Rch.pop (r : Rch ls fr least M0 M (T ++ [(x : Int)])) : RchI ls fr least M0 M T x 0 := by
  refine ⟨fun y hy => r.todo y (List.mem_append.2 (.inl hy)), fun y hy => r.low y (List.mem_append.2 (.inl hy)), r.old, r.new, fun y hm hn hx => r.shut y hm fun h => ?_, fun hn hx => r.from' fun h => ?_, fun p hp => by omega, ?_⟩
  · rcases List.mem_append.1 h with h | h
    · exact hn h
    · exact hx (by have := List.mem_singleton.1 h; omega)
  · rcases List.mem_append.1 h with h | h
    · exact hn h
    · exact hx (by have := List.mem_singleton.1 h; omega)
  · rcases r.low (x : Int) (List.mem_append.2 (.inr (List.mem_singleton.2 rfl))) with h | h
    · exact .inl (by omega)
    · exact .inr h
theorem RchI.skip (r : RchI ls fr least M0 M T x q) (h : least ≤ (ls.getD x []).getD q 0 → M ((ls.getD x []).getD q 0).toNat = true) : RchI ls fr least M0 M T x (q + 1) := by
  refine ⟨r.todo, r.low, r.old, r.new, r.shut, r.from', fun p hp hl he => ?_, r.here⟩
  rcases Nat.lt_succ_iff_lt_or_eq.1 hp with h1 | h1
  · exact r.part p h1 hl he
  · subst h1; exact h he
theorem RchI.push (hg : GoodL ls) (r : RchI ls fr least M0 M T x q) {j : Nat} (hq : q < (ls.getD x []).length) (hj : (ls.getD x []).getD q 0 = (j : Int)) (hle : least ≤ (j : Int)) : RchI ls fr least M0 (upd M j true) (T ++ [(j : Int)]) x (q + 1) := by
  have up : ∀ y, M y = true → upd M j true y = true := fun y hy => by
    by_cases e : y = j
    · subst e; exact upd_same _ _ _
    · rw [upd_other _ _ e]; exact hy
  have hjm : (j : Int) ∈ ls.getD x [] := by rw [← hj, getD_of hq]; exact List.getElem_mem hq
  have hrj : rB ls fr (j : Int) = true := by
    rcases r.here with rfl | h
    · exact rB_one hg hjm
    · exact rB_trans hg _ fr (Nat.lt_succ_self _) h (by rw [Int.toNat_natCast]; exact rB_one hg hjm)
  refine ⟨fun y hy => ?_, fun y hy => ?_, fun y hy => up y (r.old y hy), fun y hy => ?_, fun y hy hn hx k hk hl => ?_, fun hn hx k hk hl => up _ (r.from' (fun h => hn (List.mem_append.2 (.inl h))) hx k hk hl), fun p hp hl he => ?_, r.here⟩
  · rcases List.mem_append.1 hy with hy | hy
    · rcases r.todo y hy with h | ⟨h1, h2⟩
      · exact .inl h
      · exact .inr ⟨h1, up _ h2⟩
    · rw [List.mem_singleton.1 hy]
      exact .inr ⟨by omega, by rw [Int.toNat_natCast]; exact upd_same _ _ _⟩
  · rcases List.mem_append.1 hy with hy | hy
    · exact r.low y hy
    · rw [List.mem_singleton.1 hy]
      exact .inr hrj
  · by_cases e : y = j
    · subst e; exact .inr ⟨hle, hrj⟩
    · rw [upd_other _ _ e] at hy; exact r.new y hy
  · have e : y ≠ j := fun e => hn (List.mem_append.2 (.inr (by rw [e]; exact List.mem_singleton.2 rfl)))
    rw [upd_other _ _ e] at hy
    exact up _ (r.shut y hy (fun h => hn (List.mem_append.2 (.inl h))) hx k hk hl)
  · rcases Nat.lt_succ_iff_lt_or_eq.1 hp with h1 | h1
    · exact up _ (r.part p h1 hl he)
    · subst h1; rw [hj, Int.toNat_natCast]; exact upd_same _ _ _
theorem RchI.done (r : RchI ls fr least M0 M T x (ls.getD x []).length) : Rch ls fr least M0 M T := by
  have all : ∀ j ∈ ls.getD x [], least ≤ j → M j.toNat = true := fun j hj hl => by
    obtain ⟨p, hp, he⟩ := List.getElem_of_mem hj
    have := r.part p hp hp
    rw [getD_of hp, he] at this
    exact this hl
  refine ⟨r.todo, r.low, r.old, r.new, fun y hm hn j hj hl => ?_, fun hn j hj hl => ?_⟩
  · by_cases e : y = x
    · subst e; exact all j hj hl
    · exact r.shut y hm hn e j hj hl
  · by_cases e : fr = x
    · subst e; exact all j hj hl
    · exact r.from' hn e j hj hl
end
/-- A search begins. -/
theorem Rch.start {ls : List (List Int)} {fr : Nat} {least : Int} {M0 : Nat → Bool} (h : ∀ x, M0 x = true → ∀ j ∈ ls.getD x [], least ≤ j → M0 j.toNat = true) : Rch ls fr least M0 M0 [(fr : Int)] :=
  ⟨fun _ hx => .inl (List.mem_singleton.1 hx), fun _ hx => .inl (List.mem_singleton.1 hx), fun _ h => h, fun _ h => .inl h, fun x hx _ => h x hx, fun hn => absurd (List.mem_singleton.2 rfl) hn⟩
/-- How many are not marked. -/
def unm (M : Nat → Bool) : Nat → Nat
  | 0 => 0
  | n + 1 => unm M n + if M n = true then 0 else 1
theorem unm_same {M : Nat → Bool} {j n : Nat} (h : n ≤ j) : unm (upd M j true) n = unm M n := by
  induction n with
  | zero => rfl
  | succ n ih =>
    unfold unm
    rw [ih (by omega), upd_other _ _ (by omega)]
theorem unm_set {M : Nat → Bool} {j : Nat} (hm : M j = false) : ∀ n, j < n → unm (upd M j true) n + 1 = unm M n := by
  intro n
  induction n with
  | zero => intro h; omega
  | succ n ih =>
    intro h
    unfold unm
    by_cases e : j = n
    · subst e
      rw [unm_same (Nat.le_refl _), upd_same, hm]
      simp
    · have := ih (by omega)
      rw [upd_other _ _ (show n ≠ j by omega)]
      omega
end Go.Proofs.Ytgdkgoiagjjccaa

/- Plain numbers: a whole number as two halves of 64 bits. -/
namespace Go.Proofs.Ytgdkgoiagjjccaa
set_option maxRecDepth 100000
def hi (z : Int) : Int := z / 18446744073709551616 % 18446744073709551616
def lo (z : Int) : Int := z % 18446744073709551616
def Word (z : Int) : Prop := 0 ≤ z ∧ z < 18446744073709551616
def Fits (z : Int) : Prop := -9223372036854775808 ≤ z ∧ z ≤ 9223372036854775807
/-- Within 127 bits and a sign. -/
def Wide (z : Int) : Prop := -170141183460469231731687303715884105728 ≤ z ∧ z < 170141183460469231731687303715884105728
theorem hi_word (z : Int) : Word (hi z) := by unfold Word hi; omega
theorem lo_word (z : Int) : Word (lo z) := by unfold Word lo; omega
def carry (a b : Int) : Int := (lo a + lo b) / 18446744073709551616
theorem carry_is (a b : Int) : carry a b = 0 ∨ carry a b = 1 := by unfold carry lo; omega
theorem lo_add (a b : Int) : (lo a + lo b) % 18446744073709551616 = lo (a + b) := by unfold lo; omega
theorem hi_add (a b : Int) : (hi a + hi b + carry a b) % 18446744073709551616 = hi (a + b) := by unfold hi carry lo; omega
theorem lo_not (a : Int) : 18446744073709551615 - lo a = lo (-a - 1) := by unfold lo; omega
theorem hi_not (a : Int) : 18446744073709551615 - hi a = hi (-a - 1) := by unfold hi; omega
theorem neg_is (a : Int) : (-a - 1) + 1 = -a := by omega
theorem hi_below {a : Int} (h : Wide a) (h0 : a < 0) : hi a / 9223372036854775808 = 1 := by unfold Wide at h; unfold hi; omega
theorem hi_over {a : Int} (h : Wide a) (h0 : ¬ a < 0) : hi a / 9223372036854775808 = 0 := by unfold Wide at h; unfold hi; omega
theorem fits_wide {a : Int} (h : Fits a) : Wide a := by unfold Fits at h; unfold Wide; omega
theorem sum_wide {a b : Int} (h : Fits a) (k : Fits b) : Wide (a + b) := by unfold Fits at h k; unfold Wide; omega
theorem neg_wide {a b : Int} (h : Fits a) (k : Fits b) : Wide (a + -b) := by unfold Fits at h k; unfold Wide; omega
theorem hi_fits {a : Int} (h : Fits a) : hi a = if a < 0 then 18446744073709551615 else 0 := by unfold Fits at h; unfold hi; split <;> omega
/-- What number() tests. -/
theorem back_iff {z n : Int} (hz : Wide z) (hn : n = (z + 9223372036854775808) % 18446744073709551616 - 9223372036854775808) : (hi n = hi z ∧ lo n = lo z) ↔ Fits z := by
  unfold Wide at hz; unfold Fits hi lo; omega
end Go.Proofs.Ytgdkgoiagjjccaa

/- How a plan comes to be, as numbers. -/
namespace Go.Proofs.Ytgdkgoiagjjccaa

/-- How many of a row are left. -/
def cntL (idl : Nat → Bool) (l : List Int) : Int := ((l.filter fun j => !idl j.toNat).length : Nat)
theorem cntL_nil (idl : Nat → Bool) : cntL idl [] = 0 := rfl
theorem cntL_snoc (idl : Nat → Bool) (l : List Int) (j : Int) : cntL idl (l ++ [j]) = cntL idl l + if idl j.toNat then 0 else 1 := by
  unfold cntL
  rw [List.filter_append, List.length_append]
  cases h : idl j.toNat <;> simp [h]
theorem cntL_le (idl : Nat → Bool) (l : List Int) : 0 ≤ cntL idl l ∧ cntL idl l ≤ l.length := by
  unfold cntL
  have := List.length_filter_le (fun j : Int => !idl j.toNat) l
  omega
/-- The rows ahead of k in which x stands. -/
def inRows (ls : List (List Int)) (x k : Nat) : List Int := ((List.range k).filter fun i => decide ((x : Int) ∈ ls.getD i [])).map Int.ofNat
theorem inRows_succ (ls : List (List Int)) (x k : Nat) : inRows ls x (k + 1) = inRows ls x k ++ if (x : Int) ∈ ls.getD k [] then [(k : Int)] else [] := by
  unfold inRows
  rw [List.range_succ, List.filter_append, List.map_append]
  congr 1
  by_cases h : (x : Int) ∈ ls.getD k []
  · rw [List.filter_cons, decide_eq_true h, if_pos rfl, if_pos h]; rfl
  · rw [List.filter_cons, decide_eq_false h, if_neg (by decide), if_neg h]; rfl
def leftN (idl : Nat → Bool) (k : Nat) : Int := (((List.range k).filter fun i => !idl i).length : Nat)
theorem leftN_succ (idl : Nat → Bool) (k : Nat) : leftN idl (k + 1) = leftN idl k + if idl k then 0 else 1 := by
  unfold leftN
  rw [List.range_succ, List.filter_append, List.length_append]
  cases h : idl k <;> simp [h]
theorem leftN_le (idl : Nat → Bool) (k : Nat) : 0 ≤ leftN idl k ∧ leftN idl k ≤ k := by
  unfold leftN
  have := List.length_filter_le (fun i => !idl i) (List.range k)
  rw [List.length_range] at this
  omega
/-- A plan under way: h heads are done, k rows, and q numbers of the next one. -/
def nS (idl : Nat → Bool) (ls : List (List Int)) (n m h k q : Nat) : PS where
  n := n
  m := m
  kd x := if x < h ∧ idl x = true then 3 else 0
  wk x := if x < h then -1 else 0
  wt x := if x < k then cntL idl (ls.getD x []) else if x = k then cntL idl ((ls.getD k []).take q) else 0
  ln x := if idl x = true then [] else inRows ls x k ++ if (x : Int) ∈ (ls.getD k []).take q then [(k : Int)] else []
  ws x := if x < m then -1 else 0
  picks := 0
  left := leftN idl h
/-- The head of a row of an idle one. -/
theorem nS_head_idle (idl : Nat → Bool) (ls : List (List Int)) (n m k : Nat) (hi : idl k = true) :
    ({ nS idl ls n m k k 0 with wk := upd (nS idl ls n m k k 0).wk k (-1), kd := upd (nS idl ls n m k k 0).kd k 3 } : PS) = nS idl ls n m (k + 1) k 0 := by
  unfold nS
  simp only [PS.mk.injEq, true_and]
  refine ⟨?_, ?_, ?_⟩
  · funext x
    unfold upd
    by_cases e : x = k
    · subst e; simp [hi]
    · simp only [e, if_false]
      have : (x < k + 1) ↔ x < k := by omega
      simp [this]
  · funext x
    unfold upd
    by_cases e : x = k
    · subst e; simp
    · have : (x < k + 1) ↔ x < k := by omega
      simp [e, this]
  · rw [leftN_succ, hi]; simp
theorem nS_head_busy (idl : Nat → Bool) (ls : List (List Int)) (n m k : Nat) (hi : idl k = false) :
    ({ nS idl ls n m k k 0 with wk := upd (nS idl ls n m k k 0).wk k (-1), left := leftN idl k + 1 } : PS) = nS idl ls n m (k + 1) k 0 := by
  unfold nS
  simp only [PS.mk.injEq, true_and]
  refine ⟨?_, ?_, ?_⟩
  · funext x
    by_cases e : x = k
    · subst e; simp [hi]
    · have : (x < k + 1) ↔ x < k := by omega
      simp [this]
  · funext x
    unfold upd
    by_cases e : x = k
    · subst e; simp
    · have : (x < k + 1) ↔ x < k := by omega
      simp [e, this]
  · rw [leftN_succ, hi]; simp
theorem mem_take_snoc {l : List Int} {q : Nat} {j x : Int} (hq : l[q]? = some j) : x ∈ l.take (q + 1) ↔ x ∈ l.take q ∨ x = j := by
  rw [List.take_add_one, hq]
  simp
theorem not_mem_take {l : List Int} {q : Nat} {j : Int} (hn : l.Nodup) (hq : l[q]? = some j) : j ∉ l.take q := by
  intro hm
  obtain ⟨i, hi, he⟩ := List.getElem_of_mem hm
  rw [List.getElem_take] at he
  have h1 : i < q := by simp at hi; omega
  obtain ⟨h2, h3⟩ := List.getElem?_eq_some_iff.1 hq
  have := (List.getElem_inj (h₀ := by omega) (h₁ := h2) hn).1 (he.trans h3.symm)
  omega
theorem nS_skip (idl : Nat → Bool) (ls : List (List Int)) (n m k q : Nat) (j : Int) (hj : (ls.getD k [])[q]? = some j) (hi : idl j.toNat = true) : nS idl ls n m (k + 1) k q = nS idl ls n m (k + 1) k (q + 1) := by
  unfold nS
  simp only [PS.mk.injEq, true_and, and_true]
  constructor
  · funext x
    split
    · rfl
    · split
      · rw [List.take_add_one, hj, Option.toList_some, cntL_snoc, hi]; simp
      · rfl
  · funext x
    split
    · rfl
    · rename_i hx
      congr 1
      have : ((x : Int) ∈ (ls.getD k []).take (q + 1)) ↔ (x : Int) ∈ (ls.getD k []).take q := by
        rw [mem_take_snoc hj]
        constructor
        · rintro (h | h)
          · exact h
          · rw [← h, Int.toNat_natCast] at hi; exact absurd hi hx
        · exact .inl
      simp only [this]
theorem nS_push (idl : Nat → Bool) (ls : List (List Int)) (n m k q : Nat) (j : Nat) (hj : (ls.getD k [])[q]? = some (j : Int)) (hn : (ls.getD k []).Nodup) (hi : idl j = false) :
    ({ nS idl ls n m (k + 1) k q with wt := upd (nS idl ls n m (k + 1) k q).wt k ((nS idl ls n m (k + 1) k q).wt k + 1), ln := upd (nS idl ls n m (k + 1) k q).ln j ((nS idl ls n m (k + 1) k q).ln j ++ [(k : Int)]) } : PS) = nS idl ls n m (k + 1) k (q + 1) := by
  unfold nS
  simp only [PS.mk.injEq, true_and, and_true]
  constructor
  · funext x
    unfold upd
    by_cases e : x = k
    · subst e
      simp only [Nat.lt_irrefl, if_false, if_true]
      rw [List.take_add_one, hj, Option.toList_some, cntL_snoc, Int.toNat_natCast, hi]; simp
    · simp [e]
  · funext x
    unfold upd
    by_cases e : x = j
    · subst e
      have h1 := not_mem_take hn hj
      have h2 : (x : Int) ∈ (ls.getD k []).take (q + 1) := (mem_take_snoc hj).2 (.inr rfl)
      simp only [hi, if_neg h1, if_pos h2, if_true, Bool.false_eq_true, if_false, List.append_nil]
    · rw [if_neg e]
      have : ((x : Int) ∈ (ls.getD k []).take (q + 1)) ↔ (x : Int) ∈ (ls.getD k []).take q := by
        rw [mem_take_snoc hj]
        constructor
        · rintro (h | h)
          · exact h
          · omega
        · exact .inl
      simp only [this]
theorem nS_row (idl : Nat → Bool) (ls : List (List Int)) (n m k : Nat) : nS idl ls n m (k + 1) k (ls.getD k []).length = nS idl ls n m (k + 1) (k + 1) 0 := by
  unfold nS
  simp only [PS.mk.injEq, true_and, and_true]
  constructor
  · funext x
    rw [List.take_length, List.take_zero, cntL_nil]
    by_cases e : x = k
    · subst e; simp
    · have : (x < k + 1) ↔ x < k := by omega
      by_cases h2 : x < k
      · simp [h2, this]
      · simp [h2, this, e]
  · funext x
    rw [inRows_succ, List.take_length, List.take_zero]
    simp
/-- A new plan always stands so. -/
theorem nS_inv (idl : Nat → Bool) (ls : List (List Int)) (n m : Nat) (hg : GoodL ls) (hl : ls.length = n) (hm : 1 ≤ m) : Inv ls (nS idl ls n m n n 0) := by
  refine ⟨hg, hl, hm, fun i hi => ?_, fun i hi => ?_, fun i hi hw => ?_, fun w hw hw1 => absurd (if_pos hw) hw1, fun i hi => ?_, fun j hj hk => ?_, ?_⟩
  · show 0 ≤ (if i < n ∧ idl i = true then (3 : Int) else 0) ∧ (if i < n ∧ idl i = true then (3 : Int) else 0) ≤ 3
    split <;> omega
  · show (if i < n then (-1 : Int) else 0) = -1 ↔ (if i < n ∧ idl i = true then (3 : Int) else 0) = 0 ∨ (if i < n ∧ idl i = true then (3 : Int) else 0) = 3
    change i < n at hi
    rw [if_pos hi]
    split <;> simp
  · exact absurd (if_pos hi) hw
  · change i < n at hi
    show (if i < n then cntL idl (ls.getD i []) else _) = _
    rw [if_pos hi]
    unfold cntL
    congr 2
    apply List.filter_congr
    intro j hj
    have hm := hg.mem hj
    have h1 : j.toNat < n := by omega
    show _ = !decide ((if j.toNat < n ∧ idl j.toNat = true then (3 : Int) else 0) = 3)
    cases h2 : idl j.toNat <;> simp [h1]
  · change (if j < n ∧ idl j = true then (3 : Int) else 0) ≠ 3 at hk
    have h2 : ¬ idl j = true := fun h => hk (if_pos ⟨hj, h⟩)
    show (if idl j = true then [] else inRows ls j n ++ _) = _
    rw [if_neg h2, List.take_zero, if_neg (by simp), List.append_nil]
    rfl
  · show leftN idl n = _
    unfold leftN
    congr 2
    apply List.filter_congr
    intro i hi
    have h1 : i < n := List.mem_range.1 hi
    show _ = !decide ((if i < n ∧ idl i = true then (3 : Int) else 0) = 3)
    cases h2 : idl i <;> simp [h1]
end Go.Proofs.Ytgdkgoiagjjccaa

/- What is told of a place but for those through others, looked at from behind: the mathematics. -/
namespace Go.Proofs.Ytgdkgoiagjjccaa

/-- None of the others reaches it. -/
def okL (ls : List (List Int)) (i : Nat) (n : Int) : Bool := !((ls.getD i []).any fun j => rB ls j.toNat n)
theorem okL_row (ls : List (List Int)) (i : Nat) : leastRow ls i = (ls.getD i []).filter (okL ls i) := rfl
/-- What is told after p of them, from behind. -/
def selR (ls : List (List Int)) (i p : Nat) : List Int := ((ls.getD i []).reverse.take p).filter (okL ls i)
theorem selR_zero (ls : List (List Int)) (i : Nat) : selR ls i 0 = [] := rfl
theorem selR_end (ls : List (List Int)) (i : Nat) : selR ls i (ls.getD i []).length = (leastRow ls i).reverse := by
  unfold selR
  rw [List.take_of_length_le (by rw [List.length_reverse]; exact Nat.le_refl _), okL_row, List.filter_reverse]
theorem rev_take {l : List Int} {p : Nat} (h : p < l.length) : l.reverse.take (p + 1) = l.reverse.take p ++ [l.getD (l.length - 1 - p) 0] := by
  have h1 : p < l.reverse.length := by rw [List.length_reverse]; exact h
  rw [List.take_succ_eq_append_getElem h1, List.getElem_reverse, List.getD_eq_getElem?_getD, List.getElem?_eq_getElem (by omega)]
  rfl
theorem selR_succ {ls : List (List Int)} {i p : Nat} (h : p < (ls.getD i []).length) : selR ls i (p + 1) = selR ls i p ++ if okL ls i ((ls.getD i []).getD ((ls.getD i []).length - 1 - p) 0) = true then [(ls.getD i []).getD ((ls.getD i []).length - 1 - p) 0] else [] := by
  unfold selR
  rw [rev_take h, List.filter_append, List.filter_cons]
  rfl
theorem selR_len (ls : List (List Int)) (i p : Nat) : (selR ls i p).length ≤ p := by
  unfold selR
  exact Nat.le_trans (List.length_filter_le _ _) (by rw [List.length_take]; omega)
/-- What is marked after p of them. -/
def Mk (ls : List (List Int)) (i p x : Nat) : Prop := (ls.getD i []).getD 0 0 ≤ (x : Int) ∧ ∃ y ∈ (ls.getD i []).reverse.take p, rB ls y.toNat (x : Int) = true
section
variable {ls : List (List Int)} {i p : Nat}
theorem first_le (h : GoodL ls) {y : Int} (hy : y ∈ ls.getD i []) : (ls.getD i []).getD 0 0 ≤ y := by
  obtain ⟨q, hq, he⟩ := List.getElem_of_mem hy
  rw [getD_of (by omega), ← he]
  rcases Nat.eq_zero_or_pos q with h0 | h0
  · subst h0; exact Int.le_refl _
  · exact Int.le_of_lt (List.pairwise_iff_getElem.1 (rise_of h i) 0 q (by omega) hq h0)
theorem behind_mem (h : GoodL ls) (hp : p < (ls.getD i []).length) {y : Int} (hy : y ∈ ls.getD i []) (hlt : (ls.getD i []).getD ((ls.getD i []).length - 1 - p) 0 < y) : y ∈ (ls.getD i []).reverse.take p := by
  obtain ⟨q, hq, he⟩ := List.getElem_of_mem hy
  have hqp : (ls.getD i []).length - 1 - p < q := by
    rcases Nat.lt_or_ge ((ls.getD i []).length - 1 - p) q with h1 | h1
    · exact h1
    · exfalso
      rw [getD_of (by omega), ← he] at hlt
      rcases Nat.lt_or_ge q ((ls.getD i []).length - 1 - p) with h2 | h2
      · have := List.pairwise_iff_getElem.1 (rise_of h i) q _ hq (by omega) h2
        omega
      · have e : q = (ls.getD i []).length - 1 - p := by omega
        subst e
        omega
  have h3 : (ls.getD i []).length - 1 - q < p := by omega
  have h4 : (ls.getD i []).length - 1 - q < (ls.getD i []).reverse.length := by rw [List.length_reverse]; omega
  refine List.mem_of_getElem? (i := (ls.getD i []).length - 1 - q) ?_
  rw [List.getElem?_take, if_pos h3, List.getElem?_eq_getElem h4, List.getElem_reverse, ← he]
  congr 2
  omega
/-- A place is marked just if another one of the row reaches it. -/
theorem mk_ok (h : GoodL ls) (hp : p < (ls.getD i []).length) {x : Nat} (hx : (ls.getD i []).getD ((ls.getD i []).length - 1 - p) 0 = (x : Int)) : Mk ls i p x ↔ okL ls i (x : Int) = false := by
  have hm : (x : Int) ∈ ls.getD i [] := by rw [← hx, getD_of (by omega)]; exact List.getElem_mem _
  have e : okL ls i (x : Int) = false ↔ ∃ y ∈ ls.getD i [], rB ls y.toNat (x : Int) = true := by
    unfold okL
    rw [Bool.not_eq_false', List.any_eq_true]
  rw [e]
  constructor
  · rintro ⟨_, y, hy, hr⟩
    exact ⟨y, List.mem_reverse.1 (List.mem_of_mem_take hy), hr⟩
  · rintro ⟨y, hy, hr⟩
    have hb := h.mem hy
    have hl := rB_lt h _ y.toNat (Nat.lt_succ_self _) hr
    exact ⟨first_le h hm, y, behind_mem h hp hy (by omega), hr⟩
theorem mk_zero (x : Nat) : ¬ Mk ls i 0 x := by
  rintro ⟨_, y, hy, _⟩
  cases hy
theorem mk_succ (hp : p < (ls.getD i []).length) {j : Nat} (hj : (ls.getD i []).getD ((ls.getD i []).length - 1 - p) 0 = (j : Int)) (x : Nat) : Mk ls i (p + 1) x ↔ Mk ls i p x ∨ ((ls.getD i []).getD 0 0 ≤ (x : Int) ∧ rB ls j (x : Int) = true) := by
  unfold Mk
  rw [rev_take hp, hj]
  constructor
  · rintro ⟨h1, y, hy, hr⟩
    rcases List.mem_append.1 hy with hy | hy
    · exact .inl ⟨h1, y, hy, hr⟩
    · rw [List.mem_singleton.1 hy, Int.toNat_natCast] at hr
      exact .inr ⟨h1, hr⟩
  · rintro (⟨h1, y, hy, hr⟩ | ⟨h1, hr⟩)
    · exact ⟨h1, y, List.mem_append.2 (.inl hy), hr⟩
    · exact ⟨h1, (j : Int), List.mem_append.2 (.inr (List.mem_singleton.2 rfl)), by rw [Int.toNat_natCast]; exact hr⟩
/-- One that is marked marks no more. -/
theorem mk_skip (h : GoodL ls) (hp : p < (ls.getD i []).length) {j : Nat} (hj : (ls.getD i []).getD ((ls.getD i []).length - 1 - p) 0 = (j : Int)) (hm : Mk ls i p j) (x : Nat) : Mk ls i (p + 1) x ↔ Mk ls i p x := by
  rw [mk_succ hp hj]
  constructor
  · rintro (h1 | ⟨h1, hr⟩)
    · exact h1
    · obtain ⟨_, y, hy, hr2⟩ := hm
      exact ⟨h1, y, hy, rB_trans h _ y.toNat (Nat.lt_succ_self _) hr2 (by rw [Int.toNat_natCast]; exact hr)⟩
  · exact .inl
/-- The first one marks no more. -/
theorem mk_first (h : GoodL ls) (hp : p < (ls.getD i []).length) {j : Nat} (hj : (ls.getD i []).getD ((ls.getD i []).length - 1 - p) 0 = (j : Int)) (hm : ¬ (ls.getD i []).getD 0 0 < (j : Int)) (x : Nat) : Mk ls i (p + 1) x ↔ Mk ls i p x := by
  rw [mk_succ hp hj]
  constructor
  · rintro (h1 | ⟨h1, hr⟩)
    · exact h1
    · have := rB_lt h _ j (Nat.lt_succ_self _) hr
      omega
  · exact .inl
/-- What is marked has its own marked. -/
theorem mk_shut (h : GoodL ls) {x : Nat} (hm : Mk ls i p x) {j : Int} (hj : j ∈ ls.getD x []) (hle : (ls.getD i []).getD 0 0 ≤ j) : Mk ls i p j.toNat := by
  have hb := h.mem hj
  obtain ⟨_, y, hy, hr⟩ := hm
  have ej : ((j.toNat : Nat) : Int) = j := by omega
  refine ⟨by rw [ej]; exact hle, y, hy, ?_⟩
  rw [ej]
  exact rB_trans h _ y.toNat (Nat.lt_succ_self _) hr (by rw [Int.toNat_natCast]; exact rB_one h hj)
end
theorem row_len {ls : List (List Int)} (h : GoodL ls) (k : Nat) : (ls.getD k []).length ≤ k := by
  have h1 := sub_len (l := ls.getD k []) (r := below k) (by
    refine List.Pairwise.imp ?_ (rise_of h k)
    intro a b hab e
    omega) fun x hx => below_mem.2 (h.mem hx)
  rwa [below_len] at h1
end Go.Proofs.Ytgdkgoiagjjccaa
