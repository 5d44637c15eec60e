/- The order by levels, the order as it stands: the mathematics. -/
import Derived.Test.YtgdkgoiagjjccaaGFeet
import Derived.Test.YtgdkgoiagjjccaaGRefK
import Derived.Test.YtgdkgoiagjjccaaGLevM
import Derived.Test.YtgdkgoiagjjccaaZA
namespace Go.Proofs.Ytgdkgoiagjjccaa

theorem getD_app_left {P S : List Int} {q : Nat} (h : q < P.length) : (P ++ S).getD q 0 = P.getD q 0 := by
  rw [List.getD_eq_getElem?_getD, List.getElem?_append_left h, List.getD_eq_getElem?_getD]
theorem atL_split {P S : List Int} {x y : Int} (hx : x ∈ P) (hy : y ∉ P) (hs : y ∈ S) : atL (P ++ S) x ≤ atL (P ++ S) y := by
  obtain ⟨a, ha, e⟩ := List.getElem_of_mem hx
  rcases atL_cases (P ++ S) x with ⟨k, _, h2, _, h4⟩ | ⟨_, h⟩
  · rcases atL_cases (P ++ S) y with ⟨m, _, g2, g3, _⟩ | ⟨_, g⟩
    · have h5 : k ≤ a := by
        rcases Nat.lt_or_ge a k with h6 | h6
        · exact absurd (by rw [getD_app_left ha, getD_of ha, e]) (h4 a h6)
        · exact h6
      have h6 : P.length ≤ m := by
        rcases Nat.lt_or_ge m P.length with h7 | h7
        · rw [getD_app_left h7, getD_of h7] at g3
          exact absurd (by rw [← g3]; exact List.getElem_mem h7) hy
        · exact h7
      rw [h2, g2]
      omega
    · exact absurd (List.mem_append.2 (.inr hs)) g
  · exact absurd (List.mem_append.2 (.inl hx)) h
theorem atL_in {o : List Int} {x : Int} (h : x ∈ o) : 0 ≤ atL o x := by
  rcases atL_cases o x with ⟨k, _, h2, _⟩ | ⟨_, h2⟩
  · omega
  · exact absurd h h2
theorem selTo_mem_iff {p : Nat → Bool} {k : Nat} {x : Int} : x ∈ selTo p k ↔ 0 ≤ x ∧ x < (k : Int) ∧ p x.toNat = true := by
  simp only [selTo, List.mem_map, List.mem_filter, List.mem_range]
  constructor
  · rintro ⟨y, ⟨hy, hp⟩, rfl⟩
    simp only [Int.ofNat_eq_natCast, Int.toNat_natCast]
    exact ⟨by omega, by omega, hp⟩
  · rintro ⟨h1, h2, h3⟩
    exact ⟨x.toNat, ⟨by omega, h3⟩, by simp only [Int.ofNat_eq_natCast]; omega⟩
/-- The ones of the first v levels. -/
def byTo (lv : Nat → Int) (n : Nat) : Nat → List Int
  | 0 => []
  | v + 1 => byTo lv n v ++ selTo (fun i => decide (lv i = (v : Int))) n
section
variable {lv : Nat → Int} {n : Nat}
theorem byTo_mem (h0 : ∀ i, i < n → 0 ≤ lv i) : ∀ {v : Nat} {x : Int}, x ∈ byTo lv n v ↔ 0 ≤ x ∧ x < (n : Int) ∧ lv x.toNat < (v : Int)
  | 0, x => by
    constructor
    · intro h; cases h
    · rintro ⟨h1, h2, h3⟩
      have := h0 x.toNat (by omega)
      omega
  | v + 1, x => by
    unfold byTo
    rw [List.mem_append, byTo_mem h0, selTo_mem_iff, decide_eq_true_eq]
    omega
theorem byTo_pre : ∀ {u v : Nat}, u ≤ v → ∃ S, byTo lv n v = byTo lv n u ++ S
  | u, 0, h => by
    obtain rfl : u = 0 := by omega
    exact ⟨[], by simp⟩
  | u, v + 1, h => by
    by_cases e : u = v + 1
    · subst e; exact ⟨[], by simp⟩
    · obtain ⟨S, hS⟩ := byTo_pre (u := u) (v := v) (by omega)
      exact ⟨S ++ selTo (fun i => decide (lv i = (v : Int))) n, by rw [← List.append_assoc, ← hS]; rfl⟩
theorem filter_two {α : Type} (p q r : α → Bool) (h : ∀ x, r x = (p x || q x)) (h2 : ∀ x, p x = true → q x = false) : ∀ l : List α, (l.filter r).length = (l.filter p).length + (l.filter q).length
  | [] => rfl
  | a :: l => by
    have ih := filter_two p q r h h2 l
    have e1 := h a
    have e2 := h2 a
    rw [List.filter_cons, List.filter_cons, List.filter_cons]
    cases hp : p a <;> cases hq : q a <;> simp_all <;> omega
theorem byTo_len (h0 : ∀ i, i < n → 0 ≤ lv i) : ∀ v : Nat, (byTo lv n v).length = ((List.range n).filter fun i => decide (i < n) && decide (lv i < (v : Int))).length
  | 0 => by
    have : (List.range n).filter (fun i => decide (i < n) && decide (lv i < ((0 : Nat) : Int))) = [] := by
      refine List.filter_eq_nil_iff.2 fun i hi h => ?_
      have h1 := h0 i (List.mem_range.1 hi)
      simp at h
      omega
    rw [this]
    rfl
  | v + 1 => by
    unfold byTo
    rw [List.length_append, byTo_len h0 v]
    have e : (selTo (fun i => decide (lv i = (v : Int))) n).length = ((List.range n).filter fun i => decide (i < n) && decide (lv i = (v : Int))).length := by
      unfold selTo
      rw [List.length_map]
      congr 1
      refine List.filter_congr fun i hi => ?_
      simp [List.mem_range.1 hi]
    rw [e]
    refine (filter_two _ _ _ (fun i => ?_) (fun i h => ?_) (List.range n)).symm
    · by_cases h1 : i < n
      · simp only [decide_eq_true h1, Bool.true_and]
        by_cases h2 : lv i < (v : Int)
        · rw [decide_eq_true h2, decide_eq_true (by omega)]; rfl
        · by_cases h3 : lv i = (v : Int)
          · rw [decide_eq_false h2, decide_eq_true h3, decide_eq_true (by omega)]; rfl
          · rw [decide_eq_false h2, decide_eq_false h3, decide_eq_false (by omega)]; rfl
      · simp [h1]
    · simp only [Bool.and_eq_true, decide_eq_true_eq] at h
      simp
      omega
theorem byTo_all (h0 : ∀ i, i < n → 0 ≤ lv i) (h1 : ∀ i, i < n → lv i < (n : Int)) : (byTo lv n n).length = n := by
  rw [byTo_len h0, List.filter_eq_self.2 fun i hi => by
    have := List.mem_range.1 hi
    simp [this, h1 i this], List.length_range]
end
theorem lv1_ge {out : List Int} : ∀ {l : List Int} {x : Int}, x ∈ l → ∀ a, out.getD x.toNat 0 + 1 ≤ l.foldl (fun a j => max a (out.getD j.toNat 0 + 1)) a ∧ a ≤ l.foldl (fun a j => max a (out.getD j.toNat 0 + 1)) a := by
  have mono : ∀ (l : List Int) (a : Int), a ≤ l.foldl (fun a j => max a (out.getD j.toNat 0 + 1)) a := by
    intro l
    induction l with
    | nil => exact fun a => Int.le_refl a
    | cons y l ih =>
      intro a
      have := ih (max a (out.getD y.toNat 0 + 1))
      rw [List.foldl_cons]
      omega
  intro l
  induction l with
  | nil => intro x hx; cases hx
  | cons y l ih =>
    intro x hx a
    refine ⟨?_, mono _ _⟩
    rw [List.foldl_cons]
    rcases List.mem_cons.1 hx with rfl | hx
    · have := mono l (max a (out.getD x.toNat 0 + 1))
      omega
    · exact (ih hx _).1
theorem lvTo_stay (ls : List (List Int)) {i : Nat} : ∀ {k m : Nat}, i < k → k ≤ m → (lvTo ls m).getD i 0 = (lvTo ls k).getD i 0
  | k, 0, h, h2 => by omega
  | k, m + 1, h, h2 => by
    by_cases e : k = m + 1
    · subst e; rfl
    · rw [lvTo_old ls (by omega)]
      exact lvTo_stay ls h (by omega)
/-- A level is above those on which its place leans. -/
theorem lvTo_above {ls : List (List Int)} (hg : GoodL ls) {n i : Nat} (hi : i < n) {j : Int} (hj : j ∈ ls.getD i []) : (lvTo ls n).getD j.toNat 0 < (lvTo ls n).getD i 0 := by
  have hb := hg.mem hj
  have e1 : (lvTo ls n).getD i 0 = lv1 (lvTo ls i) (ls.getD i []) := by rw [lvTo_stay ls (Nat.lt_succ_self i) (by omega), lvTo_new]
  have e2 : (lvTo ls n).getD j.toNat 0 = (lvTo ls i).getD j.toNat 0 := lvTo_stay ls (by omega) (by omega)
  rw [e1, e2]
  have := (lv1_ge (out := lvTo ls i) hj 0).1
  unfold lv1
  omega
/-- The order by levels keeps all. -/
theorem by_keeps {ls : List (List Int)} (hg : GoodL ls) {n : Nat} (hl : ls.length = n) : keepsB ls (byTo (fun i => (lvTo ls n).getD i 0) n n) = true := by
  have h0 : ∀ i, i < n → 0 ≤ (fun i => (lvTo ls n).getD i 0) i := fun i hi => (lvTo_bd hg n i hi).1
  have h1 : ∀ i, i < n → (fun i => (lvTo ls n).getD i 0) i < (n : Int) := fun i hi => by have := (lvTo_bd hg n i hi).2; show (lvTo ls n).getD i 0 < _; omega
  refine keepsB_true ⟨⟨hg, by rw [byTo_all h0 h1, hl]⟩, fun i hi => ?_⟩
  rw [hl] at hi
  have hin : (i : Int) ∈ byTo (fun i => (lvTo ls n).getD i 0) n n := (byTo_mem h0).2 ⟨by omega, by omega, by rw [Int.toNat_natCast]; exact h1 i hi⟩
  refine ⟨atL_in hin, fun j hj => ?_⟩
  have hb := hg.mem hj
  have ha := lvTo_above hg hi hj
  have hp := h0 i hi
  obtain ⟨S, hS⟩ := byTo_pre (lv := fun i => (lvTo ls n).getD i 0) (n := n) (u := ((lvTo ls n).getD i 0).toNat) (v := n) (by have := h1 i hi; have : (lvTo ls n).getD i 0 < (n : Int) := this; omega)
  have hni : (i : Int) ∉ byTo (fun i => (lvTo ls n).getD i 0) n ((lvTo ls n).getD i 0).toNat := fun h => by
    have := ((byTo_mem h0).1 h).2.2
    rw [Int.toNat_natCast] at this
    have h2 : 0 ≤ (lvTo ls n).getD i 0 := hp
    have h3 : (lvTo ls n).getD i 0 < (((lvTo ls n).getD i 0).toNat : Int) := this
    omega
  rw [hS] at hin ⊢
  refine atL_split ((byTo_mem h0).2 ⟨hb.1, by omega, ?_⟩) hni ((List.mem_append.1 hin).resolve_left hni)
  have h2 : 0 ≤ (lvTo ls n).getD i 0 := hp
  show (lvTo ls n).getD j.toNat 0 < (((lvTo ls n).getD i 0).toNat : Int)
  omega
/-- The order as it stands keeps all. -/
theorem straight_keeps {ls : List (List Int)} (hg : GoodL ls) {n : Nat} (hl : ls.length = n) : keepsB ls (below n) = true := by
  refine keepsB_true ⟨⟨hg, by rw [below_len, hl]⟩, fun i hi => ?_⟩
  rw [hl] at hi
  have hin : (i : Int) ∈ below n := below_mem.2 (by omega)
  refine ⟨atL_in hin, fun j hj => ?_⟩
  have hb := hg.mem hj
  have hni : (i : Int) ∉ below i := fun h => by have := below_mem.1 h; omega
  have e : ∃ S, below n = below i ++ S := by
    refine ⟨((List.range (n - i)).map (i + ·)).map Int.ofNat, ?_⟩
    unfold below
    rw [← List.map_append]
    congr 1
    have : n = i + (n - i) := by omega
    rw [this, List.range_add]
    simp
  obtain ⟨S, hS⟩ := e
  rw [hS] at hin ⊢
  exact atL_split (below_mem.2 hb) hni ((List.mem_append.1 hin).resolve_left hni)
theorem keepsB_least {ls : List (List Int)} (hg : GoodL ls) (o : List Int) : keepsB (leastL ls) o = keepsB ls o := by
  unfold keepsB
  have e : ((GoodL (leastL ls) ∧ o.length = (leastL ls).length) ∧ KeepR (leastL ls) o (leastL ls).length) ↔ ((GoodL ls ∧ o.length = ls.length) ∧ KeepR ls o ls.length) := by
    rw [← keep_least hg]
    constructor
    · rintro ⟨⟨_, h2⟩, h3⟩
      exact ⟨⟨hg, by rw [← leastL_len ls]; exact h2⟩, h3⟩
    · rintro ⟨⟨_, h2⟩, h3⟩
      exact ⟨⟨leastL_good hg, by rw [leastL_len]; exact h2⟩, h3⟩
  by_cases h : (GoodL ls ∧ o.length = ls.length) ∧ KeepR ls o ls.length
  · rw [@decide_eq_true _ (Classical.propDecidable _) h, @decide_eq_true _ (Classical.propDecidable _) (e.2 h)]
  · rw [@decide_eq_false _ (Classical.propDecidable _) h, @decide_eq_false _ (Classical.propDecidable _) (fun k => h (e.1 k))]
end Go.Proofs.Ytgdkgoiagjjccaa
