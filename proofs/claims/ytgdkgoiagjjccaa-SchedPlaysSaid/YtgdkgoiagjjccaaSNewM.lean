/- How a plan comes to be, as numbers. -/
import Derived.Test.YtgdkgoiagjjccaaSMath
namespace Go.Proofs.Ytgdkgoiagjjccaa

/-- How many of a row are left. -/
def cntL (idl : Nat → Bool) (l : List Int) : Int := ((l.filter fun j => !idl j.toNat).length : Nat)
theorem cntL_nil (idl : Nat → Bool) : cntL idl [] = 0 := rfl
theorem cntL_snoc (idl : Nat → Bool) (l : List Int) (j : Int) : cntL idl (l ++ [j]) = cntL idl l + if idl j.toNat then 0 else 1 := by
  unfold cntL
  rw [List.filter_append, List.length_append]
  cases h : idl j.toNat <;> simp [h]
theorem cntL_le (idl : Nat → Bool) (l : List Int) : 0 ≤ cntL idl l ∧ cntL idl l ≤ l.length := by
  unfold cntL
  have := List.length_filter_le (fun j : Int => !idl j.toNat) l
  omega
/-- The rows ahead of k in which x stands. -/
def inRows (ls : List (List Int)) (x k : Nat) : List Int := ((List.range k).filter fun i => decide ((x : Int) ∈ ls.getD i [])).map Int.ofNat
theorem inRows_succ (ls : List (List Int)) (x k : Nat) : inRows ls x (k + 1) = inRows ls x k ++ if (x : Int) ∈ ls.getD k [] then [(k : Int)] else [] := by
  unfold inRows
  rw [List.range_succ, List.filter_append, List.map_append]
  congr 1
  by_cases h : (x : Int) ∈ ls.getD k []
  · rw [List.filter_cons, decide_eq_true h, if_pos rfl, if_pos h]; rfl
  · rw [List.filter_cons, decide_eq_false h, if_neg (by decide), if_neg h]; rfl
def leftN (idl : Nat → Bool) (k : Nat) : Int := (((List.range k).filter fun i => !idl i).length : Nat)
theorem leftN_succ (idl : Nat → Bool) (k : Nat) : leftN idl (k + 1) = leftN idl k + if idl k then 0 else 1 := by
  unfold leftN
  rw [List.range_succ, List.filter_append, List.length_append]
  cases h : idl k <;> simp [h]
theorem leftN_le (idl : Nat → Bool) (k : Nat) : 0 ≤ leftN idl k ∧ leftN idl k ≤ k := by
  unfold leftN
  have := List.length_filter_le (fun i => !idl i) (List.range k)
  rw [List.length_range] at this
  omega
/-- A plan under way: h heads are done, k rows, and q numbers of the next one. -/
def nS (idl : Nat → Bool) (ls : List (List Int)) (n m h k q : Nat) : PS where
  n := n
  m := m
  kd x := if x < h ∧ idl x = true then 3 else 0
  wk x := if x < h then -1 else 0
  wt x := if x < k then cntL idl (ls.getD x []) else if x = k then cntL idl ((ls.getD k []).take q) else 0
  ln x := if idl x = true then [] else inRows ls x k ++ if (x : Int) ∈ (ls.getD k []).take q then [(k : Int)] else []
  ws x := if x < m then -1 else 0
  picks := 0
  left := leftN idl h
/-- The head of a row of an idle one. -/
theorem nS_head_idle (idl : Nat → Bool) (ls : List (List Int)) (n m k : Nat) (hi : idl k = true) :
    ({ nS idl ls n m k k 0 with wk := upd (nS idl ls n m k k 0).wk k (-1), kd := upd (nS idl ls n m k k 0).kd k 3 } : PS) = nS idl ls n m (k + 1) k 0 := by
  unfold nS
  simp only [PS.mk.injEq, true_and]
  refine ⟨?_, ?_, ?_⟩
  · funext x
    unfold upd
    by_cases e : x = k
    · subst e; simp [hi]
    · simp only [e, if_false]
      have : (x < k + 1) ↔ x < k := by omega
      simp [this]
  · funext x
    unfold upd
    by_cases e : x = k
    · subst e; simp
    · have : (x < k + 1) ↔ x < k := by omega
      simp [e, this]
  · rw [leftN_succ, hi]; simp
theorem nS_head_busy (idl : Nat → Bool) (ls : List (List Int)) (n m k : Nat) (hi : idl k = false) :
    ({ nS idl ls n m k k 0 with wk := upd (nS idl ls n m k k 0).wk k (-1), left := leftN idl k + 1 } : PS) = nS idl ls n m (k + 1) k 0 := by
  unfold nS
  simp only [PS.mk.injEq, true_and]
  refine ⟨?_, ?_, ?_⟩
  · funext x
    by_cases e : x = k
    · subst e; simp [hi]
    · have : (x < k + 1) ↔ x < k := by omega
      simp [this]
  · funext x
    unfold upd
    by_cases e : x = k
    · subst e; simp
    · have : (x < k + 1) ↔ x < k := by omega
      simp [e, this]
  · rw [leftN_succ, hi]; simp
theorem mem_take_snoc {l : List Int} {q : Nat} {j x : Int} (hq : l[q]? = some j) : x ∈ l.take (q + 1) ↔ x ∈ l.take q ∨ x = j := by
  rw [List.take_add_one, hq]
  simp
theorem not_mem_take {l : List Int} {q : Nat} {j : Int} (hn : l.Nodup) (hq : l[q]? = some j) : j ∉ l.take q := by
  intro hm
  obtain ⟨i, hi, he⟩ := List.getElem_of_mem hm
  rw [List.getElem_take] at he
  have h1 : i < q := by simp at hi; omega
  obtain ⟨h2, h3⟩ := List.getElem?_eq_some_iff.1 hq
  have := (List.getElem_inj (h₀ := by omega) (h₁ := h2) hn).1 (he.trans h3.symm)
  omega
theorem nS_skip (idl : Nat → Bool) (ls : List (List Int)) (n m k q : Nat) (j : Int) (hj : (ls.getD k [])[q]? = some j) (hi : idl j.toNat = true) : nS idl ls n m (k + 1) k q = nS idl ls n m (k + 1) k (q + 1) := by
  unfold nS
  simp only [PS.mk.injEq, true_and, and_true]
  constructor
  · funext x
    split
    · rfl
    · split
      · rw [List.take_add_one, hj, Option.toList_some, cntL_snoc, hi]; simp
      · rfl
  · funext x
    split
    · rfl
    · rename_i hx
      congr 1
      have : ((x : Int) ∈ (ls.getD k []).take (q + 1)) ↔ (x : Int) ∈ (ls.getD k []).take q := by
        rw [mem_take_snoc hj]
        constructor
        · rintro (h | h)
          · exact h
          · rw [← h, Int.toNat_natCast] at hi; exact absurd hi hx
        · exact .inl
      simp only [this]
theorem nS_push (idl : Nat → Bool) (ls : List (List Int)) (n m k q : Nat) (j : Nat) (hj : (ls.getD k [])[q]? = some (j : Int)) (hn : (ls.getD k []).Nodup) (hi : idl j = false) :
    ({ nS idl ls n m (k + 1) k q with wt := upd (nS idl ls n m (k + 1) k q).wt k ((nS idl ls n m (k + 1) k q).wt k + 1), ln := upd (nS idl ls n m (k + 1) k q).ln j ((nS idl ls n m (k + 1) k q).ln j ++ [(k : Int)]) } : PS) = nS idl ls n m (k + 1) k (q + 1) := by
  unfold nS
  simp only [PS.mk.injEq, true_and, and_true]
  constructor
  · funext x
    unfold upd
    by_cases e : x = k
    · subst e
      simp only [Nat.lt_irrefl, if_false, if_true]
      rw [List.take_add_one, hj, Option.toList_some, cntL_snoc, Int.toNat_natCast, hi]; simp
    · simp [e]
  · funext x
    unfold upd
    by_cases e : x = j
    · subst e
      have h1 := not_mem_take hn hj
      have h2 : (x : Int) ∈ (ls.getD k []).take (q + 1) := (mem_take_snoc hj).2 (.inr rfl)
      simp only [hi, if_neg h1, if_pos h2, if_true, Bool.false_eq_true, if_false, List.append_nil]
    · rw [if_neg e]
      have : ((x : Int) ∈ (ls.getD k []).take (q + 1)) ↔ (x : Int) ∈ (ls.getD k []).take q := by
        rw [mem_take_snoc hj]
        constructor
        · rintro (h | h)
          · exact h
          · omega
        · exact .inl
      simp only [this]
theorem nS_row (idl : Nat → Bool) (ls : List (List Int)) (n m k : Nat) : nS idl ls n m (k + 1) k (ls.getD k []).length = nS idl ls n m (k + 1) (k + 1) 0 := by
  unfold nS
  simp only [PS.mk.injEq, true_and, and_true]
  constructor
  · funext x
    rw [List.take_length, List.take_zero, cntL_nil]
    by_cases e : x = k
    · subst e; simp
    · have : (x < k + 1) ↔ x < k := by omega
      by_cases h2 : x < k
      · simp [h2, this]
      · simp [h2, this, e]
  · funext x
    rw [inRows_succ, List.take_length, List.take_zero]
    simp
/-- A new plan always stands so. -/
theorem nS_inv (idl : Nat → Bool) (ls : List (List Int)) (n m : Nat) (hg : GoodL ls) (hl : ls.length = n) (hm : 1 ≤ m) : Inv ls (nS idl ls n m n n 0) := by
  refine ⟨hg, hl, hm, fun i hi => ?_, fun i hi => ?_, fun i hi hw => ?_, fun w hw hw1 => absurd (if_pos hw) hw1, fun i hi => ?_, fun j hj hk => ?_, ?_⟩
  · show 0 ≤ (if i < n ∧ idl i = true then (3 : Int) else 0) ∧ (if i < n ∧ idl i = true then (3 : Int) else 0) ≤ 3
    split <;> omega
  · show (if i < n then (-1 : Int) else 0) = -1 ↔ (if i < n ∧ idl i = true then (3 : Int) else 0) = 0 ∨ (if i < n ∧ idl i = true then (3 : Int) else 0) = 3
    change i < n at hi
    rw [if_pos hi]
    split <;> simp
  · exact absurd (if_pos hi) hw
  · change i < n at hi
    show (if i < n then cntL idl (ls.getD i []) else _) = _
    rw [if_pos hi]
    unfold cntL
    congr 2
    apply List.filter_congr
    intro j hj
    have hm := hg.mem hj
    have h1 : j.toNat < n := by omega
    show _ = !decide ((if j.toNat < n ∧ idl j.toNat = true then (3 : Int) else 0) = 3)
    cases h2 : idl j.toNat <;> simp [h1]
  · change (if j < n ∧ idl j = true then (3 : Int) else 0) ≠ 3 at hk
    have h2 : ¬ idl j = true := fun h => hk (if_pos ⟨hj, h⟩)
    show (if idl j = true then [] else inRows ls j n ++ _) = _
    rw [if_neg h2, List.take_zero, if_neg (by simp), List.append_nil]
    rfl
  · show leftN idl n = _
    unfold leftN
    congr 2
    apply List.filter_congr
    intro i hi
    have h1 : i < n := List.mem_range.1 hi
    show _ = !decide ((if i < n ∧ idl i = true then (3 : Int) else 0) = 3)
    cases h2 : idl i <;> simp [h1]
end Go.Proofs.Ytgdkgoiagjjccaa
