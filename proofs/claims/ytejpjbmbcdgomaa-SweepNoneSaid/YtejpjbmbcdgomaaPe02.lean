/- SP, SEnts, TEl: put together. -/
import Derived.Test.YtejpjbmbcdgomaaPe01
import Derived.ArgAppend
import Derived.Deep.RegionLaw
import Derived.Laws.IdiomCopy
import Derived.Lib.Overlaps
import Derived.Lib.AppendZerosOnto
import Derived.Shelf.Spec.SlicesInsert
import Derived.Laws.NewBlocks
/- A store's pure side: four rising lists, what a transaction's writes make of them, in whatever order. -/
namespace Go.Proofs.Ytejpjbmbcdgomaa
set_option maxRecDepth 100000
open Go.RowKit

/-- A write. -/
structure Wr where
  t : Int
  k : Int
  v : Int
  dead : Bool
/-- The cell that a write makes. -/
def Wr.cl (q : Int) (x : Wr) : Cl := ⟨if x.dead then 0 else x.v, q, x.dead⟩
/-- A table there is. -/
def InT (t : Int) : Prop := 0 ≤ t ∧ t < 4
abbrev Tb := Nat → List Ix
def Tb.upd (ts : Tb) (i : Nat) (l : List Ix) : Tb := fun j => if j = i then l else ts j
theorem Tb.upd_same (ts : Tb) (i : Nat) (l : List Ix) : ts.upd i l i = l := by simp [Tb.upd]
theorem Tb.upd_other (ts : Tb) {i j : Nat} (l : List Ix) (h : j ≠ i) : ts.upd i l j = ts j := by simp [Tb.upd, h]
def cellAt (ts : Tb) (t k : Int) : Option Cl := if 0 ≤ t ∧ t < 4 then getC k (ts t.toNat) else none
theorem cellAt_in {ts : Tb} {t k : Int} (h : InT t) : cellAt ts t k = getC k (ts t.toNat) := if_pos h
theorem getC_cons (x : Ix) (l : List Ix) (k : Int) : getC k (x :: l) = if x.k = k then some x.c else getC k l := by
  unfold getC
  by_cases h : x.k = k
  · simp [h]
  · simp [h]
theorem getC_append (a b : List Ix) (k : Int) : getC k (a ++ b) = (getC k a).or (getC k b) := by
  induction a with
  | nil => simp [getC]
  | cons x a ih =>
    rw [List.cons_append, getC_cons, getC_cons, ih]
    split <;> simp
theorem getC_filter (p : Ix → Bool) (k : Int) (hp : ∀ x : Ix, x.k = k → p x = true) : ∀ l : List Ix, getC k (l.filter p) = getC k l
  | [] => rfl
  | x :: l => by
    rw [List.filter_cons, getC_cons]
    by_cases h : x.k = k
    · rw [if_pos (hp x h), if_pos h, getC_cons, if_pos h]
    · rw [if_neg h]
      split
      · rw [getC_cons, if_neg h, getC_filter p k hp l]
      · exact getC_filter p k hp l
theorem getC_ins (x : Ix) (l : List Ix) (k : Int) : getC k (ins x l) = if x.k = k then some x.c else getC k l := by
  unfold ins
  rw [getC_append, getC_cons]
  rcases Int.lt_trichotomy k x.k with h | h | h
  · have e1 : getC k (l.filter fun y => decide (x.k < y.k)) = none := getC_none k _ (fun y hy => by
      have := (List.mem_filter.1 hy).2
      simp at this
      omega)
    rw [if_neg (by omega), if_neg (by omega), getC_filter _ k (fun y e => by simp; omega) l, e1, Option.or_none]
  · subst h
    have e1 : getC x.k (l.filter fun y => decide (y.k < x.k)) = none := getC_none x.k _ (fun y hy => by
      have := (List.mem_filter.1 hy).2
      simp at this
      omega)
    rw [e1, if_pos rfl, if_pos rfl, Option.none_or]
  · have e1 : getC k (l.filter fun y => decide (y.k < x.k)) = none := getC_none k _ (fun y hy => by
      have := (List.mem_filter.1 hy).2
      simp at this
      omega)
    rw [e1, if_neg (by omega), if_neg (by omega), getC_filter _ k (fun y e => by simp; omega) l, Option.none_or]
theorem getC_del (q : Int) (l : List Ix) (k : Int) : getC k (del q l) = if q = k then none else getC k l := by
  unfold del
  by_cases h : q = k
  · subst h
    rw [if_pos rfl]
    exact getC_none _ _ fun y hy => by
      have := (List.mem_filter.1 hy).2
      simpa using this
  · rw [if_neg h]
    exact getC_filter _ k (fun x e => by simp; omega) l
theorem getC_lt {l : List Ix} (_h : Up l) {x : Ix} (hx : ∀ y ∈ l, x.k < y.k) {k : Int} (hk : k ≤ x.k) : getC k l = none := getC_none _ _ fun y hy => by have := hx y hy; omega
/-- Rising lists are told by what stands at each number. -/
theorem up_ext : ∀ {l m : List Ix}, Up l → Up m → (∀ k, getC k l = getC k m) → l = m
  | [], [], _, _, _ => rfl
  | [], y :: m, _, _, h => by have := h y.k; rw [getC_cons, if_pos rfl] at this; cases this
  | x :: l, [], _, _, h => by have := h x.k; rw [getC_cons, if_pos rfl] at this; cases this
  | x :: l, y :: m, hl, hm, h => by
    obtain ⟨l1, l2⟩ := List.pairwise_cons.1 hl
    obtain ⟨m1, m2⟩ := List.pairwise_cons.1 hm
    have hk : x.k = y.k := by
      have e1 := h x.k
      have e2 := h y.k
      rw [getC_cons, if_pos rfl, getC_cons] at e1
      rw [getC_cons, getC_cons, if_pos rfl] at e2
      rcases Int.lt_trichotomy x.k y.k with c | c | c
      · rw [if_neg (by omega), getC_lt m2 m1 (by omega)] at e1
        cases e1
      · exact c
      · rw [if_neg (by omega), getC_lt l2 l1 (by omega)] at e2
        cases e2
    have hc : x.c = y.c := by
      have e1 := h x.k
      rw [getC_cons, if_pos rfl, getC_cons, if_pos hk.symm] at e1
      exact Option.some.inj e1
    have hx : x = y := by cases x; cases y; simp at hk hc; rw [hk, hc]
    subst hx
    congr 1
    refine up_ext l2 m2 fun k => ?_
    have := h k
    rw [getC_cons, getC_cons] at this
    by_cases e : x.k = k
    · rw [getC_lt l2 l1 (by omega), getC_lt m2 m1 (by omega)]
    · rwa [if_neg e, if_neg e] at this
/-- How many are live. -/
def liveL (l : List Ix) : Nat := l.countP fun x => !x.c.dead
def liveT (ts : Tb) : Nat := liveL (ts 0) + liveL (ts 1) + liveL (ts 2) + liveL (ts 3)
def one (o : Option Cl) : Nat := match o with | some c => if c.dead then 0 else 1 | none => 0
theorem live_mid (a b : List Ix) (x : Ix) : liveL (a ++ x :: b) = liveL a + one (some x.c) + liveL b := by
  unfold liveL one
  rw [List.countP_append, List.countP_cons]
  cases h : x.c.dead
  · simp [h]; omega
  · simp [h]
theorem live_ins {l : List Ix} (h : Up l) (x : Ix) : liveL (ins x l) + one (getC x.k l) = liveL l + one (some x.c) := by
  obtain ⟨a, b, hl, _, h1, h2⟩ := place_cut h x.k
  rcases h2 with ⟨y, b', rfl, hy, h3⟩ | ⟨_, h4⟩
  · subst hl
    rw [ins_at x y a b' hy h1 h3, getC_at y a b' x.k hy (fun z hz => by have := h1 z hz; omega), live_mid, live_mid]
    omega
  · subst hl
    rw [ins_new x a b h1 h4, getC_none x.k _ (fun z hz => by
      rcases List.mem_append.1 hz with e | e
      · have := h1 z e; omega
      · have := h4 z e; omega), live_mid]
    have e : liveL (a ++ b) = liveL a + liveL b := by unfold liveL; rw [List.countP_append]
    have e0 : one none = 0 := rfl
    omega
theorem live_upd (ts : Tb) {i : Nat} (hi : i < 4) (l : List Ix) : liveT (ts.upd i l) + liveL (ts i) = liveT ts + liveL l := by
  unfold liveT
  have : i = 0 ∨ i = 1 ∨ i = 2 ∨ i = 3 := by omega
  rcases this with rfl | rfl | rfl | rfl <;> simp only [Tb.upd] <;> simp <;> omega
theorem liveL_le (l : List Ix) : liveL l ≤ l.length := List.countP_le_length
/-- Does a write of a transaction leave what stands? -/
def stay (q : Int) (o : Option Cl) : Bool := match o with | some c => decide (q ≤ c.s) | none => false
def putW (q : Int) (ts : Tb) (x : Wr) : Tb := if stay q (cellAt ts x.t x.k) then ts else ts.upd x.t.toNat (ins ⟨x.k, x.cl q⟩ (ts x.t.toNat))
def forceT (q : Int) (ts : Tb) (ws : List Wr) : Tb := ws.foldl (putW q) ts
/-- What of a transaction's writes comes to stand at a key. -/
def gat (q : Int) (ts : Tb) (ws : List Wr) (t k : Int) : Option Wr := if stay q (cellAt ts t k) then none else ws.find? fun x => decide (x.t = t ∧ x.k = k)
theorem cellAt_upd {ts : Tb} {t k : Int} {x : Ix} {u : Int} (hu : InT u) (ht : InT t) : cellAt (ts.upd u.toNat (ins x (ts u.toNat))) t k = if u = t ∧ x.k = k then some x.c else cellAt ts t k := by
  rw [cellAt_in ht, cellAt_in ht]
  unfold InT at hu ht
  by_cases e : u = t
  · subst e
    rw [Tb.upd_same, getC_ins]
    simp
  · rw [Tb.upd_other _ _ (by omega), if_neg (fun h => e h.1)]
theorem putW_at {q : Int} {ts : Tb} {x : Wr} (hx : InT x.t) {t k : Int} (ht : InT t) : cellAt (putW q ts x) t k = if x.t = t ∧ x.k = k ∧ stay q (cellAt ts t k) = false then some (x.cl q) else cellAt ts t k := by
  unfold putW
  by_cases hs : stay q (cellAt ts x.t x.k) = true
  · rw [if_pos hs, if_neg]
    rintro ⟨rfl, rfl, h⟩
    rw [h] at hs
    cases hs
  · rw [if_neg hs, cellAt_upd hx ht]
    by_cases e : x.t = t ∧ x.k = k
    · obtain ⟨rfl, rfl⟩ := e
      rw [if_pos ⟨rfl, rfl⟩, if_pos ⟨rfl, rfl, by simpa using hs⟩]
    · rw [if_neg e, if_neg (fun h => e ⟨h.1, h.2.1⟩)]
theorem stay_cl (q : Int) (x : Wr) : stay q (some (x.cl q)) = true := by simp [stay, Wr.cl]
theorem force_at {q : Int} {t k : Int} (ht : InT t) : ∀ (ws : List Wr) (ts : Tb), (∀ x ∈ ws, InT x.t) → cellAt (forceT q ts ws) t k = match gat q ts ws t k with | some x => some (x.cl q) | none => cellAt ts t k
  | [], ts, _ => by
    unfold gat forceT
    simp
  | x :: ws, ts, h => by
    have hx : InT x.t := h x (by simp)
    have ih := force_at (q := q) (k := k) ht ws (putW q ts x) fun y hy => h y (by simp [hy])
    have e : forceT q ts (x :: ws) = forceT q (putW q ts x) ws := rfl
    rw [e, ih]
    unfold gat
    have hp := putW_at (q := q) (ts := ts) (x := x) hx (t := t) (k := k) ht
    by_cases hs : stay q (cellAt ts t k) = true
    · rw [if_neg (fun h => by rw [h.2.2] at hs; cases hs)] at hp
      rw [hp, if_pos hs, if_pos hs]
    · have hs' : stay q (cellAt ts t k) = false := by simpa using hs
      by_cases e : x.t = t ∧ x.k = k
      · rw [if_pos ⟨e.1, e.2, hs'⟩] at hp
        rw [hp, if_pos (stay_cl q x), if_neg hs, List.find?_cons, decide_eq_true e]
      · rw [if_neg (fun h => e ⟨h.1, h.2.1⟩)] at hp
        rw [hp, if_neg hs, if_neg hs, List.find?_cons, decide_eq_false e]
theorem up_putW {q : Int} {ts : Tb} {x : Wr} (h : ∀ i, i < 4 → Up (ts i)) : ∀ i, i < 4 → Up (putW q ts x i) := fun i hi => by
  unfold putW
  split
  · exact h i hi
  · unfold Tb.upd
    split
    · rename_i e; subst e; exact (h _ hi).ins _
    · exact h i hi
theorem up_force {q : Int} : ∀ (ws : List Wr) {ts : Tb}, (∀ i, i < 4 → Up (ts i)) → ∀ i, i < 4 → Up (forceT q ts ws i)
  | [], _, h => h
  | _x :: ws, _, h => up_force ws (up_putW h)
theorem ins_le (x : Ix) (l : List Ix) : (ins x l).length ≤ l.length + 1 := by
  unfold ins
  rw [List.length_append, List.length_cons]
  have key : ∀ l : List Ix, (l.filter fun y => decide (y.k < x.k)).length + (l.filter fun y => decide (x.k < y.k)).length ≤ l.length := by
    intro l
    induction l with
    | nil => simp
    | cons y l ih =>
      simp only [List.filter_cons, List.length_cons]
      by_cases h1 : y.k < x.k
      · have h2 : ¬ x.k < y.k := by omega
        simp [h1, h2]; omega
      · by_cases h2 : x.k < y.k
        · simp [h1, h2]; omega
        · simp [h1, h2]; omega
  exact Nat.succ_le_succ (key l)
theorem putW_le {q : Int} {ts : Tb} {x : Wr} {n : Nat} (h : ∀ i, i < 4 → (ts i).length ≤ n) : ∀ i, i < 4 → (putW q ts x i).length ≤ n + 1 := fun i hi => by
  have hi1 := h i hi
  unfold putW
  split
  · omega
  · unfold Tb.upd
    split
    · rename_i e
      subst e
      have := ins_le (⟨x.k, x.cl q⟩ : Ix) (ts x.t.toNat)
      omega
    · omega
theorem force_le {q : Int} : ∀ (ws : List Wr) {ts : Tb} {n : Nat}, (∀ i, i < 4 → (ts i).length ≤ n) → ∀ i, i < 4 → (forceT q ts ws i).length ≤ n + ws.length
  | [], _, _, h => fun i hi => by have := h i hi; simpa [forceT] using this
  | x :: ws, ts, n, h => fun i hi => by
    have := force_le (q := q) ws (putW_le (q := q) (x := x) h) i hi
    have e : forceT q ts (x :: ws) i = forceT q (putW q ts x) ws i := rfl
    rw [e, List.length_cons]
    omega
theorem gat_mem {q : Int} {ts : Tb} {ws : List Wr} {t k : Int} {x : Wr} (h : gat q ts ws t k = some x) : x ∈ ws ∧ x.t = t ∧ x.k = k ∧ stay q (cellAt ts t k) = false := by
  unfold gat at h
  split at h
  · cases h
  · rename_i hs
    have h1 := List.mem_of_find?_eq_some h
    have h2 := List.find?_some h
    simp at h2
    exact ⟨h1, h2.1, h2.2, by simpa using hs⟩
/-- Some of what comes to stand stands. -/
structure Part (q : Int) (ts : Tb) (ws : List Wr) (left : Int → Int → Bool) (ts' : Tb) : Prop where
  up : ∀ i, i < 4 → Up (ts' i)
  at_ : ∀ t k, InT t → cellAt ts' t k = match gat q ts ws t k with | some x => if left t k then cellAt ts t k else some (x.cl q) | none => cellAt ts t k
theorem Part.start {q : Int} {ts : Tb} {ws : List Wr} {left : Int → Int → Bool} (h : ∀ i, i < 4 → Up (ts i)) (hl : ∀ t k x, gat q ts ws t k = some x → left t k = true) : Part q ts ws left ts :=
  ⟨h, fun t k _ => by
    cases hg : gat q ts ws t k with
    | none => rfl
    | some x => simp [hl t k x hg]⟩
theorem Part.step {q : Int} {ts : Tb} {ws : List Wr} {left left' : Int → Int → Bool} {ts' : Tb} (h : Part q ts ws left ts') {t k : Int} {x : Wr} (hg : gat q ts ws t k = some x) (ht : InT t) (hl : left t k = true)
    (hl' : ∀ u j, left' u j = (left u j && !(decide (u = t ∧ j = k)))) : Part q ts ws left' (ts'.upd t.toNat (ins ⟨k, x.cl q⟩ (ts' t.toNat))) ∧ cellAt ts' t k = cellAt ts t k := by
  refine ⟨⟨fun i hi => ?_, fun u j hu => ?_⟩, ?_⟩
  · unfold Tb.upd
    split
    · rename_i e; subst e; exact (h.up _ hi).ins _
    · exact h.up i hi
  · rw [cellAt_upd ht hu, h.at_ u j hu]
    by_cases e : t = u ∧ k = j
    · obtain ⟨rfl, rfl⟩ := e
      rw [if_pos ⟨rfl, rfl⟩, hg]
      simp [hl']
    · rw [if_neg e]
      have e2 : ¬ (u = t ∧ j = k) := fun c => e ⟨c.1.symm, c.2.symm⟩
      rw [hl', decide_eq_false e2]
      simp
  · rw [h.at_ t k ht, hg]
    simp [hl]
theorem Part.done {q : Int} {ts : Tb} {ws : List Wr} {left : Int → Int → Bool} {ts' : Tb} (h : Part q ts ws left ts') (hu : ∀ i, i < 4 → Up (ts i)) (hw : ∀ x ∈ ws, InT x.t) (hl : ∀ t k, left t k = false) : ∀ i, i < 4 → ts' i = forceT q ts ws i := fun i hi => by
  refine up_ext (h.up i hi) (up_force ws hu i hi) fun k => ?_
  have hin : InT (i : Int) := ⟨by omega, by omega⟩
  have h1 := h.at_ i k hin
  have h2 := force_at (q := q) (k := k) hin ws ts hw
  rw [cellAt_in hin] at h1 h2
  have e : ((i : Int)).toNat = i := by omega
  rw [e] at h1 h2
  rw [h1, h2]
  cases gat q ts ws i k with
  | none => rfl
  | some x => simp [hl]
theorem liveT_congr {ts ts' : Tb} (h : ∀ i, i < 4 → ts' i = ts i) : liveT ts' = liveT ts := by
  unfold liveT
  rw [h 0 (by omega), h 1 (by omega), h 2 (by omega), h 3 (by omega)]
/-- How the count of live ones turns. -/
theorem Part.live {ts' : Tb} (h : ∀ i, i < 4 → Up (ts' i)) {t k : Int} (ht : InT t) (c : Cl) : (liveT (ts'.upd t.toNat (ins ⟨k, c⟩ (ts' t.toNat))) : Int) = (liveT ts' : Int) - (one (cellAt ts' t k) : Int) + (one (some c) : Int) := by
  have hi : t.toNat < 4 := by unfold InT at ht; omega
  have h1 := live_upd ts' hi (ins ⟨k, c⟩ (ts' t.toNat))
  have h2 := live_ins (h _ hi) ⟨k, c⟩
  rw [cellAt_in ht]
  simp only at h2
  omega
end Go.Proofs.Ytejpjbmbcdgomaa

/- A store's entries, in order. -/
namespace Go.Proofs.Ytejpjbmbcdgomaa
set_option maxRecDepth 100000
open Go.RowKit

/-- An entry: a table, and an item of it. -/
structure En where
  t : Nat
  x : Ix
def En.vals (e : En) : List Value := [.int .i64 (e.t : Int), .int .i64 e.x.k, .int .i64 e.x.c.v, .int .i64 e.x.c.s, .bool e.x.c.dead]
theorem En.vlen (e : En) : e.vals.length = 5 := rfl
def tag (t : Nat) (l : List Ix) : List En := l.map fun x => ⟨t, x⟩
theorem tag_len (t : Nat) (l : List Ix) : (tag t l).length = l.length := List.length_map ..
/-- The entries of n tables from table i on. -/
def allE (ps : Nat → List Ix) : Nat → Nat → List En
  | _, 0 => []
  | i, n + 1 => tag i (ps i) ++ allE ps (i + 1) n
theorem allE_add (ps : Nat → List Ix) : ∀ (m i n : Nat), allE ps i (m + n) = allE ps i m ++ allE ps (i + m) n
  | 0, i, n => by simp [allE]
  | m + 1, i, n => by
    have e : m + 1 + n = (m + n) + 1 := by omega
    rw [e, allE, allE, allE_add ps m (i + 1) n, List.append_assoc]
    congr 3
    omega
theorem allE_snoc (ps : Nat → List Ix) (i n : Nat) : allE ps i (n + 1) = allE ps i n ++ tag (i + n) (ps (i + n)) := by
  rw [allE_add ps n i 1]
  simp [allE]
theorem allE_congr {ps qs : Nat → List Ix} : ∀ {n i : Nat}, (∀ j, i ≤ j → j < i + n → ps j = qs j) → allE ps i n = allE qs i n
  | 0, _, _ => rfl
  | n + 1, i, h => by rw [allE, allE, h i (by omega) (by omega), allE_congr (n := n) (i := i + 1) fun j h1 h2 => h j (by omega) (by omega)]
/-- Below the entries of table i. -/
def offE (ps : Nat → List Ix) (i0 i : Nat) : Nat := (allE ps i0 (i - i0)).length
theorem offE_next {ps : Nat → List Ix} {i0 i : Nat} (h : i0 ≤ i) : offE ps i0 (i + 1) = offE ps i0 i + (ps i).length := by
  unfold offE
  have e : i + 1 - i0 = (i - i0) + 1 := by omega
  rw [e, allE_snoc, List.length_append, tag_len]
  congr 3
  omega
theorem offE_start (ps : Nat → List Ix) (i0 : Nat) : offE ps i0 i0 = 0 := by simp [offE, allE]
theorem offE_le {ps : Nat → List Ix} {i0 i j : Nat} (h : i0 ≤ i) (hj : i ≤ j) : offE ps i0 i ≤ offE ps i0 j := by
  obtain ⟨d, rfl⟩ : ∃ d, j = i + d := ⟨j - i, by omega⟩
  induction d with
  | zero => exact Nat.le_refl _
  | succ d ih =>
    have := ih (by omega)
    have e := offE_next (ps := ps) (i0 := i0) (i := i + d) (by omega)
    have e2 : i + (d + 1) = i + d + 1 := by omega
    rw [e2, e]
    omega
/-- The q-th entry of table i. -/
theorem allE_at {ps : Nat → List Ix} {i0 i m q : Nat} (h : i0 ≤ i) (hm : i < i0 + m) (hq : q < (ps i).length) : (allE ps i0 m)[offE ps i0 i + q]? = some ⟨i, (ps i)[q]⟩ := by
  obtain ⟨d, rfl⟩ : ∃ d, m = (i - i0) + (1 + d) := ⟨m - (i - i0) - 1, by omega⟩
  rw [allE_add, List.getElem?_append_right (by unfold offE; omega)]
  have e1 : offE ps i0 i + q - (allE ps i0 (i - i0)).length = q := by unfold offE; omega
  have e2 : i0 + (i - i0) = i := by omega
  rw [e1, e2, Nat.add_comm 1 d, allE, List.getElem?_append_left (by rw [tag_len]; exact hq)]
  unfold tag
  rw [List.getElem?_map, List.getElem?_eq_getElem hq]
  rfl
def loI : Int := -9223372036854775808
def hiI : Int := 9223372036854775807
/-- What of table i lies at a key or behind it. -/
def partF (t k : Int) (ts : Tb) (i : Nat) : List Ix := rng (if (i : Int) = t then k else loI) hiI (ts i)
def i0F (t : Int) : Nat := min (max t 0).toNat 4
def fromE (t k : Int) (ts : Tb) : List En := allE (partF t k ts) (i0F t) (4 - i0F t)
def ents (ts : Tb) : List En := allE ts 0 4
def NumL (l : List Ix) : Prop := ∀ x ∈ l, -9223372036854775808 ≤ x.k ∧ x.k ≤ 9223372036854775807
theorem rng_full {l : List Ix} (h : NumL l) : rng loI hiI l = l := filter_all fun x hx => by have := h x hx; unfold loI hiI; simp; omega
theorem fromE_all {ts : Tb} (h : ∀ i, i < 4 → NumL (ts i)) : fromE 0 loI ts = ents ts := by
  unfold fromE ents
  have e0 : i0F 0 = 0 := by decide
  rw [e0]
  refine allE_congr fun j _ hj => ?_
  unfold partF
  have : (if (j : Int) = 0 then loI else loI) = loI := by split <;> rfl
  rw [this, rng_full (h j (by omega))]
/-- The live ones. -/
def liveE (l : List En) : List En := l.filter fun e => !e.x.c.dead
theorem liveE_tag (t : Nat) (l : List Ix) : (liveE (tag t l)).length = liveL l := by
  unfold liveE liveL tag
  rw [← List.countP_eq_length_filter, List.countP_map]
  rfl
theorem liveE_ents (ts : Tb) : (liveE (ents ts)).length = liveT ts := by
  unfold ents liveT
  simp only [allE, List.append_nil]
  unfold liveE
  simp only [List.filter_append, List.length_append]
  have h := fun t l => liveE_tag t l
  unfold liveE at h
  rw [h, h, h, h]
  show liveL (ts 0) + (liveL (ts 1) + (liveL (ts 2) + liveL (ts 3))) = _
  omega
end Go.Proofs.Ytejpjbmbcdgomaa

/- The elements of a node's two rows. -/
namespace Go.Proofs.Ytejpjbmbcdgomaa
set_option maxRecDepth 100000
open Go.RowKit

theorem elemIx : ElemT Try.prog 152 166 4 32 :=
  ⟨Try.underlying152, by kernel_rfl, by
    obtain ⟨i, hi, hz, h1, _⟩ := info_parts (show (Try.prog.info? 166).map (fun i => (i.zero, i.size, i.bytes)) = some (some (.agg #[.int .i64 0, .int .i64 0, .bool false, .int .i64 0]), 4, 32) by kernel_rfl)
    exact ⟨i, _, hi, hz, rfl⟩, by decide⟩
theorem ix_one (l : List Ix) : ∀ u ∈ rowV Ix.vals l, u.oneCell' = true := by
  intro u hu
  unfold rowV at hu
  obtain ⟨r, _, hr⟩ := List.mem_flatMap.1 hu
  unfold Ix.vals at hr
  simp at hr
  rcases hr with rfl | rfl | rfl | rfl <;> rfl
/-- A pointer to a node. -/
def PV (p : Nat) : List Value := [.pointer (some ⟨p, 0, none⟩)]
theorem PV.len (p : Nat) : (PV p).length = 1 := rfl
theorem elemPt : ElemT Try.prog 153 151 1 8 :=
  ⟨Try.underlying153, by kernel_rfl, by
    obtain ⟨i, hi, hz, h1, _⟩ := info_parts (show (Try.prog.info? 151).map (fun i => (i.zero, i.size, i.bytes)) = some (some (.pointer none), 1, 8) by kernel_rfl)
    exact ⟨i, _, hi, hz, rfl⟩, by decide⟩
theorem pt_one (l : List Nat) : ∀ u ∈ rowV PV l, u.oneCell' = true := by
  intro u hu
  unfold rowV at hu
  obtain ⟨r, _, hr⟩ := List.mem_flatMap.1 hu
  unfold PV at hr
  simp at hr
  rcases hr with rfl
  rfl
/-- A copy of elements of k cells. -/
theorem run_copy_row {P : Program} (w : World) (dT sT ty elem : TypeId) (k b o dLen dCap : Nat) (a : Addr) (sLen sCap m : Nat) (cs : List Value)
    (hu : P.underlying dT = some (.slice elem)) (hs : (P.info? elem).map (·.size) = some k) (hn : m = Nat.min sLen dLen) (hcl : cs.length = m * k)
    (hsrc : ∀ j v, cs[j]? = some v → w.cell? (a.add j) = some v) (hc : ∀ j, j < cs.length → (w.cell? ⟨b, o + j, none⟩).isSome = true) (hf : ∀ j, j < cs.length → w.frozen? ⟨b, o + j, none⟩ = false) (h1 : ∀ v ∈ cs, v.oneCell' = true) :
    (Builtin.copy_ #[dT, sT] ty #[.slice (some ⟨b, o, none⟩) dLen dCap, .slice (some a) sLen sCap]).run P w = .ok (goInt m) (w.setCells b o cs) := by
  have hl := run_loadCells_list (P := P) w a cs hsrc
  have hst := run_storeCells_cells (P := P) b o cs 0 w (by simpa using hc) (by simpa using hf) h1
  cases hq : P.info? elem with
  | none => simp [hq] at hs
  | some i =>
    have hi : i.size = k := by simpa [hq] using hs
    rw [hcl] at hl
    simp [Builtin.copy_, run_underlying hu, Builtin.lenOf, Builtin.firstCells, sizeOf, typeInfo, hq, hi, ← hn, hl, hst]
theorem setL_take (xs vs : List Value) (o : Nat) (h : o + vs.length ≤ xs.length) : (setL xs o vs).take (o + vs.length) = xs.take o ++ vs := by
  apply List.ext_getElem?
  intro i
  by_cases h1 : i < o + vs.length
  · rw [List.getElem?_take_of_lt h1, setL_get _ _ _ _ h]
    by_cases h2 : o ≤ i
    · rw [if_pos ⟨h2, h1⟩, List.getElem?_append_right (by rw [List.length_take]; omega), List.length_take, Nat.min_eq_left (by omega)]
    · rw [if_neg (by omega), List.getElem?_append_left (by rw [List.length_take]; omega), List.getElem?_take_of_lt (by omega)]
  · rw [List.getElem?_eq_none (by rw [List.length_take]; omega), List.getElem?_eq_none (by rw [List.length_append, List.length_take]; omega)]
theorem rowV_drop {α : Type} {f : α → List Value} {k : Nat} (hf : ∀ x, (f x).length = k) : ∀ (l : List α) (m : Nat), (rowV f l).drop (m * k) = rowV f (l.drop m)
  | [], m => by simp [rowV]
  | x :: l, 0 => by simp [rowV]
  | x :: l, m + 1 => by
    have e1 : rowV f (x :: l) = f x ++ rowV f l := by simp [rowV]
    rw [e1, List.drop_succ_cons, ← rowV_drop hf l m, Nat.succ_mul, Nat.add_comm, ← List.drop_drop, ← hf x, List.drop_left, hf x]
theorem setL_mid (a b c vs : List Value) (o : Nat) (ho : a.length = o) (hb : b.length = vs.length) : setL (a ++ (b ++ c)) o vs = a ++ (vs ++ c) := by
  subst ho
  apply List.ext_getElem?
  intro i
  rw [setL_get _ _ _ _ (by simp only [List.length_append]; omega)]
  by_cases h1 : a.length ≤ i
  · rw [List.getElem?_append_right h1, List.getElem?_append_right h1]
    by_cases h2 : i < a.length + vs.length
    · rw [if_pos ⟨h1, h2⟩, List.getElem?_append_left (by omega)]
    · rw [if_neg (by omega), List.getElem?_append_right (by omega), List.getElem?_append_right (by omega), hb]
  · rw [if_neg (by omega), List.getElem?_append_left (by omega), List.getElem?_append_left (by omega)]
section
variable {α : Type} {f : α → List Value} {k : Nat}
theorem three_of {xs : List Value} {l : List α} {n i : Nat} (hf : ∀ x, (f x).length = k) (_ : l.length = n) (hi : i ≤ n) (hx : xs.length = (n + 1) * k) (ht : xs.take (n * k) = rowV f l) : ∃ b c, xs = rowV f (l.take i) ++ (b ++ c) ∧ b.length = k ∧ c.length = (n - i) * k := by
  have h1 : i * k ≤ n * k := Nat.mul_le_mul_right k hi
  have h2 : (n + 1) * k = n * k + k := by rw [Nat.succ_mul]
  have h3 : (n - i) * k + i * k = n * k := by rw [← Nat.add_mul]; congr 1; omega
  refine ⟨(xs.drop (i * k)).take k, (xs.drop (i * k)).drop k, ?_, by rw [List.length_take, List.length_drop]; omega, by rw [List.length_drop, List.length_drop]; omega⟩
  rw [List.take_append_drop, ← rowV_take hf, ← ht, List.take_take, Nat.min_eq_left h1, List.take_append_drop]
theorem rows_len (hf : ∀ x, (f x).length = k) {l : List α} {n i : Nat} (hl : l.length = n) (hi : i ≤ n) : (rowV f (l.take i)).length = i * k ∧ (rowV f (l.drop i)).length = (n - i) * k := by
  constructor
  · rw [rowV_length f k hf, List.length_take, hl, Nat.min_eq_left hi]
  · rw [rowV_length f k hf, List.length_drop, hl]
theorem rowV_ins (l : List α) (i : Nat) (x : α) : rowV f (l.take i ++ x :: l.drop i) = rowV f (l.take i) ++ (f x ++ rowV f (l.drop i)) := by simp [rowV]
/-- First the rest goes up, then the new one is laid. -/
theorem up_then {xs : List Value} {l : List α} {n i : Nat} (hf : ∀ x, (f x).length = k) (hl : l.length = n) (hi : i ≤ n) (hx : xs.length = (n + 1) * k) (ht : xs.take (n * k) = rowV f l) (x : α) : setL (setL xs ((i + 1) * k) (rowV f (l.drop i))) (i * k) (f x) = rowV f (l.take i ++ x :: l.drop i) := by
  obtain ⟨b, c, rfl, hb, hc⟩ := three_of hf hl hi hx ht
  obtain ⟨e1, e2⟩ := rows_len hf hl hi
  have g1 : setL (rowV f (l.take i) ++ (b ++ c)) ((i + 1) * k) (rowV f (l.drop i)) = rowV f (l.take i) ++ (b ++ rowV f (l.drop i)) := by
    have := setL_mid (rowV f (l.take i) ++ b) c [] (rowV f (l.drop i)) ((i + 1) * k) (by rw [List.length_append, e1, hb, Nat.succ_mul]) (by rw [hc, e2])
    simpa using this
  rw [g1, setL_mid _ _ _ _ _ e1 (by rw [hb, hf]), rowV_ins]
/-- First the new one is laid, then the rest. -/
theorem lay_then {xs : List Value} {l : List α} {n i : Nat} (hf : ∀ x, (f x).length = k) (hl : l.length = n) (hi : i ≤ n) (hx : xs.length = (n + 1) * k) (ht : xs.take (i * k) = rowV f (l.take i)) (x : α) : setL (setL xs (i * k) (f x)) ((i + 1) * k) (rowV f (l.drop i)) = rowV f (l.take i ++ x :: l.drop i) := by
  have h1 : i * k ≤ n * k := Nat.mul_le_mul_right k hi
  have h2 : (n + 1) * k = n * k + k := by rw [Nat.succ_mul]
  have h3 : (n - i) * k + i * k = n * k := by rw [← Nat.add_mul]; congr 1; omega
  obtain ⟨e1, e2⟩ := rows_len hf hl hi
  obtain ⟨b, c, rfl, hb, hc⟩ : ∃ b c, xs = rowV f (l.take i) ++ (b ++ c) ∧ b.length = k ∧ c.length = (n - i) * k :=
    ⟨(xs.drop (i * k)).take k, (xs.drop (i * k)).drop k, by rw [List.take_append_drop, ← ht, List.take_append_drop], by rw [List.length_take, List.length_drop]; omega, by rw [List.length_drop, List.length_drop]; omega⟩
  rw [setL_mid _ _ _ _ _ e1 (by rw [hb, hf])]
  have := setL_mid (rowV f (l.take i) ++ f x) c [] (rowV f (l.drop i)) ((i + 1) * k) (by rw [List.length_append, e1, hf, Nat.succ_mul]) (by rw [hc, e2])
  rw [rowV_ins]
  simpa using this
end
section
variable {w : World} {B : Nat} {e : TypeId} {k g n c : Nat} {xs : List Value}
theorem own_block (h : w.ownsRow B e k (.slice (some ⟨g, 0, none⟩) n c) n xs) : ∃ cur : Array Value, w.heap[g]? = some (.cells cur e (0, 0)) ∧ cur.size = c * k ∧ cur.toList.take (n * k) = xs := by
  obtain ⟨h1, h2⟩ := h
  rcases h2 with ⟨hv, _⟩ | ⟨g', cap, cur, hv, hB, hg, hn, hc, hs, ht⟩
  · cases hv
  · injection hv with e1 e2 e3
    injection e1 with e1
    injection e1 with e1
    subst e1 e3
    exact ⟨cur, hg, hs, ht⟩
/-- One element more of the room behind it. -/
theorem own_more (h : w.ownsRow B e k (.slice (some ⟨g, 0, none⟩) n c) n xs) (hr : n + 1 ≤ c) : ∃ ys, w.ownsRow B e k (.slice (some ⟨g, 0, none⟩) (n + 1) c) (n + 1) ys ∧ ys.length = (n + 1) * k ∧ ys.take (n * k) = xs := by
  obtain ⟨hB, _, _, hcm⟩ := own_lt h
  obtain ⟨cur, h1, h2, h3⟩ := own_block h
  have h4 : (n + 1) * k ≤ c * k := Nat.mul_le_mul_right k hr
  have h5 : n * k ≤ (n + 1) * k := Nat.mul_le_mul_right k (by omega)
  have hlen : (cur.toList.take ((n + 1) * k)).length = (n + 1) * k := by rw [List.length_take, Array.length_toList, h2, Nat.min_eq_left h4]
  refine ⟨cur.toList.take ((n + 1) * k), ⟨hlen, .inr ⟨g, c, cur, rfl, hB, h1, hr, hcm, h2, rfl⟩⟩, hlen, ?_⟩
  rw [List.take_take, Nat.min_eq_left h5, h3]
theorem own_some (h : w.ownsRow B e k (.slice (some ⟨g, 0, none⟩) n c) n xs) (j : Nat) (hj : j < c * k) : (w.cell? ⟨g, j, none⟩).isSome = true := by
  obtain ⟨cur, h1, h2, _⟩ := own_block h
  have : w.cell? ⟨g, j, none⟩ = cur[j]? := cell_of_row w g j cur _ (0, 0) h1
  rw [this, Array.getElem?_eq_getElem (by omega)]
  rfl
end
theorem frozen_of {W : World} {b : Nat} {c : Array Value} {t : TypeId} (h : W.heap[b]? = some (.cells c t (0, 0))) (j : Nat) : W.frozen? ⟨b, j, none⟩ = false := by
  unfold World.frozen?
  simp [h]
theorem shape_of {W : World} {b : Nat} {c : Array Value} {t : TypeId} (h : W.heap[b]? = some (.cells c t (0, 0))) : W.shape? b = some (t, c.size) := by
  unfold World.shape?
  simp [h]
/-- A row is copied: appended to a fresh empty one. -/
theorem wpList_append_copy {P : Program} {t e : TypeId} {size bytes : Nat} (E : ElemT P t e size bytes) {w0 : World} {ops : Array Oper} {rest : List Oper} {o : Oper} {a : Act} {Q : Exit → Act → World → Prop} (hgd : o.guard = none) (s x : Operand)
    (ho : o.op = .call { callee := .builtin .append, args := #[s, x], argTypes := #[t, t] }) (hs : a.eval s = .slice (some ⟨w0.heap.size, 0, none⟩) 0 0)
    (A : Option Addr) (m c : Nat) (ys : List Value) (hx : a.eval x = .slice A m c) (hr : Rdv w0 A m size ys) (h1 : ∀ u ∈ ys, u.oneCell' = true) (hnil : A = none → c = 0) (hmx : m ≤ maxLen) (hby : m * bytes ≤ 140737488355328)
    (h : ∀ b c' w1, w1.ownsRow w0.heap.size e size (.slice (some ⟨b, 0, none⟩) m c') m ys → w0.heap.size ≤ b → Below w0.heap.size w0 w1 → wpList P ops Q rest (a.put o.dst (.slice (some ⟨b, 0, none⟩) m c')) w1) : wpList P ops Q (o :: rest) a (w0.alloc (.cells #[] e)) := by
  have hr1 : Rdv (w0.alloc (.cells #[] e)) A m size ys := hr.ext fun q hq => ((Below.refl _ _).alloc (Nat.le_refl _) _).cell hq
  refine wpList_append_rowv E hgd s x ho w0.heap.size (.slice (some ⟨w0.heap.size, 0, none⟩) 0 0) 0 [] hs (own_empty w0 _ _ _ _ rfl (Nat.le_refl _)) A m c ys hx hr1 h1 hnil (by omega) (by rw [Nat.zero_add]; exact hby) (by simp) ?_
  intro v1 w1 hown hg hgb
  simp only [Nat.zero_add, List.nil_append] at hown
  have hbl : Below w0.heap.size w0 w1 := ((Below.refl _ _).alloc (Nat.le_refl _) (.cells #[] e)).trans (below_grown2 hg (Nat.le_refl _) (by simp))
  obtain ⟨b, c', rfl, hb⟩ : ∃ b c', v1 = .slice (some ⟨b, 0, none⟩) m c' ∧ w0.heap.size ≤ b := by
    rcases hown.2 with ⟨rfl, _⟩ | ⟨g, cap, cur, rfl, h2, _⟩
    · rcases hgb with e2 | e2
      · cases e2
      · cases e2
    · exact ⟨g, cap, rfl, h2⟩
  exact h b c' w1 hown hb hbl
/-- What an own row reads as. -/
theorem rowat_own {α : Type} {f : α → List Value} {k : Nat} {w : World} {B : Nat} {e : TypeId} {b n c : Nat} {l : List α} (h : w.ownsRow B e k (.slice (some ⟨b, 0, none⟩) n c) n (rowV f l)) (hl : l.length = n) : RowAt f k w (some ⟨b, 0, none⟩) n l := by
  refine ⟨hl, h.1, fun _ => ⟨b, 0, rfl, fun j u hj => ?_⟩⟩
  have := h.cells (g := b) rfl j u hj
  rwa [addr_plus] at this
end Go.Proofs.Ytejpjbmbcdgomaa
