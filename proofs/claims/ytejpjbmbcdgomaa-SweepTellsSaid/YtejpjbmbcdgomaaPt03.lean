/- SEnts, TEl: put together. -/
import Derived.Test.YtejpjbmbcdgomaaPt02
import Derived.ArgAppend
import Derived.Deep.RegionLaw
import Derived.Laws.IdiomCopy
import Derived.Lib.Overlaps
import Derived.Lib.AppendZerosOnto
import Derived.Shelf.Spec.SlicesInsert
import Derived.Laws.NewBlocks
/- A store's entries, in order. -/
namespace Go.Proofs.Ytejpjbmbcdgomaa
set_option maxRecDepth 100000
open Go.RowKit

/-- An entry: a table, and an item of it. -/
structure En where
  t : Nat
  x : Ix
def En.vals (e : En) : List Value := [.int .i64 (e.t : Int), .int .i64 e.x.k, .int .i64 e.x.c.v, .int .i64 e.x.c.s, .bool e.x.c.dead]
theorem En.vlen (e : En) : e.vals.length = 5 := rfl
def tag (t : Nat) (l : List Ix) : List En := l.map fun x => ⟨t, x⟩
theorem tag_len (t : Nat) (l : List Ix) : (tag t l).length = l.length := List.length_map ..
/-- The entries of n tables from table i on. -/
def allE (ps : Nat → List Ix) : Nat → Nat → List En
  | _, 0 => []
  | i, n + 1 => tag i (ps i) ++ allE ps (i + 1) n
theorem allE_add (ps : Nat → List Ix) : ∀ (m i n : Nat), allE ps i (m + n) = allE ps i m ++ allE ps (i + m) n
  | 0, i, n => by simp [allE]
  | m + 1, i, n => by
    have e : m + 1 + n = (m + n) + 1 := by omega
    rw [e, allE, allE, allE_add ps m (i + 1) n, List.append_assoc]
    congr 3
    omega
theorem allE_snoc (ps : Nat → List Ix) (i n : Nat) : allE ps i (n + 1) = allE ps i n ++ tag (i + n) (ps (i + n)) := by
  rw [allE_add ps n i 1]
  simp [allE]
theorem allE_congr {ps qs : Nat → List Ix} : ∀ {n i : Nat}, (∀ j, i ≤ j → j < i + n → ps j = qs j) → allE ps i n = allE qs i n
  | 0, _, _ => rfl
  | n + 1, i, h => by rw [allE, allE, h i (by omega) (by omega), allE_congr (n := n) (i := i + 1) fun j h1 h2 => h j (by omega) (by omega)]
/-- Below the entries of table i. -/
def offE (ps : Nat → List Ix) (i0 i : Nat) : Nat := (allE ps i0 (i - i0)).length
theorem offE_next {ps : Nat → List Ix} {i0 i : Nat} (h : i0 ≤ i) : offE ps i0 (i + 1) = offE ps i0 i + (ps i).length := by
  unfold offE
  have e : i + 1 - i0 = (i - i0) + 1 := by omega
  rw [e, allE_snoc, List.length_append, tag_len]
  congr 3
  omega
theorem offE_start (ps : Nat → List Ix) (i0 : Nat) : offE ps i0 i0 = 0 := by simp [offE, allE]
theorem offE_le {ps : Nat → List Ix} {i0 i j : Nat} (h : i0 ≤ i) (hj : i ≤ j) : offE ps i0 i ≤ offE ps i0 j := by
  obtain ⟨d, rfl⟩ : ∃ d, j = i + d := ⟨j - i, by omega⟩
  induction d with
  | zero => exact Nat.le_refl _
  | succ d ih =>
    have := ih (by omega)
    have e := offE_next (ps := ps) (i0 := i0) (i := i + d) (by omega)
    have e2 : i + (d + 1) = i + d + 1 := by omega
    rw [e2, e]
    omega
/-- The q-th entry of table i. -/
theorem allE_at {ps : Nat → List Ix} {i0 i m q : Nat} (h : i0 ≤ i) (hm : i < i0 + m) (hq : q < (ps i).length) : (allE ps i0 m)[offE ps i0 i + q]? = some ⟨i, (ps i)[q]⟩ := by
  obtain ⟨d, rfl⟩ : ∃ d, m = (i - i0) + (1 + d) := ⟨m - (i - i0) - 1, by omega⟩
  rw [allE_add, List.getElem?_append_right (by unfold offE; omega)]
  have e1 : offE ps i0 i + q - (allE ps i0 (i - i0)).length = q := by unfold offE; omega
  have e2 : i0 + (i - i0) = i := by omega
  rw [e1, e2, Nat.add_comm 1 d, allE, List.getElem?_append_left (by rw [tag_len]; exact hq)]
  unfold tag
  rw [List.getElem?_map, List.getElem?_eq_getElem hq]
  rfl
def loI : Int := -9223372036854775808
def hiI : Int := 9223372036854775807
/-- What of table i lies at a key or behind it. -/
def partF (t k : Int) (ts : Tb) (i : Nat) : List Ix := rng (if (i : Int) = t then k else loI) hiI (ts i)
def i0F (t : Int) : Nat := min (max t 0).toNat 4
def fromE (t k : Int) (ts : Tb) : List En := allE (partF t k ts) (i0F t) (4 - i0F t)
def ents (ts : Tb) : List En := allE ts 0 4
def NumL (l : List Ix) : Prop := ∀ x ∈ l, -9223372036854775808 ≤ x.k ∧ x.k ≤ 9223372036854775807
theorem rng_full {l : List Ix} (h : NumL l) : rng loI hiI l = l := filter_all fun x hx => by have := h x hx; unfold loI hiI; simp; omega
theorem fromE_all {ts : Tb} (h : ∀ i, i < 4 → NumL (ts i)) : fromE 0 loI ts = ents ts := by
  unfold fromE ents
  have e0 : i0F 0 = 0 := by decide
  rw [e0]
  refine allE_congr fun j _ hj => ?_
  unfold partF
  have : (if (j : Int) = 0 then loI else loI) = loI := by split <;> rfl
  rw [this, rng_full (h j (by omega))]
/-- The live ones. -/
def liveE (l : List En) : List En := l.filter fun e => !e.x.c.dead
theorem liveE_tag (t : Nat) (l : List Ix) : (liveE (tag t l)).length = liveL l := by
  unfold liveE liveL tag
  rw [← List.countP_eq_length_filter, List.countP_map]
  rfl
theorem liveE_ents (ts : Tb) : (liveE (ents ts)).length = liveT ts := by
  unfold ents liveT
  simp only [allE, List.append_nil]
  unfold liveE
  simp only [List.filter_append, List.length_append]
  have h := fun t l => liveE_tag t l
  unfold liveE at h
  rw [h, h, h, h]
  show liveL (ts 0) + (liveL (ts 1) + (liveL (ts 2) + liveL (ts 3))) = _
  omega
end Go.Proofs.Ytejpjbmbcdgomaa

/- The elements of a node's two rows. -/
namespace Go.Proofs.Ytejpjbmbcdgomaa
set_option maxRecDepth 100000
open Go.RowKit

theorem elemIx : ElemT Try.prog 152 166 4 32 :=
  ⟨Try.underlying152, by kernel_rfl, by
    obtain ⟨i, hi, hz, h1, _⟩ := info_parts (show (Try.prog.info? 166).map (fun i => (i.zero, i.size, i.bytes)) = some (some (.agg #[.int .i64 0, .int .i64 0, .bool false, .int .i64 0]), 4, 32) by kernel_rfl)
    exact ⟨i, _, hi, hz, rfl⟩, by decide⟩
theorem ix_one (l : List Ix) : ∀ u ∈ rowV Ix.vals l, u.oneCell' = true := by
  intro u hu
  unfold rowV at hu
  obtain ⟨r, _, hr⟩ := List.mem_flatMap.1 hu
  unfold Ix.vals at hr
  simp at hr
  rcases hr with rfl | rfl | rfl | rfl <;> rfl
/-- A pointer to a node. -/
def PV (p : Nat) : List Value := [.pointer (some ⟨p, 0, none⟩)]
theorem PV.len (p : Nat) : (PV p).length = 1 := rfl
theorem elemPt : ElemT Try.prog 153 151 1 8 :=
  ⟨Try.underlying153, by kernel_rfl, by
    obtain ⟨i, hi, hz, h1, _⟩ := info_parts (show (Try.prog.info? 151).map (fun i => (i.zero, i.size, i.bytes)) = some (some (.pointer none), 1, 8) by kernel_rfl)
    exact ⟨i, _, hi, hz, rfl⟩, by decide⟩
theorem pt_one (l : List Nat) : ∀ u ∈ rowV PV l, u.oneCell' = true := by
  intro u hu
  unfold rowV at hu
  obtain ⟨r, _, hr⟩ := List.mem_flatMap.1 hu
  unfold PV at hr
  simp at hr
  rcases hr with rfl
  rfl
/-- A copy of elements of k cells. -/
theorem run_copy_row {P : Program} (w : World) (dT sT ty elem : TypeId) (k b o dLen dCap : Nat) (a : Addr) (sLen sCap m : Nat) (cs : List Value)
    (hu : P.underlying dT = some (.slice elem)) (hs : (P.info? elem).map (·.size) = some k) (hn : m = Nat.min sLen dLen) (hcl : cs.length = m * k)
    (hsrc : ∀ j v, cs[j]? = some v → w.cell? (a.add j) = some v) (hc : ∀ j, j < cs.length → (w.cell? ⟨b, o + j, none⟩).isSome = true) (hf : ∀ j, j < cs.length → w.frozen? ⟨b, o + j, none⟩ = false) (h1 : ∀ v ∈ cs, v.oneCell' = true) :
    (Builtin.copy_ #[dT, sT] ty #[.slice (some ⟨b, o, none⟩) dLen dCap, .slice (some a) sLen sCap]).run P w = .ok (goInt m) (w.setCells b o cs) := by
  have hl := run_loadCells_list (P := P) w a cs hsrc
  have hst := run_storeCells_cells (P := P) b o cs 0 w (by simpa using hc) (by simpa using hf) h1
  cases hq : P.info? elem with
  | none => simp [hq] at hs
  | some i =>
    have hi : i.size = k := by simpa [hq] using hs
    rw [hcl] at hl
    simp [Builtin.copy_, run_underlying hu, Builtin.lenOf, Builtin.firstCells, sizeOf, typeInfo, hq, hi, ← hn, hl, hst]
theorem rowV_drop {α : Type} {f : α → List Value} {k : Nat} (hf : ∀ x, (f x).length = k) : ∀ (l : List α) (m : Nat), (rowV f l).drop (m * k) = rowV f (l.drop m)
  | [], m => by simp [rowV]
  | x :: l, 0 => by simp [rowV]
  | x :: l, m + 1 => by
    have e1 : rowV f (x :: l) = f x ++ rowV f l := by simp [rowV]
    rw [e1, List.drop_succ_cons, ← rowV_drop hf l m, Nat.succ_mul, Nat.add_comm, ← List.drop_drop, ← hf x, List.drop_left, hf x]
theorem setL_mid (a b c vs : List Value) (o : Nat) (ho : a.length = o) (hb : b.length = vs.length) : setL (a ++ (b ++ c)) o vs = a ++ (vs ++ c) := by
  subst ho
  apply List.ext_getElem?
  intro i
  rw [setL_get _ _ _ _ (by simp only [List.length_append]; omega)]
  by_cases h1 : a.length ≤ i
  · rw [List.getElem?_append_right h1, List.getElem?_append_right h1]
    by_cases h2 : i < a.length + vs.length
    · rw [if_pos ⟨h1, h2⟩, List.getElem?_append_left (by omega)]
    · rw [if_neg (by omega), List.getElem?_append_right (by omega), List.getElem?_append_right (by omega), hb]
  · rw [if_neg (by omega), List.getElem?_append_left (by omega), List.getElem?_append_left (by omega)]
section
variable {α : Type} {f : α → List Value} {k : Nat}
theorem three_of {xs : List Value} {l : List α} {n i : Nat} (hf : ∀ x, (f x).length = k) (_ : l.length = n) (hi : i ≤ n) (hx : xs.length = (n + 1) * k) (ht : xs.take (n * k) = rowV f l) : ∃ b c, xs = rowV f (l.take i) ++ (b ++ c) ∧ b.length = k ∧ c.length = (n - i) * k := by
  have h1 : i * k ≤ n * k := Nat.mul_le_mul_right k hi
  have h2 : (n + 1) * k = n * k + k := by rw [Nat.succ_mul]
  have h3 : (n - i) * k + i * k = n * k := by rw [← Nat.add_mul]; congr 1; omega
  refine ⟨(xs.drop (i * k)).take k, (xs.drop (i * k)).drop k, ?_, by rw [List.length_take, List.length_drop]; omega, by rw [List.length_drop, List.length_drop]; omega⟩
  rw [List.take_append_drop, ← rowV_take hf, ← ht, List.take_take, Nat.min_eq_left h1, List.take_append_drop]
theorem rows_len (hf : ∀ x, (f x).length = k) {l : List α} {n i : Nat} (hl : l.length = n) (hi : i ≤ n) : (rowV f (l.take i)).length = i * k ∧ (rowV f (l.drop i)).length = (n - i) * k := by
  constructor
  · rw [rowV_length f k hf, List.length_take, hl, Nat.min_eq_left hi]
  · rw [rowV_length f k hf, List.length_drop, hl]
theorem rowV_ins (l : List α) (i : Nat) (x : α) : rowV f (l.take i ++ x :: l.drop i) = rowV f (l.take i) ++ (f x ++ rowV f (l.drop i)) := by simp [rowV]
/-- First the rest goes up, then the new one is laid. -/
theorem up_then {xs : List Value} {l : List α} {n i : Nat} (hf : ∀ x, (f x).length = k) (hl : l.length = n) (hi : i ≤ n) (hx : xs.length = (n + 1) * k) (ht : xs.take (n * k) = rowV f l) (x : α) : setL (setL xs ((i + 1) * k) (rowV f (l.drop i))) (i * k) (f x) = rowV f (l.take i ++ x :: l.drop i) := by
  obtain ⟨b, c, rfl, hb, hc⟩ := three_of hf hl hi hx ht
  obtain ⟨e1, e2⟩ := rows_len hf hl hi
  have g1 : setL (rowV f (l.take i) ++ (b ++ c)) ((i + 1) * k) (rowV f (l.drop i)) = rowV f (l.take i) ++ (b ++ rowV f (l.drop i)) := by
    have := setL_mid (rowV f (l.take i) ++ b) c [] (rowV f (l.drop i)) ((i + 1) * k) (by rw [List.length_append, e1, hb, Nat.succ_mul]) (by rw [hc, e2])
    simpa using this
  rw [g1, setL_mid _ _ _ _ _ e1 (by rw [hb, hf]), rowV_ins]
/-- First the new one is laid, then the rest. -/
theorem lay_then {xs : List Value} {l : List α} {n i : Nat} (hf : ∀ x, (f x).length = k) (hl : l.length = n) (hi : i ≤ n) (hx : xs.length = (n + 1) * k) (ht : xs.take (i * k) = rowV f (l.take i)) (x : α) : setL (setL xs (i * k) (f x)) ((i + 1) * k) (rowV f (l.drop i)) = rowV f (l.take i ++ x :: l.drop i) := by
  have h1 : i * k ≤ n * k := Nat.mul_le_mul_right k hi
  have h2 : (n + 1) * k = n * k + k := by rw [Nat.succ_mul]
  have h3 : (n - i) * k + i * k = n * k := by rw [← Nat.add_mul]; congr 1; omega
  obtain ⟨e1, e2⟩ := rows_len hf hl hi
  obtain ⟨b, c, rfl, hb, hc⟩ : ∃ b c, xs = rowV f (l.take i) ++ (b ++ c) ∧ b.length = k ∧ c.length = (n - i) * k :=
    ⟨(xs.drop (i * k)).take k, (xs.drop (i * k)).drop k, by rw [List.take_append_drop, ← ht, List.take_append_drop], by rw [List.length_take, List.length_drop]; omega, by rw [List.length_drop, List.length_drop]; omega⟩
  rw [setL_mid _ _ _ _ _ e1 (by rw [hb, hf])]
  have := setL_mid (rowV f (l.take i) ++ f x) c [] (rowV f (l.drop i)) ((i + 1) * k) (by rw [List.length_append, e1, hf, Nat.succ_mul]) (by rw [hc, e2])
  rw [rowV_ins]
  simpa using this
end
section
variable {w : World} {B : Nat} {e : TypeId} {k g n c : Nat} {xs : List Value}
theorem own_block (h : w.ownsRow B e k (.slice (some ⟨g, 0, none⟩) n c) n xs) : ∃ cur : Array Value, w.heap[g]? = some (.cells cur e (0, 0)) ∧ cur.size = c * k ∧ cur.toList.take (n * k) = xs := by
  obtain ⟨h1, h2⟩ := h
  rcases h2 with ⟨hv, _⟩ | ⟨g', cap, cur, hv, hB, hg, hn, hc, hs, ht⟩
  · cases hv
  · injection hv with e1 e2 e3
    injection e1 with e1
    injection e1 with e1
    subst e1 e3
    exact ⟨cur, hg, hs, ht⟩
/-- One element more of the room behind it. -/
theorem own_more (h : w.ownsRow B e k (.slice (some ⟨g, 0, none⟩) n c) n xs) (hr : n + 1 ≤ c) : ∃ ys, w.ownsRow B e k (.slice (some ⟨g, 0, none⟩) (n + 1) c) (n + 1) ys ∧ ys.length = (n + 1) * k ∧ ys.take (n * k) = xs := by
  obtain ⟨hB, _, _, hcm⟩ := own_lt h
  obtain ⟨cur, h1, h2, h3⟩ := own_block h
  have h4 : (n + 1) * k ≤ c * k := Nat.mul_le_mul_right k hr
  have h5 : n * k ≤ (n + 1) * k := Nat.mul_le_mul_right k (by omega)
  have hlen : (cur.toList.take ((n + 1) * k)).length = (n + 1) * k := by rw [List.length_take, Array.length_toList, h2, Nat.min_eq_left h4]
  refine ⟨cur.toList.take ((n + 1) * k), ⟨hlen, .inr ⟨g, c, cur, rfl, hB, h1, hr, hcm, h2, rfl⟩⟩, hlen, ?_⟩
  rw [List.take_take, Nat.min_eq_left h5, h3]
theorem own_some (h : w.ownsRow B e k (.slice (some ⟨g, 0, none⟩) n c) n xs) (j : Nat) (hj : j < c * k) : (w.cell? ⟨g, j, none⟩).isSome = true := by
  obtain ⟨cur, h1, h2, _⟩ := own_block h
  have : w.cell? ⟨g, j, none⟩ = cur[j]? := cell_of_row w g j cur _ (0, 0) h1
  rw [this, Array.getElem?_eq_getElem (by omega)]
  rfl
end
theorem frozen_of {W : World} {b : Nat} {c : Array Value} {t : TypeId} (h : W.heap[b]? = some (.cells c t (0, 0))) (j : Nat) : W.frozen? ⟨b, j, none⟩ = false := by
  unfold World.frozen?
  simp [h]
theorem shape_of {W : World} {b : Nat} {c : Array Value} {t : TypeId} (h : W.heap[b]? = some (.cells c t (0, 0))) : W.shape? b = some (t, c.size) := by
  unfold World.shape?
  simp [h]
/-- A row is copied: appended to a fresh empty one. -/
theorem wpList_append_copy {P : Program} {t e : TypeId} {size bytes : Nat} (E : ElemT P t e size bytes) {w0 : World} {ops : Array Oper} {rest : List Oper} {o : Oper} {a : Act} {Q : Exit → Act → World → Prop} (hgd : o.guard = none) (s x : Operand)
    (ho : o.op = .call { callee := .builtin .append, args := #[s, x], argTypes := #[t, t] }) (hs : a.eval s = .slice (some ⟨w0.heap.size, 0, none⟩) 0 0)
    (A : Option Addr) (m c : Nat) (ys : List Value) (hx : a.eval x = .slice A m c) (hr : Rdv w0 A m size ys) (h1 : ∀ u ∈ ys, u.oneCell' = true) (hnil : A = none → c = 0) (hmx : m ≤ maxLen) (hby : m * bytes ≤ 140737488355328)
    (h : ∀ b c' w1, w1.ownsRow w0.heap.size e size (.slice (some ⟨b, 0, none⟩) m c') m ys → w0.heap.size ≤ b → Below w0.heap.size w0 w1 → wpList P ops Q rest (a.put o.dst (.slice (some ⟨b, 0, none⟩) m c')) w1) : wpList P ops Q (o :: rest) a (w0.alloc (.cells #[] e)) := by
  have hr1 : Rdv (w0.alloc (.cells #[] e)) A m size ys := hr.ext fun q hq => ((Below.refl _ _).alloc (Nat.le_refl _) _).cell hq
  refine wpList_append_rowv E hgd s x ho w0.heap.size (.slice (some ⟨w0.heap.size, 0, none⟩) 0 0) 0 [] hs (own_empty w0 _ _ _ _ rfl (Nat.le_refl _)) A m c ys hx hr1 h1 hnil (by omega) (by rw [Nat.zero_add]; exact hby) (by simp) ?_
  intro v1 w1 hown hg hgb
  simp only [Nat.zero_add, List.nil_append] at hown
  have hbl : Below w0.heap.size w0 w1 := ((Below.refl _ _).alloc (Nat.le_refl _) (.cells #[] e)).trans (below_grown2 hg (Nat.le_refl _) (by simp))
  obtain ⟨b, c', rfl, hb⟩ : ∃ b c', v1 = .slice (some ⟨b, 0, none⟩) m c' ∧ w0.heap.size ≤ b := by
    rcases hown.2 with ⟨rfl, _⟩ | ⟨g, cap, cur, rfl, h2, _⟩
    · rcases hgb with e2 | e2
      · cases e2
      · cases e2
    · exact ⟨g, cap, rfl, h2⟩
  exact h b c' w1 hown hb hbl
end Go.Proofs.Ytejpjbmbcdgomaa
