/- What is written is read back, and what is read was written: instructions and programs. -/
import Derived.Test.YtkeckjgihjpfbaaDoorDec
import Derived.Test.YtkeckjgihjpfbaaDoorRfMath
namespace Go.Proofs.YtkeckjgihjpfbaaDoor
set_option maxRecDepth 100000
open Go.RowKit

/-- As stepL, the counts turned to numbers by cv. -/
def stepG (cv : Nat → Int) (s : Ins × List Nat × Bool) (l : Nat) : Ins × List Nat × Bool := (s.1.set (offL l) (if l = 110 then unfoldN (rcount s.2.1).1 else cv (rcount s.2.1).1), (rcount s.2.1).2.1, (rcount s.2.1).2.2)
def takeG (cv : Nat → Int) (bs : List Nat) (bad : Bool) : Ins × List Nat × Bool := (shapeL (byteT bs : Int)).foldl (stepG cv) (startI bs bad)
theorem takeG_wrap (bs : List Nat) (bad : Bool) : takeG wrapI bs bad = takeI bs bad := rfl
theorem get_set (x : Ins) (k : Nat) (v : Int) (hk : 1 ≤ k ∧ k ≤ 5) : (x.set k v).get k = v := by
  have : k = 1 ∨ k = 2 ∨ k = 3 ∨ k = 4 ∨ k = 5 := by omega
  rcases this with rfl | rfl | rfl | rfl | rfl <;> rfl
theorem get_set_ne (x : Ins) (k j : Nat) (v : Int) (hk : 1 ≤ k ∧ k ≤ 5) (hj : 1 ≤ j ∧ j ≤ 5) (h : j ≠ k) : (x.set k v).get j = x.get j := by
  have h1 : k = 1 ∨ k = 2 ∨ k = 3 ∨ k = 4 ∨ k = 5 := by omega
  have h2 : j = 1 ∨ j = 2 ∨ j = 3 ∨ j = 4 ∨ j = 5 := by omega
  rcases h1 with rfl | rfl | rfl | rfl | rfl <;> rcases h2 with rfl | rfl | rfl | rfl | rfl <;> first | rfl | exact absurd rfl h
theorem set_op (x : Ins) (k : Nat) (v : Int) : (x.set k v).op = x.op := by unfold Ins.set; split; rfl; split; rfl; split; rfl; split; rfl; rfl
/-- What each letter's bytes are read as. -/
theorem step_back {cv : Nat → Int} (hcv : ∀ n, n ≤ 100000 → cv n = (n : Int)) {x : Ins} (l : Nat) (hl : l ≠ 110 → 0 ≤ x.get (offL l) ∧ x.get (offL l) ≤ 100000) (hn : Fits x.n) (u : Ins) (rest : List Nat) (b : Bool) :
    stepG cv (u, encL x l ++ rest, b) l = (u.set (offL l) (x.get (offL l)), rest, false) := by
  unfold stepG encL
  by_cases h : l = 110
  · subst h
    rw [if_pos rfl, if_pos rfl, rcount_cntN _ (foldN_lt hn), unfold_fold hn]
    rfl
  · rw [if_neg h, if_neg h]
    have h1 := hl h
    rw [rcount_cntN _ (by omega)]
    show (u.set (offL l) (cv (x.get (offL l)).toNat), rest, false) = _
    rw [hcv _ (by omega), Int.toNat_of_nonneg h1.1]
theorem fold_back {cv : Nat → Int} (hcv : ∀ n, n ≤ 100000 → cv n = (n : Int)) {x : Ins} (hn : Fits x.n) : ∀ (ls : List Nat) (_ : ∀ l ∈ ls, l ≠ 110 → 0 ≤ x.get (offL l) ∧ x.get (offL l) ≤ 100000) (u : Ins) (rest : List Nat),
    ls.foldl (stepG cv) (u, encLs x ls ++ rest, false) = (ls.foldl (fun u l => u.set (offL l) (x.get (offL l))) u, rest, false)
  | [], _, _, _ => rfl
  | l :: ls, h, u, rest => by
    rw [List.foldl_cons, show encLs x (l :: ls) = encL x l ++ encLs x ls from rfl, List.append_assoc, step_back hcv l (h l (List.mem_cons_self ..)) hn]
    exact fold_back hcv hn ls (fun q hq => h q (List.mem_cons_of_mem _ hq)) _ rest
/-- Small: what a good instruction's fields are. -/
structure Ins.Small (x : Ins) : Prop where
  op : 0 ≤ x.op ∧ x.op < 16
  flds : ∀ l ∈ shapeL x.op, l ≠ 110 → 0 ≤ x.get (offL l) ∧ x.get (offL l) ≤ 100000
  used : usedL x (shapeL x.op) = x
  n : Fits x.n
theorem hiL_le' (l : Nat) (z : Int) (h : z ≤ 100000) : hiL l z ≤ 100000 := by
  unfold hiL
  split
  · decide
  split
  · decide
  split
  · exact h
  · decide
theorem small_of_good {x : Ins} {z : Int} (h : goodI x z = true) (hz : z ≤ 100000) (hn : Fits x.n) : x.Small := by
  unfold goodI at h
  simp only [Bool.and_eq_true, List.all_eq_true, decide_eq_true_iff] at h
  obtain ⟨h1, h2, h4⟩ := h
  refine ⟨of_decide_eq_true h1, fun l hl h110 => ?_, h4, hn⟩
  have h3 := h2 l hl
  unfold inB at h3
  rw [decide_eq_false h110, Bool.false_or, decide_eq_true_iff] at h3
  have := loL_ge l
  have := hiL_le' l z hz
  omega
theorem Ins.Small.enc {x : Ins} (h : x.Small) : x.Enc := ⟨h.op, fun l hl h1 => by have := h.flds l hl h1; omega, h.n⟩
theorem take_back {cv : Nat → Int} (hcv : ∀ n, n ≤ 100000 → cv n = (n : Int)) {x : Ins} (h : x.Small) (rest : List Nat) : takeG cv (encI x ++ rest) false = (x, rest, false) := by
  have hop := h.op
  have e1 : byteT (encI x ++ rest) = x.op.toNat := rfl
  have e2 : ((x.op.toNat : Nat) : Int) = x.op := Int.toNat_of_nonneg hop.1
  unfold takeG startI
  rw [e1, e2]
  have e3 : (encI x ++ rest).drop 1 = encLs x (shapeL x.op) ++ rest := rfl
  have e4 : (false || decide ((encI x ++ rest).length = 0)) = false := by simp [encI]
  rw [e3, e4, fold_back hcv h.n _ h.flds]
  rw [show (shapeL x.op).foldl (fun u l => u.set (offL l) (x.get (offL l))) { Ins.zero with op := x.op } = usedL x (shapeL x.op) from rfl, h.used]
def takeGN (cv : Nat → Int) : Nat → List Nat → Bool → List Ins × List Nat × Bool
  | 0, bs, bad => ([], bs, bad)
  | k + 1, bs, bad => ((takeGN cv k bs bad).1 ++ [(takeG cv (takeGN cv k bs bad).2.1 (takeGN cv k bs bad).2.2).1], (takeG cv (takeGN cv k bs bad).2.1 (takeGN cv k bs bad).2.2).2)
theorem takeGN_wrap (k : Nat) (bs : List Nat) (bad : Bool) : takeGN wrapI k bs bad = takeN k bs bad := by
  induction k with
  | zero => rfl
  | succ k ih => rw [takeGN, takeN, ih]; rfl
theorem takes_back {cv : Nat → Int} (hcv : ∀ n, n ≤ 100000 → cv n = (n : Int)) (l : List Ins) (h : ∀ x ∈ l, x.Small) (rest : List Nat) : ∀ k, k ≤ l.length → takeGN cv k (encIs l ++ rest) false = (l.take k, encIs (l.drop k) ++ rest, false)
  | 0, _ => by rw [takeGN, List.take_zero, List.drop_zero]
  | k + 1, hk => by
    rw [takeGN, takes_back hcv l h rest k (by omega)]
    have hkl : k < l.length := by omega
    have e : encIs (l.drop k) ++ rest = encI l[k] ++ (encIs (l.drop (k + 1)) ++ rest) := by
      rw [List.drop_eq_getElem_cons hkl, ← List.append_assoc]
      rfl
    simp only [e]
    rw [take_back hcv (h _ (List.getElem_mem hkl)), List.take_succ_eq_append_getElem hkl]
theorem good_small {f : Int} {l : List Ins} (h : chk f l = -2) (hn : ∀ x ∈ l, Fits x.n) : ∀ x ∈ l, x.Small := by
  obtain ⟨hh, hall⟩ := chk_good h
  intro x hx
  obtain ⟨k, hk, rfl⟩ := List.getElem_of_mem hx
  have h1 := hall k hk
  unfold goodAt at h1
  rw [List.getD_eq_getElem?_getD, List.getElem?_eq_getElem hk] at h1
  exact small_of_good h1 (by omega) (hn _ hx)
theorem wrapI_cv : ∀ n, n ≤ 100000 → wrapI n = (n : Int) := fun n h => wrapI_small n (by omega)
/-- A good program's bytes are read back. -/
theorem read_back {f : Int} {l : List Ins} (h : chk f l = -2) (hn : ∀ x ∈ l, Fits x.n) : readP (encP f.toNat l) = (f, l, [], false) := by
  obtain ⟨hh, _⟩ := chk_good h
  unfold readP encP
  rw [List.append_assoc, rcount_cntN _ (by omega)]
  simp only []
  rw [rcount_cntN _ (by omega)]
  simp only []
  rw [Nat.min_eq_left (by omega : l.length ≤ 33), ← takeGN_wrap]
  have := takes_back wrapI_cv l (good_small h hn) [] l.length (Nat.le_refl _)
  rw [List.append_nil, List.take_length, List.drop_length] at this
  rw [this, wrapI_cv _ (by omega), Int.toNat_of_nonneg (by omega)]
  rfl
theorem dec_back {f : Int} {l : List Ins} (h : chk f l = -2) (hn : ∀ x ∈ l, Fits x.n) : decOk (encP f.toNat l) = true := by
  unfold decOk
  rw [read_back h hn]
  simp [h]
end Go.Proofs.YtkeckjgihjpfbaaDoor
