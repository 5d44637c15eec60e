/- SBest, WRdr: put together. -/
import Derived.Test.YtejpjbmbcdgomaaPa31
import Derived.Test.YtejpjbmbcdgomaaPa42
/- Transactions put in any order, some twice: at each key the last one that writes there counts. -/
namespace Go.Proofs.Ytejpjbmbcdgomaa
set_option maxRecDepth 100000
open Go.RowKit

def wrAt (t k : Int) (ws : List Wr) : Option Wr := ws.find? fun x => decide (x.t = t ∧ x.k = k)
/-- The last of some transactions that writes at a key. -/
def lw (sc : Nat → List Wr) (S : Nat → Bool) (t k : Int) : Nat → Option (Nat × Wr)
  | 0 => none
  | n + 1 => if S n then (match wrAt t k (sc n) with | some x => some (n, x) | none => lw sc S t k n) else lw sc S t k n
variable {sc : Nat → List Wr} {S S' : Nat → Bool} {t k : Int}
theorem lw_congr : ∀ {n : Nat}, (∀ j, j < n → S j = S' j) → lw sc S t k n = lw sc S' t k n
  | 0, _ => rfl
  | n + 1, h => by
    unfold lw
    rw [h n (by omega), lw_congr (n := n) fun j hj => h j (by omega)]
theorem lw_lt : ∀ {n : Nat} {p : Nat × Wr}, lw sc S t k n = some p → p.1 < n
  | 0, p, h => by cases h
  | n + 1, p, h => by
    unfold lw at h
    split at h
    · split at h
      · cases h; exact Nat.lt_succ_self n
      · have := lw_lt h; omega
    · have := lw_lt h; omega
def addS (S : Nat → Bool) (i : Nat) : Nat → Bool := fun j => S j || decide (j = i)
theorem lw_low {i : Nat} : ∀ {n : Nat}, n ≤ i → lw sc (addS S i) t k n = lw sc S t k n := fun {n} h => lw_congr fun j hj => by
  unfold addS
  rw [decide_eq_false (by omega), Bool.or_false]
/-- What it is with one more. -/
def pick (sc : Nat → List Wr) (t k : Int) (i : Nat) (o : Option (Nat × Wr)) : Option (Nat × Wr) :=
  match o with
  | some p => if i ≤ p.1 then some p else (match wrAt t k (sc i) with | some x => some (i, x) | none => some p)
  | none => (match wrAt t k (sc i) with | some x => some (i, x) | none => none)
theorem lw_add {i : Nat} : ∀ {n : Nat}, i < n → lw sc (addS S i) t k n = pick sc t k i (lw sc S t k n)
  | 0, h => by omega
  | n + 1, h => by
    by_cases e : i = n
    · subst e
      have hl := lw_low (sc := sc) (S := S) (t := t) (k := k) (Nat.le_refl i)
      have hS : addS S i i = true := by simp [addS]
      have h1 : lw sc (addS S i) t k (i + 1) = (match wrAt t k (sc i) with | some x => some (i, x) | none => lw sc S t k i) := by
        rw [lw, if_pos hS, hl]
      rw [h1]
      have hlt := fun p => lw_lt (sc := sc) (S := S) (t := t) (k := k) (n := i) (p := p)
      cases hw : wrAt t k (sc i) with
      | some x =>
        simp only
        by_cases hSi : S i = true
        · rw [lw, if_pos hSi, hw]
          simp [pick]
        · rw [lw, if_neg hSi]
          cases ho : lw sc S t k i with
          | none => simp [pick, hw]
          | some p =>
            have := hlt p ho
            have h3 : ¬ i ≤ p.1 := by omega
            simp [pick, hw, h3]
      | none =>
        simp only
        have h2 : lw sc S t k (i + 1) = lw sc S t k i := by
          rw [lw, hw]
          simp
        rw [h2]
        cases ho : lw sc S t k i with
        | none => simp [pick, hw]
        | some p => simp [pick, hw]
    · have hS : addS S i n = S n := by
        unfold addS
        rw [decide_eq_false (by omega), Bool.or_false]
      have ih := lw_add (n := n) (i := i) (by omega)
      rw [lw, hS, ih, lw]
      by_cases hSn : S n = true
      · rw [if_pos hSn, if_pos hSn]
        cases hw : wrAt t k (sc n) with
        | some x =>
          have : i ≤ n := by omega
          simp [pick, this]
        | none => rfl
      · rw [if_neg hSn, if_neg hSn]
/-- A store that holds what some transactions of a script come to. -/
structure Best (sc : Nat → List Wr) (n : Nat) (S : Nat → Bool) (ts : Tb) : Prop where
  up : ∀ i, i < 4 → Up (ts i)
  at_ : ∀ t k, InT t → cellAt ts t k = (lw sc S t k n).map fun p => p.2.cl ((p.1 : Int) + 1)
theorem Best.start (sc : Nat → List Wr) (n : Nat) : Best sc n (fun _ => false) (fun _ => []) := ⟨fun _ _ => List.Pairwise.nil, fun t k ht => by
  have : lw sc (fun _ => false) t k n = none := by
    induction n with
    | zero => rfl
    | succ n ih => rw [lw, if_neg (by simp), ih]
  rw [this, cellAt_in ht]
  rfl⟩
theorem Best.step {n : Nat} {ts : Tb} (h : Best sc n S ts) {i : Nat} (hi : i < n) (hw : ∀ x ∈ sc i, InT x.t) : Best sc n (addS S i) (forceT ((i : Int) + 1) ts (sc i)) := by
  refine ⟨up_force _ h.up, fun t k ht => ?_⟩
  rw [force_at ht _ _ hw, lw_add hi]
  unfold gat
  rw [h.at_ t k ht]
  have e : (sc i).find? (fun x => decide (x.t = t ∧ x.k = k)) = wrAt t k (sc i) := rfl
  rw [e]
  cases ho : lw sc S t k n with
  | none =>
    cases hx : wrAt t k (sc i) with
    | none => simp [pick, hx, stay]
    | some x => simp [pick, hx, stay]
  | some p =>
    by_cases hp : i ≤ p.1
    · have : (i : Int) + 1 ≤ (p.1 : Int) + 1 := by omega
      simp [pick, stay, Wr.cl, hp]
    · have : ¬ ((i : Int) ≤ (p.1 : Int)) := by omega
      cases hx : wrAt t k (sc i) with
      | none => simp [pick, hx, stay, Wr.cl, hp]
      | some x => simp [pick, hx, stay, Wr.cl, hp]
theorem Best.same {n : Nat} {ts ts' : Tb} (h : Best sc n S ts) (h' : Best sc n S' ts') (hS : ∀ j, j < n → S j = S' j) : ∀ i, i < 4 → ts i = ts' i := fun i hi => by
  refine up_ext (h.up i hi) (h'.up i hi) fun k => ?_
  have hin : InT (i : Int) := ⟨by omega, by omega⟩
  have h1 := h.at_ i k hin
  have h2 := h'.at_ i k hin
  rw [cellAt_in hin] at h1 h2
  have e : ((i : Int)).toNat = i := by omega
  rw [e] at h1 h2
  rw [h1, h2, lw_congr hS]
/-- Turned round, all numbers come. -/
theorem turn_all {n c j : Nat} (hc : c < n) (hj : j < n) : ∃ i, i < n ∧ (i + c) % n = j := by
  by_cases h : c ≤ j
  · exact ⟨j - c, by omega, by rw [Nat.sub_add_cancel h, Nat.mod_eq_of_lt hj]⟩
  · exact ⟨j + n - c, by omega, by rw [Nat.sub_add_cancel (by omega), Nat.add_mod_right, Nat.mod_eq_of_lt hj]⟩
end Go.Proofs.Ytejpjbmbcdgomaa

/- A reader in memory, and the contracts of its functions. -/
namespace Go.Proofs.Ytejpjbmbcdgomaa
set_option maxRecDepth 100000
open Go.RowKit

/-- Nothing but what a pointer points at is changed, and what is new. -/
structure Only (w w' : World) (V : Value) : Prop where
  os : w'.os = w.os
  tape : w'.tape = w.tape
  output : w'.output = w.output
  size : w.heap.size ≤ w'.heap.size
  block : ∀ k, k < w.heap.size → V ≠ .pointer (some ⟨k, 0, none⟩) → w'.heap[k]? = w.heap[k]?
theorem Only.refl (w : World) (V : Value) : Only w w V := ⟨rfl, rfl, rfl, Nat.le_refl _, fun _ _ _ => rfl⟩
theorem Only.trans {w w1 w2 : World} {V : Value} (h : Only w w1 V) (k : Only w1 w2 V) : Only w w2 V :=
  ⟨k.os.trans h.os, k.tape.trans h.tape, k.output.trans h.output, Nat.le_trans h.size k.size, fun q hq hv => (k.block q (Nat.lt_of_lt_of_le hq h.size) hv).trans (h.block q hq hv)⟩
theorem Only.of_below {w w' : World} {V : Value} (h : Below w.heap.size w w') : Only w w' V := ⟨h.os, h.tape, h.output, h.size, fun k hk _ => h.block k hk⟩
theorem Only.set (w : World) (g o : Nat) (u : Value) : Only w (w.setCell ⟨g, o, none⟩ u) (.pointer (some ⟨g, 0, none⟩)) :=
  ⟨rfl, rfl, rfl, by rw [World.size_setCell]; exact Nat.le_refl _, fun k _ hv => Deep.blk_setCell_other w ⟨g, o, none⟩ u k (fun he => hv (by rw [he]))⟩
/-- A slice that lies somewhere above, but not in a block. -/
def Lies (w : World) (B : Nat → Prop) (g : Nat) (A : Option Addr) (n c : Nat) : Prop := (A = none ∧ n = 0 ∧ c = 0) ∨ ∃ b off, A = some ⟨b, off, none⟩ ∧ B b ∧ b ≠ g ∧ b < w.heap.size ∧ n ≤ c
/-- A reader of its own bytes; a nil one is bad. -/
inductive Rdr (w : World) (B : Nat → Prop) : Value → List Nat → Bool → Prop
  | none : Rdr w B (.pointer none) [] true
  | some (g : Nat) (A : Option Addr) (n c : Nat) (bs : List Nat) (bad : Bool) (low : B g) (block : w.heap[g]? = some (.cells #[.slice A n c, .bool bad] 171 (0, 0))) (row : Rdv w A n 1 (valsB bs)) (lies : Lies w B g A n c) (hbad : bad = true → bs = []) (small : ∀ x ∈ bs, x < 256) (len : n ≤ 140737488355328) : Rdr w B (.pointer (some ⟨g, 0, none⟩)) bs bad
theorem Rdr.small' {w : World} {B : Nat → Prop} {V : Value} {bs : List Nat} {bad : Bool} (h : Rdr w B V bs bad) : ∀ x ∈ bs, x < 256 := by
  cases h with
  | none => intro x hx; cases hx
  | some _ _ _ _ _ _ _ _ _ _ _ s => exact s
theorem Rdr.empty {w : World} {B : Nat → Prop} {V : Value} {bs : List Nat} (h : Rdr w B V bs true) : bs = [] := by
  cases h with
  | none => rfl
  | some _ _ _ _ _ _ _ _ _ _ hb => exact hb rfl
theorem Rdr.low' {w : World} {B : Nat → Prop} {V : Value} {bs : List Nat} {bad : Bool} (h : Rdr w B V bs bad) : ∀ k, V = .pointer (Option.some ⟨k, 0, Option.none⟩) → B k := by
  cases h with
  | none => intro k hk; cases hk
  | some _ _ _ _ _ _ low => intro k hk; injection hk with hk; injection hk with hk; injection hk with hk; rw [← hk]; exact low
theorem Rdr.only {w w' : World} {B : Nat → Prop} {V : Value} {bs : List Nat} {bad : Bool} (h : Rdr w B V bs bad) (k : Only w w' V) {M : Nat} (hM : ∀ j, B j → M ≤ j) (hB : M ≤ w.heap.size) : Below M w w' :=
  ⟨k.os, k.tape, k.output, k.size, fun q hq => k.block q (by omega) (fun he => by have := hM q (h.low' q he); omega)⟩
/-- A reader stands where its block and its row stand. -/
theorem Rdr.stays {w w' : World} {B : Nat → Prop} {V : Value} {bs : List Nat} {bad : Bool} (h : Rdr w B V bs bad) (hs : w.heap.size ≤ w'.heap.size) (hk : ∀ k, k < w.heap.size → B k → w'.heap[k]? = w.heap[k]?) : Rdr w' B V bs bad := by
  cases h with
  | none => exact .none
  | some g A n c bs bad low block row lies hbad small len =>
    refine .some g A n c bs bad low ((hk g (Array.getElem?_eq_some_iff.1 block).1 low).trans block) ?_ ?_ hbad small len
    · refine ⟨row.1, fun hn => ?_⟩
      obtain ⟨b, off, e, hc⟩ := row.2 hn
      rcases lies with ⟨_, h0, _⟩ | ⟨b', off', e', h1, h2, h3, h4⟩
      · omega
      · rw [e] at e'
        injection e' with e'
        injection e' with e1 e2 e3
        subst e1
        refine ⟨b, off, e, fun j u hj => ?_⟩
        rw [← hc j u hj]
        exact World.cell?_of_block (hk b h3 h1)
    · rcases lies with h0 | ⟨b, off, e, h1, h2, h3, h4⟩
      · exact .inl h0
      · exact .inr ⟨b, off, e, h1, h2, Nat.lt_of_lt_of_le h3 hs, h4⟩

set_option maxHeartbeats 400000 in
theorem isBad_any (B : Nat → Prop) (V : Value) (bs : List Nat) (bad : Bool) (w : World) (h : Rdr w B V bs bad) :
    Calls Try.prog 92 #[V] w fun e w' => e = .returned (.bool bad) ∧ w = w' := by
  cases h with
  | none =>
    go_enter Try.func92, Try.ntmps92
    go_wp2_with fail
    go_ret
    exact ⟨rfl, rfl⟩
  | some g A n c bs bad low block row lies hbad small len =>
    have c1 : w.cell? ⟨g, 1, none⟩ = some (.bool bad) := cell_of_row w g 1 _ 171 (0, 0) block
    clear low block row lies hbad small len
    go_enter Try.func92, Try.ntmps92
    go_wp2_with fail
    go_ret
    exact ⟨rfl, rfl⟩
set_option maxHeartbeats 400000 in
theorem spoil_any (B : Nat → Prop) (V : Value) (bs : List Nat) (bad : Bool) (w : World) (h : Rdr w B V bs bad) :
    Calls Try.prog 91 #[V] w fun e w' => e = .returned (.tuple #[]) ∧ Rdr w' B V [] true ∧ Only w w' V := by
  cases h with
  | none =>
    go_enter Try.func91, Try.ntmps91
    go_wp2_with fail
    exact bodyPost_end (v := .tuple #[]) (by simp [results, Try.results91, go_sem]) rfl ⟨rfl, .none, Only.refl _ _⟩
  | some g A n c bs bad low block row lies hbad small len =>
    have c1 : w.cell? ⟨g, 1, none⟩ = some (.bool bad) := cell_of_row w g 1 _ 171 (0, 0) block
    have c0 : w.cell? ⟨g, 0, none⟩ = some (.slice A n c) := cell_of_row w g 0 _ 171 (0, 0) block
    have f1 : ∀ o, w.frozen? ⟨g, o, none⟩ = false := fun o => by simp [World.frozen?, block]
    have f10 := f1 0
    have f11 := f1 1
    have HB := Lib.hid block
    clear block row lies hbad small len f1
    go_enter Try.func91, Try.ntmps91
    go_wp2_with fail
    refine bodyPost_end (v := .tuple #[]) (by simp [results, Try.results91, go_sem]) rfl ⟨rfl, ?_, (Only.set _ _ _ _).trans (Only.set _ _ _ _)⟩
    have hb := HB.out
    refine .some g none 0 0 [] true low ?_ ⟨rfl, fun h => absurd h (by omega)⟩ (.inl ⟨rfl, rfl, rfl⟩) (fun _ => rfl) (fun x hx => by cases hx) (by omega)
    simp [World.setCell, Array.getElem?_modify, hb]
end Go.Proofs.Ytejpjbmbcdgomaa
