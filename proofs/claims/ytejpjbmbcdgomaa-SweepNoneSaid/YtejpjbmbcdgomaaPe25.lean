/- SAlive, SBest, WRdr, WTake: put together. -/
import Derived.Test.YtejpjbmbcdgomaaPe24
import Derived.Test.YtejpjbmbcdgomaaPe02
import Derived.Test.YtejpjbmbcdgomaaPe22
/- The fixed fact of layer 9. -/
namespace Go.Proofs.Ytejpjbmbcdgomaa
set_option maxRecDepth 100000
open Go.RowKit

theorem mem_ins {x y : Ix} {l : List Ix} (h : y ∈ ins x l) : y = x ∨ y ∈ l := by
  unfold ins at h
  rcases List.mem_append.1 h with e | e
  · exact .inr (List.mem_filter.1 e).1
  · rcases List.mem_cons.1 e with e | e
    · exact .inl e
    · exact .inr (List.mem_filter.1 e).1
theorem NumT.put {q : Int} {ts : Tb} {x : Wr} (h : NumT ts) (hx : WrOk x) (h0 : 0 ≤ q) (h1 : q ≤ 9223372036854775807) : NumT (putW q ts x) := fun i hi y hy => by
  unfold putW at hy
  split at hy
  · exact h i hi y hy
  · unfold Tb.upd at hy
    split at hy
    · rename_i e
      rcases mem_ins hy with rfl | hy
      · refine ⟨hx.1, ?_, h0, h1⟩
        show Fits (if x.dead then 0 else x.v)
        split
        · exact ⟨by decide, by decide⟩
        · exact hx.2
      · subst e
        exact h _ hi y hy
    · exact h i hi y hy
theorem NumT.force {q : Int} : ∀ (ws : List Wr) {ts : Tb}, NumT ts → (∀ x ∈ ws, WrOk x) → 0 ≤ q → q ≤ 9223372036854775807 → NumT (forceT q ts ws)
  | [], _, h, _, _, _ => h
  | x :: ws, _, h, hw, h0, h1 => NumT.force ws (h.put (hw x (by simp)) h0 h1) (fun y hy => hw y (by simp [hy])) h0 h1
theorem NumT.none : NumT fun _ => [] := fun _ _ _ h => by cases h
def tsA : Tb := forceT 2 (fun _ => []) [⟨2, 1, 5, false⟩]
def tsB : Tb := forceT 1 tsA [⟨2, 1, 7, false⟩]
theorem factA : apN 2 (fun _ => []) [⟨2, 1, 5, false⟩] = 0 := by kernel_rfl
theorem factB : apN 1 tsA [⟨2, 1, 7, false⟩] = 0 := by kernel_rfl
theorem factC : gok (cellAt tsB 2 1) = true := by kernel_rfl
theorem factD : gv (cellAt tsB 2 1) = 5 := by kernel_rfl
theorem factE : liveT tsB = 1 := by kernel_rfl
theorem factF : (putB tsB).length = 6 := by kernel_rfl
theorem okA : WrOk ⟨2, 1, 5, false⟩ := ⟨⟨by decide, by decide⟩, by decide, by decide⟩
theorem okB : WrOk ⟨2, 1, 7, false⟩ := ⟨⟨by decide, by decide⟩, by decide, by decide⟩
theorem numB : NumT tsB := NumT.force _ (NumT.force _ NumT.none (fun x hx => by rw [List.mem_singleton.1 hx]; exact okA) (by decide) (by decide)) (fun x hx => by rw [List.mem_singleton.1 hx]; exact okB) (by decide) (by decide)
theorem lenA : ∀ i, i < 4 → (tsA i).length ≤ 50000 := fun i hi => Nat.le_trans (force_le (n := 0) [⟨2, 1, 5, false⟩] (fun _ _ => Nat.le_refl _) i hi) (by decide)
theorem lenB : ∀ i, i < 4 → (tsB i).length ≤ 50000 := fun i hi => Nat.le_trans (force_le (n := 1) [⟨2, 1, 7, false⟩] (fun i hi => Nat.le_trans (force_le (n := 0) [⟨2, 1, 5, false⟩] (fun _ _ => Nat.le_refl _) i hi) (by decide)) i hi) (by decide)
theorem numWA : NumW [⟨2, 1, 5, false⟩] := fun x hx => by rw [List.mem_singleton.1 hx]; exact okA.1
theorem numWB : NumW [⟨2, 1, 7, false⟩] := fun x hx => by rw [List.mem_singleton.1 hx]; exact okB.1
set_option maxHeartbeats 4000000 in
theorem alive_any (w : World) : Calls Try.prog 10 #[] w fun e w' => e = .returned (.bool true) ∧ Below w.heap.size w w' := by
  have HN := Lib.hid (snew_any w)
  go_enter Try.func10, Try.ntmps10
  go_wp2_with fail
  refine Calls.mono HN.out ?_
  rintro e w1 ⟨rfl, ⟨G, hM, hG⟩, hb1⟩
  obtain ⟨sb, hsb⟩ : ∃ sb, sb = w.heap.size := ⟨_, rfl⟩
  rw [← hsb] at hM
  have HSB := Lib.hid hsb
  obtain ⟨W3, hW3⟩ : ∃ W3, W3 = (w1.alloc (.cells #[.int .i64 2, .int .i64 1] 42)).alloc (.cells #[.int .i64 2, .int .i64 1, .int .i64 5, .bool false] 51) := ⟨_, rfl⟩
  have hb3 : Below w1.heap.size w1 W3 := by rw [hW3]; exact ((Below.refl _ _).alloc (Nat.le_refl _) _).alloc (by simp) _
  have hs3 : W3.heap.size = w1.heap.size + 2 := by rw [hW3]; simp
  have hk3 : W3.heap[w1.heap.size]? = some (.cells #[.int .i64 2, .int .i64 1] 42 (0, 0)) := by
    rw [hW3, ((Below.refl _ (w1.alloc (.cells #[.int .i64 2, .int .i64 1] 42))).alloc (Nat.le_refl _) _).block _ (by simp)]
    exact heap_alloc_new w1 _
  have hx3 : W3.heap[w1.heap.size + 1]? = some (.cells #[.int .i64 2, .int .i64 1, .int .i64 5, .bool false] 51 (0, 0)) := by
    have := heap_alloc_new (w1.alloc (.cells #[.int .i64 2, .int .i64 1] 42)) (.cells #[.int .i64 2, .int .i64 1, .int .i64 5, .bool false] 51)
    have e : (w1.alloc (.cells #[.int .i64 2, .int .i64 1] 42)).heap.size = w1.heap.size + 1 := by simp
    rw [e, ← hW3] at this
    exact this
  obtain ⟨s1, hs1⟩ : ∃ s1, s1 = w1.heap.size := ⟨_, rfl⟩
  rw [← hs1] at hk3 hx3 hs3
  have HA := Lib.hid (apply_any (c := 1) 2 (hM.below hb3) (wrs_one (x := ⟨2, 1, 5, false⟩) hx3) numWA (by decide) (fun _ _ => by decide))
  rw [factA, show errV 0 = .nilIface from rfl] at HA
  have HG := Lib.hid (And.intro hG (And.intro hb1 (And.intro hb3 (And.intro hk3 (And.intro hs3 hs1)))))
  have HW3 := Lib.hid hW3
  have HM := Lib.hid hM
  clear hM hG hb1 hW3 hb3 hs3 hk3 hx3
  rw [← hsb]
  clear hsb
  go_wp2_with fail
  rw [← HW3.out, ← HG.out.2.2.2.2.2]
  refine Calls.mono HA.out ?_
  rintro e w4 ⟨rfl, G1, ts1, last1, hM1, hC1, ⟨⟨_, rfl, rfl⟩ | ⟨h0, _⟩⟩⟩
  rotate_left
  · exact absurd rfl h0
  change SM w4 G1 sb tsA (liveT tsA : Int) 2 at hM1
  have hnG : ¬ G s1 := fun e => by have := HM.out.lt e; have := HG.out.2.2.2.2.2; omega
  have hk4 : w4.heap[s1]? = some (.cells #[.int .i64 2, .int .i64 1] 42 (0, 0)) := (hC1.ch.block _ (Array.getElem?_eq_some_iff.1 HG.out.2.2.2.1).1 hnG).trans HG.out.2.2.2.1
  have hnG1 : ¬ G1 s1 := fun e => by
    rcases hC1.fr _ e with e | e
    · exact hnG e
    · have := HG.out.2.2.2.2.1; omega
  have hb4 := ((Cg.of_below HG.out.2.2.1 G).trans hC1).low HG.out.2.1.size HG.out.1
  have HB4 : Hid (Below w.heap.size w w4 ∧ ∀ q, G1 q → w.heap.size ≤ q) := Lib.hid ⟨HG.out.2.1.trans hb4.1, hb4.2⟩
  have c0 : w4.cell? ⟨s1, 0, none⟩ = some (.int .i64 2) := by rw [cell_of_row _ _ 0 _ _ _ hk4]; rfl
  have c1 : w4.cell? ⟨s1, 1, none⟩ = some (.int .i64 1) := by rw [cell_of_row _ _ 1 _ _ _ hk4]; rfl
  have hb45 : Below w4.heap.size w4 (w4.alloc (.cells #[.int .i64 2, .int .i64 1, .int .i64 7, .bool false] 51)) := (Below.refl _ _).alloc (Nat.le_refl _) _
  have HA2 := Lib.hid (apply_any (c := 1) 1 (hM1.below hb45) (wrs_one (x := ⟨2, 1, 7, false⟩) (heap_alloc_new w4 _)) numWB (by decide) lenA)
  rw [factB, show errV 0 = .nilIface from rfl] at HA2
  rw [HG.out.2.2.2.2.2] at c0 c1
  have H4 := Lib.hid (And.intro hM1 (And.intro hk4 (And.intro hnG1 hb45)))
  clear hM1 hC1 hnG hk4 hnG1 hb4 hb45
  go_wp2_with fail
  refine Calls.mono HA2.out ?_
  rintro e w6 ⟨rfl, G2, ts2, last2, hM2, hC2, ⟨⟨_, rfl, rfl⟩ | ⟨h0, _⟩⟩⟩
  rotate_left
  · exact absurd rfl h0
  change SM w6 G2 sb tsB (liveT tsB : Int) 2 at hM2
  have hk5 := (H4.out.2.2.2.block _ (Array.getElem?_eq_some_iff.1 H4.out.2.1).1).trans H4.out.2.1
  have hk6 := (hC2.ch.block _ (Array.getElem?_eq_some_iff.1 hk5).1 H4.out.2.2.1).trans hk5
  have hb6 := ((Cg.of_below H4.out.2.2.2 G1).trans hC2).low HB4.out.1.size HB4.out.2
  have HB6 : Hid (Below w.heap.size w w6) := Lib.hid (HB4.out.1.trans hb6.1)
  clear c0 c1
  have c0 : w6.cell? ⟨s1, 0, none⟩ = some (.int .i64 2) := by rw [cell_of_row _ _ 0 _ _ _ hk6]; rfl
  have c1 : w6.cell? ⟨s1, 1, none⟩ = some (.int .i64 1) := by rw [cell_of_row _ _ 1 _ _ _ hk6]; rfl
  rw [HG.out.2.2.2.2.2] at c0 c1
  have HGT := Lib.hid (sget_any hM2 2 1)
  rw [factC, factD] at HGT
  have HM2 := Lib.hid hM2
  clear hM2 hk5 hk6 hb6 hC2
  go_wp2_with fail
  refine Calls.mono HGT.out ?_
  rintro e w7 ⟨rfl, hb7⟩
  have hM7 := HM2.out.below hb7
  have HL := Lib.hid (slive_any hM7)
  have HLA := Lib.hid (slast_any hM7)
  have HP := Lib.hid (sput_any hM7 (fun i hi => Nat.le_trans (lenB i hi) (by decide)) numB)
  rw [factE] at HL
  rw [factF] at HP
  have HB7 := Lib.hid (HB6.out.trans (hb7.mono HB6.out.size))
  clear hM7 hb7 c0 c1
  go_wp2_with fail
  refine Calls.mono HL.out ?_
  rintro e w8 ⟨rfl, rfl⟩
  go_wp2_with fail
  refine Calls.mono HLA.out ?_
  rintro e w8 ⟨rfl, rfl⟩
  go_wp2_with fail
  refine Calls.mono HP.out ?_
  rintro e w8 ⟨A, c, rfl, _, _, hb8⟩
  have HB8 := Lib.hid (HB7.out.trans (hb8.mono HB7.out.size))
  clear hb8
  go_wp2_with fail
  go_ret
  exact ⟨rfl, HB8.out⟩
end Go.Proofs.Ytejpjbmbcdgomaa

/- Transactions put in any order, some twice: at each key the last one that writes there counts. -/
namespace Go.Proofs.Ytejpjbmbcdgomaa
set_option maxRecDepth 100000
open Go.RowKit

def wrAt (t k : Int) (ws : List Wr) : Option Wr := ws.find? fun x => decide (x.t = t ∧ x.k = k)
/-- The last of some transactions that writes at a key. -/
def lw (sc : Nat → List Wr) (S : Nat → Bool) (t k : Int) : Nat → Option (Nat × Wr)
  | 0 => none
  | n + 1 => if S n then (match wrAt t k (sc n) with | some x => some (n, x) | none => lw sc S t k n) else lw sc S t k n
variable {sc : Nat → List Wr} {S S' : Nat → Bool} {t k : Int}
theorem lw_congr : ∀ {n : Nat}, (∀ j, j < n → S j = S' j) → lw sc S t k n = lw sc S' t k n
  | 0, _ => rfl
  | n + 1, h => by
    unfold lw
    rw [h n (by omega), lw_congr (n := n) fun j hj => h j (by omega)]
theorem lw_lt : ∀ {n : Nat} {p : Nat × Wr}, lw sc S t k n = some p → p.1 < n
  | 0, p, h => by cases h
  | n + 1, p, h => by
    unfold lw at h
    split at h
    · split at h
      · cases h; exact Nat.lt_succ_self n
      · have := lw_lt h; omega
    · have := lw_lt h; omega
def addS (S : Nat → Bool) (i : Nat) : Nat → Bool := fun j => S j || decide (j = i)
theorem lw_low {i : Nat} : ∀ {n : Nat}, n ≤ i → lw sc (addS S i) t k n = lw sc S t k n := fun {n} h => lw_congr fun j hj => by
  unfold addS
  rw [decide_eq_false (by omega), Bool.or_false]
/-- What it is with one more. -/
def pick (sc : Nat → List Wr) (t k : Int) (i : Nat) (o : Option (Nat × Wr)) : Option (Nat × Wr) :=
  match o with
  | some p => if i ≤ p.1 then some p else (match wrAt t k (sc i) with | some x => some (i, x) | none => some p)
  | none => (match wrAt t k (sc i) with | some x => some (i, x) | none => none)
theorem lw_add {i : Nat} : ∀ {n : Nat}, i < n → lw sc (addS S i) t k n = pick sc t k i (lw sc S t k n)
  | 0, h => by omega
  | n + 1, h => by
    by_cases e : i = n
    · subst e
      have hl := lw_low (sc := sc) (S := S) (t := t) (k := k) (Nat.le_refl i)
      have hS : addS S i i = true := by simp [addS]
      have h1 : lw sc (addS S i) t k (i + 1) = (match wrAt t k (sc i) with | some x => some (i, x) | none => lw sc S t k i) := by
        rw [lw, if_pos hS, hl]
      rw [h1]
      have hlt := fun p => lw_lt (sc := sc) (S := S) (t := t) (k := k) (n := i) (p := p)
      cases hw : wrAt t k (sc i) with
      | some x =>
        simp only
        by_cases hSi : S i = true
        · rw [lw, if_pos hSi, hw]
          simp [pick]
        · rw [lw, if_neg hSi]
          cases ho : lw sc S t k i with
          | none => simp [pick, hw]
          | some p =>
            have := hlt p ho
            have h3 : ¬ i ≤ p.1 := by omega
            simp [pick, hw, h3]
      | none =>
        simp only
        have h2 : lw sc S t k (i + 1) = lw sc S t k i := by
          rw [lw, hw]
          simp
        rw [h2]
        cases ho : lw sc S t k i with
        | none => simp [pick, hw]
        | some p => simp [pick, hw]
    · have hS : addS S i n = S n := by
        unfold addS
        rw [decide_eq_false (by omega), Bool.or_false]
      have ih := lw_add (n := n) (i := i) (by omega)
      rw [lw, hS, ih, lw]
      by_cases hSn : S n = true
      · rw [if_pos hSn, if_pos hSn]
        cases hw : wrAt t k (sc n) with
        | some x =>
          have : i ≤ n := by omega
          simp [pick, this]
        | none => rfl
      · rw [if_neg hSn, if_neg hSn]
/-- A store that holds what some transactions of a script come to. -/
structure Best (sc : Nat → List Wr) (n : Nat) (S : Nat → Bool) (ts : Tb) : Prop where
  up : ∀ i, i < 4 → Up (ts i)
  at_ : ∀ t k, InT t → cellAt ts t k = (lw sc S t k n).map fun p => p.2.cl ((p.1 : Int) + 1)
theorem Best.start (sc : Nat → List Wr) (n : Nat) : Best sc n (fun _ => false) (fun _ => []) := ⟨fun _ _ => List.Pairwise.nil, fun t k ht => by
  have : lw sc (fun _ => false) t k n = none := by
    induction n with
    | zero => rfl
    | succ n ih => rw [lw, if_neg (by simp), ih]
  rw [this, cellAt_in ht]
  rfl⟩
theorem Best.step {n : Nat} {ts : Tb} (h : Best sc n S ts) {i : Nat} (hi : i < n) (hw : ∀ x ∈ sc i, InT x.t) : Best sc n (addS S i) (forceT ((i : Int) + 1) ts (sc i)) := by
  refine ⟨up_force _ h.up, fun t k ht => ?_⟩
  rw [force_at ht _ _ hw, lw_add hi]
  unfold gat
  rw [h.at_ t k ht]
  have e : (sc i).find? (fun x => decide (x.t = t ∧ x.k = k)) = wrAt t k (sc i) := rfl
  rw [e]
  cases ho : lw sc S t k n with
  | none =>
    cases hx : wrAt t k (sc i) with
    | none => simp [pick, hx, stay]
    | some x => simp [pick, hx, stay]
  | some p =>
    by_cases hp : i ≤ p.1
    · have : (i : Int) + 1 ≤ (p.1 : Int) + 1 := by omega
      simp [pick, stay, Wr.cl, hp]
    · have : ¬ ((i : Int) ≤ (p.1 : Int)) := by omega
      cases hx : wrAt t k (sc i) with
      | none => simp [pick, hx, stay, Wr.cl, hp]
      | some x => simp [pick, hx, stay, Wr.cl, hp]
theorem Best.same {n : Nat} {ts ts' : Tb} (h : Best sc n S ts) (h' : Best sc n S' ts') (hS : ∀ j, j < n → S j = S' j) : ∀ i, i < 4 → ts i = ts' i := fun i hi => by
  refine up_ext (h.up i hi) (h'.up i hi) fun k => ?_
  have hin : InT (i : Int) := ⟨by omega, by omega⟩
  have h1 := h.at_ i k hin
  have h2 := h'.at_ i k hin
  rw [cellAt_in hin] at h1 h2
  have e : ((i : Int)).toNat = i := by omega
  rw [e] at h1 h2
  rw [h1, h2, lw_congr hS]
/-- Turned round, all numbers come. -/
theorem turn_all {n c j : Nat} (hc : c < n) (hj : j < n) : ∃ i, i < n ∧ (i + c) % n = j := by
  by_cases h : c ≤ j
  · exact ⟨j - c, by omega, by rw [Nat.sub_add_cancel h, Nat.mod_eq_of_lt hj]⟩
  · exact ⟨j + n - c, by omega, by rw [Nat.sub_add_cancel (by omega), Nat.add_mod_right, Nat.mod_eq_of_lt hj]⟩
end Go.Proofs.Ytejpjbmbcdgomaa

/- A reader in memory, and the contracts of its functions. -/
namespace Go.Proofs.Ytejpjbmbcdgomaa
set_option maxRecDepth 100000
open Go.RowKit

/-- Nothing but what a pointer points at is changed, and what is new. -/
structure Only (w w' : World) (V : Value) : Prop where
  os : w'.os = w.os
  tape : w'.tape = w.tape
  output : w'.output = w.output
  size : w.heap.size ≤ w'.heap.size
  block : ∀ k, k < w.heap.size → V ≠ .pointer (some ⟨k, 0, none⟩) → w'.heap[k]? = w.heap[k]?
theorem Only.refl (w : World) (V : Value) : Only w w V := ⟨rfl, rfl, rfl, Nat.le_refl _, fun _ _ _ => rfl⟩
theorem Only.trans {w w1 w2 : World} {V : Value} (h : Only w w1 V) (k : Only w1 w2 V) : Only w w2 V :=
  ⟨k.os.trans h.os, k.tape.trans h.tape, k.output.trans h.output, Nat.le_trans h.size k.size, fun q hq hv => (k.block q (Nat.lt_of_lt_of_le hq h.size) hv).trans (h.block q hq hv)⟩
theorem Only.of_below {w w' : World} {V : Value} (h : Below w.heap.size w w') : Only w w' V := ⟨h.os, h.tape, h.output, h.size, fun k hk _ => h.block k hk⟩
theorem Only.set (w : World) (g o : Nat) (u : Value) : Only w (w.setCell ⟨g, o, none⟩ u) (.pointer (some ⟨g, 0, none⟩)) :=
  ⟨rfl, rfl, rfl, by rw [World.size_setCell]; exact Nat.le_refl _, fun k _ hv => Deep.blk_setCell_other w ⟨g, o, none⟩ u k (fun he => hv (by rw [he]))⟩
/-- A slice that lies somewhere above, but not in a block. -/
def Lies (w : World) (B : Nat → Prop) (g : Nat) (A : Option Addr) (n c : Nat) : Prop := (A = none ∧ n = 0 ∧ c = 0) ∨ ∃ b off, A = some ⟨b, off, none⟩ ∧ B b ∧ b ≠ g ∧ b < w.heap.size ∧ n ≤ c
/-- A reader of its own bytes; a nil one is bad. -/
inductive Rdr (w : World) (B : Nat → Prop) : Value → List Nat → Bool → Prop
  | none : Rdr w B (.pointer none) [] true
  | some (g : Nat) (A : Option Addr) (n c : Nat) (bs : List Nat) (bad : Bool) (low : B g) (block : w.heap[g]? = some (.cells #[.slice A n c, .bool bad] 171 (0, 0))) (row : Rdv w A n 1 (valsB bs)) (lies : Lies w B g A n c) (hbad : bad = true → bs = []) (small : ∀ x ∈ bs, x < 256) (len : n ≤ 140737488355328) : Rdr w B (.pointer (some ⟨g, 0, none⟩)) bs bad
theorem Rdr.small' {w : World} {B : Nat → Prop} {V : Value} {bs : List Nat} {bad : Bool} (h : Rdr w B V bs bad) : ∀ x ∈ bs, x < 256 := by
  cases h with
  | none => intro x hx; cases hx
  | some _ _ _ _ _ _ _ _ _ _ _ s => exact s
theorem Rdr.empty {w : World} {B : Nat → Prop} {V : Value} {bs : List Nat} (h : Rdr w B V bs true) : bs = [] := by
  cases h with
  | none => rfl
  | some _ _ _ _ _ _ _ _ _ _ hb => exact hb rfl
theorem Rdr.low' {w : World} {B : Nat → Prop} {V : Value} {bs : List Nat} {bad : Bool} (h : Rdr w B V bs bad) : ∀ k, V = .pointer (Option.some ⟨k, 0, Option.none⟩) → B k := by
  cases h with
  | none => intro k hk; cases hk
  | some _ _ _ _ _ _ low => intro k hk; injection hk with hk; injection hk with hk; injection hk with hk; rw [← hk]; exact low
theorem Rdr.only {w w' : World} {B : Nat → Prop} {V : Value} {bs : List Nat} {bad : Bool} (h : Rdr w B V bs bad) (k : Only w w' V) {M : Nat} (hM : ∀ j, B j → M ≤ j) (hB : M ≤ w.heap.size) : Below M w w' :=
  ⟨k.os, k.tape, k.output, k.size, fun q hq => k.block q (by omega) (fun he => by have := hM q (h.low' q he); omega)⟩
/-- A reader stands where its block and its row stand. -/
theorem Rdr.stays {w w' : World} {B : Nat → Prop} {V : Value} {bs : List Nat} {bad : Bool} (h : Rdr w B V bs bad) (hs : w.heap.size ≤ w'.heap.size) (hk : ∀ k, k < w.heap.size → B k → w'.heap[k]? = w.heap[k]?) : Rdr w' B V bs bad := by
  cases h with
  | none => exact .none
  | some g A n c bs bad low block row lies hbad small len =>
    refine .some g A n c bs bad low ((hk g (Array.getElem?_eq_some_iff.1 block).1 low).trans block) ?_ ?_ hbad small len
    · refine ⟨row.1, fun hn => ?_⟩
      obtain ⟨b, off, e, hc⟩ := row.2 hn
      rcases lies with ⟨_, h0, _⟩ | ⟨b', off', e', h1, h2, h3, h4⟩
      · omega
      · rw [e] at e'
        injection e' with e'
        injection e' with e1 e2 e3
        subst e1
        refine ⟨b, off, e, fun j u hj => ?_⟩
        rw [← hc j u hj]
        exact World.cell?_of_block (hk b h3 h1)
    · rcases lies with h0 | ⟨b, off, e, h1, h2, h3, h4⟩
      · exact .inl h0
      · exact .inr ⟨b, off, e, h1, h2, Nat.lt_of_lt_of_le h3 hs, h4⟩

set_option maxHeartbeats 400000 in
theorem isBad_any (B : Nat → Prop) (V : Value) (bs : List Nat) (bad : Bool) (w : World) (h : Rdr w B V bs bad) :
    Calls Try.prog 92 #[V] w fun e w' => e = .returned (.bool bad) ∧ w = w' := by
  cases h with
  | none =>
    go_enter Try.func92, Try.ntmps92
    go_wp2_with fail
    go_ret
    exact ⟨rfl, rfl⟩
  | some g A n c bs bad low block row lies hbad small len =>
    have c1 : w.cell? ⟨g, 1, none⟩ = some (.bool bad) := cell_of_row w g 1 _ 171 (0, 0) block
    clear low block row lies hbad small len
    go_enter Try.func92, Try.ntmps92
    go_wp2_with fail
    go_ret
    exact ⟨rfl, rfl⟩
set_option maxHeartbeats 400000 in
theorem spoil_any (B : Nat → Prop) (V : Value) (bs : List Nat) (bad : Bool) (w : World) (h : Rdr w B V bs bad) :
    Calls Try.prog 91 #[V] w fun e w' => e = .returned (.tuple #[]) ∧ Rdr w' B V [] true ∧ Only w w' V := by
  cases h with
  | none =>
    go_enter Try.func91, Try.ntmps91
    go_wp2_with fail
    exact bodyPost_end (v := .tuple #[]) (by simp [results, Try.results91, go_sem]) rfl ⟨rfl, .none, Only.refl _ _⟩
  | some g A n c bs bad low block row lies hbad small len =>
    have c1 : w.cell? ⟨g, 1, none⟩ = some (.bool bad) := cell_of_row w g 1 _ 171 (0, 0) block
    have c0 : w.cell? ⟨g, 0, none⟩ = some (.slice A n c) := cell_of_row w g 0 _ 171 (0, 0) block
    have f1 : ∀ o, w.frozen? ⟨g, o, none⟩ = false := fun o => by simp [World.frozen?, block]
    have f10 := f1 0
    have f11 := f1 1
    have HB := Lib.hid block
    clear block row lies hbad small len f1
    go_enter Try.func91, Try.ntmps91
    go_wp2_with fail
    refine bodyPost_end (v := .tuple #[]) (by simp [results, Try.results91, go_sem]) rfl ⟨rfl, ?_, (Only.set _ _ _ _).trans (Only.set _ _ _ _)⟩
    have hb := HB.out
    refine .some g none 0 0 [] true low ?_ ⟨rfl, fun h => absurd h (by omega)⟩ (.inl ⟨rfl, rfl, rfl⟩) (fun _ => rfl) (fun x hx => by cases hx) (by omega)
    simp [World.setCell, Array.getElem?_modify, hb]
end Go.Proofs.Ytejpjbmbcdgomaa

/- The contracts of a reader's take and Byte. -/
namespace Go.Proofs.Ytejpjbmbcdgomaa
set_option maxRecDepth 100000
open Go.RowKit

/-- What take leaves, and answers. -/
def failT (bs : List Nat) (bad : Bool) (m : Nat) : Bool := bad || decide (bs.length < m)
def outT (bs : List Nat) (bad : Bool) (m : Nat) : List Nat := if failT bs bad m then [] else bs.take m
def restT (bs : List Nat) (bad : Bool) (m : Nat) : List Nat := if failT bs bad m then [] else bs.drop m
theorem ret_slice {A A' : Option Addr} {n n' c c' : Nat} (h : A = A') (h1 : n = n') (h2 : c = c') : Ending.returned (.slice A n c) = .returned (.slice A' n' c') := by rw [h, h1, h2]
theorem valsB_get (xs : List Nat) (j : Nat) : (valsB xs)[j]? = (xs[j]?).map fun (x : Nat) => Value.int .u8 (x : Int) := by simp [valsB]
/-- What a take leaves. -/
theorem take_end {w : World} {B : Nat → Prop} {g b off n c m : Nat} {bs : List Nat} (low : B g) (block : w.heap[g]? = some (.cells #[.slice (some ⟨b, off, none⟩) n c, .bool false] 171 (0, 0))) (row : Rdv w (some ⟨b, off, none⟩) n 1 (valsB bs)) (small : ∀ x ∈ bs, x < 256) (len : n ≤ 140737488355328) (h1 : B b) (h2 : b ≠ g) (h3 : b < w.heap.size) (hmn : m ≤ n) (off' c' : Nat) (ho : off' = off + m ∨ n = m) (hc : n - m ≤ c') :
    Rdv (w.setCell ⟨g, 0, none⟩ (.slice (some ⟨b, off', none⟩) (n - m) c')) (some ⟨b, off, none⟩) m 1 (valsB (bs.take m)) ∧ Rdr (w.setCell ⟨g, 0, none⟩ (.slice (some ⟨b, off', none⟩) (n - m) c')) B (.pointer (some ⟨g, 0, none⟩)) (bs.drop m) false := by
  have hl : bs.length = n := by have := row.1; rw [valsB_length] at this; omega
  have hcell : ∀ o, (w.setCell ⟨g, 0, none⟩ (.slice (some ⟨b, off', none⟩) (n - m) c')).cell? ⟨b, o, none⟩ = w.cell? ⟨b, o, none⟩ := fun o => World.cell?_of_block (Deep.blk_setCell_other w ⟨g, 0, none⟩ _ b h2)
  have hrow : ∀ j (x : Nat), bs[j]? = some x → w.cell? ⟨b, off + j, none⟩ = some (.int .u8 (x : Int)) := fun j x hj => by
    have hj' := (List.getElem?_eq_some_iff.1 hj).1
    obtain ⟨b', o', e, hc'⟩ := row.2 (by omega)
    injection e with e
    injection e with e1 e2
    subst e1 e2
    exact hc' j _ (by rw [valsB_get, hj]; rfl)
  refine ⟨⟨by rw [valsB_length, List.length_take]; omega, fun _ => ⟨b, off, rfl, fun j u hj => ?_⟩⟩, .some g _ _ _ _ _ low ?_ ⟨by rw [valsB_length, List.length_drop]; omega, fun _ => ⟨b, off', rfl, fun j u hj => ?_⟩⟩ (.inr ⟨b, off', rfl, h1, h2, by rw [World.size_setCell]; exact h3, hc⟩) (fun h => by cases h) (fun x hx => small x (List.mem_of_mem_drop hx)) (by omega)⟩
  · rw [valsB_get, List.getElem?_take] at hj
    by_cases hjm : j < m
    · rw [if_pos hjm] at hj
      cases hx : bs[j]? with
      | none => rw [hx] at hj; cases hj
      | some x => rw [hx] at hj; cases hj; rw [hcell]; exact hrow j x hx
    · rw [if_neg hjm] at hj; cases hj
  · simp [World.setCell, Array.getElem?_modify, block]
  · rw [valsB_get, List.getElem?_drop] at hj
    cases hx : bs[m + j]? with
    | none => rw [hx] at hj; cases hj
    | some x =>
      rw [hx] at hj
      cases hj
      have hj' := (List.getElem?_eq_some_iff.1 hx).1
      rcases ho with rfl | rfl
      · rw [hcell, Nat.add_assoc]; exact hrow _ x hx
      · omega
set_option maxHeartbeats 1000000 in
theorem take_any (B : Nat → Prop) (V : Value) (bs : List Nat) (bad : Bool) (m : Nat) (hm : m < 18446744073709551616) (w : World) (h : Rdr w B V bs bad) :
    Calls Try.prog 94 #[V, .int .u64 (m : Int)] w fun e w' => ∃ v, e = .returned v ∧ ∃ A c, v = .slice A (outT bs bad m).length c ∧ Rdv w' A (outT bs bad m).length 1 (valsB (outT bs bad m)) ∧ (A = none → c = 0 ∧ outT bs bad m = []) ∧ Rdr w' B V (restT bs bad m) (failT bs bad m) ∧ Only w w' V := by
  have HI := Lib.hid (isBad_any B V bs bad w h)
  have HS := Lib.hid (spoil_any B V bs bad w h)
  cases h with
  | none =>
    rw [show outT [] true m = [] from rfl, show restT [] true m = [] from rfl, show failT [] true m = true from rfl]
    go_enter Try.func94, Try.ntmps94
    go_wp2_with fail
    refine Calls.mono HI.out ?_
    rintro e w1 ⟨rfl, rfl⟩
    go_wp2_with fail
    refine Calls.mono HS.out ?_
    rintro e w1 ⟨rfl, h1, h2⟩
    have H1 := Lib.hid h1
    have H2 := Lib.hid h2
    clear h1 h2
    go_wp2_with fail
    go_ret
    exact ⟨_, rfl, none, 0, rfl, ⟨rfl, fun h => absurd h (by simp)⟩, fun _ => ⟨rfl, trivial⟩, H1.out, H2.out⟩
  | some g A n c bs bad low block row lies hbad small len =>
    have hl : bs.length = n := by have := row.1; rw [valsB_length] at this; omega
    have c0 : w.cell? ⟨g, 0, none⟩ = some (.slice A n c) := cell_of_row w g 0 _ 171 (0, 0) block
    have f0 : w.frozen? ⟨g, 0, none⟩ = false := by simp [World.frozen?, block]
    cases bad with
    | true =>
      rw [show outT bs true m = [] from rfl, show restT bs true m = [] from rfl, show failT bs true m = true from rfl]
      clear block row lies hbad small len hl f0 c0
      go_enter Try.func94, Try.ntmps94
      go_wp2_with fail
      refine Calls.mono HI.out ?_
      rintro e w1 ⟨rfl, rfl⟩
      go_wp2_with fail
      refine Calls.mono HS.out ?_
      rintro e w1 ⟨rfl, h1, h2⟩
      have H1 := Lib.hid h1
      have H2 := Lib.hid h2
      clear h1 h2
      go_wp2_with fail
      go_ret
      exact ⟨_, rfl, none, 0, rfl, ⟨rfl, fun h => absurd h (by simp)⟩, fun _ => ⟨rfl, trivial⟩, H1.out, H2.out⟩
    | false =>
      by_cases hlt : n < m
      · have hf : failT bs false m = true := by simp [failT]; omega
        rw [show outT bs false m = [] by simp [outT, hf], show restT bs false m = [] by simp [restT, hf], hf]
        clear block row lies hbad small hl f0 hf
        go_enter Try.func94, Try.ntmps94
        go_wp2_with fail
        refine Calls.mono HI.out ?_
        rintro e w1 ⟨rfl, rfl⟩
        go_wp2_with fail
        refine Calls.mono HS.out ?_
        rintro e w1 ⟨rfl, h1, h2⟩
        have H1 := Lib.hid h1
        have H2 := Lib.hid h2
        clear h1 h2
        go_wp2_with fail
        go_ret
        exact ⟨_, rfl, none, 0, rfl, ⟨rfl, fun h => absurd h (by simp)⟩, fun _ => ⟨rfl, trivial⟩, H1.out, H2.out⟩
      · have hf : failT bs false m = false := by simp [failT]; omega
        rw [show outT bs false m = bs.take m by simp [outT, hf], show restT bs false m = bs.drop m by simp [restT, hf], hf]
        rcases lies with ⟨rfl, rfl, rfl⟩ | ⟨b, off, rfl, h1, h2, h3, h4⟩
        · obtain rfl : m = 0 := by omega
          have e1 : bs = [] := List.eq_nil_of_length_eq_zero hl
          subst e1
          rw [show ([] : List Nat).take 0 = [] from rfl, show ([] : List Nat).drop 0 = [] from rfl]
          have hr' : Rdr (w.setCell ⟨g, 0, none⟩ (.slice none 0 0)) B (.pointer (some ⟨g, 0, none⟩)) [] false := by
            refine .some g none 0 0 [] false low ?_ ⟨rfl, fun h => absurd h (by omega)⟩ (.inl ⟨rfl, rfl, rfl⟩) (fun h => by cases h) (fun x hx => by cases hx) (by omega)
            simp [World.setCell, Array.getElem?_modify, block]
          have HR := Lib.hid hr'
          clear hr' block row hbad small hl hf HS
          go_enter Try.func94, Try.ntmps94
          go_wp2_with fail
          refine Calls.mono HI.out ?_
          rintro e w1 ⟨rfl, rfl⟩
          go_wp2_with fail
          go_ret
          exact ⟨_, rfl, none, 0, rfl, ⟨rfl, fun h => absurd h (by simp)⟩, fun _ => ⟨rfl, trivial⟩, HR.out, Only.set _ _ _ _⟩
        · have hA : (⟨b, off, none⟩ : Addr).add m = ⟨b, off + m, none⟩ := addr_plus b off m
          have htl : (bs.take m).length = m := by rw [List.length_take]; omega
          have HE := Lib.hid (take_end low block row small len h1 h2 h3 (show m ≤ n by omega))
          obtain ⟨os, ho⟩ : ∃ os, os = bs.take m := ⟨_, rfl⟩
          obtain ⟨rs, hr⟩ : ∃ rs, rs = bs.drop m := ⟨_, rfl⟩
          rw [← ho] at htl ⊢
          rw [← hr, htl]
          rw [← ho, ← hr] at HE
          clear hf ho hr HS htl hl hbad row block low h1 h2 h3 small
          go_enter Try.func94, Try.ntmps94
          go_wp2_with fail
          refine Calls.mono HI.out ?_
          rintro e w1 ⟨rfl, rfl⟩
          go_wp2_with fail
          case inl =>
            obtain ⟨q1, q2⟩ := HE.out off 0 (.inr (by omega)) (by omega)
            have Q1 := Lib.hid q1
            have Q2 := Lib.hid q2
            clear q1 q2
            go_ret
            exact ⟨_, rfl, _, _, rfl, Q1.out, (fun h => by cases h), Q2.out, Only.set _ _ _ _⟩
          case inr =>
            obtain ⟨q1, q2⟩ := HE.out (off + m) (c - m) (.inl rfl) (by omega)
            have Q1 := Lib.hid q1
            have Q2 := Lib.hid q2
            clear q1 q2
            go_ret
            exact ⟨_, rfl, _, _, rfl, Q1.out, (fun h => by cases h), Q2.out, Only.set _ _ _ _⟩
/-- What a byte is, read. -/
def byteT (bs : List Nat) : Nat := bs.headD 0
set_option maxHeartbeats 400000 in
theorem rbyte_any (B : Nat → Prop) (V : Value) (bs : List Nat) (bad : Bool) (w : World) (h : Rdr w B V bs bad) :
    Calls Try.prog 62 #[V] w fun e w' => e = .returned (.int .u8 ((byteT bs : Nat) : Int)) ∧ Rdr w' B V (bs.drop 1) (bad || decide (bs.length = 0)) ∧ Only w w' V := by
  have HT := Lib.hid (take_any B V bs bad 1 (by omega) w h)
  rcases bs with _ | ⟨x, t⟩
  · have hT := HT.out
    rw [show outT [] bad 1 = [] by cases bad <;> rfl, show restT [] bad 1 = [] by cases bad <;> rfl, show failT [] bad 1 = true by cases bad <;> rfl] at hT
    rw [show ([] : List Nat).drop 1 = [] from rfl, show (bad || decide (([] : List Nat).length = 0)) = true by cases bad <;> rfl, show byteT [] = 0 from rfl]
    have HT := Lib.hid hT
    clear hT h
    go_enter Try.func62, Try.ntmps62
    go_wp2_with fail
    refine Calls.mono HT.out ?_
    rintro e w1 ⟨_, rfl, A, c, rfl, h1, h2, h3, h4⟩
    have H3 := Lib.hid h3
    have H4 := Lib.hid h4
    clear h1 h2 h3 h4
    go_wp2_with fail
    go_ret
    exact ⟨rfl, H3.out, H4.out⟩
  · have hb : bad = false := by
      cases bad with
      | false => rfl
      | true => have := h.empty; cases this
    subst hb
    have hT := HT.out
    rw [show outT (x :: t) false 1 = [x] by simp [outT, failT], show restT (x :: t) false 1 = t by simp [restT, failT], show failT (x :: t) false 1 = false by simp [failT]] at hT
    rw [show (x :: t).drop 1 = t from rfl, show (false || decide ((x :: t).length = 0)) = false by simp, show byteT (x :: t) = x from rfl]
    have HT := Lib.hid hT
    clear hT h
    go_enter Try.func62, Try.ntmps62
    go_wp2_with fail
    refine Calls.mono HT.out ?_
    rintro e w1 ⟨_, rfl, A, c, rfl, h1, h2, h3, h4⟩
    obtain ⟨b, off, rfl, hc⟩ := h1.2 (by simp)
    have c0 : w1.cell? ⟨b, off, none⟩ = some (.int .u8 (x : Int)) := hc 0 _ rfl
    have H3 := Lib.hid h3
    have H4 := Lib.hid h4
    clear h1 h2 h3 h4 hc
    go_wp2_with fail
    go_ret
    exact ⟨rfl, H3.out, H4.out⟩
/-- What End answers. -/
def endV (bs : List Nat) (bad : Bool) : Value := if bad = false ∧ bs = [] then .nilIface else .iface 64 (.int .i64 2)
set_option maxHeartbeats 400000 in
theorem end_any (B : Nat → Prop) (V : Value) (bs : List Nat) (bad : Bool) (w : World) (h : Rdr w B V bs bad) :
    Calls Try.prog 63 #[V] w fun e w' => ∃ v, e = .returned v ∧ v = endV bs bad ∧ w = w' := by
  have HI := Lib.hid (isBad_any B V bs bad w h)
  cases bad with
  | true =>
    rw [show endV bs true = .iface 64 (.int .i64 2) from rfl]
    clear h
    go_enter Try.func63, Try.ntmps63
    go_wp2_with fail
    refine Calls.mono HI.out ?_
    rintro e w1 ⟨rfl, rfl⟩
    go_wp2_with fail
    go_ret
    exact ⟨_, rfl, rfl, rfl⟩
  | false =>
    cases h with
    | some g A n c bs bad low block row lies hbad small len =>
      have hl : bs.length = n := by have := row.1; rw [valsB_length] at this; omega
      have c0 : w.cell? ⟨g, 0, none⟩ = some (.slice A n c) := cell_of_row w g 0 _ 171 (0, 0) block
      by_cases h0 : n = 0
      · subst h0
        rw [show endV bs false = .nilIface by rw [List.eq_nil_of_length_eq_zero hl]; rfl]
        clear block row lies hbad small hl
        go_enter Try.func63, Try.ntmps63
        go_wp2_with fail
        refine Calls.mono HI.out ?_
        rintro e w1 ⟨rfl, rfl⟩
        go_wp2_with fail
        go_ret
        exact ⟨_, rfl, rfl, rfl⟩
      · have hp : 0 < n := Nat.pos_of_ne_zero h0
        have he : bs ≠ [] := fun e => by rw [e] at hl; simp at hl; omega
        rw [show endV bs false = .iface 64 (.int .i64 2) by simp [endV, he]]
        clear block row lies hbad small hl he
        go_enter Try.func63, Try.ntmps63
        go_wp2_with fail
        refine Calls.mono HI.out ?_
        rintro e w1 ⟨rfl, rfl⟩
        go_wp2_with fail
        go_ret
        exact ⟨_, rfl, rfl, rfl⟩
end Go.Proofs.Ytejpjbmbcdgomaa
