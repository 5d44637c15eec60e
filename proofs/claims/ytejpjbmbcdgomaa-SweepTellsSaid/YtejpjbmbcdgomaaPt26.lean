/- SLong, SAlive, SBest, WRdr, WTake, WRCount, WRNum, WStr, STwice: put together. -/
import Derived.Test.YtejpjbmbcdgomaaPt21
import Derived.Test.YtejpjbmbcdgomaaPt20
import Derived.Test.YtejpjbmbcdgomaaPt25
import Derived.Test.YtejpjbmbcdgomaaPt02
import Derived.Test.YtejpjbmbcdgomaaPt22
import Derived.Laws.BytesArg
import Derived.Lib.ConvBytes
/- long, and the fixed fact. -/
namespace Go.Proofs.Ytejpjbmbcdgomaa
set_option maxRecDepth 100000
open Go.RowKit

/-- What long answers. -/
def LongE (os : List Oq) (e : Ending) : Prop := ∃ b, e = .returned (.bool b) ∧ (b = false → os.length ≤ 61 ∧ ∀ o ∈ os, o.ws.length ≤ 30)
theorem wrs_one {W : World} {b : Nat} {x : Wr} {T : TypeId} (h : W.heap[b]? = some (.cells #[.int .i64 x.t, .int .i64 x.k, .int .i64 x.v, .bool x.dead] T (0, 0))) : Wrs W (some ⟨b, 0, none⟩) [x] :=
  ⟨rfl, rfl, fun _ => ⟨b, 0, rfl, fun j u hj => by
    rw [Nat.zero_add, cell_of_row _ b j _ T (0, 0) h]
    simpa [rowV, Wr.vals] using hj⟩⟩
end Go.Proofs.Ytejpjbmbcdgomaa

/- The fixed fact of layer 9. -/
namespace Go.Proofs.Ytejpjbmbcdgomaa
set_option maxRecDepth 100000
open Go.RowKit

theorem mem_ins {x y : Ix} {l : List Ix} (h : y ∈ ins x l) : y = x ∨ y ∈ l := by
  unfold ins at h
  rcases List.mem_append.1 h with e | e
  · exact .inr (List.mem_filter.1 e).1
  · rcases List.mem_cons.1 e with e | e
    · exact .inl e
    · exact .inr (List.mem_filter.1 e).1
theorem NumT.put {q : Int} {ts : Tb} {x : Wr} (h : NumT ts) (hx : WrOk x) (h0 : 0 ≤ q) (h1 : q ≤ 9223372036854775807) : NumT (putW q ts x) := fun i hi y hy => by
  unfold putW at hy
  split at hy
  · exact h i hi y hy
  · unfold Tb.upd at hy
    split at hy
    · rename_i e
      rcases mem_ins hy with rfl | hy
      · refine ⟨hx.1, ?_, h0, h1⟩
        show Fits (if x.dead then 0 else x.v)
        split
        · exact ⟨by decide, by decide⟩
        · exact hx.2
      · subst e
        exact h _ hi y hy
    · exact h i hi y hy
theorem NumT.force {q : Int} : ∀ (ws : List Wr) {ts : Tb}, NumT ts → (∀ x ∈ ws, WrOk x) → 0 ≤ q → q ≤ 9223372036854775807 → NumT (forceT q ts ws)
  | [], _, h, _, _, _ => h
  | x :: ws, _, h, hw, h0, h1 => NumT.force ws (h.put (hw x (by simp)) h0 h1) (fun y hy => hw y (by simp [hy])) h0 h1
theorem NumT.none : NumT fun _ => [] := fun _ _ _ h => by cases h
def tsA : Tb := forceT 2 (fun _ => []) [⟨2, 1, 5, false⟩]
def tsB : Tb := forceT 1 tsA [⟨2, 1, 7, false⟩]
end Go.Proofs.Ytejpjbmbcdgomaa

/- Transactions put in any order, some twice: at each key the last one that writes there counts. -/
namespace Go.Proofs.Ytejpjbmbcdgomaa
set_option maxRecDepth 100000
open Go.RowKit

def wrAt (t k : Int) (ws : List Wr) : Option Wr := ws.find? fun x => decide (x.t = t ∧ x.k = k)
/-- The last of some transactions that writes at a key. -/
def lw (sc : Nat → List Wr) (S : Nat → Bool) (t k : Int) : Nat → Option (Nat × Wr)
  | 0 => none
  | n + 1 => if S n then (match wrAt t k (sc n) with | some x => some (n, x) | none => lw sc S t k n) else lw sc S t k n
variable {sc : Nat → List Wr} {S S' : Nat → Bool} {t k : Int}
theorem lw_congr : ∀ {n : Nat}, (∀ j, j < n → S j = S' j) → lw sc S t k n = lw sc S' t k n
  | 0, _ => rfl
  | n + 1, h => by
    unfold lw
    rw [h n (by omega), lw_congr (n := n) fun j hj => h j (by omega)]
theorem lw_lt : ∀ {n : Nat} {p : Nat × Wr}, lw sc S t k n = some p → p.1 < n
  | 0, p, h => by cases h
  | n + 1, p, h => by
    unfold lw at h
    split at h
    · split at h
      · cases h; exact Nat.lt_succ_self n
      · have := lw_lt h; omega
    · have := lw_lt h; omega
def addS (S : Nat → Bool) (i : Nat) : Nat → Bool := fun j => S j || decide (j = i)
theorem lw_low {i : Nat} : ∀ {n : Nat}, n ≤ i → lw sc (addS S i) t k n = lw sc S t k n := fun {n} h => lw_congr fun j hj => by
  unfold addS
  rw [decide_eq_false (by omega), Bool.or_false]
/-- What it is with one more. -/
def pick (sc : Nat → List Wr) (t k : Int) (i : Nat) (o : Option (Nat × Wr)) : Option (Nat × Wr) :=
  match o with
  | some p => if i ≤ p.1 then some p else (match wrAt t k (sc i) with | some x => some (i, x) | none => some p)
  | none => (match wrAt t k (sc i) with | some x => some (i, x) | none => none)
theorem lw_add {i : Nat} : ∀ {n : Nat}, i < n → lw sc (addS S i) t k n = pick sc t k i (lw sc S t k n)
  | 0, h => by omega
  | n + 1, h => by
    by_cases e : i = n
    · subst e
      have hl := lw_low (sc := sc) (S := S) (t := t) (k := k) (Nat.le_refl i)
      have hS : addS S i i = true := by simp [addS]
      have h1 : lw sc (addS S i) t k (i + 1) = (match wrAt t k (sc i) with | some x => some (i, x) | none => lw sc S t k i) := by
        rw [lw, if_pos hS, hl]
      rw [h1]
      have hlt := fun p => lw_lt (sc := sc) (S := S) (t := t) (k := k) (n := i) (p := p)
      cases hw : wrAt t k (sc i) with
      | some x =>
        simp only
        by_cases hSi : S i = true
        · rw [lw, if_pos hSi, hw]
          simp [pick]
        · rw [lw, if_neg hSi]
          cases ho : lw sc S t k i with
          | none => simp [pick, hw]
          | some p =>
            have := hlt p ho
            have h3 : ¬ i ≤ p.1 := by omega
            simp [pick, hw, h3]
      | none =>
        simp only
        have h2 : lw sc S t k (i + 1) = lw sc S t k i := by
          rw [lw, hw]
          simp
        rw [h2]
        cases ho : lw sc S t k i with
        | none => simp [pick, hw]
        | some p => simp [pick, hw]
    · have hS : addS S i n = S n := by
        unfold addS
        rw [decide_eq_false (by omega), Bool.or_false]
      have ih := lw_add (n := n) (i := i) (by omega)
      rw [lw, hS, ih, lw]
      by_cases hSn : S n = true
      · rw [if_pos hSn, if_pos hSn]
        cases hw : wrAt t k (sc n) with
        | some x =>
          have : i ≤ n := by omega
          simp [pick, this]
        | none => rfl
      · rw [if_neg hSn, if_neg hSn]
/-- A store that holds what some transactions of a script come to. -/
structure Best (sc : Nat → List Wr) (n : Nat) (S : Nat → Bool) (ts : Tb) : Prop where
  up : ∀ i, i < 4 → Up (ts i)
  at_ : ∀ t k, InT t → cellAt ts t k = (lw sc S t k n).map fun p => p.2.cl ((p.1 : Int) + 1)
theorem Best.start (sc : Nat → List Wr) (n : Nat) : Best sc n (fun _ => false) (fun _ => []) := ⟨fun _ _ => List.Pairwise.nil, fun t k ht => by
  have : lw sc (fun _ => false) t k n = none := by
    induction n with
    | zero => rfl
    | succ n ih => rw [lw, if_neg (by simp), ih]
  rw [this, cellAt_in ht]
  rfl⟩
theorem Best.step {n : Nat} {ts : Tb} (h : Best sc n S ts) {i : Nat} (hi : i < n) (hw : ∀ x ∈ sc i, InT x.t) : Best sc n (addS S i) (forceT ((i : Int) + 1) ts (sc i)) := by
  refine ⟨up_force _ h.up, fun t k ht => ?_⟩
  rw [force_at ht _ _ hw, lw_add hi]
  unfold gat
  rw [h.at_ t k ht]
  have e : (sc i).find? (fun x => decide (x.t = t ∧ x.k = k)) = wrAt t k (sc i) := rfl
  rw [e]
  cases ho : lw sc S t k n with
  | none =>
    cases hx : wrAt t k (sc i) with
    | none => simp [pick, hx, stay]
    | some x => simp [pick, hx, stay]
  | some p =>
    by_cases hp : i ≤ p.1
    · have : (i : Int) + 1 ≤ (p.1 : Int) + 1 := by omega
      simp [pick, stay, Wr.cl, hp]
    · have : ¬ ((i : Int) ≤ (p.1 : Int)) := by omega
      cases hx : wrAt t k (sc i) with
      | none => simp [pick, hx, stay, Wr.cl, hp]
      | some x => simp [pick, hx, stay, Wr.cl, hp]
theorem Best.same {n : Nat} {ts ts' : Tb} (h : Best sc n S ts) (h' : Best sc n S' ts') (hS : ∀ j, j < n → S j = S' j) : ∀ i, i < 4 → ts i = ts' i := fun i hi => by
  refine up_ext (h.up i hi) (h'.up i hi) fun k => ?_
  have hin : InT (i : Int) := ⟨by omega, by omega⟩
  have h1 := h.at_ i k hin
  have h2 := h'.at_ i k hin
  rw [cellAt_in hin] at h1 h2
  have e : ((i : Int)).toNat = i := by omega
  rw [e] at h1 h2
  rw [h1, h2, lw_congr hS]
end Go.Proofs.Ytejpjbmbcdgomaa

/- A reader in memory, and the contracts of its functions. -/
namespace Go.Proofs.Ytejpjbmbcdgomaa
set_option maxRecDepth 100000
open Go.RowKit

/-- Nothing but what a pointer points at is changed, and what is new. -/
structure Only (w w' : World) (V : Value) : Prop where
  os : w'.os = w.os
  tape : w'.tape = w.tape
  output : w'.output = w.output
  size : w.heap.size ≤ w'.heap.size
  block : ∀ k, k < w.heap.size → V ≠ .pointer (some ⟨k, 0, none⟩) → w'.heap[k]? = w.heap[k]?
theorem Only.refl (w : World) (V : Value) : Only w w V := ⟨rfl, rfl, rfl, Nat.le_refl _, fun _ _ _ => rfl⟩
theorem Only.trans {w w1 w2 : World} {V : Value} (h : Only w w1 V) (k : Only w1 w2 V) : Only w w2 V :=
  ⟨k.os.trans h.os, k.tape.trans h.tape, k.output.trans h.output, Nat.le_trans h.size k.size, fun q hq hv => (k.block q (Nat.lt_of_lt_of_le hq h.size) hv).trans (h.block q hq hv)⟩
theorem Only.of_below {w w' : World} {V : Value} (h : Below w.heap.size w w') : Only w w' V := ⟨h.os, h.tape, h.output, h.size, fun k hk _ => h.block k hk⟩
theorem Only.set (w : World) (g o : Nat) (u : Value) : Only w (w.setCell ⟨g, o, none⟩ u) (.pointer (some ⟨g, 0, none⟩)) :=
  ⟨rfl, rfl, rfl, by rw [World.size_setCell]; exact Nat.le_refl _, fun k _ hv => Deep.blk_setCell_other w ⟨g, o, none⟩ u k (fun he => hv (by rw [he]))⟩
/-- A slice that lies somewhere above, but not in a block. -/
def Lies (w : World) (B : Nat → Prop) (g : Nat) (A : Option Addr) (n c : Nat) : Prop := (A = none ∧ n = 0 ∧ c = 0) ∨ ∃ b off, A = some ⟨b, off, none⟩ ∧ B b ∧ b ≠ g ∧ b < w.heap.size ∧ n ≤ c
/-- A reader of its own bytes; a nil one is bad. -/
inductive Rdr (w : World) (B : Nat → Prop) : Value → List Nat → Bool → Prop
  | none : Rdr w B (.pointer none) [] true
  | some (g : Nat) (A : Option Addr) (n c : Nat) (bs : List Nat) (bad : Bool) (low : B g) (block : w.heap[g]? = some (.cells #[.slice A n c, .bool bad] 171 (0, 0))) (row : Rdv w A n 1 (valsB bs)) (lies : Lies w B g A n c) (hbad : bad = true → bs = []) (small : ∀ x ∈ bs, x < 256) (len : n ≤ 140737488355328) : Rdr w B (.pointer (some ⟨g, 0, none⟩)) bs bad
theorem Rdr.empty {w : World} {B : Nat → Prop} {V : Value} {bs : List Nat} (h : Rdr w B V bs true) : bs = [] := by
  cases h with
  | none => rfl
  | some _ _ _ _ _ _ _ _ _ _ hb => exact hb rfl
theorem Rdr.low' {w : World} {B : Nat → Prop} {V : Value} {bs : List Nat} {bad : Bool} (h : Rdr w B V bs bad) : ∀ k, V = .pointer (Option.some ⟨k, 0, Option.none⟩) → B k := by
  cases h with
  | none => intro k hk; cases hk
  | some _ _ _ _ _ _ low => intro k hk; injection hk with hk; injection hk with hk; injection hk with hk; rw [← hk]; exact low
theorem Rdr.only {w w' : World} {B : Nat → Prop} {V : Value} {bs : List Nat} {bad : Bool} (h : Rdr w B V bs bad) (k : Only w w' V) {M : Nat} (hM : ∀ j, B j → M ≤ j) (hB : M ≤ w.heap.size) : Below M w w' :=
  ⟨k.os, k.tape, k.output, k.size, fun q hq => k.block q (by omega) (fun he => by have := hM q (h.low' q he); omega)⟩
/-- A reader stands where its block and its row stand. -/
theorem Rdr.stays {w w' : World} {B : Nat → Prop} {V : Value} {bs : List Nat} {bad : Bool} (h : Rdr w B V bs bad) (hs : w.heap.size ≤ w'.heap.size) (hk : ∀ k, k < w.heap.size → B k → w'.heap[k]? = w.heap[k]?) : Rdr w' B V bs bad := by
  cases h with
  | none => exact .none
  | some g A n c bs bad low block row lies hbad small len =>
    refine .some g A n c bs bad low ((hk g (Array.getElem?_eq_some_iff.1 block).1 low).trans block) ?_ ?_ hbad small len
    · refine ⟨row.1, fun hn => ?_⟩
      obtain ⟨b, off, e, hc⟩ := row.2 hn
      rcases lies with ⟨_, h0, _⟩ | ⟨b', off', e', h1, h2, h3, h4⟩
      · omega
      · rw [e] at e'
        injection e' with e'
        injection e' with e1 e2 e3
        subst e1
        refine ⟨b, off, e, fun j u hj => ?_⟩
        rw [← hc j u hj]
        exact World.cell?_of_block (hk b h3 h1)
    · rcases lies with h0 | ⟨b, off, e, h1, h2, h3, h4⟩
      · exact .inl h0
      · exact .inr ⟨b, off, e, h1, h2, Nat.lt_of_lt_of_le h3 hs, h4⟩

end Go.Proofs.Ytejpjbmbcdgomaa

/- The contracts of a reader's take and Byte. -/
namespace Go.Proofs.Ytejpjbmbcdgomaa
set_option maxRecDepth 100000
open Go.RowKit

/-- What take leaves, and answers. -/
def failT (bs : List Nat) (bad : Bool) (m : Nat) : Bool := bad || decide (bs.length < m)
def outT (bs : List Nat) (bad : Bool) (m : Nat) : List Nat := if failT bs bad m then [] else bs.take m
def restT (bs : List Nat) (bad : Bool) (m : Nat) : List Nat := if failT bs bad m then [] else bs.drop m
theorem valsB_get (xs : List Nat) (j : Nat) : (valsB xs)[j]? = (xs[j]?).map fun (x : Nat) => Value.int .u8 (x : Int) := by simp [valsB]
/-- What a byte is, read. -/
def byteT (bs : List Nat) : Nat := bs.headD 0
/-- What End answers. -/
def endV (bs : List Nat) (bad : Bool) : Value := if bad = false ∧ bs = [] then .nilIface else .iface 64 (.int .i64 2)
end Go.Proofs.Ytejpjbmbcdgomaa

/- The contract of a reader's Count. -/
namespace Go.Proofs.Ytejpjbmbcdgomaa
set_option maxRecDepth 100000
open Go.RowKit

/-- What Count comes to behind i groups, of which n was made. -/
def rcnt : Nat → Nat → Nat → List Nat → Nat × List Nat × Bool
  | 0, _, n, bs => (n, bs, false)
  | _ + 1, _, _, [] => (0, [], true)
  | f + 1, i, n, b :: t =>
    if (i = 9 ∧ 1 < b) ∨ (0 < i ∧ b = 0) then (0, [], true)
    else if b < 128 then (n + b % 128 * 128 ^ i, t, false) else rcnt f (i + 1) (n + b % 128 * 128 ^ i) t
def rcount (bs : List Nat) : Nat × List Nat × Bool := rcnt 10 0 0 bs
end Go.Proofs.Ytejpjbmbcdgomaa

/- The contracts of a reader's Num, Flag, Bytes, Text; and the new reader. -/
namespace Go.Proofs.Ytejpjbmbcdgomaa
set_option maxRecDepth 100000
open Go.RowKit

/-- The number of a count. -/
def unfoldN (n : Nat) : Int := if n % 2 = 1 then -((n / 2 : Nat) : Int) - 1 else ((n / 2 : Nat) : Int)

/-- What Flag leaves. -/
def flagRest (bs : List Nat) : List Nat := if byteT bs > 1 then [] else bs.drop 1
def flagBad (bs : List Nat) (bad : Bool) : Bool := decide (byteT bs > 1) || (bad || decide (bs.length = 0))
theorem ret_bool {a b : Bool} (h : a = b) : Ending.returned (.bool a) = .returned (.bool b) := by rw [h]
/-- What Bytes answers, and leaves. -/
def bytesOut (bs : List Nat) : List Nat := outT (rcount bs).2.1 (rcount bs).2.2 (rcount bs).1
def bytesRest (bs : List Nat) : List Nat := restT (rcount bs).2.1 (rcount bs).2.2 (rcount bs).1
def bytesBad (bs : List Nat) : Bool := failT (rcount bs).2.1 (rcount bs).2.2 (rcount bs).1
end Go.Proofs.Ytejpjbmbcdgomaa

/- Strings of bytes; the contracts of num.Same, of a reader's Text, of the new reader, and of a writer's Bytes and Text. -/
namespace Go.Proofs.Ytejpjbmbcdgomaa
set_option maxRecDepth 100000
open Go.RowKit

/-- What string(b) is. -/
def strN (xs : List Nat) : ByteArray := strOfNums (xs.map fun (x : Nat) => (x : Int))
theorem strN_data (xs : List Nat) : (strN xs).data.toList = xs.map UInt8.ofNat := by
  unfold strN
  rw [strOfNums_data, List.map_map]
  exact List.map_congr_left fun x _ => by simp
theorem strN_toList (xs : List Nat) : (strN xs).toList = xs.map UInt8.ofNat := by rw [ByteArray.toList_eq, strN_data]
theorem map_byte_inj : ∀ (xs ys : List Nat), (∀ x ∈ xs, x < 256) → (∀ x ∈ ys, x < 256) → xs.map UInt8.ofNat = ys.map UInt8.ofNat → xs = ys
  | [], [], _, _, _ => rfl
  | [], _ :: _, _, _, h => by simp at h
  | _ :: _, [], _, _, h => by simp at h
  | x :: xs, y :: ys, hx, hy, h => by
    simp only [List.map_cons, List.cons.injEq] at h
    have e1 := congrArg UInt8.toNat h.1
    rw [UInt8.toNat_ofNat', UInt8.toNat_ofNat'] at e1
    have h1 := hx x (List.mem_cons_self ..)
    have h2 := hy y (List.mem_cons_self ..)
    rw [map_byte_inj xs ys (fun a ha => hx a (List.mem_cons_of_mem _ ha)) (fun a ha => hy a (List.mem_cons_of_mem _ ha)) h.2]
    congr 1
    omega
theorem strN_beq (xs ys : List Nat) (hx : ∀ x ∈ xs, x < 256) (hy : ∀ x ∈ ys, x < 256) : ((strN xs).toList == (strN ys).toList) = decide (xs = ys) := by
  rw [strN_toList, strN_toList]
  by_cases h : xs = ys
  · subst h; simp
  · rw [decide_eq_false h]
    exact beq_eq_false_iff_ne.2 fun he => h (map_byte_inj xs ys hx hy he)
theorem run_str (w : World) (A : Option Addr) (n c : Nat) (xs : List Nat) (h : Rdv w A n 1 (valsB xs)) : (convert 57 9 (.slice A n c)).run Try.prog w = .ok (.string (strN xs)) w := by
  obtain ⟨hl, hc⟩ := h
  rw [valsB_length, Nat.mul_one] at hl
  rcases Nat.eq_zero_or_pos n with h0 | h0
  · subst h0
    obtain rfl : xs = [] := List.eq_nil_of_length_eq_zero hl
    rw [run_convert_bytes_string w 57 9 5 _ 0 c Try.underlying57 Try.underlying5 Try.underlying9]
    rcases A with _ | ad
    · rfl
    · rw [run_bytesToString w ad 0 c [] (by simpa using run_loadCells_list (P := Try.prog) w ad [] (fun j v hj => by simp at hj))]
      rfl
  · obtain ⟨b, off, rfl, hc'⟩ := hc h0
    exact run_convert_bytes_arg w 57 5 Try.underlying57 Try.underlying5 b off n c (xs.map fun (x : Nat) => (x : Int)) (by simp [hl]) (fun i hi => by
      rw [hc' i _ (show (valsB xs)[i]? = some (.int .u8 ((xs.getD i 0 : Nat) : Int)) by rw [valsB_get]; simp [List.getD_eq_getElem?_getD, show i < xs.length by omega])]
      simp [List.getD_eq_getElem?_getD, show i < xs.length by omega]) 9 Try.underlying9

set_option maxHeartbeats 400000 in
theorem same_any (A A' : Option Addr) (n c n' c' : Nat) (xs ys : List Nat) (w : World) (h1 : Rdv w A n 1 (valsB xs)) (h2 : Rdv w A' n' 1 (valsB ys)) (hx : ∀ x ∈ xs, x < 256) (hy : ∀ x ∈ ys, x < 256) :
    Calls Try.prog 27 #[.slice A n c, .slice A' n' c'] w fun e w' => e = .returned (.bool (decide (xs = ys))) ∧ w = w' := by
  have e1 := run_str w A n c xs h1
  have e2 := run_str w A' n' c' ys h2
  have e3 := strN_beq xs ys hx hy
  obtain ⟨s, hs⟩ : ∃ s, s = strN xs := ⟨_, rfl⟩
  obtain ⟨t, ht⟩ : ∃ t, t = strN ys := ⟨_, rfl⟩
  rw [← hs] at e1 e3
  rw [← ht] at e2 e3
  have H3 := Lib.hid e3
  clear h1 h2 hs ht e3
  go_enter Try.func27, Try.ntmps27
  go_wp2_with fail
  go_ret
  exact ⟨ret_bool H3.out, rfl⟩

end Go.Proofs.Ytejpjbmbcdgomaa

/- StoreTwice: transactions put in order, and turned round, twice. -/
namespace Go.Proofs.Ytejpjbmbcdgomaa
set_option maxRecDepth 100000
open Go.RowKit

theorem cntN_lt (n : Nat) : ∀ x ∈ cntN n, x < 256 := by
  intro x hx
  unfold cntN preN at hx
  rw [List.mem_append, List.mem_map] at hx
  rcases hx with ⟨i, _, rfl⟩ | hx
  · omega
  · rw [List.mem_singleton] at hx; omega
theorem putB_small {ts : Tb} (_h : NumT ts) : ∀ x ∈ putB ts, x < 256 := by
  intro x hx
  unfold putB at hx
  rw [List.mem_append, List.mem_append, List.mem_flatMap] at hx
  rcases hx with hx | ⟨e, _, hx⟩ | hx
  · exact cntN_lt _ _ hx
  · unfold entB at hx
    rw [List.mem_append, List.mem_append, List.mem_append] at hx
    rcases hx with hx | hx | hx | hx <;> exact cntN_lt _ _ hx
  · rw [List.mem_singleton] at hx; omega
def scN (os : List Oq) (i : Nat) : List Wr := (os.getD i ⟨0, none, 0, [], false⟩).ws
/-- Two stores, apart. -/
structure Two (w wr : World) (sa sb : Nat) (ta tb : Tb) (la lb : Int) : Prop where
  ex : ∃ Ga Gb, SM wr Ga sa ta (liveT ta : Int) la ∧ SM wr Gb sb tb (liveT tb : Int) lb ∧ (∀ q, Ga q → ¬ Gb q) ∧ (∀ q, Ga q → w.heap.size ≤ q) ∧ (∀ q, Gb q → w.heap.size ≤ q)
  b : Below w.heap.size w wr
section
variable {w wr w1 : World} {sa sb : Nat} {ta tb : Tb} {la lb : Int}
theorem Two.below (h : Two w wr sa sb ta tb la lb) (hb : Below wr.heap.size wr w1) : Two w w1 sa sb ta tb la lb := by
  obtain ⟨Ga, Gb, h1, h2, h3, h4, h5⟩ := h.ex
  exact ⟨⟨Ga, Gb, h1.below hb, h2.below hb, h3, h4, h5⟩, h.b.trans (hb.mono h.b.size)⟩
theorem Two.turn (h : Two w wr sa sb ta tb la lb) {Ga : Nat → Prop} (h1 : ∃ Gb, SM wr Ga sa ta (liveT ta : Int) la ∧ SM wr Gb sb tb (liveT tb : Int) lb ∧ (∀ q, Ga q → ¬ Gb q) ∧ (∀ q, Ga q → w.heap.size ≤ q) ∧ (∀ q, Gb q → w.heap.size ≤ q)) {Ga' : Nat → Prop} {ta' : Tb} {la' : Int}
    (hM : SM w1 Ga' sa ta' (liveT ta' : Int) la') (hC : Cg wr w1 Ga Ga') : Two w w1 sa sb ta' tb la' lb := by
  obtain ⟨Gb, g1, g2, g3, g4, g5⟩ := h1
  have hl := hC.low h.b.size g4
  refine ⟨⟨Ga', Gb, hM, g2.keep fun q hq => hC.ch.block q (g2.lt hq) (fun e => g3 q e hq), fun q e1 e2 => ?_, hl.2, g5⟩, h.b.trans hl.1⟩
  rcases hC.fr q e1 with e | e
  · exact g3 q e e2
  · have := g2.lt e2; omega
theorem Two.apply (h : Two w wr sa sb ta tb la lb) (q : Int) {A : Option Addr} {c : Nat} {ws : List Wr} (hr : Wrs wr A ws) (hK : NumW ws) (hl : ws.length ≤ 50000) (hN : ∀ i, i < 4 → (ta i).length ≤ 50000) :
    Calls Try.prog 16 #[.pointer (some ⟨sa, 0, none⟩), .int .i64 q, .slice A ws.length c] wr fun e w' => e = .returned (errV (apN q ta ws)) ∧ ∃ ta' la', Two w w' sa sb ta' tb la' lb ∧ ApOut q ta ws (apN q ta ws) la ta' la' := by
  obtain ⟨Ga, Gb, h1, h2, h3, h4, h5⟩ := h.ex
  refine Calls.mono (apply_any q h1 hr hK hl hN) ?_
  rintro e w' ⟨rfl, G', ta', la', g1, g2, g3⟩
  exact ⟨rfl, ta', la', h.turn ⟨Gb, h1, h2, h3, h4, h5⟩ g1 g2, g3⟩
theorem Two.start {w1 w2 : World} {Ga Gb : Nat → Prop} (h1 : SM w1 Ga sa (fun _ => []) (liveT (fun _ => []) : Int) 0) (g1 : ∀ q, Ga q → w.heap.size ≤ q) (b1 : Below w.heap.size w w1) (h2 : SM w2 Gb sb (fun _ => []) (liveT (fun _ => []) : Int) 0) (g2 : ∀ q, Gb q → w1.heap.size ≤ q) (b2 : Below w1.heap.size w1 w2) :
    Two w w2 sa sb (fun _ => []) (fun _ => []) 0 0 :=
  ⟨⟨Ga, Gb, h1.below b2, h2, fun q e1 e2 => by have := h1.lt e1; have := g2 q e2; omega, g1, fun q e => Nat.le_trans b1.size (g2 q e)⟩, b1.trans (b2.mono b1.size)⟩
end
theorem errV_not {r : Nat} (h : r ≠ 0) : errV r = .iface 64 (.int .i64 (r : Int)) := if_neg h
end Go.Proofs.Ytejpjbmbcdgomaa
