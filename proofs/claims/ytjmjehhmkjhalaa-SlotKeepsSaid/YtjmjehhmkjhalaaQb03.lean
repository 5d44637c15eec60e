/- WNum, WOut, WRdr: put together. -/
import Derived.Test.YtjmjehhmkjhalaaQb02
import Derived.Lib.Zigzag
import Derived.Laws.Bits64
import Derived.Lib.SliceRun
/- The contracts of a writer's Num, Byte, Flag, Out; and the new writer. -/
namespace Go.Proofs.Ytjmjehhmkjhalaa
set_option maxRecDepth 100000
open Go.RowKit

/-- A number, folded. -/
def foldN (z : Int) : Nat := if z < 0 then (2 * (-(z + 1)) + 1).toNat else (2 * z).toNat
def Fits (z : Int) : Prop := -9223372036854775808 ≤ z ∧ z ≤ 9223372036854775807
set_option maxHeartbeats 400000 in
theorem byte_any (B g : Nat) (v : Value) (xs : List Nat) (x : Nat) (w : World) (hw : Wtr w B g v xs) (hmx : xs.length ≤ 8796093022208) :
    Calls Try.prog 112 #[.pointer (some ⟨g, 0, none⟩), .int .u8 (x : Int)] w fun e w' => e = .returned (.tuple #[]) ∧ ∃ v', Wrote w w' B g v v' (xs ++ [x]) := by
  have HP := Lib.hid (put_one B g v xs x w hw (by omega))
  clear hw hmx
  go_enter Try.func112, Try.ntmps112
  go_wp2_with fail
  refine Calls.mono HP.out ?_
  rintro e w1 ⟨rfl, v', hw'⟩
  have HW := Lib.hid hw'
  clear hw'
  go_wp2_with fail
  exact bodyPost_end (v := .tuple #[]) (by simp [results, Try.results112, go_sem]) rfl ⟨rfl, v', HW.out⟩
def flagN (f : Bool) : Nat := if f then 1 else 0
end Go.Proofs.Ytjmjehhmkjhalaa

/- The contracts of slices.Clone, and of a writer's Out. -/
namespace Go.Proofs.Ytjmjehhmkjhalaa
set_option maxRecDepth 100000
open Go.RowKit

theorem stays_b {w w' : World} (h : Below w.heap.size w w') : ∀ p : Addr, p.block < w.heap.size → w'.cell? p = w.cell? p := fun _ hp => h.cell hp
theorem run_append_empty {P : Program} {t e : TypeId} {size bytes : Nat} (E : ElemT P t e size bytes) (w : World) (ty : TypeId) (p : Addr)
    (A : Option Addr) (m c : Nat) (ys : List Value) (hr : Rdv w A m size ys) (hnil : A = none → c = 0) (hmx : m ≤ maxLen) (hby : m * bytes ≤ 140737488355328) :
    ∃ A' c' w', (Builtin.append_ #[t, t] ty #[.slice (some p) 0 0, .slice A m c]).run P w = .ok (.slice A' m c') w' ∧ Rdv w' A' m size ys ∧ ((A' = some p ∧ m = 0) ∨ (A' = some ⟨w.heap.size, 0, none⟩ ∧ w.heap.size < w'.heap.size ∧ ∃ cs, w'.heap[w.heap.size]? = some (.cells cs e (0, 0)))) ∧ m ≤ c' ∧ Below w.heap.size w w' := by
  obtain ⟨ht, hinfo, ⟨i, z, hi, hz, hzs⟩, hpos⟩ := E
  rw [hi] at hinfo
  simp at hinfo
  obtain ⟨hl, hc⟩ := hr
  by_cases hm : m = 0
  · subst hm
    have hy : ys = [] := List.eq_nil_of_length_eq_zero (by rw [hl]; simp)
    subst hy
    refine ⟨some p, 0, w, ?_, ⟨by simp, fun h => absurd h (by omega)⟩, .inl ⟨rfl, rfl⟩, Nat.le_refl _, Below.refl _ _⟩
    rcases A with _ | ad
    · simp [Builtin.append_, run_underlying ht, sizeOf, typeInfo, hi, Builtin.lenOf, Builtin.firstCells, loadCells, loadCellsFrom, storeCells, hnil rfl]
    · simp [Builtin.append_, run_underlying ht, sizeOf, typeInfo, hi, Builtin.lenOf, Builtin.firstCells, loadCells, loadCellsFrom, storeCells]
  · obtain ⟨b, off, rfl, h5⟩ := hc (by omega)
    have hnews : ∀ j u, ys[j]? = some u → w.cell? ((⟨b, off, none⟩ : Addr).add j) = some u := fun j u hj => by rw [addr_plus]; exact h5 j u hj
    have hrun := run_append_grow (P := P) w t ty e i z ht hi hz p 0 0 [] (by simp) (fun j u hj => by simp at hj) ⟨b, off, none⟩ m c ys (by rw [hl, hinfo.1]) hnews (by omega) (by unfold maxLen at hmx; omega) (growslice_fits (by unfold maxLen at hmx; omega) (by rw [hinfo.2, Nat.zero_add]; exact hby))
    rw [Nat.zero_add] at hrun
    refine ⟨_, _, _, hrun, ⟨hl, fun _ => ⟨_, _, rfl, fun j u hj => ?_⟩⟩, .inr ⟨rfl, ?_, _, heap_alloc_new w.drew _⟩, ?_, ?_⟩
    · have hg : (w.drew.alloc (.cells (#[] ++ ys.toArray ++ Builtin.zeroCells z.cells (grownCap w m 0 e - m)) e)).heap[w.heap.size]? = some (.cells (#[] ++ ys.toArray ++ Builtin.zeroCells z.cells (grownCap w m 0 e - m)) e (0, 0)) := heap_alloc_new w.drew _
      rw [Nat.zero_add, cell_of_row _ _ j _ e (0, 0) hg]
      have hlt : j < ys.length := by
        rcases Nat.lt_or_ge j ys.length with h' | h'
        · exact h'
        · rw [List.getElem?_eq_none h'] at hj; cases hj
      have e1 : #[] ++ ys.toArray = ys.toArray := by simp
      rw [e1, Array.getElem?_append_left (by simpa using hlt)]
      simpa using hj
    · rw [World.size_alloc]; exact Nat.lt_succ_self _
    · have := grownCap_ge w m 0 e; omega
    · exact ((Below.refl _ w).drew).alloc (Nat.le_refl _) _
theorem wpList_append_empty {P : Program} {t e : TypeId} {size bytes : Nat} (E : ElemT P t e size bytes) {w : World} {ops : Array Oper} {rest : List Oper} {o : Oper} {a : Act} {Q : Exit → Act → World → Prop} (hgd : o.guard = none) (s x : Operand)
    (ho : o.op = .call { callee := .builtin .append, args := #[s, x], argTypes := #[t, t] })
    (p : Addr) (hs : a.eval s = .slice (some p) 0 0)
    (A : Option Addr) (m c : Nat) (ys : List Value) (hx : a.eval x = .slice A m c) (hr : Rdv w A m size ys) (hnil : A = none → c = 0) (hmx : m ≤ maxLen) (hby : m * bytes ≤ 140737488355328)
    (h : ∀ A' c' w', Rdv w' A' m size ys → ((A' = some p ∧ m = 0) ∨ (A' = some ⟨w.heap.size, 0, none⟩ ∧ w.heap.size < w'.heap.size ∧ ∃ cs, w'.heap[w.heap.size]? = some (.cells cs e (0, 0)))) → m ≤ c' → Below w.heap.size w w' → wpList P ops Q rest (a.put o.dst (.slice A' m c')) w') : wpList P ops Q (o :: rest) a w := by
  obtain ⟨A', c', w', hrun, h2, h3, h4, h5⟩ := run_append_empty E w o.type p A m c ys hr hnil hmx hby
  refine wpList_plain hgd fun K hK => ?_
  have h6 := h A' c' w' h2 h3 h4 h5
  unfold Oper.wp
  simp [execOp, ho, resolve, invoke, builtin, hs, hx, hrun, Result.andThen]
  exact hK _ _ h6

theorem eql_nil (w : World) (a : Option Addr) (n c : Nat) (b : Bool) (hb : a.isNone = b) : Sem.run Try.prog (binOp .eql 51 (.slice a n c) (.slice none 0 0)) w = .ok (.bool b) w := by
  rw [← hb]
  exact Go.Lib.run_eql_slice_nil w 51 5 a n c 0 0 Try.underlying51
/-- Where a new slice lies. -/
def NewAt (w w' : World) (A : Option Addr) (n c : Nat) : Prop := (A = none ∧ n = 0 ∧ c = 0) ∨ ∃ b, A = some ⟨b, 0, none⟩ ∧ w.heap.size ≤ b ∧ b < w'.heap.size ∧ n ≤ c ∧ (0 < n → ∃ cs, w'.heap[b]? = some (.cells cs 5 (0, 0)))
set_option maxHeartbeats 400000 in
theorem clone_any (A : Option Addr) (n c : Nat) (ys : List Nat) (w : World) (hr : Rdv w A n 1 (valsB ys)) (hnil : A = none → c = 0 ∧ n = 0) (hn : n ≤ 140737488355328) :
    Calls Try.prog 137 #[.slice A n c] w fun e w' => ∃ v, e = .returned v ∧ ∃ A' c', v = .slice A' n c' ∧ Rdv w' A' n 1 (valsB ys) ∧ NewAt w w' A' n c' ∧ Below w.heap.size w w' := by
  rcases A with _ | p
  · obtain ⟨rfl, rfl⟩ := hnil rfl
    have HR := Lib.hid hr
    have e1 := eql_nil w none 0 0 true rfl
    clear hr
    go_enter Try.func137, Try.ntmps137
    go_wp2_with fail
    go_ret
    exact ⟨_, rfl, none, 0, rfl, HR.out, .inl ⟨rfl, rfl, rfl⟩, Below.refl _ _⟩
  · have hb : Below w.heap.size w (w.alloc (.cells #[] 5)) := (Below.refl _ w).alloc (Nat.le_refl _) _
    have HR := Lib.hid (hr.ext (stays_b hb))
    have HB := Lib.hid hb
    have e1 := eql_nil w (some p) n c false rfl
    clear hr hb
    go_enter Try.func137, Try.ntmps137
    go_wp2_with (at_builtin; refine wpList_append_empty elemB rfl (.tmp 5) (.tmp 6) rfl ⟨w.heap.size, 0, none⟩ rfl (some p) n c (valsB ys) rfl HR.out (fun h => by cases h) (by unfold maxLen; omega) (by omega) ?_; intro A' c' w' h1 h2 h3 h4)
    have HE := Lib.hid (HB.out.trans (h4.mono HB.out.size))
    have hsz := h4.size
    rw [World.size_alloc] at h2 hsz
    have hN : NewAt w w' A' n c' := .inr (by
      rcases h2 with ⟨h2, h0⟩ | ⟨h2, h5, h6⟩
      · exact ⟨w.heap.size, h2, Nat.le_refl _, hsz, h3, fun h => absurd h (by omega)⟩
      · exact ⟨w.heap.size + 1, h2, Nat.le_succ _, h5, h3, fun _ => h6⟩)
    have HN := Lib.hid hN
    clear hN
    have H1 := Lib.hid h1
    clear h1 h4 h2 hsz
    go_wp2_with fail
    go_ret
    exact ⟨_, rfl, A', c', rfl, H1.out, HN.out, HE.out⟩

set_option maxHeartbeats 400000 in
theorem out_any (B g : Nat) (v : Value) (xs : List Nat) (w : World) (hw : Wtr w B g v xs) (hn : xs.length ≤ 140737488355328) :
    Calls Try.prog 114 #[.pointer (some ⟨g, 0, none⟩)] w fun e w' => ∃ v, e = .returned v ∧ ∃ A' c', v = .slice A' xs.length c' ∧ Rdv w' A' xs.length 1 (valsB xs) ∧ NewAt w w' A' xs.length c' ∧ Below w.heap.size w w' := by
  have hc := hw.cell
  obtain ⟨A, c, rfl, hr, h1, h2⟩ := rdv_own hw.own
  have hnil : A = none → c = 0 ∧ xs.length = 0 := fun h => ⟨h1 h, by have := h1 h; omega⟩
  have C := clone_any A xs.length c xs w hr hnil hn
  have HC := Lib.hid C
  clear C hr hw h1 h2 hnil
  go_enter Try.func114, Try.ntmps114
  go_wp2_with fail
  refine Calls.mono HC.out ?_
  rintro e w1 ⟨_, rfl, A', c', rfl, h3, h4, h6⟩
  have H3 := Lib.hid h3
  have H4 := Lib.hid h4
  have H6 := Lib.hid h6
  clear h3 h4 h6
  go_wp2_with fail
  go_ret
  exact ⟨_, rfl, A', c', rfl, H3.out, H4.out, H6.out⟩
end Go.Proofs.Ytjmjehhmkjhalaa

/- A reader in memory, and the contracts of its functions. -/
namespace Go.Proofs.Ytjmjehhmkjhalaa
set_option maxRecDepth 100000
open Go.RowKit

/-- Nothing but what a pointer points at is changed, and what is new. -/
structure Only (w w' : World) (V : Value) : Prop where
  os : w'.os = w.os
  tape : w'.tape = w.tape
  output : w'.output = w.output
  size : w.heap.size ≤ w'.heap.size
  block : ∀ k, k < w.heap.size → V ≠ .pointer (some ⟨k, 0, none⟩) → w'.heap[k]? = w.heap[k]?
theorem Only.refl (w : World) (V : Value) : Only w w V := ⟨rfl, rfl, rfl, Nat.le_refl _, fun _ _ _ => rfl⟩
theorem Only.trans {w w1 w2 : World} {V : Value} (h : Only w w1 V) (k : Only w1 w2 V) : Only w w2 V :=
  ⟨k.os.trans h.os, k.tape.trans h.tape, k.output.trans h.output, Nat.le_trans h.size k.size, fun q hq hv => (k.block q (Nat.lt_of_lt_of_le hq h.size) hv).trans (h.block q hq hv)⟩
theorem Only.of_below {w w' : World} {V : Value} (h : Below w.heap.size w w') : Only w w' V := ⟨h.os, h.tape, h.output, h.size, fun k hk _ => h.block k hk⟩
theorem Only.set (w : World) (g o : Nat) (u : Value) : Only w (w.setCell ⟨g, o, none⟩ u) (.pointer (some ⟨g, 0, none⟩)) :=
  ⟨rfl, rfl, rfl, by rw [World.size_setCell]; exact Nat.le_refl _, fun k _ hv => Deep.blk_setCell_other w ⟨g, o, none⟩ u k (fun he => hv (by rw [he]))⟩
/-- A slice that lies somewhere above, but not in a block. -/
def Lies (w : World) (B : Nat → Prop) (g : Nat) (A : Option Addr) (n c : Nat) : Prop := (A = none ∧ n = 0 ∧ c = 0) ∨ ∃ b off, A = some ⟨b, off, none⟩ ∧ B b ∧ b ≠ g ∧ b < w.heap.size ∧ n ≤ c
/-- A reader of its own bytes; a nil one is bad. -/
inductive Rdr (w : World) (B : Nat → Prop) : Value → List Nat → Bool → Prop
  | none : Rdr w B (.pointer none) [] true
  | some (g : Nat) (A : Option Addr) (n c : Nat) (bs : List Nat) (bad : Bool) (low : B g) (block : w.heap[g]? = some (.cells #[.slice A n c, .bool bad] 237 (0, 0))) (row : Rdv w A n 1 (valsB bs)) (lies : Lies w B g A n c) (hbad : bad = true → bs = []) (small : ∀ x ∈ bs, x < 256) (len : n ≤ 140737488355328) : Rdr w B (.pointer (some ⟨g, 0, none⟩)) bs bad
theorem Rdr.small' {w : World} {B : Nat → Prop} {V : Value} {bs : List Nat} {bad : Bool} (h : Rdr w B V bs bad) : ∀ x ∈ bs, x < 256 := by
  cases h with
  | none => intro x hx; cases hx
  | some _ _ _ _ _ _ _ _ _ _ _ s => exact s
theorem Rdr.empty {w : World} {B : Nat → Prop} {V : Value} {bs : List Nat} (h : Rdr w B V bs true) : bs = [] := by
  cases h with
  | none => rfl
  | some _ _ _ _ _ _ _ _ _ _ hb => exact hb rfl
theorem Rdr.low' {w : World} {B : Nat → Prop} {V : Value} {bs : List Nat} {bad : Bool} (h : Rdr w B V bs bad) : ∀ k, V = .pointer (Option.some ⟨k, 0, Option.none⟩) → B k := by
  cases h with
  | none => intro k hk; cases hk
  | some _ _ _ _ _ _ low => intro k hk; injection hk with hk; injection hk with hk; injection hk with hk; rw [← hk]; exact low
theorem Rdr.only {w w' : World} {B : Nat → Prop} {V : Value} {bs : List Nat} {bad : Bool} (h : Rdr w B V bs bad) (k : Only w w' V) {M : Nat} (hM : ∀ j, B j → M ≤ j) (hB : M ≤ w.heap.size) : Below M w w' :=
  ⟨k.os, k.tape, k.output, k.size, fun q hq => k.block q (by omega) (fun he => by have := hM q (h.low' q he); omega)⟩
/-- A reader stands where its block and its row stand. -/
theorem Rdr.stays {w w' : World} {B : Nat → Prop} {V : Value} {bs : List Nat} {bad : Bool} (h : Rdr w B V bs bad) (hs : w.heap.size ≤ w'.heap.size) (hk : ∀ k, k < w.heap.size → B k → w'.heap[k]? = w.heap[k]?) : Rdr w' B V bs bad := by
  cases h with
  | none => exact .none
  | some g A n c bs bad low block row lies hbad small len =>
    refine .some g A n c bs bad low ((hk g (Array.getElem?_eq_some_iff.1 block).1 low).trans block) ?_ ?_ hbad small len
    · refine ⟨row.1, fun hn => ?_⟩
      obtain ⟨b, off, e, hc⟩ := row.2 hn
      rcases lies with ⟨_, h0, _⟩ | ⟨b', off', e', h1, h2, h3, h4⟩
      · omega
      · rw [e] at e'
        injection e' with e'
        injection e' with e1 e2 e3
        subst e1
        refine ⟨b, off, e, fun j u hj => ?_⟩
        rw [← hc j u hj]
        exact World.cell?_of_block (hk b h3 h1)
    · rcases lies with h0 | ⟨b, off, e, h1, h2, h3, h4⟩
      · exact .inl h0
      · exact .inr ⟨b, off, e, h1, h2, Nat.lt_of_lt_of_le h3 hs, h4⟩

set_option maxHeartbeats 400000 in
theorem isBad_any (B : Nat → Prop) (V : Value) (bs : List Nat) (bad : Bool) (w : World) (h : Rdr w B V bs bad) :
    Calls Try.prog 148 #[V] w fun e w' => e = .returned (.bool bad) ∧ w = w' := by
  cases h with
  | none =>
    go_enter Try.func148, Try.ntmps148
    go_wp2_with fail
    go_ret
    exact ⟨rfl, rfl⟩
  | some g A n c bs bad low block row lies hbad small len =>
    have c1 : w.cell? ⟨g, 1, none⟩ = some (.bool bad) := cell_of_row w g 1 _ 237 (0, 0) block
    clear low block row lies hbad small len
    go_enter Try.func148, Try.ntmps148
    go_wp2_with fail
    go_ret
    exact ⟨rfl, rfl⟩
set_option maxHeartbeats 400000 in
theorem spoil_any (B : Nat → Prop) (V : Value) (bs : List Nat) (bad : Bool) (w : World) (h : Rdr w B V bs bad) :
    Calls Try.prog 147 #[V] w fun e w' => e = .returned (.tuple #[]) ∧ Rdr w' B V [] true ∧ Only w w' V := by
  cases h with
  | none =>
    go_enter Try.func147, Try.ntmps147
    go_wp2_with fail
    exact bodyPost_end (v := .tuple #[]) (by simp [results, Try.results147, go_sem]) rfl ⟨rfl, .none, Only.refl _ _⟩
  | some g A n c bs bad low block row lies hbad small len =>
    have c1 : w.cell? ⟨g, 1, none⟩ = some (.bool bad) := cell_of_row w g 1 _ 237 (0, 0) block
    have c0 : w.cell? ⟨g, 0, none⟩ = some (.slice A n c) := cell_of_row w g 0 _ 237 (0, 0) block
    have f1 : ∀ o, w.frozen? ⟨g, o, none⟩ = false := fun o => by simp [World.frozen?, block]
    have f10 := f1 0
    have f11 := f1 1
    have HB := Lib.hid block
    clear block row lies hbad small len f1
    go_enter Try.func147, Try.ntmps147
    go_wp2_with fail
    refine bodyPost_end (v := .tuple #[]) (by simp [results, Try.results147, go_sem]) rfl ⟨rfl, ?_, (Only.set _ _ _ _).trans (Only.set _ _ _ _)⟩
    have hb := HB.out
    refine .some g none 0 0 [] true low ?_ ⟨rfl, fun h => absurd h (by omega)⟩ (.inl ⟨rfl, rfl, rfl⟩) (fun _ => rfl) (fun x hx => by cases hx) (by omega)
    simp [World.setCell, Array.getElem?_modify, hb]
end Go.Proofs.Ytjmjehhmkjhalaa
