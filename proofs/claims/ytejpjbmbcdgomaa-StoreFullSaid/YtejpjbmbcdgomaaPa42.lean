/- WNum, WOut: put together. -/
import Derived.Test.YtejpjbmbcdgomaaPa41
import Derived.Lib.Zigzag
import Derived.Laws.Bits64
import Derived.Lib.SliceRun
/- The contracts of a writer's Num, Byte, Flag, Out; and the new writer. -/
namespace Go.Proofs.Ytejpjbmbcdgomaa
set_option maxRecDepth 100000
open Go.RowKit

/-- A number, folded. -/
def foldN (z : Int) : Nat := if z < 0 then (2 * (-(z + 1)) + 1).toNat else (2 * z).toNat
def Fits (z : Int) : Prop := -9223372036854775808 ≤ z ∧ z ≤ 9223372036854775807
theorem foldN_lt {z : Int} (h : Fits z) : foldN z < 18446744073709551616 := by unfold foldN; unfold Fits at h; split <;> omega

theorem fold_bits {z : Int} (h : Fits z) : bits BinOp.xor IntKind.u64 (IntKind.u64.wrap (IntKind.u64.wrap z * 2)) (IntKind.u64.wrap (z / 9223372036854775808)) = ((foldN z : Nat) : Int) := by
  unfold Fits at h
  rw [IntKind.wrap_u64, IntKind.wrap_u64, IntKind.wrap_u64]
  by_cases h0 : z < 0
  · have e1 : z % 18446744073709551616 * 2 % 18446744073709551616 = ((2 * z + 18446744073709551616).toNat : Int) := by omega
    have e2 : z / 9223372036854775808 % 18446744073709551616 = ((18446744073709551615 : Nat) : Int) := by omega
    obtain ⟨a, ha⟩ : ∃ a, a = (2 * z + 18446744073709551616).toNat := ⟨_, rfl⟩
    rw [← ha] at e1
    rw [e1, e2, bits_xor_u64_nat a 18446744073709551615 (by omega) (by omega)]
    have hx : a ^^^ 18446744073709551615 = 18446744073709551615 - a := by
      rw [Nat.xor_comm]
      exact Go.Lib.xor_ones64 a (by omega)
    rw [hx]
    unfold foldN
    rw [if_pos h0]
    omega
  · have e1 : z % 18446744073709551616 * 2 % 18446744073709551616 = ((2 * z).toNat : Int) := by omega
    have e2 : z / 9223372036854775808 % 18446744073709551616 = ((0 : Nat) : Int) := by omega
    obtain ⟨a, ha⟩ : ∃ a, a = (2 * z).toNat := ⟨_, rfl⟩
    rw [← ha] at e1
    rw [e1, e2, bits_xor_u64_nat a 0 (by omega) (by omega), Nat.xor_zero]
    unfold foldN
    rw [if_neg h0, ha]

set_option maxHeartbeats 400000 in
theorem num_any (B g : Nat) (v : Value) (xs : List Nat) (z : Int) (hz : Fits z) (w : World) (hw : Wtr w B g v xs) (hmx : xs.length ≤ 8796093022208) :
    Calls Try.prog 73 #[.pointer (some ⟨g, 0, none⟩), .int .i64 z] w fun e w' => e = .returned (.tuple #[]) ∧ ∃ v', Wrote w w' B g v v' (xs ++ cntN (foldN z)) := by
  have C := count_any B g v xs (foldN z) (foldN_lt hz) w hw hmx
  have HC := Lib.hid C
  have hf := fold_bits hz
  clear C hw hmx hz
  go_enter Try.func73, Try.ntmps73
  go_wp2_with fail
  refine Calls.mono HC.out ?_
  rintro e w1 ⟨rfl, v', hw'⟩
  have HW := Lib.hid hw'
  clear hw'
  go_wp2_with fail
  exact bodyPost_end (v := .tuple #[]) (by simp [results, Try.results73, go_sem]) rfl ⟨rfl, v', HW.out⟩
set_option maxHeartbeats 400000 in
theorem byte_any (B g : Nat) (v : Value) (xs : List Nat) (x : Nat) (w : World) (hw : Wtr w B g v xs) (hmx : xs.length ≤ 8796093022208) :
    Calls Try.prog 74 #[.pointer (some ⟨g, 0, none⟩), .int .u8 (x : Int)] w fun e w' => e = .returned (.tuple #[]) ∧ ∃ v', Wrote w w' B g v v' (xs ++ [x]) := by
  have HP := Lib.hid (put_one B g v xs x w hw (by omega))
  clear hw hmx
  go_enter Try.func74, Try.ntmps74
  go_wp2_with fail
  refine Calls.mono HP.out ?_
  rintro e w1 ⟨rfl, v', hw'⟩
  have HW := Lib.hid hw'
  clear hw'
  go_wp2_with fail
  exact bodyPost_end (v := .tuple #[]) (by simp [results, Try.results74, go_sem]) rfl ⟨rfl, v', HW.out⟩
def flagN (f : Bool) : Nat := if f then 1 else 0
end Go.Proofs.Ytejpjbmbcdgomaa

/- The contracts of slices.Clone, and of a writer's Out. -/
namespace Go.Proofs.Ytejpjbmbcdgomaa
set_option maxRecDepth 100000
open Go.RowKit

theorem stays_b {w w' : World} (h : Below w.heap.size w w') : ∀ p : Addr, p.block < w.heap.size → w'.cell? p = w.cell? p := fun _ hp => h.cell hp
theorem run_append_empty {P : Program} {t e : TypeId} {size bytes : Nat} (E : ElemT P t e size bytes) (w : World) (ty : TypeId) (p : Addr)
    (A : Option Addr) (m c : Nat) (ys : List Value) (hr : Rdv w A m size ys) (hnil : A = none → c = 0) (hmx : m ≤ maxLen) (hby : m * bytes ≤ 140737488355328) :
    ∃ A' c' w', (Builtin.append_ #[t, t] ty #[.slice (some p) 0 0, .slice A m c]).run P w = .ok (.slice A' m c') w' ∧ Rdv w' A' m size ys ∧ ((A' = some p ∧ m = 0) ∨ (A' = some ⟨w.heap.size, 0, none⟩ ∧ w.heap.size < w'.heap.size ∧ ∃ cs, w'.heap[w.heap.size]? = some (.cells cs e (0, 0)))) ∧ m ≤ c' ∧ Below w.heap.size w w' := by
  obtain ⟨ht, hinfo, ⟨i, z, hi, hz, hzs⟩, hpos⟩ := E
  rw [hi] at hinfo
  simp at hinfo
  obtain ⟨hl, hc⟩ := hr
  by_cases hm : m = 0
  · subst hm
    have hy : ys = [] := List.eq_nil_of_length_eq_zero (by rw [hl]; simp)
    subst hy
    refine ⟨some p, 0, w, ?_, ⟨by simp, fun h => absurd h (by omega)⟩, .inl ⟨rfl, rfl⟩, Nat.le_refl _, Below.refl _ _⟩
    rcases A with _ | ad
    · simp [Builtin.append_, run_underlying ht, sizeOf, typeInfo, hi, Builtin.lenOf, Builtin.firstCells, loadCells, loadCellsFrom, storeCells, hnil rfl]
    · simp [Builtin.append_, run_underlying ht, sizeOf, typeInfo, hi, Builtin.lenOf, Builtin.firstCells, loadCells, loadCellsFrom, storeCells]
  · obtain ⟨b, off, rfl, h5⟩ := hc (by omega)
    have hnews : ∀ j u, ys[j]? = some u → w.cell? ((⟨b, off, none⟩ : Addr).add j) = some u := fun j u hj => by rw [addr_plus]; exact h5 j u hj
    have hrun := run_append_grow (P := P) w t ty e i z ht hi hz p 0 0 [] (by simp) (fun j u hj => by simp at hj) ⟨b, off, none⟩ m c ys (by rw [hl, hinfo.1]) hnews (by omega) (by unfold maxLen at hmx; omega) (growslice_fits (by unfold maxLen at hmx; omega) (by rw [hinfo.2, Nat.zero_add]; exact hby))
    rw [Nat.zero_add] at hrun
    refine ⟨_, _, _, hrun, ⟨hl, fun _ => ⟨_, _, rfl, fun j u hj => ?_⟩⟩, .inr ⟨rfl, ?_, _, heap_alloc_new w.drew _⟩, ?_, ?_⟩
    · have hg : (w.drew.alloc (.cells (#[] ++ ys.toArray ++ Builtin.zeroCells z.cells (grownCap w m 0 e - m)) e)).heap[w.heap.size]? = some (.cells (#[] ++ ys.toArray ++ Builtin.zeroCells z.cells (grownCap w m 0 e - m)) e (0, 0)) := heap_alloc_new w.drew _
      rw [Nat.zero_add, cell_of_row _ _ j _ e (0, 0) hg]
      have hlt : j < ys.length := by
        rcases Nat.lt_or_ge j ys.length with h' | h'
        · exact h'
        · rw [List.getElem?_eq_none h'] at hj; cases hj
      have e1 : #[] ++ ys.toArray = ys.toArray := by simp
      rw [e1, Array.getElem?_append_left (by simpa using hlt)]
      simpa using hj
    · rw [World.size_alloc]; exact Nat.lt_succ_self _
    · have := grownCap_ge w m 0 e; omega
    · exact ((Below.refl _ w).drew).alloc (Nat.le_refl _) _
theorem step_append_empty {P : Program} {t e : TypeId} {size bytes : Nat} (E : ElemT P t e size bytes) {w : World} {ops : Array Oper} {o : Oper} {a : Act} {K : Act → World → Prop} {Q : Exit → Act → World → Prop} {F : Prop}
    (hw : Region.wanted o (yielded ops a.tmps) = true) (s x : Operand)
    (ho : o.op = .call { callee := .builtin .append, args := #[s, x], argTypes := #[t, t] })
    (p : Addr) (hs : a.eval s = .slice (some p) 0 0)
    (A : Option Addr) (m c : Nat) (ys : List Value) (hx : a.eval x = .slice A m c) (hr : Rdv w A m size ys) (hnil : A = none → c = 0) (hmx : m ≤ maxLen) (hby : m * bytes ≤ 140737488355328)
    (h : ∀ A' c' w', Rdv w' A' m size ys → ((A' = some p ∧ m = 0) ∨ (A' = some ⟨w.heap.size, 0, none⟩ ∧ w.heap.size < w'.heap.size ∧ ∃ cs, w'.heap[w.heap.size]? = some (.cells cs e (0, 0)))) → m ≤ c' → Below w.heap.size w w' → K (a.put o.dst (.slice A' m c')) w') : if Region.wanted o (yielded ops a.tmps) = true then Oper.wp P o a w K Q else F := by
  rw [if_pos hw]
  obtain ⟨A', c', w', hrun, h2, h3, h4, h5⟩ := run_append_empty E w o.type p A m c ys hr hnil hmx hby
  have h6 := h A' c' w' h2 h3 h4 h5
  unfold Oper.wp
  simp [execOp, ho, resolve, invoke, builtin, hs, hx, hrun, Result.andThen]
  exact h6
theorem wpList_append_empty {P : Program} {t e : TypeId} {size bytes : Nat} (E : ElemT P t e size bytes) {w : World} {ops : Array Oper} {rest : List Oper} {o : Oper} {a : Act} {Q : Exit → Act → World → Prop} (hgd : o.guard = none) (s x : Operand)
    (ho : o.op = .call { callee := .builtin .append, args := #[s, x], argTypes := #[t, t] })
    (p : Addr) (hs : a.eval s = .slice (some p) 0 0)
    (A : Option Addr) (m c : Nat) (ys : List Value) (hx : a.eval x = .slice A m c) (hr : Rdv w A m size ys) (hnil : A = none → c = 0) (hmx : m ≤ maxLen) (hby : m * bytes ≤ 140737488355328)
    (h : ∀ A' c' w', Rdv w' A' m size ys → ((A' = some p ∧ m = 0) ∨ (A' = some ⟨w.heap.size, 0, none⟩ ∧ w.heap.size < w'.heap.size ∧ ∃ cs, w'.heap[w.heap.size]? = some (.cells cs e (0, 0)))) → m ≤ c' → Below w.heap.size w w' → wpList P ops Q rest (a.put o.dst (.slice A' m c')) w') : wpList P ops Q (o :: rest) a w := by
  obtain ⟨A', c', w', hrun, h2, h3, h4, h5⟩ := run_append_empty E w o.type p A m c ys hr hnil hmx hby
  refine wpList_plain hgd fun K hK => ?_
  have h6 := h A' c' w' h2 h3 h4 h5
  unfold Oper.wp
  simp [execOp, ho, resolve, invoke, builtin, hs, hx, hrun, Result.andThen]
  exact hK _ _ h6

theorem eql_nil (w : World) (a : Option Addr) (n c : Nat) (b : Bool) (hb : a.isNone = b) : Sem.run Try.prog (binOp .eql 57 (.slice a n c) (.slice none 0 0)) w = .ok (.bool b) w := by
  rw [← hb]
  exact Go.Lib.run_eql_slice_nil w 57 5 a n c 0 0 Try.underlying57
/-- Where a new slice lies. -/
def NewAt (w w' : World) (A : Option Addr) (n c : Nat) : Prop := (A = none ∧ n = 0 ∧ c = 0) ∨ ∃ b, A = some ⟨b, 0, none⟩ ∧ w.heap.size ≤ b ∧ b < w'.heap.size ∧ n ≤ c ∧ (0 < n → ∃ cs, w'.heap[b]? = some (.cells cs 5 (0, 0)))
set_option maxHeartbeats 400000 in
theorem clone_any (A : Option Addr) (n c : Nat) (ys : List Nat) (w : World) (hr : Rdv w A n 1 (valsB ys)) (hnil : A = none → c = 0 ∧ n = 0) (hn : n ≤ 140737488355328) :
    Calls Try.prog 90 #[.slice A n c] w fun e w' => ∃ v, e = .returned v ∧ ∃ A' c', v = .slice A' n c' ∧ Rdv w' A' n 1 (valsB ys) ∧ NewAt w w' A' n c' ∧ Below w.heap.size w w' := by
  rcases A with _ | p
  · obtain ⟨rfl, rfl⟩ := hnil rfl
    have HR := Lib.hid hr
    have e1 := eql_nil w none 0 0 true rfl
    clear hr
    go_enter Try.func90, Try.ntmps90
    go_wp2_with fail
    go_ret
    exact ⟨_, rfl, none, 0, rfl, HR.out, .inl ⟨rfl, rfl, rfl⟩, Below.refl _ _⟩
  · have hb : Below w.heap.size w (w.alloc (.cells #[] 5)) := (Below.refl _ w).alloc (Nat.le_refl _) _
    have HR := Lib.hid (hr.ext (stays_b hb))
    have HB := Lib.hid hb
    have e1 := eql_nil w (some p) n c false rfl
    clear hr hb
    go_enter Try.func90, Try.ntmps90
    go_wp2_with (at_builtin; refine wpList_append_empty elemB rfl (.tmp 5) (.tmp 6) rfl ⟨w.heap.size, 0, none⟩ rfl (some p) n c (valsB ys) rfl HR.out (fun h => by cases h) (by unfold maxLen; omega) (by omega) ?_; intro A' c' w' h1 h2 h3 h4)
    have HE := Lib.hid (HB.out.trans (h4.mono HB.out.size))
    have hsz := h4.size
    rw [World.size_alloc] at h2 hsz
    have hN : NewAt w w' A' n c' := .inr (by
      rcases h2 with ⟨h2, h0⟩ | ⟨h2, h5, h6⟩
      · exact ⟨w.heap.size, h2, Nat.le_refl _, hsz, h3, fun h => absurd h (by omega)⟩
      · exact ⟨w.heap.size + 1, h2, Nat.le_succ _, h5, h3, fun _ => h6⟩)
    have HN := Lib.hid hN
    clear hN
    have H1 := Lib.hid h1
    clear h1 h4 h2 hsz
    go_wp2_with fail
    go_ret
    exact ⟨_, rfl, A', c', rfl, H1.out, HN.out, HE.out⟩

set_option maxHeartbeats 400000 in
theorem out_any (B g : Nat) (v : Value) (xs : List Nat) (w : World) (hw : Wtr w B g v xs) (hn : xs.length ≤ 140737488355328) :
    Calls Try.prog 75 #[.pointer (some ⟨g, 0, none⟩)] w fun e w' => ∃ v, e = .returned v ∧ ∃ A' c', v = .slice A' xs.length c' ∧ Rdv w' A' xs.length 1 (valsB xs) ∧ NewAt w w' A' xs.length c' ∧ Below w.heap.size w w' := by
  have hc := hw.cell
  obtain ⟨A, c, rfl, hr, h1, h2⟩ := rdv_own hw.own
  have hnil : A = none → c = 0 ∧ xs.length = 0 := fun h => ⟨h1 h, by have := h1 h; omega⟩
  have C := clone_any A xs.length c xs w hr hnil hn
  have HC := Lib.hid C
  clear C hr hw h1 h2 hnil
  go_enter Try.func75, Try.ntmps75
  go_wp2_with fail
  refine Calls.mono HC.out ?_
  rintro e w1 ⟨_, rfl, A', c', rfl, h3, h4, h6⟩
  have H3 := Lib.hid h3
  have H4 := Lib.hid h4
  have H6 := Lib.hid h6
  clear h3 h4 h6
  go_wp2_with fail
  go_ret
  exact ⟨_, rfl, A', c', rfl, H3.out, H4.out, H6.out⟩
end Go.Proofs.Ytejpjbmbcdgomaa
