/- WCount, WNum, WOut: put together. -/
import Derived.Test.YtejpjbmbcdgomaaPt21
import Derived.Laws.BitsAllLaws
import Derived.Laws.Bits64b
import Derived.Lib.Zigzag
import Derived.Laws.Bits64
import Derived.Lib.SliceRun
/- The contracts of a writer's Count, Num, Byte, Flag. -/
namespace Go.Proofs.Ytejpjbmbcdgomaa
set_option maxRecDepth 100000
open Go.RowKit

/-- What a call of a writer leaves: its bytes, and what else may be changed. -/
structure Wrote (w w' : World) (B g : Nat) (v v' : Value) (xs : List Nat) : Prop where
  wtr : Wtr w' B g v' xs
  touch : Touch w w' g v.ownBlock
  row : v'.ownBlock = v.ownBlock ∨ ∃ k, v'.ownBlock = some k ∧ w.heap.size ≤ k
theorem Wrote.refl {w : World} {B g : Nat} {v : Value} {xs : List Nat} (h : Wtr w B g v xs) : Wrote w w B g v v xs := ⟨h, ⟨rfl, rfl, rfl, Nat.le_refl _, fun _ _ _ _ => rfl⟩, .inl rfl⟩
theorem Wrote.trans {w w1 w2 : World} {B g : Nat} {v v1 v2 : Value} {xs ys : List Nat} (h : Wrote w w1 B g v v1 xs) (k : Wrote w1 w2 B g v1 v2 ys) : Wrote w w2 B g v v2 ys := by
  refine ⟨k.wtr, ⟨k.touch.os.trans h.touch.os, k.touch.tape.trans h.touch.tape, k.touch.output.trans h.touch.output, Nat.le_trans h.touch.size k.touch.size, fun q hq hg hr => ?_⟩, ?_⟩
  · refine (k.touch.block q (Nat.lt_of_lt_of_le hq h.touch.size) hg (fun he => ?_)).trans (h.touch.block q hq hg hr)
    rcases h.row with h1 | ⟨j, h1, h2⟩
    · exact hr (h1.symm.trans he)
    · rw [h1] at he
      injection he with he
      omega
  · rcases k.row with k1 | ⟨j, k1, k2⟩
    · rcases h.row with h1 | ⟨i, h1, h2⟩
      · exact .inl (k1.trans h1)
      · exact .inr ⟨i, k1.trans h1, h2⟩
    · exact .inr ⟨j, k1, Nat.le_trans h.touch.size k2⟩
/-- An alloc beside a writer. -/
theorem Wtr.alloc {w : World} {B g : Nat} {v : Value} {xs : List Nat} (h : Wtr w B g v xs) (o : Obj) : Wtr (w.alloc o) B g v xs :=
  ⟨h.low, (heap_alloc_old w o h.lt).trans h.block, row_stays h.own (fun k hk => heap_alloc_old w o (h.own.lt k hk).2)⟩
theorem Wrote.after_alloc {w w' : World} {B g : Nat} {v v' : Value} {xs : List Nat} {o : Obj} (h : Wrote (w.alloc o) w' B g v v' xs) : Wrote w w' B g v v' xs := by
  refine ⟨h.wtr, ⟨h.touch.os, h.touch.tape, h.touch.output, by have := h.touch.size; rw [World.size_alloc] at this; omega, fun k hk h1 h2 => (h.touch.block k (by rw [World.size_alloc]; omega) h1 h2).trans (heap_alloc_old w o hk)⟩, ?_⟩
  rcases h.row with h1 | ⟨k, h1, h2⟩
  · exact .inl h1
  · exact .inr ⟨k, h1, by rw [World.size_alloc] at h2; omega⟩
theorem rdv_one (w : World) (x : Nat) : Rdv (w.alloc (.cells #[.int .u8 (x : Int)] 5)) (some ⟨w.heap.size, 0, none⟩) 1 1 (valsB [x]) := by
  refine ⟨rfl, fun _ => ⟨_, 0, rfl, fun j u hj => ?_⟩⟩
  have hj0 : j = 0 := by
    rcases Nat.eq_zero_or_pos j with h | h
    · exact h
    · rw [List.getElem?_eq_none (by simp [valsB]; omega)] at hj; cases hj
  subst hj0
  rw [cell_of_row _ _ _ _ 5 (0, 0) (heap_alloc_new w _), ← hj]
  rfl
/-- One byte more. -/
theorem put_one (B g : Nat) (v : Value) (xs : List Nat) (x : Nat) (w : World) (hw : Wtr w B g v xs) (hmx : xs.length + 1 ≤ 17592186044416) :
    Calls Try.prog 99 #[.pointer (some ⟨g, 0, none⟩), .slice (some ⟨w.heap.size, 0, none⟩) 1 1] (w.alloc (.cells #[.int .u8 (x : Int)] 5)) fun e w' => e = .returned (.tuple #[]) ∧ ∃ v', Wrote w w' B g v v' (xs ++ [x]) :=
  (put_any B g v xs _ 1 1 [x] _ (hw.alloc _) (rdv_one w x) (fun h => by cases h) hmx).mono fun _ _ ⟨h1, v', h2, h3, h4⟩ => ⟨h1, v', Wrote.after_alloc ⟨h2, h3, h4.imp id fun h => ⟨_, h, Nat.le_refl _⟩⟩⟩

/-- The bytes of a count: all but the last, and all. -/
def preN (n k : Nat) : List Nat := (List.range k).map fun i => n / 128 ^ i % 128 + 128
def cntN (n : Nat) : List Nat := preN n (sizeN n - 1) ++ [n / 128 ^ (sizeN n - 1) % 256]
theorem preN_succ (n k : Nat) : preN n (k + 1) = preN n k ++ [n / 128 ^ k % 128 + 128] := by simp [preN, List.range_succ]
theorem preN_length (n k : Nat) : (preN n k).length = k := by simp [preN]
theorem or_mark (x : Nat) : bits BinOp.or IntKind.u8 ((x : Int) % 256) 128 = ((x % 128 + 128 : Nat) : Int) := by
  have e : (x : Int) % 256 = ((x % 256 : Nat) : Int) := rfl
  have key : ∀ y : Fin 256, bits BinOp.or IntKind.u8 (y.val : Int) 128 = ((y.val % 128 + 128 : Nat) : Int) := by decide +kernel
  rw [e, key ⟨x % 256, by omega⟩]
  congr 1
  show x % 256 % 128 + 128 = x % 128 + 128
  omega

set_option maxHeartbeats 1000000 in
theorem count_any (B g : Nat) (v : Value) (xs : List Nat) (n : Nat) (hn : n < 18446744073709551616) (w : World) (hw : Wtr w B g v xs) (hmx : xs.length ≤ 8796093022208) :
    Calls Try.prog 71 #[.pointer (some ⟨g, 0, none⟩), .int .u64 (n : Int)] w fun e w' => e = .returned (.tuple #[]) ∧ ∃ v', Wrote w w' B g v v' (xs ++ cntN n) := by
  have S := size_any n hn w
  have hl := Lib.bitLen_le n 64 (Nat.le_refl _) hn
  have hs1 : 1 ≤ sizeN n := by unfold sizeN; omega
  have hs2 : sizeN n ≤ 10 := by unfold sizeN; omega
  have hc : cntN n = preN n (sizeN n - 1) ++ [n / 128 ^ (sizeN n - 1) % 256] := rfl
  obtain ⟨s, hs⟩ : ∃ s, s = sizeN n - 1 := ⟨_, rfl⟩
  have hsn : (sizeN n : Int) - 1 = (s : Int) := by omega
  rw [← hs] at hc
  rw [hc]
  obtain ⟨z, hz⟩ : ∃ z, z = sizeN n := ⟨_, rfl⟩
  rw [← hz] at S hsn
  have HS := Lib.hid S
  have HW := Lib.hid (Wrote.refl hw)
  have hs10 : s ≤ 9 := by omega
  clear S hl hs1 hs2 hs hz hw hc
  go_enter Try.func71, Try.ntmps71
  go_wp2_with fail
  refine Calls.mono HS.out ?_
  rintro e w1 ⟨rfl, rfl⟩
  go_wp2_with fail
  go_loopw [1, 7] (fun x i wr => ∃ (k : Nat) (v' : Value), x = .int .u64 ((n / 128 ^ k : Nat) : Int) ∧ i = .int .i64 (k : Int) ∧ k ≤ s ∧ Wrote w wr B g v v' (xs ++ preN n k)) (fun _ i _ => s - (intOf i).toNat)
  case atStart => exact ⟨0, v, by simp, rfl, by omega, by rw [show preN n 0 = [] from rfl, List.append_nil]; exact HW.out⟩
  case round =>
    obtain ⟨k, v', rfl, rfl, hk, hwr⟩ := hrel
    have hpl : (preN n k).length = k := preN_length n k
    obtain ⟨N, hN⟩ : ∃ N, N = n / 128 ^ k := ⟨_, rfl⟩
    have hsucc := preN_succ n k
    have hdiv : n / 128 ^ (k + 1) = N / 128 := by rw [hN, Nat.pow_succ, Nat.div_div_eq_div_mul]
    rw [← hN] at hsucc ⊢
    by_cases hlt : k < s
    · have e1 := or_mark N
      obtain ⟨X, hX⟩ : ∃ X, X = N % 128 + 128 := ⟨_, rfl⟩
      rw [← hX] at e1 hsucc
      have e2 : (N : Int) / 128 = ((N / 128 : Nat) : Int) := rfl
      obtain ⟨M, hM⟩ : ∃ M, M = N / 128 := ⟨_, rfl⟩
      rw [← hM] at e2 hdiv
      have HP := Lib.hid (put_one B g v' (xs ++ preN n k) X wr hwr.wtr (by rw [List.length_append, hpl]; omega))
      have HR := Lib.hid hwr
      have HSU := Lib.hid hsucc
      have HDI := Lib.hid hdiv
      clear hwr hX hM hN hsucc hdiv hpl HW
      go_wp2_with fail
      refine Calls.mono HP.out ?_
      rintro e w2 ⟨rfl, v2, hw2⟩
      have HR2 := Lib.hid (HR.out.trans hw2)
      clear hw2
      go_wp2_with fail
      go_roundw
      case rel => exact ⟨k + 1, v2, by rw [HDI.out], by go_num, by omega, by rw [HSU.out, ← List.append_assoc]; exact HR2.out⟩
      case measure => simp [intOf]; omega
    · obtain rfl : k = s := by omega
      have e1 : (N : Int) % 256 = ((N % 256 : Nat) : Int) := rfl
      obtain ⟨X, hX⟩ : ∃ X, X = N % 256 := ⟨_, rfl⟩
      rw [← hX] at e1
      have HP := Lib.hid (put_one B g v' (xs ++ preN n k) X wr hwr.wtr (by rw [List.length_append, hpl]; omega))
      have HR := Lib.hid hwr
      have HXX := Lib.hid hX
      have HNN := Lib.hid hN
      clear hwr hX hN hsucc hdiv hpl HW
      go_wp2_with fail
      refine Calls.mono HP.out ?_
      rintro e w2 ⟨rfl, v2, hw2⟩
      have HR2 := Lib.hid (HR.out.trans hw2)
      clear hw2
      go_wp2_with fail
      refine bodyPost_end (v := .tuple #[]) (by simp [results, Try.results71, go_sem]) rfl ⟨rfl, v2, ?_⟩
      have h := HR2.out
      rw [HXX.out, HNN.out, List.append_assoc] at h
      exact h
end Go.Proofs.Ytejpjbmbcdgomaa

/- The contracts of a writer's Num, Byte, Flag, Out; and the new writer. -/
namespace Go.Proofs.Ytejpjbmbcdgomaa
set_option maxRecDepth 100000
open Go.RowKit

/-- A number, folded. -/
def foldN (z : Int) : Nat := if z < 0 then (2 * (-(z + 1)) + 1).toNat else (2 * z).toNat
def Fits (z : Int) : Prop := -9223372036854775808 ≤ z ∧ z ≤ 9223372036854775807
theorem foldN_lt {z : Int} (h : Fits z) : foldN z < 18446744073709551616 := by unfold foldN; unfold Fits at h; split <;> omega

theorem fold_bits {z : Int} (h : Fits z) : bits BinOp.xor IntKind.u64 (IntKind.u64.wrap (IntKind.u64.wrap z * 2)) (IntKind.u64.wrap (z / 9223372036854775808)) = ((foldN z : Nat) : Int) := by
  unfold Fits at h
  rw [IntKind.wrap_u64, IntKind.wrap_u64, IntKind.wrap_u64]
  by_cases h0 : z < 0
  · have e1 : z % 18446744073709551616 * 2 % 18446744073709551616 = ((2 * z + 18446744073709551616).toNat : Int) := by omega
    have e2 : z / 9223372036854775808 % 18446744073709551616 = ((18446744073709551615 : Nat) : Int) := by omega
    obtain ⟨a, ha⟩ : ∃ a, a = (2 * z + 18446744073709551616).toNat := ⟨_, rfl⟩
    rw [← ha] at e1
    rw [e1, e2, bits_xor_u64_nat a 18446744073709551615 (by omega) (by omega)]
    have hx : a ^^^ 18446744073709551615 = 18446744073709551615 - a := by
      rw [Nat.xor_comm]
      exact Go.Lib.xor_ones64 a (by omega)
    rw [hx]
    unfold foldN
    rw [if_pos h0]
    omega
  · have e1 : z % 18446744073709551616 * 2 % 18446744073709551616 = ((2 * z).toNat : Int) := by omega
    have e2 : z / 9223372036854775808 % 18446744073709551616 = ((0 : Nat) : Int) := by omega
    obtain ⟨a, ha⟩ : ∃ a, a = (2 * z).toNat := ⟨_, rfl⟩
    rw [← ha] at e1
    rw [e1, e2, bits_xor_u64_nat a 0 (by omega) (by omega), Nat.xor_zero]
    unfold foldN
    rw [if_neg h0, ha]

set_option maxHeartbeats 400000 in
theorem num_any (B g : Nat) (v : Value) (xs : List Nat) (z : Int) (hz : Fits z) (w : World) (hw : Wtr w B g v xs) (hmx : xs.length ≤ 8796093022208) :
    Calls Try.prog 73 #[.pointer (some ⟨g, 0, none⟩), .int .i64 z] w fun e w' => e = .returned (.tuple #[]) ∧ ∃ v', Wrote w w' B g v v' (xs ++ cntN (foldN z)) := by
  have C := count_any B g v xs (foldN z) (foldN_lt hz) w hw hmx
  have HC := Lib.hid C
  have hf := fold_bits hz
  clear C hw hmx hz
  go_enter Try.func73, Try.ntmps73
  go_wp2_with fail
  refine Calls.mono HC.out ?_
  rintro e w1 ⟨rfl, v', hw'⟩
  have HW := Lib.hid hw'
  clear hw'
  go_wp2_with fail
  exact bodyPost_end (v := .tuple #[]) (by simp [results, Try.results73, go_sem]) rfl ⟨rfl, v', HW.out⟩
set_option maxHeartbeats 400000 in
theorem byte_any (B g : Nat) (v : Value) (xs : List Nat) (x : Nat) (w : World) (hw : Wtr w B g v xs) (hmx : xs.length ≤ 8796093022208) :
    Calls Try.prog 74 #[.pointer (some ⟨g, 0, none⟩), .int .u8 (x : Int)] w fun e w' => e = .returned (.tuple #[]) ∧ ∃ v', Wrote w w' B g v v' (xs ++ [x]) := by
  have HP := Lib.hid (put_one B g v xs x w hw (by omega))
  clear hw hmx
  go_enter Try.func74, Try.ntmps74
  go_wp2_with fail
  refine Calls.mono HP.out ?_
  rintro e w1 ⟨rfl, v', hw'⟩
  have HW := Lib.hid hw'
  clear hw'
  go_wp2_with fail
  exact bodyPost_end (v := .tuple #[]) (by simp [results, Try.results74, go_sem]) rfl ⟨rfl, v', HW.out⟩
def flagN (f : Bool) : Nat := if f then 1 else 0
end Go.Proofs.Ytejpjbmbcdgomaa

/- The contracts of slices.Clone, and of a writer's Out. -/
namespace Go.Proofs.Ytejpjbmbcdgomaa
set_option maxRecDepth 100000
open Go.RowKit

theorem stays_b {w w' : World} (h : Below w.heap.size w w') : ∀ p : Addr, p.block < w.heap.size → w'.cell? p = w.cell? p := fun _ hp => h.cell hp
theorem run_append_empty {P : Program} {t e : TypeId} {size bytes : Nat} (E : ElemT P t e size bytes) (w : World) (ty : TypeId) (p : Addr)
    (A : Option Addr) (m c : Nat) (ys : List Value) (hr : Rdv w A m size ys) (hnil : A = none → c = 0) (hmx : m ≤ maxLen) (hby : m * bytes ≤ 140737488355328) :
    ∃ A' c' w', (Builtin.append_ #[t, t] ty #[.slice (some p) 0 0, .slice A m c]).run P w = .ok (.slice A' m c') w' ∧ Rdv w' A' m size ys ∧ ((A' = some p ∧ m = 0) ∨ (A' = some ⟨w.heap.size, 0, none⟩ ∧ w.heap.size < w'.heap.size ∧ ∃ cs, w'.heap[w.heap.size]? = some (.cells cs e (0, 0)))) ∧ m ≤ c' ∧ Below w.heap.size w w' := by
  obtain ⟨ht, hinfo, ⟨i, z, hi, hz, hzs⟩, hpos⟩ := E
  rw [hi] at hinfo
  simp at hinfo
  obtain ⟨hl, hc⟩ := hr
  by_cases hm : m = 0
  · subst hm
    have hy : ys = [] := List.eq_nil_of_length_eq_zero (by rw [hl]; simp)
    subst hy
    refine ⟨some p, 0, w, ?_, ⟨by simp, fun h => absurd h (by omega)⟩, .inl ⟨rfl, rfl⟩, Nat.le_refl _, Below.refl _ _⟩
    rcases A with _ | ad
    · simp [Builtin.append_, run_underlying ht, sizeOf, typeInfo, hi, Builtin.lenOf, Builtin.firstCells, loadCells, loadCellsFrom, storeCells, hnil rfl]
    · simp [Builtin.append_, run_underlying ht, sizeOf, typeInfo, hi, Builtin.lenOf, Builtin.firstCells, loadCells, loadCellsFrom, storeCells]
  · obtain ⟨b, off, rfl, h5⟩ := hc (by omega)
    have hnews : ∀ j u, ys[j]? = some u → w.cell? ((⟨b, off, none⟩ : Addr).add j) = some u := fun j u hj => by rw [addr_plus]; exact h5 j u hj
    have hrun := run_append_grow (P := P) w t ty e i z ht hi hz p 0 0 [] (by simp) (fun j u hj => by simp at hj) ⟨b, off, none⟩ m c ys (by rw [hl, hinfo.1]) hnews (by omega) (by unfold maxLen at hmx; omega) (growslice_fits (by unfold maxLen at hmx; omega) (by rw [hinfo.2, Nat.zero_add]; exact hby))
    rw [Nat.zero_add] at hrun
    refine ⟨_, _, _, hrun, ⟨hl, fun _ => ⟨_, _, rfl, fun j u hj => ?_⟩⟩, .inr ⟨rfl, ?_, _, heap_alloc_new w.drew _⟩, ?_, ?_⟩
    · have hg : (w.drew.alloc (.cells (#[] ++ ys.toArray ++ Builtin.zeroCells z.cells (grownCap w m 0 e - m)) e)).heap[w.heap.size]? = some (.cells (#[] ++ ys.toArray ++ Builtin.zeroCells z.cells (grownCap w m 0 e - m)) e (0, 0)) := heap_alloc_new w.drew _
      rw [Nat.zero_add, cell_of_row _ _ j _ e (0, 0) hg]
      have hlt : j < ys.length := by
        rcases Nat.lt_or_ge j ys.length with h' | h'
        · exact h'
        · rw [List.getElem?_eq_none h'] at hj; cases hj
      have e1 : #[] ++ ys.toArray = ys.toArray := by simp
      rw [e1, Array.getElem?_append_left (by simpa using hlt)]
      simpa using hj
    · rw [World.size_alloc]; exact Nat.lt_succ_self _
    · have := grownCap_ge w m 0 e; omega
    · exact ((Below.refl _ w).drew).alloc (Nat.le_refl _) _
theorem wpList_append_empty {P : Program} {t e : TypeId} {size bytes : Nat} (E : ElemT P t e size bytes) {w : World} {ops : Array Oper} {rest : List Oper} {o : Oper} {a : Act} {Q : Exit → Act → World → Prop} (hgd : o.guard = none) (s x : Operand)
    (ho : o.op = .call { callee := .builtin .append, args := #[s, x], argTypes := #[t, t] })
    (p : Addr) (hs : a.eval s = .slice (some p) 0 0)
    (A : Option Addr) (m c : Nat) (ys : List Value) (hx : a.eval x = .slice A m c) (hr : Rdv w A m size ys) (hnil : A = none → c = 0) (hmx : m ≤ maxLen) (hby : m * bytes ≤ 140737488355328)
    (h : ∀ A' c' w', Rdv w' A' m size ys → ((A' = some p ∧ m = 0) ∨ (A' = some ⟨w.heap.size, 0, none⟩ ∧ w.heap.size < w'.heap.size ∧ ∃ cs, w'.heap[w.heap.size]? = some (.cells cs e (0, 0)))) → m ≤ c' → Below w.heap.size w w' → wpList P ops Q rest (a.put o.dst (.slice A' m c')) w') : wpList P ops Q (o :: rest) a w := by
  obtain ⟨A', c', w', hrun, h2, h3, h4, h5⟩ := run_append_empty E w o.type p A m c ys hr hnil hmx hby
  refine wpList_plain hgd fun K hK => ?_
  have h6 := h A' c' w' h2 h3 h4 h5
  unfold Oper.wp
  simp [execOp, ho, resolve, invoke, builtin, hs, hx, hrun, Result.andThen]
  exact hK _ _ h6

theorem eql_nil (w : World) (a : Option Addr) (n c : Nat) (b : Bool) (hb : a.isNone = b) : Sem.run Try.prog (binOp .eql 57 (.slice a n c) (.slice none 0 0)) w = .ok (.bool b) w := by
  rw [← hb]
  exact Go.Lib.run_eql_slice_nil w 57 5 a n c 0 0 Try.underlying57
/-- Where a new slice lies. -/
def NewAt (w w' : World) (A : Option Addr) (n c : Nat) : Prop := (A = none ∧ n = 0 ∧ c = 0) ∨ ∃ b, A = some ⟨b, 0, none⟩ ∧ w.heap.size ≤ b ∧ b < w'.heap.size ∧ n ≤ c ∧ (0 < n → ∃ cs, w'.heap[b]? = some (.cells cs 5 (0, 0)))
set_option maxHeartbeats 400000 in
theorem clone_any (A : Option Addr) (n c : Nat) (ys : List Nat) (w : World) (hr : Rdv w A n 1 (valsB ys)) (hnil : A = none → c = 0 ∧ n = 0) (hn : n ≤ 140737488355328) :
    Calls Try.prog 90 #[.slice A n c] w fun e w' => ∃ v, e = .returned v ∧ ∃ A' c', v = .slice A' n c' ∧ Rdv w' A' n 1 (valsB ys) ∧ NewAt w w' A' n c' ∧ Below w.heap.size w w' := by
  rcases A with _ | p
  · obtain ⟨rfl, rfl⟩ := hnil rfl
    have HR := Lib.hid hr
    have e1 := eql_nil w none 0 0 true rfl
    clear hr
    go_enter Try.func90, Try.ntmps90
    go_wp2_with fail
    go_ret
    exact ⟨_, rfl, none, 0, rfl, HR.out, .inl ⟨rfl, rfl, rfl⟩, Below.refl _ _⟩
  · have hb : Below w.heap.size w (w.alloc (.cells #[] 5)) := (Below.refl _ w).alloc (Nat.le_refl _) _
    have HR := Lib.hid (hr.ext (stays_b hb))
    have HB := Lib.hid hb
    have e1 := eql_nil w (some p) n c false rfl
    clear hr hb
    go_enter Try.func90, Try.ntmps90
    go_wp2_with (at_builtin; refine wpList_append_empty elemB rfl (.tmp 5) (.tmp 6) rfl ⟨w.heap.size, 0, none⟩ rfl (some p) n c (valsB ys) rfl HR.out (fun h => by cases h) (by unfold maxLen; omega) (by omega) ?_; intro A' c' w' h1 h2 h3 h4)
    have HE := Lib.hid (HB.out.trans (h4.mono HB.out.size))
    have hsz := h4.size
    rw [World.size_alloc] at h2 hsz
    have hN : NewAt w w' A' n c' := .inr (by
      rcases h2 with ⟨h2, h0⟩ | ⟨h2, h5, h6⟩
      · exact ⟨w.heap.size, h2, Nat.le_refl _, hsz, h3, fun h => absurd h (by omega)⟩
      · exact ⟨w.heap.size + 1, h2, Nat.le_succ _, h5, h3, fun _ => h6⟩)
    have HN := Lib.hid hN
    clear hN
    have H1 := Lib.hid h1
    clear h1 h4 h2 hsz
    go_wp2_with fail
    go_ret
    exact ⟨_, rfl, A', c', rfl, H1.out, HN.out, HE.out⟩

set_option maxHeartbeats 400000 in
theorem out_any (B g : Nat) (v : Value) (xs : List Nat) (w : World) (hw : Wtr w B g v xs) (hn : xs.length ≤ 140737488355328) :
    Calls Try.prog 75 #[.pointer (some ⟨g, 0, none⟩)] w fun e w' => ∃ v, e = .returned v ∧ ∃ A' c', v = .slice A' xs.length c' ∧ Rdv w' A' xs.length 1 (valsB xs) ∧ NewAt w w' A' xs.length c' ∧ Below w.heap.size w w' := by
  have hc := hw.cell
  obtain ⟨A, c, rfl, hr, h1, h2⟩ := rdv_own hw.own
  have hnil : A = none → c = 0 ∧ xs.length = 0 := fun h => ⟨h1 h, by have := h1 h; omega⟩
  have C := clone_any A xs.length c xs w hr hnil hn
  have HC := Lib.hid C
  clear C hr hw h1 h2 hnil
  go_enter Try.func75, Try.ntmps75
  go_wp2_with fail
  refine Calls.mono HC.out ?_
  rintro e w1 ⟨_, rfl, A', c', rfl, h3, h4, h6⟩
  have H3 := Lib.hid h3
  have H4 := Lib.hid h4
  have H6 := Lib.hid h6
  clear h3 h4 h6
  go_wp2_with fail
  go_ret
  exact ⟨_, rfl, A', c', rfl, H3.out, H4.out, H6.out⟩
end Go.Proofs.Ytejpjbmbcdgomaa
