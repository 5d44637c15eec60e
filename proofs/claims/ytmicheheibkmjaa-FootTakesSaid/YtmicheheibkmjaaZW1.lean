/- Wtr, Size, Count, Num, Out, Rdr, Take, RCount, RNum, Str, Chunk, RefW, Codec, RfMath: put together. -/
import Derived.Test.YtmicheheibkmjaaFRow
import Derived.Test.YtmicheheibkmjaaFKey
import Derived.Deep.Heap
import Derived.Shelf.Strconv.Itoa0
import Derived.Laws.BitsAllLaws
import Derived.Laws.Bits64b
import Derived.Lib.Zigzag
import Derived.Laws.Bits64
import Derived.Lib.SliceRun
import Derived.Laws.BytesArg
import Derived.Lib.ConvBytes
/- A writer in memory, and the contract of its put. -/
namespace Go.Proofs.Ytmicheheibkmjaa
set_option maxRecDepth 100000
open Go.RowKit

theorem elemB : ElemT Try.prog 40 5 1 1 :=
  ⟨Try.underlying40, by kernel_rfl, by
    obtain ⟨i, hi, hz, h1, _⟩ := info_parts (show (Try.prog.info? 5).map (fun i => (i.zero, i.size, i.bytes)) = some (some (.int .u8 0), 1, 1) by kernel_rfl)
    exact ⟨i, _, hi, hz, rfl⟩, by decide⟩
def valsB (xs : List Nat) : List Value := xs.map fun (x : Nat) => Value.int .u8 (x : Int)
theorem valsB_one (xs : List Nat) : ∀ u ∈ valsB xs, u.oneCell' = true := by
  intro u hu
  simp only [valsB, List.mem_map] at hu
  obtain ⟨x, _, rfl⟩ := hu
  rfl
theorem valsB_length (xs : List Nat) : (valsB xs).length = xs.length := by simp [valsB]
theorem valsB_append (xs ys : List Nat) : valsB (xs ++ ys) = valsB xs ++ valsB ys := by simp [valsB]

/-- Nothing but a block and a row is changed, and what is new. -/
structure Touch (w w' : World) (g : Nat) (r : Option Nat) : Prop where
  os : w'.os = w.os
  tape : w'.tape = w.tape
  output : w'.output = w.output
  size : w.heap.size ≤ w'.heap.size
  block : ∀ k, k < w.heap.size → k ≠ g → r ≠ some k → w'.heap[k]? = w.heap[k]?
theorem Touch.below {w w' : World} {g B : Nat} {r : Option Nat} (h : Touch w w' g r) (hg : B ≤ g) (hr : ∀ k, r = some k → B ≤ k) (hB : B ≤ w.heap.size) : Below B w w' :=
  ⟨h.os, h.tape, h.output, h.size, fun k hk => h.block k (by omega) (by omega) (fun e => by have := hr k e; omega)⟩
/-- A block that holds a writer of its own bytes. -/
structure Wtr (w : World) (B g : Nat) (v : Value) (xs : List Nat) : Prop where
  low : B ≤ g
  block : w.heap[g]? = some (.cells #[v] 69 (0, 0))
  own : w.ownsRow B 5 1 v xs.length (valsB xs)
theorem Wtr.lt {w : World} {B g : Nat} {v : Value} {xs : List Nat} (h : Wtr w B g v xs) : g < w.heap.size := (Array.getElem?_eq_some_iff.1 h.block).1
theorem Wtr.cell {w : World} {B g : Nat} {v : Value} {xs : List Nat} (h : Wtr w B g v xs) : w.cell? ⟨g, 0, none⟩ = some v := cell_of_row w g 0 _ 69 (0, 0) h.block
theorem Wtr.frozen {w : World} {B g : Nat} {v : Value} {xs : List Nat} (h : Wtr w B g v xs) : w.frozen? ⟨g, 0, none⟩ = false := by
  have := h.block
  simp [World.frozen?, this]
/-- The row is not the block itself: they are of unlike types. -/
theorem row_not_block {w : World} {B g n : Nat} {v u : Value} {xs : List Value} (h : w.ownsRow B 5 1 v n xs) (hg : w.heap[g]? = some (.cells #[u] 69 (0, 0))) : v.ownBlock ≠ some g := by
  rcases h.2 with ⟨rfl, _⟩ | ⟨k, cap, cur, rfl, _, hk, _⟩
  · simp [Value.ownBlock]
  · intro he
    simp [Value.ownBlock] at he
    subst he
    rw [hk] at hg
    simp at hg
theorem row_low {w : World} {B n : Nat} {v : Value} {xs : List Value} (h : w.ownsRow B 5 1 v n xs) : ∀ k, v.ownBlock = some k → B ≤ k := fun k hk => (h.lt k hk).1
/-- A row stands where nothing is changed but blocks that aren't its own. -/
theorem row_stays {w w' : World} {B n : Nat} {v : Value} {xs : List Value} (h : w.ownsRow B 5 1 v n xs) (hk : ∀ k, v.ownBlock = some k → w'.heap[k]? = w.heap[k]?) : w'.ownsRow B 5 1 v n xs := by
  refine ⟨h.1, ?_⟩
  rcases h.2 with h0 | ⟨g, cap, cur, rfl, hb, hg, hrest⟩
  · exact .inl h0
  · exact .inr ⟨g, cap, cur, rfl, hb, (hk g rfl).trans hg, hrest⟩

set_option maxHeartbeats 1000000 in
theorem put_any (B g : Nat) (v : Value) (xs : List Nat) (A : Option Addr) (m c : Nat) (ys : List Nat) (w : World) (hw : Wtr w B g v xs) (hr : Rdv w A m 1 (valsB ys)) (hnil : A = none → c = 0) (hmx : xs.length + m ≤ 17592186044416) :
    Calls Try.prog 80 #[.pointer (some ⟨g, 0, none⟩), .slice A m c] w fun e w' => e = .returned (.tuple #[]) ∧ ∃ v', Wtr w' B g v' (xs ++ ys) ∧ Touch w w' g v.ownBlock ∧ (v'.ownBlock = v.ownBlock ∨ v'.ownBlock = some w.heap.size) := by
  have c0 := hw.cell
  have hlt := hw.lt
  have HW := Lib.hid hw
  have HR := Lib.hid hr
  have hne := row_not_block hw.own hw.block
  have HNE := Lib.hid hne
  have hl : ys.length = m := by have := hr.1; rw [valsB_length] at this; omega
  have HL := Lib.hid hl
  clear hw hr hne hl
  go_enter Try.func80, Try.ntmps80
  go_wp2_with (at_builtin; refine wpList_append_rowv elemB rfl (.tmp 10) (.tmp 11) rfl B v xs.length (valsB xs) rfl HW.out.own A m c (valsB ys) rfl HR.out (valsB_one _) hnil (by unfold maxLen; omega) (by omega) (Nat.le_trans HW.out.low (Nat.le_of_lt hlt)) ?_; intro v3 w3 hown3 hg3 hb3; obtain ⟨A3, k3, rfl, _, _, _⟩ := rdv_own hown3; have hblk : w3.heap[g]? = some (.cells #[v] 69 (0, 0)) := (hg3.block g hlt (fun he => HNE.out he.symm)).trans HW.out.block; have c3 : w3.cell? ⟨g, 0, none⟩ = some v := cell_of_row w3 g 0 _ 69 (0, 0) hblk; have f3 : w3.frozen? ⟨g, 0, none⟩ = false := by simp [World.frozen?, hblk])
  have hlt3 : g < w3.heap.size := Nat.lt_of_lt_of_le hlt hg3.size
  have hw' : Wtr (w3.setCell ⟨g, 0, none⟩ (.slice A3 (xs.length + m) k3)) B g (.slice A3 (xs.length + m) k3) (xs ++ ys) := by
    refine ⟨HW.out.low, ?_, ?_⟩
    · simp [World.setCell, Array.getElem?_modify, hblk]
    · rw [List.length_append, HL.out, valsB_append]
      exact row_stays hown3 (fun k hk => Deep.blk_setCell_other w3 _ _ k (fun he => row_not_block hown3 hblk (by rw [hk]; exact congrArg some he)))
  have ht : Touch w (w3.setCell ⟨g, 0, none⟩ (.slice A3 (xs.length + m) k3)) g v.ownBlock :=
    ⟨hg3.os, hg3.tape, hg3.output, by rw [World.size_setCell]; exact hg3.size, fun k hk h1 h2 => (Deep.blk_setCell_other w3 _ _ k h1).trans (hg3.block k hk (fun he => h2 he.symm))⟩
  have H1 := Lib.hid hw'
  have H2 := Lib.hid ht
  have H3 := Lib.hid hb3
  clear hw' ht hb3 hown3 hg3 hblk c0
  go_wp2_with fail
  refine bodyPost_end (v := .tuple #[]) (by simp [results, Try.results80, go_sem]) rfl ⟨rfl, _, H1.out, H2.out, H3.out⟩
end Go.Proofs.Ytmicheheibkmjaa

/- The contract of wire's Size. -/
namespace Go.Proofs.Ytmicheheibkmjaa
set_option maxRecDepth 100000
open Go.RowKit Go.Shelf

def renLen : Go.Shelf.Ren := ⟨fun | 129 => 93 | n => n, fun | 53 => 73 | 46 => 104 | n => n, fun | n => n⟩
theorem lays129 : Go.Proofs.Lays.n129 Try.prog renLen := {
  mixed := by kernel_rfl
  f129 := Try.func93.trans (congrArg some (by kernel_rfl))
  t3 := Try.underlying3
  a3 := Try.isAgg3
  z3 := Try.sizeOf3
  v3 := Try.zeroValue3
  t4 := Try.underlying4
  a4 := Try.isAgg4
  z4 := Try.sizeOf4
  v4 := Try.zeroValue4
  t5 := Try.underlying5
  a5 := Try.isAgg5
  z5 := Try.sizeOf5
  v5 := Try.zeroValue5
  t9 := Try.underlying9
  a9 := Try.isAgg9
  z9 := Try.sizeOf9
  v9 := Try.zeroValue9
  t46 := Try.underlying104
  a46 := Try.isAgg104
  z46 := Try.sizeOf104
  v46 := Try.zeroValue104
  t53 := Try.underlying73
  a53 := Try.isAgg73
  z53 := Try.sizeOf73
  v53 := Try.zeroValue73 }
theorem len64_any (x : Int) (h0 : 0 ≤ x) (h1 : x ≤ 18446744073709551615) (w : World) :
    Calls Try.prog 93 #[.int .u64 x] w fun e w' => e = .returned (.int .i64 (Lib.bitLen x.toNat : Int)) ∧ w = w' :=
  (Any.bits_Len64 lays129 x w h0 h1).mono fun _ _ h => ⟨h.1, h.2.symm⟩
/-- In how many bytes a count is written. -/
def sizeN (n : Nat) : Nat := max 1 ((Lib.bitLen n + 6) / 7)
theorem ret_int {a b : Int} (h : a = b) : Ending.returned (.int .i64 a) = .returned (.int .i64 b) := by rw [h]
set_option maxHeartbeats 400000 in
theorem size_any (n : Nat) (h : n < 18446744073709551616) (w : World) :
    Calls Try.prog 79 #[.int .u64 (n : Int)] w fun e w' => e = .returned (.int .i64 (sizeN n : Int)) ∧ w = w' := by
  have C := len64_any (n : Int) (by omega) (by omega) w
  rw [show ((n : Int)).toNat = n by omega] at C
  have hl := Lib.bitLen_le n 64 (Nat.le_refl _) h
  unfold sizeN
  obtain ⟨L, hL⟩ : ∃ L, L = Lib.bitLen n := ⟨_, rfl⟩
  rw [← hL] at C hl ⊢
  have D := Lib.hid C
  clear C hL h
  go_enter Try.func79, Try.ntmps79
  go_wp2_with fail
  refine Calls.mono D.out ?_
  rintro e w1 ⟨rfl, rfl⟩
  go_wp2_with fail
  go_ret
  exact ⟨ret_int (by omega), rfl⟩
end Go.Proofs.Ytmicheheibkmjaa

/- The contracts of a writer's Count, Num, Byte, Flag. -/
namespace Go.Proofs.Ytmicheheibkmjaa
set_option maxRecDepth 100000
open Go.RowKit

/-- What a call of a writer leaves: its bytes, and what else may be changed. -/
structure Wrote (w w' : World) (B g : Nat) (v v' : Value) (xs : List Nat) : Prop where
  wtr : Wtr w' B g v' xs
  touch : Touch w w' g v.ownBlock
  row : v'.ownBlock = v.ownBlock ∨ ∃ k, v'.ownBlock = some k ∧ w.heap.size ≤ k
theorem Wrote.refl {w : World} {B g : Nat} {v : Value} {xs : List Nat} (h : Wtr w B g v xs) : Wrote w w B g v v xs := ⟨h, ⟨rfl, rfl, rfl, Nat.le_refl _, fun _ _ _ _ => rfl⟩, .inl rfl⟩
theorem Wrote.trans {w w1 w2 : World} {B g : Nat} {v v1 v2 : Value} {xs ys : List Nat} (h : Wrote w w1 B g v v1 xs) (k : Wrote w1 w2 B g v1 v2 ys) : Wrote w w2 B g v v2 ys := by
  refine ⟨k.wtr, ⟨k.touch.os.trans h.touch.os, k.touch.tape.trans h.touch.tape, k.touch.output.trans h.touch.output, Nat.le_trans h.touch.size k.touch.size, fun q hq hg hr => ?_⟩, ?_⟩
  · refine (k.touch.block q (Nat.lt_of_lt_of_le hq h.touch.size) hg (fun he => ?_)).trans (h.touch.block q hq hg hr)
    rcases h.row with h1 | ⟨j, h1, h2⟩
    · exact hr (h1.symm.trans he)
    · rw [h1] at he
      injection he with he
      omega
  · rcases k.row with k1 | ⟨j, k1, k2⟩
    · rcases h.row with h1 | ⟨i, h1, h2⟩
      · exact .inl (k1.trans h1)
      · exact .inr ⟨i, k1.trans h1, h2⟩
    · exact .inr ⟨j, k1, Nat.le_trans h.touch.size k2⟩
/-- An alloc beside a writer. -/
theorem Wtr.alloc {w : World} {B g : Nat} {v : Value} {xs : List Nat} (h : Wtr w B g v xs) (o : Obj) : Wtr (w.alloc o) B g v xs :=
  ⟨h.low, (heap_alloc_old w o h.lt).trans h.block, row_stays h.own (fun k hk => heap_alloc_old w o (h.own.lt k hk).2)⟩
theorem Wrote.after_alloc {w w' : World} {B g : Nat} {v v' : Value} {xs : List Nat} {o : Obj} (h : Wrote (w.alloc o) w' B g v v' xs) : Wrote w w' B g v v' xs := by
  refine ⟨h.wtr, ⟨h.touch.os, h.touch.tape, h.touch.output, by have := h.touch.size; rw [World.size_alloc] at this; omega, fun k hk h1 h2 => (h.touch.block k (by rw [World.size_alloc]; omega) h1 h2).trans (heap_alloc_old w o hk)⟩, ?_⟩
  rcases h.row with h1 | ⟨k, h1, h2⟩
  · exact .inl h1
  · exact .inr ⟨k, h1, by rw [World.size_alloc] at h2; omega⟩
theorem rdv_one (w : World) (x : Nat) : Rdv (w.alloc (.cells #[.int .u8 (x : Int)] 5)) (some ⟨w.heap.size, 0, none⟩) 1 1 (valsB [x]) := by
  refine ⟨rfl, fun _ => ⟨_, 0, rfl, fun j u hj => ?_⟩⟩
  have hj0 : j = 0 := by
    rcases Nat.eq_zero_or_pos j with h | h
    · exact h
    · rw [List.getElem?_eq_none (by simp [valsB]; omega)] at hj; cases hj
  subst hj0
  rw [cell_of_row _ _ _ _ 5 (0, 0) (heap_alloc_new w _), ← hj]
  rfl
/-- One byte more. -/
theorem put_one (B g : Nat) (v : Value) (xs : List Nat) (x : Nat) (w : World) (hw : Wtr w B g v xs) (hmx : xs.length + 1 ≤ 17592186044416) :
    Calls Try.prog 80 #[.pointer (some ⟨g, 0, none⟩), .slice (some ⟨w.heap.size, 0, none⟩) 1 1] (w.alloc (.cells #[.int .u8 (x : Int)] 5)) fun e w' => e = .returned (.tuple #[]) ∧ ∃ v', Wrote w w' B g v v' (xs ++ [x]) :=
  (put_any B g v xs _ 1 1 [x] _ (hw.alloc _) (rdv_one w x) (fun h => by cases h) hmx).mono fun _ _ ⟨h1, v', h2, h3, h4⟩ => ⟨h1, v', Wrote.after_alloc ⟨h2, h3, h4.imp id fun h => ⟨_, h, Nat.le_refl _⟩⟩⟩

/-- The bytes of a count: all but the last, and all. -/
def preN (n k : Nat) : List Nat := (List.range k).map fun i => n / 128 ^ i % 128 + 128
def cntN (n : Nat) : List Nat := preN n (sizeN n - 1) ++ [n / 128 ^ (sizeN n - 1) % 256]
theorem preN_succ (n k : Nat) : preN n (k + 1) = preN n k ++ [n / 128 ^ k % 128 + 128] := by simp [preN, List.range_succ]
theorem preN_length (n k : Nat) : (preN n k).length = k := by simp [preN]
theorem or_mark (x : Nat) : bits BinOp.or IntKind.u8 ((x : Int) % 256) 128 = ((x % 128 + 128 : Nat) : Int) := by
  have e : (x : Int) % 256 = ((x % 256 : Nat) : Int) := rfl
  have key : ∀ y : Fin 256, bits BinOp.or IntKind.u8 (y.val : Int) 128 = ((y.val % 128 + 128 : Nat) : Int) := by decide +kernel
  rw [e, key ⟨x % 256, by omega⟩]
  congr 1
  show x % 256 % 128 + 128 = x % 128 + 128
  omega

set_option maxHeartbeats 1000000 in
theorem count_any (B g : Nat) (v : Value) (xs : List Nat) (n : Nat) (hn : n < 18446744073709551616) (w : World) (hw : Wtr w B g v xs) (hmx : xs.length ≤ 8796093022208) :
    Calls Try.prog 49 #[.pointer (some ⟨g, 0, none⟩), .int .u64 (n : Int)] w fun e w' => e = .returned (.tuple #[]) ∧ ∃ v', Wrote w w' B g v v' (xs ++ cntN n) := by
  have S := size_any n hn w
  have hl := Lib.bitLen_le n 64 (Nat.le_refl _) hn
  have hs1 : 1 ≤ sizeN n := by unfold sizeN; omega
  have hs2 : sizeN n ≤ 10 := by unfold sizeN; omega
  have hc : cntN n = preN n (sizeN n - 1) ++ [n / 128 ^ (sizeN n - 1) % 256] := rfl
  obtain ⟨s, hs⟩ : ∃ s, s = sizeN n - 1 := ⟨_, rfl⟩
  have hsn : (sizeN n : Int) - 1 = (s : Int) := by omega
  rw [← hs] at hc
  rw [hc]
  obtain ⟨z, hz⟩ : ∃ z, z = sizeN n := ⟨_, rfl⟩
  rw [← hz] at S hsn
  have HS := Lib.hid S
  have HW := Lib.hid (Wrote.refl hw)
  have hs10 : s ≤ 9 := by omega
  clear S hl hs1 hs2 hs hz hw hc
  go_enter Try.func49, Try.ntmps49
  go_wp2_with fail
  refine Calls.mono HS.out ?_
  rintro e w1 ⟨rfl, rfl⟩
  go_wp2_with fail
  go_loopw [1, 7] (fun x i wr => ∃ (k : Nat) (v' : Value), x = .int .u64 ((n / 128 ^ k : Nat) : Int) ∧ i = .int .i64 (k : Int) ∧ k ≤ s ∧ Wrote w wr B g v v' (xs ++ preN n k)) (fun _ i _ => s - (intOf i).toNat)
  case atStart => exact ⟨0, v, by simp, rfl, by omega, by rw [show preN n 0 = [] from rfl, List.append_nil]; exact HW.out⟩
  case round =>
    obtain ⟨k, v', rfl, rfl, hk, hwr⟩ := hrel
    have hpl : (preN n k).length = k := preN_length n k
    obtain ⟨N, hN⟩ : ∃ N, N = n / 128 ^ k := ⟨_, rfl⟩
    have hsucc := preN_succ n k
    have hdiv : n / 128 ^ (k + 1) = N / 128 := by rw [hN, Nat.pow_succ, Nat.div_div_eq_div_mul]
    rw [← hN] at hsucc ⊢
    by_cases hlt : k < s
    · have e1 := or_mark N
      obtain ⟨X, hX⟩ : ∃ X, X = N % 128 + 128 := ⟨_, rfl⟩
      rw [← hX] at e1 hsucc
      have e2 : (N : Int) / 128 = ((N / 128 : Nat) : Int) := rfl
      obtain ⟨M, hM⟩ : ∃ M, M = N / 128 := ⟨_, rfl⟩
      rw [← hM] at e2 hdiv
      have HP := Lib.hid (put_one B g v' (xs ++ preN n k) X wr hwr.wtr (by rw [List.length_append, hpl]; omega))
      have HR := Lib.hid hwr
      have HSU := Lib.hid hsucc
      have HDI := Lib.hid hdiv
      clear hwr hX hM hN hsucc hdiv hpl HW
      go_wp2_with fail
      refine Calls.mono HP.out ?_
      rintro e w2 ⟨rfl, v2, hw2⟩
      have HR2 := Lib.hid (HR.out.trans hw2)
      clear hw2
      go_wp2_with fail
      go_roundw
      case rel => exact ⟨k + 1, v2, by rw [HDI.out], by go_num, by omega, by rw [HSU.out, ← List.append_assoc]; exact HR2.out⟩
      case measure => simp [intOf]; omega
    · obtain rfl : k = s := by omega
      have e1 : (N : Int) % 256 = ((N % 256 : Nat) : Int) := rfl
      obtain ⟨X, hX⟩ : ∃ X, X = N % 256 := ⟨_, rfl⟩
      rw [← hX] at e1
      have HP := Lib.hid (put_one B g v' (xs ++ preN n k) X wr hwr.wtr (by rw [List.length_append, hpl]; omega))
      have HR := Lib.hid hwr
      have HXX := Lib.hid hX
      have HNN := Lib.hid hN
      clear hwr hX hN hsucc hdiv hpl HW
      go_wp2_with fail
      refine Calls.mono HP.out ?_
      rintro e w2 ⟨rfl, v2, hw2⟩
      have HR2 := Lib.hid (HR.out.trans hw2)
      clear hw2
      go_wp2_with fail
      refine bodyPost_end (v := .tuple #[]) (by simp [results, Try.results49, go_sem]) rfl ⟨rfl, v2, ?_⟩
      have h := HR2.out
      rw [HXX.out, HNN.out, List.append_assoc] at h
      exact h
end Go.Proofs.Ytmicheheibkmjaa

/- The contracts of a writer's Num, Byte, Flag, Out; and the new writer. -/
namespace Go.Proofs.Ytmicheheibkmjaa
set_option maxRecDepth 100000
open Go.RowKit

/-- A number, folded. -/
def foldN (z : Int) : Nat := if z < 0 then (2 * (-(z + 1)) + 1).toNat else (2 * z).toNat
def Fits (z : Int) : Prop := -9223372036854775808 ≤ z ∧ z ≤ 9223372036854775807
theorem foldN_lt {z : Int} (h : Fits z) : foldN z < 18446744073709551616 := by unfold foldN; unfold Fits at h; split <;> omega

theorem fold_bits {z : Int} (h : Fits z) : bits BinOp.xor IntKind.u64 (IntKind.u64.wrap (IntKind.u64.wrap z * 2)) (IntKind.u64.wrap (z / 9223372036854775808)) = ((foldN z : Nat) : Int) := by
  unfold Fits at h
  rw [IntKind.wrap_u64, IntKind.wrap_u64, IntKind.wrap_u64]
  by_cases h0 : z < 0
  · have e1 : z % 18446744073709551616 * 2 % 18446744073709551616 = ((2 * z + 18446744073709551616).toNat : Int) := by omega
    have e2 : z / 9223372036854775808 % 18446744073709551616 = ((18446744073709551615 : Nat) : Int) := by omega
    obtain ⟨a, ha⟩ : ∃ a, a = (2 * z + 18446744073709551616).toNat := ⟨_, rfl⟩
    rw [← ha] at e1
    rw [e1, e2, bits_xor_u64_nat a 18446744073709551615 (by omega) (by omega)]
    have hx : a ^^^ 18446744073709551615 = 18446744073709551615 - a := by
      rw [Nat.xor_comm]
      exact Go.Lib.xor_ones64 a (by omega)
    rw [hx]
    unfold foldN
    rw [if_pos h0]
    omega
  · have e1 : z % 18446744073709551616 * 2 % 18446744073709551616 = ((2 * z).toNat : Int) := by omega
    have e2 : z / 9223372036854775808 % 18446744073709551616 = ((0 : Nat) : Int) := by omega
    obtain ⟨a, ha⟩ : ∃ a, a = (2 * z).toNat := ⟨_, rfl⟩
    rw [← ha] at e1
    rw [e1, e2, bits_xor_u64_nat a 0 (by omega) (by omega), Nat.xor_zero]
    unfold foldN
    rw [if_neg h0, ha]

set_option maxHeartbeats 400000 in
theorem num_any (B g : Nat) (v : Value) (xs : List Nat) (z : Int) (hz : Fits z) (w : World) (hw : Wtr w B g v xs) (hmx : xs.length ≤ 8796093022208) :
    Calls Try.prog 50 #[.pointer (some ⟨g, 0, none⟩), .int .i64 z] w fun e w' => e = .returned (.tuple #[]) ∧ ∃ v', Wrote w w' B g v v' (xs ++ cntN (foldN z)) := by
  have C := count_any B g v xs (foldN z) (foldN_lt hz) w hw hmx
  have HC := Lib.hid C
  have hf := fold_bits hz
  clear C hw hmx hz
  go_enter Try.func50, Try.ntmps50
  go_wp2_with fail
  refine Calls.mono HC.out ?_
  rintro e w1 ⟨rfl, v', hw'⟩
  have HW := Lib.hid hw'
  clear hw'
  go_wp2_with fail
  exact bodyPost_end (v := .tuple #[]) (by simp [results, Try.results50, go_sem]) rfl ⟨rfl, v', HW.out⟩
def flagN (f : Bool) : Nat := if f then 1 else 0
end Go.Proofs.Ytmicheheibkmjaa

/- The contracts of slices.Clone, and of a writer's Out. -/
namespace Go.Proofs.Ytmicheheibkmjaa
set_option maxRecDepth 100000
open Go.RowKit

theorem stays_b {w w' : World} (h : Below w.heap.size w w') : ∀ p : Addr, p.block < w.heap.size → w'.cell? p = w.cell? p := fun _ hp => h.cell hp
theorem run_append_empty {P : Program} {t e : TypeId} {size bytes : Nat} (E : ElemT P t e size bytes) (w : World) (ty : TypeId) (p : Addr)
    (A : Option Addr) (m c : Nat) (ys : List Value) (hr : Rdv w A m size ys) (hnil : A = none → c = 0) (hmx : m ≤ maxLen) (hby : m * bytes ≤ 140737488355328) :
    ∃ A' c' w', (Builtin.append_ #[t, t] ty #[.slice (some p) 0 0, .slice A m c]).run P w = .ok (.slice A' m c') w' ∧ Rdv w' A' m size ys ∧ ((A' = some p ∧ m = 0) ∨ (A' = some ⟨w.heap.size, 0, none⟩ ∧ w.heap.size < w'.heap.size ∧ ∃ cs, w'.heap[w.heap.size]? = some (.cells cs e (0, 0)))) ∧ m ≤ c' ∧ Below w.heap.size w w' := by
  obtain ⟨ht, hinfo, ⟨i, z, hi, hz, hzs⟩, hpos⟩ := E
  rw [hi] at hinfo
  simp at hinfo
  obtain ⟨hl, hc⟩ := hr
  by_cases hm : m = 0
  · subst hm
    have hy : ys = [] := List.eq_nil_of_length_eq_zero (by rw [hl]; simp)
    subst hy
    refine ⟨some p, 0, w, ?_, ⟨by simp, fun h => absurd h (by omega)⟩, .inl ⟨rfl, rfl⟩, Nat.le_refl _, Below.refl _ _⟩
    rcases A with _ | ad
    · simp [Builtin.append_, run_underlying ht, sizeOf, typeInfo, hi, Builtin.lenOf, Builtin.firstCells, loadCells, loadCellsFrom, storeCells, hnil rfl]
    · simp [Builtin.append_, run_underlying ht, sizeOf, typeInfo, hi, Builtin.lenOf, Builtin.firstCells, loadCells, loadCellsFrom, storeCells]
  · obtain ⟨b, off, rfl, h5⟩ := hc (by omega)
    have hnews : ∀ j u, ys[j]? = some u → w.cell? ((⟨b, off, none⟩ : Addr).add j) = some u := fun j u hj => by rw [addr_plus]; exact h5 j u hj
    have hrun := run_append_grow (P := P) w t ty e i z ht hi hz p 0 0 [] (by simp) (fun j u hj => by simp at hj) ⟨b, off, none⟩ m c ys (by rw [hl, hinfo.1]) hnews (by omega) (by unfold maxLen at hmx; omega) (growslice_fits (by unfold maxLen at hmx; omega) (by rw [hinfo.2, Nat.zero_add]; exact hby))
    rw [Nat.zero_add] at hrun
    refine ⟨_, _, _, hrun, ⟨hl, fun _ => ⟨_, _, rfl, fun j u hj => ?_⟩⟩, .inr ⟨rfl, ?_, _, heap_alloc_new w.drew _⟩, ?_, ?_⟩
    · have hg : (w.drew.alloc (.cells (#[] ++ ys.toArray ++ Builtin.zeroCells z.cells (grownCap w m 0 e - m)) e)).heap[w.heap.size]? = some (.cells (#[] ++ ys.toArray ++ Builtin.zeroCells z.cells (grownCap w m 0 e - m)) e (0, 0)) := heap_alloc_new w.drew _
      rw [Nat.zero_add, cell_of_row _ _ j _ e (0, 0) hg]
      have hlt : j < ys.length := by
        rcases Nat.lt_or_ge j ys.length with h' | h'
        · exact h'
        · rw [List.getElem?_eq_none h'] at hj; cases hj
      have e1 : #[] ++ ys.toArray = ys.toArray := by simp
      rw [e1, Array.getElem?_append_left (by simpa using hlt)]
      simpa using hj
    · rw [World.size_alloc]; exact Nat.lt_succ_self _
    · have := grownCap_ge w m 0 e; omega
    · exact ((Below.refl _ w).drew).alloc (Nat.le_refl _) _
theorem step_append_empty {P : Program} {t e : TypeId} {size bytes : Nat} (E : ElemT P t e size bytes) {w : World} {ops : Array Oper} {o : Oper} {a : Act} {K : Act → World → Prop} {Q : Exit → Act → World → Prop} {F : Prop}
    (hw : Region.wanted o (yielded ops a.tmps) = true) (s x : Operand)
    (ho : o.op = .call { callee := .builtin .append, args := #[s, x], argTypes := #[t, t] })
    (p : Addr) (hs : a.eval s = .slice (some p) 0 0)
    (A : Option Addr) (m c : Nat) (ys : List Value) (hx : a.eval x = .slice A m c) (hr : Rdv w A m size ys) (hnil : A = none → c = 0) (hmx : m ≤ maxLen) (hby : m * bytes ≤ 140737488355328)
    (h : ∀ A' c' w', Rdv w' A' m size ys → ((A' = some p ∧ m = 0) ∨ (A' = some ⟨w.heap.size, 0, none⟩ ∧ w.heap.size < w'.heap.size ∧ ∃ cs, w'.heap[w.heap.size]? = some (.cells cs e (0, 0)))) → m ≤ c' → Below w.heap.size w w' → K (a.put o.dst (.slice A' m c')) w') : if Region.wanted o (yielded ops a.tmps) = true then Oper.wp P o a w K Q else F := by
  rw [if_pos hw]
  obtain ⟨A', c', w', hrun, h2, h3, h4, h5⟩ := run_append_empty E w o.type p A m c ys hr hnil hmx hby
  have h6 := h A' c' w' h2 h3 h4 h5
  unfold Oper.wp
  simp [execOp, ho, resolve, invoke, builtin, hs, hx, hrun, Result.andThen]
  exact h6
theorem wpList_append_empty {P : Program} {t e : TypeId} {size bytes : Nat} (E : ElemT P t e size bytes) {w : World} {ops : Array Oper} {rest : List Oper} {o : Oper} {a : Act} {Q : Exit → Act → World → Prop} (hgd : o.guard = none) (s x : Operand)
    (ho : o.op = .call { callee := .builtin .append, args := #[s, x], argTypes := #[t, t] })
    (p : Addr) (hs : a.eval s = .slice (some p) 0 0)
    (A : Option Addr) (m c : Nat) (ys : List Value) (hx : a.eval x = .slice A m c) (hr : Rdv w A m size ys) (hnil : A = none → c = 0) (hmx : m ≤ maxLen) (hby : m * bytes ≤ 140737488355328)
    (h : ∀ A' c' w', Rdv w' A' m size ys → ((A' = some p ∧ m = 0) ∨ (A' = some ⟨w.heap.size, 0, none⟩ ∧ w.heap.size < w'.heap.size ∧ ∃ cs, w'.heap[w.heap.size]? = some (.cells cs e (0, 0)))) → m ≤ c' → Below w.heap.size w w' → wpList P ops Q rest (a.put o.dst (.slice A' m c')) w') : wpList P ops Q (o :: rest) a w := by
  obtain ⟨A', c', w', hrun, h2, h3, h4, h5⟩ := run_append_empty E w o.type p A m c ys hr hnil hmx hby
  refine wpList_plain hgd fun K hK => ?_
  have h6 := h A' c' w' h2 h3 h4 h5
  unfold Oper.wp
  simp [execOp, ho, resolve, invoke, builtin, hs, hx, hrun, Result.andThen]
  exact hK _ _ h6

theorem eql_nil (w : World) (a : Option Addr) (n c : Nat) (b : Bool) (hb : a.isNone = b) : Sem.run Try.prog (binOp .eql 40 (.slice a n c) (.slice none 0 0)) w = .ok (.bool b) w := by
  rw [← hb]
  exact Go.Lib.run_eql_slice_nil w 40 5 a n c 0 0 Try.underlying40
/-- Where a new slice lies. -/
def NewAt (w w' : World) (A : Option Addr) (n c : Nat) : Prop := (A = none ∧ n = 0 ∧ c = 0) ∨ ∃ b, A = some ⟨b, 0, none⟩ ∧ w.heap.size ≤ b ∧ b < w'.heap.size ∧ n ≤ c ∧ (0 < n → ∃ cs, w'.heap[b]? = some (.cells cs 5 (0, 0)))
set_option maxHeartbeats 400000 in
theorem clone_any (A : Option Addr) (n c : Nat) (ys : List Nat) (w : World) (hr : Rdv w A n 1 (valsB ys)) (hnil : A = none → c = 0 ∧ n = 0) (hn : n ≤ 140737488355328) :
    Calls Try.prog 81 #[.slice A n c] w fun e w' => ∃ v, e = .returned v ∧ ∃ A' c', v = .slice A' n c' ∧ Rdv w' A' n 1 (valsB ys) ∧ NewAt w w' A' n c' ∧ Below w.heap.size w w' := by
  rcases A with _ | p
  · obtain ⟨rfl, rfl⟩ := hnil rfl
    have HR := Lib.hid hr
    have e1 := eql_nil w none 0 0 true rfl
    clear hr
    go_enter Try.func81, Try.ntmps81
    go_wp2_with fail
    go_ret
    exact ⟨_, rfl, none, 0, rfl, HR.out, .inl ⟨rfl, rfl, rfl⟩, Below.refl _ _⟩
  · have hb : Below w.heap.size w (w.alloc (.cells #[] 5)) := (Below.refl _ w).alloc (Nat.le_refl _) _
    have HR := Lib.hid (hr.ext (stays_b hb))
    have HB := Lib.hid hb
    have e1 := eql_nil w (some p) n c false rfl
    clear hr hb
    go_enter Try.func81, Try.ntmps81
    go_wp2_with (at_builtin; refine wpList_append_empty elemB rfl (.tmp 5) (.tmp 6) rfl ⟨w.heap.size, 0, none⟩ rfl (some p) n c (valsB ys) rfl HR.out (fun h => by cases h) (by unfold maxLen; omega) (by omega) ?_; intro A' c' w' h1 h2 h3 h4)
    have HE := Lib.hid (HB.out.trans (h4.mono HB.out.size))
    have hsz := h4.size
    rw [World.size_alloc] at h2 hsz
    have hN : NewAt w w' A' n c' := .inr (by
      rcases h2 with ⟨h2, h0⟩ | ⟨h2, h5, h6⟩
      · exact ⟨w.heap.size, h2, Nat.le_refl _, hsz, h3, fun h => absurd h (by omega)⟩
      · exact ⟨w.heap.size + 1, h2, Nat.le_succ _, h5, h3, fun _ => h6⟩)
    have HN := Lib.hid hN
    clear hN
    have H1 := Lib.hid h1
    clear h1 h4 h2 hsz
    go_wp2_with fail
    go_ret
    exact ⟨_, rfl, A', c', rfl, H1.out, HN.out, HE.out⟩

set_option maxHeartbeats 400000 in
theorem out_any (B g : Nat) (v : Value) (xs : List Nat) (w : World) (hw : Wtr w B g v xs) (hn : xs.length ≤ 140737488355328) :
    Calls Try.prog 51 #[.pointer (some ⟨g, 0, none⟩)] w fun e w' => ∃ v, e = .returned v ∧ ∃ A' c', v = .slice A' xs.length c' ∧ Rdv w' A' xs.length 1 (valsB xs) ∧ NewAt w w' A' xs.length c' ∧ Below w.heap.size w w' := by
  have hc := hw.cell
  obtain ⟨A, c, rfl, hr, h1, h2⟩ := rdv_own hw.own
  have hnil : A = none → c = 0 ∧ xs.length = 0 := fun h => ⟨h1 h, by have := h1 h; omega⟩
  have C := clone_any A xs.length c xs w hr hnil hn
  have HC := Lib.hid C
  clear C hr hw h1 h2 hnil
  go_enter Try.func51, Try.ntmps51
  go_wp2_with fail
  refine Calls.mono HC.out ?_
  rintro e w1 ⟨_, rfl, A', c', rfl, h3, h4, h6⟩
  have H3 := Lib.hid h3
  have H4 := Lib.hid h4
  have H6 := Lib.hid h6
  clear h3 h4 h6
  go_wp2_with fail
  go_ret
  exact ⟨_, rfl, A', c', rfl, H3.out, H4.out, H6.out⟩
end Go.Proofs.Ytmicheheibkmjaa

/- A reader in memory, and the contracts of its functions. -/
namespace Go.Proofs.Ytmicheheibkmjaa
set_option maxRecDepth 100000
open Go.RowKit

/-- Nothing but what a pointer points at is changed, and what is new. -/
structure Only (w w' : World) (V : Value) : Prop where
  os : w'.os = w.os
  tape : w'.tape = w.tape
  output : w'.output = w.output
  size : w.heap.size ≤ w'.heap.size
  block : ∀ k, k < w.heap.size → V ≠ .pointer (some ⟨k, 0, none⟩) → w'.heap[k]? = w.heap[k]?
theorem Only.refl (w : World) (V : Value) : Only w w V := ⟨rfl, rfl, rfl, Nat.le_refl _, fun _ _ _ => rfl⟩
theorem Only.trans {w w1 w2 : World} {V : Value} (h : Only w w1 V) (k : Only w1 w2 V) : Only w w2 V :=
  ⟨k.os.trans h.os, k.tape.trans h.tape, k.output.trans h.output, Nat.le_trans h.size k.size, fun q hq hv => (k.block q (Nat.lt_of_lt_of_le hq h.size) hv).trans (h.block q hq hv)⟩
theorem Only.of_below {w w' : World} {V : Value} (h : Below w.heap.size w w') : Only w w' V := ⟨h.os, h.tape, h.output, h.size, fun k hk _ => h.block k hk⟩
theorem Only.set (w : World) (g o : Nat) (u : Value) : Only w (w.setCell ⟨g, o, none⟩ u) (.pointer (some ⟨g, 0, none⟩)) :=
  ⟨rfl, rfl, rfl, by rw [World.size_setCell]; exact Nat.le_refl _, fun k _ hv => Deep.blk_setCell_other w ⟨g, o, none⟩ u k (fun he => hv (by rw [he]))⟩
/-- A slice that lies somewhere above, but not in a block. -/
def Lies (w : World) (B : Nat → Prop) (g : Nat) (A : Option Addr) (n c : Nat) : Prop := (A = none ∧ n = 0 ∧ c = 0) ∨ ∃ b off, A = some ⟨b, off, none⟩ ∧ B b ∧ b ≠ g ∧ b < w.heap.size ∧ n ≤ c
/-- A reader of its own bytes; a nil one is bad. -/
inductive Rdr (w : World) (B : Nat → Prop) : Value → List Nat → Bool → Prop
  | none : Rdr w B (.pointer none) [] true
  | some (g : Nat) (A : Option Addr) (n c : Nat) (bs : List Nat) (bad : Bool) (low : B g) (block : w.heap[g]? = some (.cells #[.slice A n c, .bool bad] 106 (0, 0))) (row : Rdv w A n 1 (valsB bs)) (lies : Lies w B g A n c) (hbad : bad = true → bs = []) (small : ∀ x ∈ bs, x < 256) (len : n ≤ 140737488355328) : Rdr w B (.pointer (some ⟨g, 0, none⟩)) bs bad
theorem Rdr.small' {w : World} {B : Nat → Prop} {V : Value} {bs : List Nat} {bad : Bool} (h : Rdr w B V bs bad) : ∀ x ∈ bs, x < 256 := by
  cases h with
  | none => intro x hx; cases hx
  | some _ _ _ _ _ _ _ _ _ _ _ s => exact s
theorem Rdr.empty {w : World} {B : Nat → Prop} {V : Value} {bs : List Nat} (h : Rdr w B V bs true) : bs = [] := by
  cases h with
  | none => rfl
  | some _ _ _ _ _ _ _ _ _ _ hb => exact hb rfl
theorem Rdr.low' {w : World} {B : Nat → Prop} {V : Value} {bs : List Nat} {bad : Bool} (h : Rdr w B V bs bad) : ∀ k, V = .pointer (Option.some ⟨k, 0, Option.none⟩) → B k := by
  cases h with
  | none => intro k hk; cases hk
  | some _ _ _ _ _ _ low => intro k hk; injection hk with hk; injection hk with hk; injection hk with hk; rw [← hk]; exact low
theorem Rdr.only {w w' : World} {B : Nat → Prop} {V : Value} {bs : List Nat} {bad : Bool} (h : Rdr w B V bs bad) (k : Only w w' V) {M : Nat} (hM : ∀ j, B j → M ≤ j) (hB : M ≤ w.heap.size) : Below M w w' :=
  ⟨k.os, k.tape, k.output, k.size, fun q hq => k.block q (by omega) (fun he => by have := hM q (h.low' q he); omega)⟩
/-- A reader stands where its block and its row stand. -/
theorem Rdr.stays {w w' : World} {B : Nat → Prop} {V : Value} {bs : List Nat} {bad : Bool} (h : Rdr w B V bs bad) (hs : w.heap.size ≤ w'.heap.size) (hk : ∀ k, k < w.heap.size → B k → w'.heap[k]? = w.heap[k]?) : Rdr w' B V bs bad := by
  cases h with
  | none => exact .none
  | some g A n c bs bad low block row lies hbad small len =>
    refine .some g A n c bs bad low ((hk g (Array.getElem?_eq_some_iff.1 block).1 low).trans block) ?_ ?_ hbad small len
    · refine ⟨row.1, fun hn => ?_⟩
      obtain ⟨b, off, e, hc⟩ := row.2 hn
      rcases lies with ⟨_, h0, _⟩ | ⟨b', off', e', h1, h2, h3, h4⟩
      · omega
      · rw [e] at e'
        injection e' with e'
        injection e' with e1 e2 e3
        subst e1
        refine ⟨b, off, e, fun j u hj => ?_⟩
        rw [← hc j u hj]
        exact World.cell?_of_block (hk b h3 h1)
    · rcases lies with h0 | ⟨b, off, e, h1, h2, h3, h4⟩
      · exact .inl h0
      · exact .inr ⟨b, off, e, h1, h2, Nat.lt_of_lt_of_le h3 hs, h4⟩

set_option maxHeartbeats 400000 in
theorem isBad_any (B : Nat → Prop) (V : Value) (bs : List Nat) (bad : Bool) (w : World) (h : Rdr w B V bs bad) :
    Calls Try.prog 85 #[V] w fun e w' => e = .returned (.bool bad) ∧ w = w' := by
  cases h with
  | none =>
    go_enter Try.func85, Try.ntmps85
    go_wp2_with fail
    go_ret
    exact ⟨rfl, rfl⟩
  | some g A n c bs bad low block row lies hbad small len =>
    have c1 : w.cell? ⟨g, 1, none⟩ = some (.bool bad) := cell_of_row w g 1 _ 106 (0, 0) block
    clear low block row lies hbad small len
    go_enter Try.func85, Try.ntmps85
    go_wp2_with fail
    go_ret
    exact ⟨rfl, rfl⟩
set_option maxHeartbeats 400000 in
theorem spoil_any (B : Nat → Prop) (V : Value) (bs : List Nat) (bad : Bool) (w : World) (h : Rdr w B V bs bad) :
    Calls Try.prog 84 #[V] w fun e w' => e = .returned (.tuple #[]) ∧ Rdr w' B V [] true ∧ Only w w' V := by
  cases h with
  | none =>
    go_enter Try.func84, Try.ntmps84
    go_wp2_with fail
    exact bodyPost_end (v := .tuple #[]) (by simp [results, Try.results84, go_sem]) rfl ⟨rfl, .none, Only.refl _ _⟩
  | some g A n c bs bad low block row lies hbad small len =>
    have c1 : w.cell? ⟨g, 1, none⟩ = some (.bool bad) := cell_of_row w g 1 _ 106 (0, 0) block
    have c0 : w.cell? ⟨g, 0, none⟩ = some (.slice A n c) := cell_of_row w g 0 _ 106 (0, 0) block
    have f1 : ∀ o, w.frozen? ⟨g, o, none⟩ = false := fun o => by simp [World.frozen?, block]
    have f10 := f1 0
    have f11 := f1 1
    have HB := Lib.hid block
    clear block row lies hbad small len f1
    go_enter Try.func84, Try.ntmps84
    go_wp2_with fail
    refine bodyPost_end (v := .tuple #[]) (by simp [results, Try.results84, go_sem]) rfl ⟨rfl, ?_, (Only.set _ _ _ _).trans (Only.set _ _ _ _)⟩
    have hb := HB.out
    refine .some g none 0 0 [] true low ?_ ⟨rfl, fun h => absurd h (by omega)⟩ (.inl ⟨rfl, rfl, rfl⟩) (fun _ => rfl) (fun x hx => by cases hx) (by omega)
    simp [World.setCell, Array.getElem?_modify, hb]
end Go.Proofs.Ytmicheheibkmjaa

/- The contracts of a reader's take and Byte. -/
namespace Go.Proofs.Ytmicheheibkmjaa
set_option maxRecDepth 100000
open Go.RowKit

/-- What take leaves, and answers. -/
def failT (bs : List Nat) (bad : Bool) (m : Nat) : Bool := bad || decide (bs.length < m)
def outT (bs : List Nat) (bad : Bool) (m : Nat) : List Nat := if failT bs bad m then [] else bs.take m
def restT (bs : List Nat) (bad : Bool) (m : Nat) : List Nat := if failT bs bad m then [] else bs.drop m
theorem ret_slice {A A' : Option Addr} {n n' c c' : Nat} (h : A = A') (h1 : n = n') (h2 : c = c') : Ending.returned (.slice A n c) = .returned (.slice A' n' c') := by rw [h, h1, h2]
theorem valsB_get (xs : List Nat) (j : Nat) : (valsB xs)[j]? = (xs[j]?).map fun (x : Nat) => Value.int .u8 (x : Int) := by simp [valsB]
/-- What a take leaves. -/
theorem take_end {w : World} {B : Nat → Prop} {g b off n c m : Nat} {bs : List Nat} (low : B g) (block : w.heap[g]? = some (.cells #[.slice (some ⟨b, off, none⟩) n c, .bool false] 106 (0, 0))) (row : Rdv w (some ⟨b, off, none⟩) n 1 (valsB bs)) (small : ∀ x ∈ bs, x < 256) (len : n ≤ 140737488355328) (h1 : B b) (h2 : b ≠ g) (h3 : b < w.heap.size) (hmn : m ≤ n) (off' c' : Nat) (ho : off' = off + m ∨ n = m) (hc : n - m ≤ c') :
    Rdv (w.setCell ⟨g, 0, none⟩ (.slice (some ⟨b, off', none⟩) (n - m) c')) (some ⟨b, off, none⟩) m 1 (valsB (bs.take m)) ∧ Rdr (w.setCell ⟨g, 0, none⟩ (.slice (some ⟨b, off', none⟩) (n - m) c')) B (.pointer (some ⟨g, 0, none⟩)) (bs.drop m) false := by
  have hl : bs.length = n := by have := row.1; rw [valsB_length] at this; omega
  have hcell : ∀ o, (w.setCell ⟨g, 0, none⟩ (.slice (some ⟨b, off', none⟩) (n - m) c')).cell? ⟨b, o, none⟩ = w.cell? ⟨b, o, none⟩ := fun o => World.cell?_of_block (Deep.blk_setCell_other w ⟨g, 0, none⟩ _ b h2)
  have hrow : ∀ j (x : Nat), bs[j]? = some x → w.cell? ⟨b, off + j, none⟩ = some (.int .u8 (x : Int)) := fun j x hj => by
    have hj' := (List.getElem?_eq_some_iff.1 hj).1
    obtain ⟨b', o', e, hc'⟩ := row.2 (by omega)
    injection e with e
    injection e with e1 e2
    subst e1 e2
    exact hc' j _ (by rw [valsB_get, hj]; rfl)
  refine ⟨⟨by rw [valsB_length, List.length_take]; omega, fun _ => ⟨b, off, rfl, fun j u hj => ?_⟩⟩, .some g _ _ _ _ _ low ?_ ⟨by rw [valsB_length, List.length_drop]; omega, fun _ => ⟨b, off', rfl, fun j u hj => ?_⟩⟩ (.inr ⟨b, off', rfl, h1, h2, by rw [World.size_setCell]; exact h3, hc⟩) (fun h => by cases h) (fun x hx => small x (List.mem_of_mem_drop hx)) (by omega)⟩
  · rw [valsB_get, List.getElem?_take] at hj
    by_cases hjm : j < m
    · rw [if_pos hjm] at hj
      cases hx : bs[j]? with
      | none => rw [hx] at hj; cases hj
      | some x => rw [hx] at hj; cases hj; rw [hcell]; exact hrow j x hx
    · rw [if_neg hjm] at hj; cases hj
  · simp [World.setCell, Array.getElem?_modify, block]
  · rw [valsB_get, List.getElem?_drop] at hj
    cases hx : bs[m + j]? with
    | none => rw [hx] at hj; cases hj
    | some x =>
      rw [hx] at hj
      cases hj
      have hj' := (List.getElem?_eq_some_iff.1 hx).1
      rcases ho with rfl | rfl
      · rw [hcell, Nat.add_assoc]; exact hrow _ x hx
      · omega
set_option maxHeartbeats 1000000 in
theorem take_any (B : Nat → Prop) (V : Value) (bs : List Nat) (bad : Bool) (m : Nat) (hm : m < 18446744073709551616) (w : World) (h : Rdr w B V bs bad) :
    Calls Try.prog 94 #[V, .int .u64 (m : Int)] w fun e w' => ∃ v, e = .returned v ∧ ∃ A c, v = .slice A (outT bs bad m).length c ∧ Rdv w' A (outT bs bad m).length 1 (valsB (outT bs bad m)) ∧ (A = none → c = 0 ∧ outT bs bad m = []) ∧ Rdr w' B V (restT bs bad m) (failT bs bad m) ∧ Only w w' V := by
  have HI := Lib.hid (isBad_any B V bs bad w h)
  have HS := Lib.hid (spoil_any B V bs bad w h)
  cases h with
  | none =>
    rw [show outT [] true m = [] from rfl, show restT [] true m = [] from rfl, show failT [] true m = true from rfl]
    go_enter Try.func94, Try.ntmps94
    go_wp2_with fail
    refine Calls.mono HI.out ?_
    rintro e w1 ⟨rfl, rfl⟩
    go_wp2_with fail
    refine Calls.mono HS.out ?_
    rintro e w1 ⟨rfl, h1, h2⟩
    have H1 := Lib.hid h1
    have H2 := Lib.hid h2
    clear h1 h2
    go_wp2_with fail
    go_ret
    exact ⟨_, rfl, none, 0, rfl, ⟨rfl, fun h => absurd h (by simp)⟩, fun _ => ⟨rfl, trivial⟩, H1.out, H2.out⟩
  | some g A n c bs bad low block row lies hbad small len =>
    have hl : bs.length = n := by have := row.1; rw [valsB_length] at this; omega
    have c0 : w.cell? ⟨g, 0, none⟩ = some (.slice A n c) := cell_of_row w g 0 _ 106 (0, 0) block
    have f0 : w.frozen? ⟨g, 0, none⟩ = false := by simp [World.frozen?, block]
    cases bad with
    | true =>
      rw [show outT bs true m = [] from rfl, show restT bs true m = [] from rfl, show failT bs true m = true from rfl]
      clear block row lies hbad small len hl f0 c0
      go_enter Try.func94, Try.ntmps94
      go_wp2_with fail
      refine Calls.mono HI.out ?_
      rintro e w1 ⟨rfl, rfl⟩
      go_wp2_with fail
      refine Calls.mono HS.out ?_
      rintro e w1 ⟨rfl, h1, h2⟩
      have H1 := Lib.hid h1
      have H2 := Lib.hid h2
      clear h1 h2
      go_wp2_with fail
      go_ret
      exact ⟨_, rfl, none, 0, rfl, ⟨rfl, fun h => absurd h (by simp)⟩, fun _ => ⟨rfl, trivial⟩, H1.out, H2.out⟩
    | false =>
      by_cases hlt : n < m
      · have hf : failT bs false m = true := by simp [failT]; omega
        rw [show outT bs false m = [] by simp [outT, hf], show restT bs false m = [] by simp [restT, hf], hf]
        clear block row lies hbad small hl f0 hf
        go_enter Try.func94, Try.ntmps94
        go_wp2_with fail
        refine Calls.mono HI.out ?_
        rintro e w1 ⟨rfl, rfl⟩
        go_wp2_with fail
        refine Calls.mono HS.out ?_
        rintro e w1 ⟨rfl, h1, h2⟩
        have H1 := Lib.hid h1
        have H2 := Lib.hid h2
        clear h1 h2
        go_wp2_with fail
        go_ret
        exact ⟨_, rfl, none, 0, rfl, ⟨rfl, fun h => absurd h (by simp)⟩, fun _ => ⟨rfl, trivial⟩, H1.out, H2.out⟩
      · have hf : failT bs false m = false := by simp [failT]; omega
        rw [show outT bs false m = bs.take m by simp [outT, hf], show restT bs false m = bs.drop m by simp [restT, hf], hf]
        rcases lies with ⟨rfl, rfl, rfl⟩ | ⟨b, off, rfl, h1, h2, h3, h4⟩
        · obtain rfl : m = 0 := by omega
          have e1 : bs = [] := List.eq_nil_of_length_eq_zero hl
          subst e1
          rw [show ([] : List Nat).take 0 = [] from rfl, show ([] : List Nat).drop 0 = [] from rfl]
          have hr' : Rdr (w.setCell ⟨g, 0, none⟩ (.slice none 0 0)) B (.pointer (some ⟨g, 0, none⟩)) [] false := by
            refine .some g none 0 0 [] false low ?_ ⟨rfl, fun h => absurd h (by omega)⟩ (.inl ⟨rfl, rfl, rfl⟩) (fun h => by cases h) (fun x hx => by cases hx) (by omega)
            simp [World.setCell, Array.getElem?_modify, block]
          have HR := Lib.hid hr'
          clear hr' block row hbad small hl hf HS
          go_enter Try.func94, Try.ntmps94
          go_wp2_with fail
          refine Calls.mono HI.out ?_
          rintro e w1 ⟨rfl, rfl⟩
          go_wp2_with fail
          go_ret
          exact ⟨_, rfl, none, 0, rfl, ⟨rfl, fun h => absurd h (by simp)⟩, fun _ => ⟨rfl, trivial⟩, HR.out, Only.set _ _ _ _⟩
        · have hA : (⟨b, off, none⟩ : Addr).add m = ⟨b, off + m, none⟩ := addr_plus b off m
          have htl : (bs.take m).length = m := by rw [List.length_take]; omega
          have HE := Lib.hid (take_end low block row small len h1 h2 h3 (show m ≤ n by omega))
          obtain ⟨os, ho⟩ : ∃ os, os = bs.take m := ⟨_, rfl⟩
          obtain ⟨rs, hr⟩ : ∃ rs, rs = bs.drop m := ⟨_, rfl⟩
          rw [← ho] at htl ⊢
          rw [← hr, htl]
          rw [← ho, ← hr] at HE
          clear hf ho hr HS htl hl hbad row block low h1 h2 h3 small
          go_enter Try.func94, Try.ntmps94
          go_wp2_with fail
          refine Calls.mono HI.out ?_
          rintro e w1 ⟨rfl, rfl⟩
          go_wp2_with fail
          case inl =>
            obtain ⟨q1, q2⟩ := HE.out off 0 (.inr (by omega)) (by omega)
            have Q1 := Lib.hid q1
            have Q2 := Lib.hid q2
            clear q1 q2
            go_ret
            exact ⟨_, rfl, _, _, rfl, Q1.out, (fun h => by cases h), Q2.out, Only.set _ _ _ _⟩
          case inr =>
            obtain ⟨q1, q2⟩ := HE.out (off + m) (c - m) (.inl rfl) (by omega)
            have Q1 := Lib.hid q1
            have Q2 := Lib.hid q2
            clear q1 q2
            go_ret
            exact ⟨_, rfl, _, _, rfl, Q1.out, (fun h => by cases h), Q2.out, Only.set _ _ _ _⟩
/-- What a byte is, read. -/
def byteT (bs : List Nat) : Nat := bs.headD 0
set_option maxHeartbeats 400000 in
theorem rbyte_any (B : Nat → Prop) (V : Value) (bs : List Nat) (bad : Bool) (w : World) (h : Rdr w B V bs bad) :
    Calls Try.prog 83 #[V] w fun e w' => e = .returned (.int .u8 ((byteT bs : Nat) : Int)) ∧ Rdr w' B V (bs.drop 1) (bad || decide (bs.length = 0)) ∧ Only w w' V := by
  have HT := Lib.hid (take_any B V bs bad 1 (by omega) w h)
  rcases bs with _ | ⟨x, t⟩
  · have hT := HT.out
    rw [show outT [] bad 1 = [] by cases bad <;> rfl, show restT [] bad 1 = [] by cases bad <;> rfl, show failT [] bad 1 = true by cases bad <;> rfl] at hT
    rw [show ([] : List Nat).drop 1 = [] from rfl, show (bad || decide (([] : List Nat).length = 0)) = true by cases bad <;> rfl, show byteT [] = 0 from rfl]
    have HT := Lib.hid hT
    clear hT h
    go_enter Try.func83, Try.ntmps83
    go_wp2_with fail
    refine Calls.mono HT.out ?_
    rintro e w1 ⟨_, rfl, A, c, rfl, h1, h2, h3, h4⟩
    have H3 := Lib.hid h3
    have H4 := Lib.hid h4
    clear h1 h2 h3 h4
    go_wp2_with fail
    go_ret
    exact ⟨rfl, H3.out, H4.out⟩
  · have hb : bad = false := by
      cases bad with
      | false => rfl
      | true => have := h.empty; cases this
    subst hb
    have hT := HT.out
    rw [show outT (x :: t) false 1 = [x] by simp [outT, failT], show restT (x :: t) false 1 = t by simp [restT, failT], show failT (x :: t) false 1 = false by simp [failT]] at hT
    rw [show (x :: t).drop 1 = t from rfl, show (false || decide ((x :: t).length = 0)) = false by simp, show byteT (x :: t) = x from rfl]
    have HT := Lib.hid hT
    clear hT h
    go_enter Try.func83, Try.ntmps83
    go_wp2_with fail
    refine Calls.mono HT.out ?_
    rintro e w1 ⟨_, rfl, A, c, rfl, h1, h2, h3, h4⟩
    obtain ⟨b, off, rfl, hc⟩ := h1.2 (by simp)
    have c0 : w1.cell? ⟨b, off, none⟩ = some (.int .u8 (x : Int)) := hc 0 _ rfl
    have H3 := Lib.hid h3
    have H4 := Lib.hid h4
    clear h1 h2 h3 h4 hc
    go_wp2_with fail
    go_ret
    exact ⟨rfl, H3.out, H4.out⟩
set_option maxHeartbeats 400000 in
theorem left_any (B : Nat → Prop) (V : Value) (bs : List Nat) (bad : Bool) (w : World) (h : Rdr w B V bs bad) :
    Calls Try.prog 82 #[V] w fun e w' => e = .returned (.int .i64 ((bs.length : Nat) : Int)) ∧ w = w' := by
  have HI := Lib.hid (isBad_any B V bs bad w h)
  cases bad with
  | true =>
    rw [h.empty]
    clear h
    go_enter Try.func82, Try.ntmps82
    go_wp2_with fail
    refine Calls.mono HI.out ?_
    rintro e w1 ⟨rfl, rfl⟩
    go_wp2_with fail
    go_ret
    exact ⟨rfl, rfl⟩
  | false =>
    cases h with
    | some g A n c bs bad low block row lies hbad small len =>
      have hl : bs.length = n := by have := row.1; rw [valsB_length] at this; omega
      have c0 : w.cell? ⟨g, 0, none⟩ = some (.slice A n c) := cell_of_row w g 0 _ 106 (0, 0) block
      rw [hl]
      clear block row lies hbad small hl
      go_enter Try.func82, Try.ntmps82
      go_wp2_with fail
      refine Calls.mono HI.out ?_
      rintro e w1 ⟨rfl, rfl⟩
      go_wp2_with fail
      go_ret
      exact ⟨rfl, rfl⟩
/-- What End answers. -/
def endV (bs : List Nat) (bad : Bool) : Value := if bad = false ∧ bs = [] then .nilIface else .iface 51 (.int .i64 2)
set_option maxHeartbeats 400000 in
theorem end_any (B : Nat → Prop) (V : Value) (bs : List Nat) (bad : Bool) (w : World) (h : Rdr w B V bs bad) :
    Calls Try.prog 57 #[V] w fun e w' => ∃ v, e = .returned v ∧ v = endV bs bad ∧ w = w' := by
  have HI := Lib.hid (isBad_any B V bs bad w h)
  cases bad with
  | true =>
    rw [show endV bs true = .iface 51 (.int .i64 2) from rfl]
    clear h
    go_enter Try.func57, Try.ntmps57
    go_wp2_with fail
    refine Calls.mono HI.out ?_
    rintro e w1 ⟨rfl, rfl⟩
    go_wp2_with fail
    go_ret
    exact ⟨_, rfl, rfl, rfl⟩
  | false =>
    cases h with
    | some g A n c bs bad low block row lies hbad small len =>
      have hl : bs.length = n := by have := row.1; rw [valsB_length] at this; omega
      have c0 : w.cell? ⟨g, 0, none⟩ = some (.slice A n c) := cell_of_row w g 0 _ 106 (0, 0) block
      by_cases h0 : n = 0
      · subst h0
        rw [show endV bs false = .nilIface by rw [List.eq_nil_of_length_eq_zero hl]; rfl]
        clear block row lies hbad small hl
        go_enter Try.func57, Try.ntmps57
        go_wp2_with fail
        refine Calls.mono HI.out ?_
        rintro e w1 ⟨rfl, rfl⟩
        go_wp2_with fail
        go_ret
        exact ⟨_, rfl, rfl, rfl⟩
      · have hp : 0 < n := Nat.pos_of_ne_zero h0
        have he : bs ≠ [] := fun e => by rw [e] at hl; simp at hl; omega
        rw [show endV bs false = .iface 51 (.int .i64 2) by simp [endV, he]]
        clear block row lies hbad small hl he
        go_enter Try.func57, Try.ntmps57
        go_wp2_with fail
        refine Calls.mono HI.out ?_
        rintro e w1 ⟨rfl, rfl⟩
        go_wp2_with fail
        go_ret
        exact ⟨_, rfl, rfl, rfl⟩
end Go.Proofs.Ytmicheheibkmjaa

/- The contract of a reader's Count. -/
namespace Go.Proofs.Ytmicheheibkmjaa
set_option maxRecDepth 100000
open Go.RowKit

/-- What Count comes to behind i groups, of which n was made. -/
def rcnt : Nat → Nat → Nat → List Nat → Nat × List Nat × Bool
  | 0, _, n, bs => (n, bs, false)
  | _ + 1, _, _, [] => (0, [], true)
  | f + 1, i, n, b :: t =>
    if (i = 9 ∧ 1 < b) ∨ (0 < i ∧ b = 0) then (0, [], true)
    else if b < 128 then (n + b % 128 * 128 ^ i, t, false) else rcnt f (i + 1) (n + b % 128 * 128 ^ i) t
def rcount (bs : List Nat) : Nat × List Nat × Bool := rcnt 10 0 0 bs
theorem and127 (b : Nat) (hb : b < 256) : bits BinOp.and IntKind.u8 (b : Int) 127 = ((b % 128 : Nat) : Int) := by
  have key : ∀ y : Fin 256, bits BinOp.and IntKind.u8 (y.val : Int) 127 = ((y.val % 128 : Nat) : Int) := by decide +kernel
  exact key ⟨b, hb⟩
theorem or_shift (n b k : Nat) (hn : n < 128 ^ k) (hk : k < 10) (hb : b < 128) (h9 : k = 9 → b ≤ 1) : bits BinOp.or IntKind.u64 (n : Int) (((b * 128 ^ k : Nat) : Int)) = ((n + b * 128 ^ k : Nat) : Int) := by
  have hp : (128 : Nat) ^ k ≤ 128 ^ 9 := Nat.pow_le_pow_right (by omega) (by omega)
  have h2 : b * 128 ^ k < 18446744073709551616 := by
    rcases Nat.lt_or_ge k 9 with h | h
    · have : (128 : Nat) ^ k ≤ 128 ^ 8 := Nat.pow_le_pow_right (by omega) (by omega)
      calc b * 128 ^ k ≤ 127 * 128 ^ 8 := Nat.mul_le_mul (by omega) this
        _ < _ := by decide
    · obtain rfl : k = 9 := by omega
      have := h9 rfl
      calc b * 128 ^ 9 ≤ 1 * 128 ^ 9 := Nat.mul_le_mul this (Nat.le_refl _)
        _ < _ := by decide
  have h1 : n < 18446744073709551616 := Nat.lt_of_lt_of_le hn (Nat.le_trans hp (by decide))
  rw [bits_or_u64_nat n (b * 128 ^ k) h1 h2]
  congr 1
  have e : (128 : Nat) ^ k = 2 ^ (7 * k) := by rw [Nat.pow_mul]
  rw [e] at hn ⊢
  rw [Nat.or_comm, Nat.mul_comm b, ← Nat.two_pow_add_eq_or_of_lt hn]
  omega
theorem or_group (n b k : Nat) (hn : n < 128 ^ k) (hk : k < 10) (hb : b < 128) (h9 : k = 9 → b ≤ 1) : bits BinOp.or IntKind.u64 (n : Int) (IntKind.u64.wrap (IntKind.u64.wrap (b : Int) * 2 ^ (7 * k))) = ((n + b * 128 ^ k : Nat) : Int) := by
  have h2 : b * 128 ^ k < 18446744073709551616 := by
    rcases Nat.lt_or_ge k 9 with h | h
    · have : (128 : Nat) ^ k ≤ 128 ^ 8 := Nat.pow_le_pow_right (by omega) (by omega)
      calc b * 128 ^ k ≤ 127 * 128 ^ 8 := Nat.mul_le_mul (by omega) this
        _ < _ := by decide
    · obtain rfl : k = 9 := by omega
      have := h9 rfl
      calc b * 128 ^ 9 ≤ 1 * 128 ^ 9 := Nat.mul_le_mul this (Nat.le_refl _)
        _ < _ := by decide
  have e0 : IntKind.u64.wrap (b : Int) = ((b : Nat) : Int) := by rw [IntKind.wrap_u64]; omega
  have e1 : ((b : Nat) : Int) * 2 ^ (7 * k) = ((b * 128 ^ k : Nat) : Int) := by
    rw [show (128 : Nat) ^ k = 2 ^ (7 * k) by rw [Nat.pow_mul], Int.natCast_mul, Int.natCast_pow]
    rfl
  rw [e0, e1]
  have e2 : IntKind.u64.wrap ((b * 128 ^ k : Nat) : Int) = ((b * 128 ^ k : Nat) : Int) := by rw [IntKind.wrap_u64]; omega
  rw [e2]
  exact or_shift n b k hn hk hb h9

set_option maxHeartbeats 2000000 in
theorem rcount_any (B : Nat → Prop) (V : Value) (bs : List Nat) (bad : Bool) (w : World) (h : Rdr w B V bs bad) :
    Calls Try.prog 55 #[V] w fun e w' => e = .returned (.int .u64 (((rcount bs).1 : Nat) : Int)) ∧ Rdr w' B V (rcount bs).2.1 (rcount bs).2.2 ∧ Only w w' V := by
  obtain ⟨R, hR⟩ : ∃ R, R = rcount bs := ⟨_, rfl⟩
  rw [← hR]
  have HH := Lib.hid h
  have HR := Lib.hid hR
  clear h hR
  go_enter Try.func55, Try.ntmps55
  go_wp2_with fail
  go_loopw [3, 6] (fun x i wr => ∃ (k n : Nat) (cs : List Nat) (bad' : Bool), x = .int .u64 (n : Int) ∧ i = .int .i64 (k : Int) ∧ k ≤ 10 ∧ n < 128 ^ k ∧ Rdr wr B V cs bad' ∧ Only w wr V ∧ R = rcnt (10 - k) k n cs ∧ (0 < k → bad' = false)) (fun _ i _ => 10 - (intOf i).toNat)
  case atStart => exact ⟨0, 0, bs, bad, rfl, rfl, by omega, by decide, HH.out, Only.refl _ _, HR.out, fun h => absurd h (by omega)⟩
  case round =>
    obtain ⟨k, n, cs, bad', rfl, rfl, hk, hn, hr, ho, he, hb⟩ := hrel
    have HO := Lib.hid ho
    by_cases hk10 : k = 10
    · subst hk10
      obtain rfl := hb (by omega)
      have HRR := Lib.hid hr
      have HE := Lib.hid he
      clear hr he hb ho hn HH HR
      go_wp2_with fail
      go_ret
      have e := HE.out
      rw [e]
      exact ⟨rfl, HRR.out, HO.out⟩
    · have hlt : k < 10 := by omega
      have HY := Lib.hid (rbyte_any B V cs bad' wr hr)
      rcases cs with _ | ⟨b, t⟩
      · have hy := HY.out
        rw [show ([] : List Nat).drop 1 = [] from rfl, show (bad' || decide (([] : List Nat).length = 0)) = true by cases bad' <;> rfl, show byteT [] = 0 from rfl] at hy
        have HY := Lib.hid hy
        have he2 : R = (0, [], true) := by rw [he, show 10 - k = (9 - k) + 1 by omega]; rfl
        have HE := Lib.hid he2
        clear hy he he2 hn hb hr ho HH HR
        rcases Nat.eq_zero_or_pos k with rfl | hkp
        · go_wp2_with fail
          refine Calls.mono HY.out ?_
          rintro e w1 ⟨rfl, h1, h2⟩
          have H2 := Lib.hid h2
          have H1 := Lib.hid h1
          have HI := Lib.hid (isBad_any B V [] true w1 h1)
          clear h1 h2
          go_wp2_with fail
          refine Calls.mono HI.out ?_
          rintro e w2 ⟨rfl, rfl⟩
          go_wp2_with fail
          go_ret
          rw [HE.out]
          exact ⟨rfl, H1.out, HO.out.trans H2.out⟩
        · go_wp2_with fail
          refine Calls.mono HY.out ?_
          rintro e w1 ⟨rfl, h1, h2⟩
          have H2 := Lib.hid h2
          have HS := Lib.hid (spoil_any B V [] true w1 h1)
          clear h1 h2
          go_wp2_with fail
          all_goals
            refine Calls.mono HS.out ?_
            rintro e w2 ⟨rfl, h3, h4⟩
            have H3 := Lib.hid h3
            have H4 := Lib.hid h4
            have HI := Lib.hid (isBad_any B V [] true w2 h3)
            clear h3 h4
            go_wp2_with fail
            refine Calls.mono HI.out ?_
            rintro e w3 ⟨rfl, rfl⟩
            go_wp2_with fail
            go_ret
            rw [HE.out]
            exact ⟨rfl, H3.out, (HO.out.trans H2.out).trans H4.out⟩
      · obtain rfl : bad' = false := by
          cases bad' with
          | false => rfl
          | true => have := hr.empty; cases this
        have hb256 : b < 256 := hr.small' b (List.mem_cons_self ..)
        have hy := HY.out
        rw [show (b :: t).drop 1 = t from rfl, show (false || decide ((b :: t).length = 0)) = false by simp, show byteT (b :: t) = b from rfl] at hy
        clear HY
        have HY := Lib.hid hy
        rw [show 10 - k = (9 - k) + 1 by omega] at he
        by_cases hC : (k = 9 ∧ 1 < b) ∨ (0 < k ∧ b = 0)
        · have he2 : R = (0, [], true) := by rw [he]; simp only [rcnt]; rw [if_pos hC]
          have HE := Lib.hid he2
          clear hy he he2 hn hb hr ho HH HR
          rcases hC with ⟨hC1, hC2⟩ | ⟨hC1, hC2⟩
          all_goals
            go_wp2_with fail
          all_goals
            refine Calls.mono HY.out ?_
            rintro e w1 ⟨rfl, h1, h2⟩
            have H2 := Lib.hid h2
            have HS := Lib.hid (spoil_any B V t false w1 h1)
            clear h1 h2
            go_wp2_with fail
          all_goals
            refine Calls.mono HS.out ?_
            rintro e w2 ⟨rfl, h3, h4⟩
            have H3 := Lib.hid h3
            have H4 := Lib.hid h4
            have HI := Lib.hid (isBad_any B V [] true w2 h3)
            clear h3 h4
            go_wp2_with fail
            refine Calls.mono HI.out ?_
            rintro e w3 ⟨rfl, rfl⟩
            go_wp2_with fail
            go_ret
            rw [HE.out]
            exact ⟨rfl, H3.out, (HO.out.trans H2.out).trans H4.out⟩
        · have hx1 : k ≠ 9 ∨ b ≤ 1 := by omega
          have hx2 : k = 0 ∨ 0 < b := by omega
          have he2 : R = if b < 128 then (n + b % 128 * 128 ^ k, t, false) else rcnt (9 - k) (k + 1) (n + b % 128 * 128 ^ k) t := by rw [he]; simp only [rcnt]; rw [if_neg hC]
          have e1 := and127 b hb256
          have hb9 : k = 9 → b % 128 ≤ 1 := by omega
          have e2 := or_group n (b % 128) k hn hlt (by omega) hb9
          have hn' : n + b % 128 * 128 ^ k < 128 ^ (k + 1) := by
            have : b % 128 * 128 ^ k ≤ 127 * 128 ^ k := Nat.mul_le_mul (by omega) (Nat.le_refl _)
            rw [Nat.pow_succ]; omega
          obtain ⟨N, hN⟩ : ∃ N, N = n + b % 128 * 128 ^ k := ⟨_, rfl⟩
          rw [← hN] at e2 he2 hn'
          obtain ⟨X, hX⟩ : ∃ X, X = b % 128 := ⟨_, rfl⟩
          rw [← hX] at e1 e2
          have HE := Lib.hid he2
          have HN' := Lib.hid hn'
          have HE2 := Lib.hid e2
          clear hy he he2 hn hb hr ho HH HR hC hN hX hn' hb9 e2
          have hsplit : ¬ 0 < k ∨ (8 < k ∧ b < 2 ∧ 0 < b) ∨ (0 < k ∧ k < 9 ∧ 0 < b) := by omega
          clear hx1 hx2
          rcases hsplit with hs1 | ⟨hs1, hs2, hs3⟩ | ⟨hs1, hs2, hs3⟩
          · go_wp2_with fail
            refine Calls.mono HY.out ?_
            rintro e w1 ⟨rfl, h1, h2⟩
            have H2 := Lib.hid (HO.out.trans h2)
            have H1 := Lib.hid h1
            have HI := Lib.hid (isBad_any B V t false w1 h1)
            clear h1 h2
            go_wp2_with fail
            refine Calls.mono HI.out ?_
            rintro e w3 ⟨rfl, rfl⟩
            by_cases hb128 : b < 128
            · have he3 := HE.out
              rw [if_pos hb128] at he3
              have HE3 := Lib.hid he3
              clear he3
              go_wp2_with fail
              go_ret
              rw [HE3.out, HE2.out]
              exact ⟨rfl, H1.out, H2.out⟩
            · have he3 := HE.out
              rw [if_neg hb128] at he3
              have HE3 := Lib.hid he3
              clear he3
              go_wp2_with fail
              rw [HE2.out]
              exact ⟨⟨k + 1, N, t, false, rfl, by go_num, by omega, HN'.out, H1.out, H2.out, by rw [HE3.out, show 10 - (k + 1) = 9 - k by omega], fun _ => rfl⟩, by simp [intOf]; omega⟩
          · have hbz : ((b : Int) == 0) = false := by simp; omega
            obtain rfl : k = 9 := by omega
            have HE2 : _ := HE2.out
            rw [show (2 : Int) ^ (7 * 9) = 9223372036854775808 from rfl] at HE2
            have HE2 := Lib.hid HE2
            go_wp2_with fail
            refine Calls.mono HY.out ?_
            rintro e w1 ⟨rfl, h1, h2⟩
            have H2 := Lib.hid (HO.out.trans h2)
            have H1 := Lib.hid h1
            have HI := Lib.hid (isBad_any B V t false w1 h1)
            clear h1 h2
            go_wp2_with fail
            refine Calls.mono HI.out ?_
            rintro e w3 ⟨rfl, rfl⟩
            by_cases hb128 : b < 128
            · have he3 := HE.out
              rw [if_pos hb128] at he3
              have HE3 := Lib.hid he3
              clear he3
              go_wp2_with fail
              go_ret
              rw [HE3.out]
              exact ⟨rfl, H1.out, H2.out⟩
            · omega
          · go_wp2_with fail
            refine Calls.mono HY.out ?_
            rintro e w1 ⟨rfl, h1, h2⟩
            have H2 := Lib.hid (HO.out.trans h2)
            have H1 := Lib.hid h1
            have HI := Lib.hid (isBad_any B V t false w1 h1)
            clear h1 h2
            go_wp2_with fail
            refine Calls.mono HI.out ?_
            rintro e w3 ⟨rfl, rfl⟩
            by_cases hb128 : b < 128
            · have he3 := HE.out
              rw [if_pos hb128] at he3
              have HE3 := Lib.hid he3
              clear he3
              go_wp2_with fail
              go_ret
              rw [HE3.out, HE2.out]
              exact ⟨rfl, H1.out, H2.out⟩
            · have he3 := HE.out
              rw [if_neg hb128] at he3
              have HE3 := Lib.hid he3
              clear he3
              go_wp2_with fail
              rw [HE2.out]
              exact ⟨⟨k + 1, N, t, false, rfl, by go_num, by omega, HN'.out, H1.out, H2.out, by rw [HE3.out, show 10 - (k + 1) = 9 - k by omega], fun _ => rfl⟩, by simp [intOf]; omega⟩
end Go.Proofs.Ytmicheheibkmjaa

/- The contracts of a reader's Num, Flag, Bytes, Text; and the new reader. -/
namespace Go.Proofs.Ytmicheheibkmjaa
set_option maxRecDepth 100000
open Go.RowKit

theorem rcnt_lt (f : Nat) : ∀ (i n : Nat) (bs : List Nat), f + i = 10 → n < 128 ^ i → (∀ x ∈ bs, x < 256) → (i = 10 → n < 18446744073709551616) → (rcnt f i n bs).1 < 18446744073709551616 := by
  induction f with
  | zero => intro i n bs hi hn _ h; exact h (by omega)
  | succ f ih =>
    intro i n bs hi hn hs _
    rcases bs with _ | ⟨b, t⟩
    · simp [rcnt]
    · simp only [rcnt]
      by_cases hC : (i = 9 ∧ 1 < b) ∨ (0 < i ∧ b = 0)
      · rw [if_pos hC]; decide
      · rw [if_neg hC]
        have hb9 : i = 9 → b % 128 ≤ 1 := by omega
        have hlt : n + b % 128 * 128 ^ i < 18446744073709551616 := by
          rcases Nat.lt_or_ge i 9 with h | h
          · have h8 : (128 : Nat) ^ i ≤ 128 ^ 8 := Nat.pow_le_pow_right (by omega) (by omega)
            have : b % 128 * 128 ^ i ≤ 127 * 128 ^ 8 := Nat.mul_le_mul (by omega) h8
            omega
          · obtain rfl : i = 9 := by omega
            have := hb9 rfl
            have : b % 128 * 128 ^ 9 ≤ 1 * 128 ^ 9 := Nat.mul_le_mul this (Nat.le_refl _)
            omega
        have hn' : n + b % 128 * 128 ^ i < 128 ^ (i + 1) := by
          have : b % 128 * 128 ^ i ≤ 127 * 128 ^ i := Nat.mul_le_mul (by omega) (Nat.le_refl _)
          rw [Nat.pow_succ]; omega
        split
        · exact hlt
        · exact ih (i + 1) _ t (by omega) hn' (fun x hx => hs x (List.mem_cons_of_mem _ hx)) (fun _ => hlt)
theorem rcount_lt (bs : List Nat) (hs : ∀ x ∈ bs, x < 256) : (rcount bs).1 < 18446744073709551616 := rcnt_lt 10 0 0 bs rfl (by decide) hs (fun h => by cases h)
/-- The number of a count. -/
def unfoldN (n : Nat) : Int := if n % 2 = 1 then -((n / 2 : Nat) : Int) - 1 else ((n / 2 : Nat) : Int)

theorem unfold_bits (n : Nat) (h : n < 18446744073709551616) : bits BinOp.xor IntKind.i64 ((n : Int) / 2) (wrap64 (-wrap64 (bits BinOp.and IntKind.u64 (n : Int) 1))) = unfoldN n := by
  rw [Go.Lib.u64_and1 (n : Int) (by omega) (by omega)]
  have e0 : (n : Int) / 2 = ((n / 2 : Nat) : Int) := by omega
  unfold unfoldN
  by_cases h1 : n % 2 = 1
  · rw [if_pos h1, show (n : Int) % 2 = 1 by omega, show wrap64 (-wrap64 1) = -1 by decide +kernel, e0]
    show IntKind.i64.wrap ((BitVec.ofInt 64 ((n / 2 : Nat) : Int) ^^^ BitVec.ofInt 64 (-1)).toNat : Int) = _
    have h1 : (BitVec.ofInt 64 (-1)).toNat = 2 ^ 64 - 1 := by decide
    have h2 : (BitVec.ofInt 64 ((n / 2 : Nat) : Int)).toNat = n / 2 := by
      rw [BitVec.ofInt_natCast, BitVec.toNat_ofNat]; exact Nat.mod_eq_of_lt (by omega)
    rw [BitVec.toNat_xor, h1, h2, Nat.xor_comm, Go.Lib.xor_ones64 (n / 2) (by omega), IntKind.wrap_i64]
    omega
  · rw [if_neg h1, show (n : Int) % 2 = 0 by omega, show wrap64 (-wrap64 0) = 0 by decide +kernel, e0]
    show IntKind.i64.wrap ((BitVec.ofInt 64 ((n / 2 : Nat) : Int) ^^^ BitVec.ofInt 64 0).toNat : Int) = _
    have h1 : (BitVec.ofInt 64 0).toNat = 0 := by decide
    have h2 : (BitVec.ofInt 64 ((n / 2 : Nat) : Int)).toNat = n / 2 := by
      rw [BitVec.ofInt_natCast, BitVec.toNat_ofNat]; exact Nat.mod_eq_of_lt (by omega)
    rw [BitVec.toNat_xor, h1, h2, Nat.xor_zero, IntKind.wrap_i64]
    omega
set_option maxHeartbeats 400000 in
theorem rnum_any (B : Nat → Prop) (V : Value) (bs : List Nat) (bad : Bool) (w : World) (h : Rdr w B V bs bad) :
    Calls Try.prog 56 #[V] w fun e w' => e = .returned (.int .i64 (unfoldN (rcount bs).1)) ∧ Rdr w' B V (rcount bs).2.1 (rcount bs).2.2 ∧ Only w w' V := by
  have HC := Lib.hid (rcount_any B V bs bad w h)
  have hlt := rcount_lt bs h.small'
  obtain ⟨n, hn⟩ : ∃ n, n = (rcount bs).1 := ⟨_, rfl⟩
  rw [← hn] at HC hlt ⊢
  obtain ⟨U, hU⟩ : ∃ U, U = unfoldN n := ⟨_, rfl⟩
  rw [← hU]
  have HU := Lib.hid ((unfold_bits n hlt).trans hU.symm)
  clear h hn hU
  go_enter Try.func56, Try.ntmps56
  go_wp2_with fail
  refine Calls.mono HC.out ?_
  rintro e w1 ⟨rfl, h1, h2⟩
  have H1 := Lib.hid h1
  have H2 := Lib.hid h2
  clear h1 h2
  go_wp2_with fail
  go_ret
  exact ⟨by rw [HU.out]; rfl, H1.out, H2.out⟩

/-- What Flag leaves. -/
def flagRest (bs : List Nat) : List Nat := if byteT bs > 1 then [] else bs.drop 1
def flagBad (bs : List Nat) (bad : Bool) : Bool := decide (byteT bs > 1) || (bad || decide (bs.length = 0))
theorem ret_bool {a b : Bool} (h : a = b) : Ending.returned (.bool a) = .returned (.bool b) := by rw [h]
/-- What Bytes answers, and leaves. -/
def bytesOut (bs : List Nat) : List Nat := outT (rcount bs).2.1 (rcount bs).2.2 (rcount bs).1
def bytesRest (bs : List Nat) : List Nat := restT (rcount bs).2.1 (rcount bs).2.2 (rcount bs).1
def bytesBad (bs : List Nat) : Bool := failT (rcount bs).2.1 (rcount bs).2.2 (rcount bs).1
theorem Rdr.len' {w : World} {B : Nat → Prop} {V : Value} {bs : List Nat} {bad : Bool} (h : Rdr w B V bs bad) : bs.length ≤ 140737488355328 := by
  cases h with
  | none => simp
  | some _ A n c _ _ low block row lies hbad small len => have := row.1; rw [valsB_length] at this; omega
theorem outT_len (bs : List Nat) (bad : Bool) (m : Nat) : (outT bs bad m).length ≤ bs.length := by
  unfold outT
  split
  · simp
  · rw [List.length_take]; omega
end Go.Proofs.Ytmicheheibkmjaa

/- Strings of bytes; the contracts of num.Same, of a reader's Text, of the new reader, and of a writer's Bytes and Text. -/
namespace Go.Proofs.Ytmicheheibkmjaa
set_option maxRecDepth 100000
open Go.RowKit

/-- What string(b) is. -/
def strN (xs : List Nat) : ByteArray := strOfNums (xs.map fun (x : Nat) => (x : Int))
theorem strN_size (xs : List Nat) : (strN xs).size = xs.length := by simp [strN, strOfNums_size]
theorem strN_data (xs : List Nat) : (strN xs).data.toList = xs.map UInt8.ofNat := by
  unfold strN
  rw [strOfNums_data, List.map_map]
  exact List.map_congr_left fun x _ => by simp
theorem strN_toList (xs : List Nat) : (strN xs).toList = xs.map UInt8.ofNat := by rw [ByteArray.toList_eq, strN_data]
theorem map_byte_inj : ∀ (xs ys : List Nat), (∀ x ∈ xs, x < 256) → (∀ x ∈ ys, x < 256) → xs.map UInt8.ofNat = ys.map UInt8.ofNat → xs = ys
  | [], [], _, _, _ => rfl
  | [], _ :: _, _, _, h => by simp at h
  | _ :: _, [], _, _, h => by simp at h
  | x :: xs, y :: ys, hx, hy, h => by
    simp only [List.map_cons, List.cons.injEq] at h
    have e1 := congrArg UInt8.toNat h.1
    rw [UInt8.toNat_ofNat', UInt8.toNat_ofNat'] at e1
    have h1 := hx x (List.mem_cons_self ..)
    have h2 := hy y (List.mem_cons_self ..)
    rw [map_byte_inj xs ys (fun a ha => hx a (List.mem_cons_of_mem _ ha)) (fun a ha => hy a (List.mem_cons_of_mem _ ha)) h.2]
    congr 1
    omega
theorem strN_beq (xs ys : List Nat) (hx : ∀ x ∈ xs, x < 256) (hy : ∀ x ∈ ys, x < 256) : ((strN xs).toList == (strN ys).toList) = decide (xs = ys) := by
  rw [strN_toList, strN_toList]
  by_cases h : xs = ys
  · subst h; simp
  · rw [decide_eq_false h]
    exact beq_eq_false_iff_ne.2 fun he => h (map_byte_inj xs ys hx hy he)
theorem run_str (w : World) (A : Option Addr) (n c : Nat) (xs : List Nat) (h : Rdv w A n 1 (valsB xs)) : (convert 40 9 (.slice A n c)).run Try.prog w = .ok (.string (strN xs)) w := by
  obtain ⟨hl, hc⟩ := h
  rw [valsB_length, Nat.mul_one] at hl
  rcases Nat.eq_zero_or_pos n with h0 | h0
  · subst h0
    obtain rfl : xs = [] := List.eq_nil_of_length_eq_zero hl
    rw [run_convert_bytes_string w 40 9 5 _ 0 c Try.underlying40 Try.underlying5 Try.underlying9]
    rcases A with _ | ad
    · rfl
    · rw [run_bytesToString w ad 0 c [] (by simpa using run_loadCells_list (P := Try.prog) w ad [] (fun j v hj => by simp at hj))]
      rfl
  · obtain ⟨b, off, rfl, hc'⟩ := hc h0
    exact run_convert_bytes_arg w 40 5 Try.underlying40 Try.underlying5 b off n c (xs.map fun (x : Nat) => (x : Int)) (by simp [hl]) (fun i hi => by
      rw [hc' i _ (show (valsB xs)[i]? = some (.int .u8 ((xs.getD i 0 : Nat) : Int)) by rw [valsB_get]; simp [List.getD_eq_getElem?_getD, show i < xs.length by omega])]
      simp [List.getD_eq_getElem?_getD, show i < xs.length by omega]) 9 Try.underlying9

set_option maxHeartbeats 400000 in
theorem same_any (A A' : Option Addr) (n c n' c' : Nat) (xs ys : List Nat) (w : World) (h1 : Rdv w A n 1 (valsB xs)) (h2 : Rdv w A' n' 1 (valsB ys)) (hx : ∀ x ∈ xs, x < 256) (hy : ∀ x ∈ ys, x < 256) :
    Calls Try.prog 26 #[.slice A n c, .slice A' n' c'] w fun e w' => e = .returned (.bool (decide (xs = ys))) ∧ w = w' := by
  have e1 := run_str w A n c xs h1
  have e2 := run_str w A' n' c' ys h2
  have e3 := strN_beq xs ys hx hy
  obtain ⟨s, hs⟩ : ∃ s, s = strN xs := ⟨_, rfl⟩
  obtain ⟨t, ht⟩ : ∃ t, t = strN ys := ⟨_, rfl⟩
  rw [← hs] at e1 e3
  rw [← ht] at e2 e3
  have H3 := Lib.hid e3
  clear h1 h2 hs ht e3
  go_enter Try.func26, Try.ntmps26
  go_wp2_with fail
  go_ret
  exact ⟨ret_bool H3.out, rfl⟩

set_option maxHeartbeats 400000 in
theorem newReader_any (A : Option Addr) (n c : Nat) (ys : List Nat) (w : World) (hr : Rdv w A n 1 (valsB ys)) (hnil : A = none → c = 0 ∧ n = 0) (hn : n ≤ 140737488355328) (hs : ∀ x ∈ ys, x < 256) :
    Calls Try.prog 52 #[.slice A n c] w fun e w' => ∃ g, e = .returned (.pointer (some ⟨g, 0, none⟩)) ∧ Rdr w' (fun k => w.heap.size ≤ k ∧ k < w'.heap.size) (.pointer (some ⟨g, 0, none⟩)) ys false ∧ Below w.heap.size w w' := by
  have HC := Lib.hid (clone_any A n c ys w hr hnil hn)
  have HS := Lib.hid hs
  clear hr hs hnil
  go_enter Try.func52, Try.ntmps52
  go_wp2_with fail
  refine Calls.mono HC.out ?_
  rintro e w1 ⟨_, rfl, A', c', rfl, h1, h2, h3⟩
  have H1 := Lib.hid h1
  have H2 := Lib.hid h2
  have H3 := Lib.hid h3
  clear h1 h2 h3
  go_wp2_with fail
  go_ret
  have hb := Below.alloc (Below.refl w1.heap.size w1) (Nat.le_refl _) (.cells #[.slice A' n c', .bool false] 106 (0, 0))
  refine ⟨_, rfl, .some _ A' n c' ys false ⟨H3.out.size, by rw [World.size_alloc]; omega⟩ (heap_alloc_new w1 _) (H1.out.ext (stays_b hb)) ?_ (fun h => by cases h) HS.out hn, (H3.out.alloc H3.out.size _)⟩
  rcases H2.out with h | ⟨b, e, h1, h2, h3, _⟩
  · exact .inl h
  · exact .inr ⟨b, 0, e, ⟨h1, by rw [World.size_alloc]; omega⟩, by omega, by rw [World.size_alloc]; omega, h3⟩
end Go.Proofs.Ytmicheheibkmjaa

/- The contracts of a writer's Bytes and Text. -/
namespace Go.Proofs.Ytmicheheibkmjaa
set_option maxRecDepth 100000
open Go.RowKit

theorem Wtr.ext {w w' : World} {B g : Nat} {v : Value} {xs : List Nat} (h : Wtr w B g v xs) (k : Below w.heap.size w w') : Wtr w' B g v xs :=
  ⟨h.low, (k.block g h.lt).trans h.block, row_stays h.own (fun j hj => k.block j (h.own.lt j hj).2)⟩
theorem Wrote.after {w w1 w' : World} {B g : Nat} {v v' : Value} {xs : List Nat} (k : Below w.heap.size w w1) (h : Wrote w1 w' B g v v' xs) : Wrote w w' B g v v' xs := by
  refine ⟨h.wtr, ⟨h.touch.os.trans k.os, h.touch.tape.trans k.tape, h.touch.output.trans k.output, Nat.le_trans k.size h.touch.size, fun j hj h1 h2 => (h.touch.block j (Nat.lt_of_lt_of_le hj k.size) h1 h2).trans (k.block j hj)⟩, ?_⟩
  rcases h.row with h1 | ⟨j, h1, h2⟩
  · exact .inl h1
  · exact .inr ⟨j, h1, Nat.le_trans k.size h2⟩
theorem Wrote.of_put {w w' : World} {B g : Nat} {v v' : Value} {xs : List Nat} (h1 : Wtr w' B g v' xs) (h2 : Touch w w' g v.ownBlock) (h3 : v'.ownBlock = v.ownBlock ∨ v'.ownBlock = some w.heap.size) : Wrote w w' B g v v' xs :=
  ⟨h1, h2, h3.imp id fun h => ⟨_, h, Nat.le_refl _⟩⟩
/-- A row of bytes that a writer's calls leave alone. -/
def AwayB (w : World) (g : Nat) (v : Value) (A : Option Addr) : Prop := ∀ ad, A = some ad → ad.block < w.heap.size → ad.block ≠ g ∧ v.ownBlock ≠ some ad.block
theorem Touch.rdv {w w' : World} {g n size : Nat} {v : Value} {A : Option Addr} {ys : List Value} (h : Touch w w' g v.ownBlock) (hr : Rdv w A n size ys) (ha : 0 < n → AwayB w g v A) : Rdv w' A n size ys := by
  refine ⟨hr.1, fun hn => ?_⟩
  obtain ⟨b, off, e, hc⟩ := hr.2 hn
  refine ⟨b, off, e, fun j u hj => ?_⟩
  have hlt := World.block_lt_of_cell? _ _ (hc j u hj)
  have := ha hn _ e hlt
  rw [← hc j u hj]
  exact World.cell?_of_block (h.block b hlt this.1 this.2)

theorem bytesWorld_below (w : World) (s : ByteArray) : Below w.heap.size w (Lib.bytesWorld w 5 s) :=
  ⟨rfl, rfl, rfl, by rw [Lib.bytesWorld_size]; omega, fun k hk => Lib.bytesWorld_at_old w 5 s k hk⟩
theorem bytesWorld_rdv (w : World) (ys : List Nat) (hy : ∀ y ∈ ys, y < 256) : Rdv (Lib.bytesWorld w 5 (strN ys)) (some ⟨w.heap.size, 0, none⟩) ys.length 1 (valsB ys) := by
  refine ⟨by rw [valsB_length, Nat.mul_one], fun _ => ⟨_, 0, rfl, fun j u hj => ?_⟩⟩
  rw [valsB_get] at hj
  cases hx : ys[j]? with
  | none => rw [hx] at hj; cases hj
  | some y =>
    rw [hx] at hj
    cases hj
    have hlt := (List.getElem?_eq_some_iff.1 hx).1
    rw [Nat.zero_add, Lib.bytesWorld_cell w 5 (strN ys) j (by rw [strN_size]; exact hlt), strN_data]
    have hy' := hy y (List.mem_of_getElem? hx)
    simp [List.getD_eq_getElem?_getD, hx]
    omega
end Go.Proofs.Ytmicheheibkmjaa

/- The contracts of the document's writer: Count, Num, Flag, Bytes. -/
namespace Go.Proofs.Ytmicheheibkmjaa
set_option maxRecDepth 100000
open Go.RowKit

theorem bitLen_spec : ∀ (n x : Nat), x < n → x ≠ 0 → x < 2 ^ 64 → 1 ≤ Lib.bitLen x ∧ 2 ^ (Lib.bitLen x - 1) ≤ x ∧ x < 2 ^ Lib.bitLen x
  | 0, x, h, _, _ => absurd h (by omega)
  | n + 1, x, h, h0, h64 => by
    rw [Lib.bitLen_half x h0 h64]
    by_cases h1 : x / 2 = 0
    · have hx : x = 1 := by omega
      subst hx
      decide
    · obtain ⟨i1, i2, i3⟩ := bitLen_spec n (x / 2) (by omega) h1 (by omega)
      obtain ⟨k, hk⟩ : ∃ k, Lib.bitLen (x / 2) = k + 1 := ⟨Lib.bitLen (x / 2) - 1, by omega⟩
      rw [hk] at i2 i3 ⊢
      refine ⟨by omega, ?_, ?_⟩
      · have e : 1 + (k + 1) - 1 = k + 1 := by omega
        rw [e, Nat.pow_succ]
        have e2 : k + 1 - 1 = k := by omega
        rw [e2] at i2
        omega
      · have e : 1 + (k + 1) = (k + 1) + 1 := by omega
        rw [e, Nat.pow_succ]
        omega
/-- A count's size: the least number of groups that hold it. -/
theorem size_spec (n : Nat) (h : n < 18446744073709551616) : 1 ≤ sizeN n ∧ sizeN n ≤ 10 ∧ n < 128 ^ sizeN n ∧ (2 ≤ sizeN n → 128 ^ (sizeN n - 1) ≤ n) := by
  have hl := Lib.bitLen_le n 64 (Nat.le_refl _) h
  have e : ∀ k, (128 : Nat) ^ k = 2 ^ (7 * k) := fun k => by rw [Nat.pow_mul]
  by_cases h0 : n = 0
  · subst h0; decide
  · obtain ⟨i1, i2, i3⟩ := bitLen_spec (n + 1) n (by omega) h0 h
    have hs : sizeN n = max 1 ((Lib.bitLen n + 6) / 7) := rfl
    refine ⟨by omega, by omega, ?_, fun h2 => ?_⟩
    · rw [e]
      exact Nat.lt_of_lt_of_le i3 (Nat.pow_le_pow_right (by omega) (by omega))
    · rw [e]
      exact Nat.le_trans (Nat.pow_le_pow_right (by omega) (by omega)) i2
theorem round_more (n k : Nat) (h : n < 18446744073709551616) (hk : k ≤ sizeN n - 1) : 128 ≤ n / 128 ^ k ↔ k < sizeN n - 1 := by
  obtain ⟨h1, h2, h3, h4⟩ := size_spec n h
  have hp : 0 < 128 ^ k := Nat.pow_pos (by omega)
  rw [Nat.le_div_iff_mul_le hp, Nat.mul_comm, ← Nat.pow_succ]
  constructor
  · intro h5
    rcases Nat.lt_or_ge k (sizeN n - 1) with h6 | h6
    · exact h6
    · have : 128 ^ sizeN n ≤ 128 ^ (k + 1) := Nat.pow_le_pow_right (by omega) (by omega)
      omega
  · intro h5
    exact Nat.le_trans (Nat.pow_le_pow_right (by omega) (by omega)) (h4 (by omega))
/-- A row of bytes of one's own. -/
def OwnB (w : World) (B : Nat) (v : Value) (xs : List Nat) : Prop := w.ownsRow B 5 1 v xs.length (valsB xs)
theorem ownB_of {w : World} {B n : Nat} {v : Value} {xs : List Nat} (h : w.ownsRow B 5 1 v n (valsB xs)) (hn : n = xs.length) : OwnB w B v xs := by subst hn; exact h
theorem OwnB.rdv {w : World} {B : Nat} {v : Value} {xs : List Nat} (h : OwnB w B v xs) : ∃ A c, v = .slice A xs.length c ∧ Rdv w A xs.length 1 (valsB xs) ∧ (A = none → c = 0) ∧ xs.length ≤ c := rdv_own h
theorem wpList_appB {w : World} {ops : Array Oper} {rest : List Oper} {o : Oper} {a : Act} {Q : Exit → Act → World → Prop} (hgd : o.guard = none) (s x : Operand)
    (ho : o.op = .call { callee := .builtin .append, args := #[s, x], argTypes := #[40, 40] })
    (B : Nat) (v : Value) (xs : List Nat) (hs : a.eval s = v) (hown : OwnB w B v xs)
    (A : Option Addr) (m c : Nat) (ys : List Nat) (hx : a.eval x = .slice A m c) (hr : Rdv w A m 1 (valsB ys)) (hnil : A = none → c = 0)
    (hmx : xs.length + m ≤ 17592186044416) (hbase : B ≤ w.heap.size)
    (h : ∀ v' w', OwnB w' B v' (xs ++ ys) → Below B w w' → Touch w w' w'.heap.size v.ownBlock → (v'.ownBlock = v.ownBlock ∨ v'.ownBlock = some w.heap.size) → wpList Try.prog ops Q rest (a.put o.dst v') w') : wpList Try.prog ops Q (o :: rest) a w := by
  refine wpList_append_rowv elemB hgd s x ho B v xs.length (valsB xs) hs hown A m c (valsB ys) hx hr (valsB_one _) hnil (by unfold maxLen; omega) (by omega) hbase fun v' w' h1 h2 h3 => h v' w' ?_ ?_ ?_ h3
  · have hl : ys.length = m := by have := hr.1; rw [valsB_length] at this; omega
    rw [← valsB_append] at h1
    exact ownB_of h1 (by rw [List.length_append, hl])
  · exact (Below.refl B w).grown h2 hbase (fun k hk => (hown.lt k hk).1)
  · exact ⟨h2.os, h2.tape, h2.output, h2.size, fun k hk _ hr => h2.block k hk (fun e => hr e.symm)⟩

set_option maxHeartbeats 1000000 in
theorem refCount_any (n : Nat) (hn : n < 18446744073709551616) (w : World) :
    Calls Try.prog 59 #[.int .u64 (n : Int)] w fun e w' => ∃ v, e = .returned v ∧ OwnB w' w.heap.size v (cntN n) ∧ Below w.heap.size w w' := by
  have hc : cntN n = preN n (sizeN n - 1) ++ [n / 128 ^ (sizeN n - 1) % 256] := rfl
  have hmore := round_more n
  have hs10 : sizeN n - 1 ≤ 9 := by have := (size_spec n hn).2.1; omega
  obtain ⟨s, hs⟩ : ∃ s, s = sizeN n - 1 := ⟨_, rfl⟩
  rw [← hs] at hc hs10
  have hmore : ∀ k, k ≤ s → (128 ≤ n / 128 ^ k ↔ k < s) := fun k hk => by have := hmore k hn (by omega); rw [← hs] at this; exact this
  rw [hc]
  obtain ⟨L, hL⟩ : ∃ L, L = n / 128 ^ s % 256 := ⟨_, rfl⟩
  rw [← hL]
  have HL := Lib.hid hL
  have HM := Lib.hid hmore
  clear hc hmore hs hL
  go_enter Try.func59, Try.ntmps59
  go_wp2_with fail
  go_loopw [0, 3] (fun x v wr => ∃ (k : Nat) (v' : Value), x = .int .u64 ((n / 128 ^ k : Nat) : Int) ∧ v = v' ∧ k ≤ s ∧ OwnB wr w.heap.size v' (preN n k) ∧ Below w.heap.size w wr) (fun x _ _ => (intOf x).toNat)
  case atStart => exact ⟨0, _, by simp, rfl, by omega, by rw [show preN n 0 = [] from rfl]; exact World.ownsRow_nil _ _ _ _, Below.refl _ _⟩
  case round =>
    obtain ⟨k, v, rfl, rfl, hk, hown, hb⟩ := hrel
    have hsz := hb.size
    have hpl : (preN n k).length = k := preN_length n k
    obtain ⟨N, hN⟩ : ∃ N, N = n / 128 ^ k := ⟨_, rfl⟩
    have hsucc := preN_succ n k
    have hdiv : n / 128 ^ (k + 1) = N / 128 := by rw [hN, Nat.pow_succ, Nat.div_div_eq_div_mul]
    have hmk := HM.out k hk
    rw [← hN] at hsucc hmk ⊢
    by_cases hlt : k < s
    · have hge : 128 ≤ N := hmk.2 hlt
      obtain ⟨X, hX⟩ : ∃ X, X = N % 128 + 128 := ⟨_, rfl⟩
      rw [← hX] at hsucc
      have e1 : (N : Int) % 128 + 128 = (X : Int) := by omega
      have hX255 : X ≤ 255 := by omega
      have e2 : (N : Int) / 128 = ((N / 128 : Nat) : Int) := rfl
      obtain ⟨M, hM⟩ : ∃ M, M = N / 128 := ⟨_, rfl⟩
      rw [← hM] at e2 hdiv
      have hMN : M < N := by omega
      have hN64 : N < 18446744073709551616 := by rw [hN]; exact Nat.lt_of_le_of_lt (Nat.div_le_self _ _) hn
      have HO := Lib.hid hown
      have HB := Lib.hid hb
      have HSU := Lib.hid hsucc
      have HDI := Lib.hid hdiv
      have HPL := Lib.hid hpl
      clear hown hb hsucc hdiv hpl hmk hX hM hN
      go_wp2_with (at_builtin; refine wpList_appB rfl (.tmp 6) (.tmp 11) rfl w.heap.size _ (preN n k) rfl (World.ownsRow.alloc HO.out _) _ 1 1 [X] rfl (rdv_one wr X) (fun h => by cases h) (by have := HPL.out; omega) (by rw [World.size_alloc]; omega) ?_; intro v3 w3 hown3 hb3 _ _; have HO3 := Lib.hid hown3; have HB3 := Lib.hid ((HB.out.alloc hsz _).trans hb3); clear hown3 hb3)
      go_roundw
      case rel => exact ⟨k + 1, v3, by rw [HDI.out], rfl, by omega, by rw [HSU.out]; exact HO3.out, HB3.out⟩
      case measure => simp [intOf]; omega
    · obtain rfl : k = s := by omega
      have hge : ¬ 128 ≤ N := fun h => hlt (hmk.1 h)
      have hX255 : N ≤ 255 := by omega
      have hLN : L = N := by rw [HL.out, ← hN]; omega
      have HLN := Lib.hid hLN
      have HO := Lib.hid hown
      have HB := Lib.hid hb
      have HPL := Lib.hid hpl
      clear hown hb hsucc hdiv hpl hmk hLN hN
      go_wp2_with (at_builtin; refine wpList_appB rfl (.tmp 15) (.tmp 18) rfl w.heap.size _ (preN n k) rfl (World.ownsRow.alloc HO.out _) _ 1 1 [N] rfl (rdv_one wr N) (fun h => by cases h) (by have := HPL.out; omega) (by rw [World.size_alloc]; omega) ?_; intro v3 w3 hown3 hb3 _ _; have HO3 := Lib.hid hown3; have HB3 := Lib.hid ((HB.out.alloc hsz _).trans hb3); clear hown3 hb3)
      go_ret
      exact ⟨_, rfl, by rw [HLN.out]; exact HO3.out, HB3.out⟩

set_option maxHeartbeats 400000 in
theorem folded_any (z : Int) (hz : Fits z) (w : World) :
    Calls Try.prog 86 #[.int .i64 z] w fun e w' => e = .returned (.int .u64 ((foldN z : Nat) : Int)) ∧ w = w' := by
  have hf : foldN z = if z < 0 then (2 * (-(z + 1)) + 1).toNat else (2 * z).toNat := rfl
  obtain ⟨F, hF⟩ : ∃ F, F = foldN z := ⟨_, rfl⟩
  rw [← hF] at hf ⊢
  unfold Fits at hz
  obtain ⟨h1, h2⟩ := hz
  by_cases h0 : z < 0
  · rw [if_pos h0] at hf
    have HF := Lib.hid (show (F : Int) = 2 * (-(z + 1)) + 1 by omega)
    clear hf hF
    go_enter Try.func86, Try.ntmps86
    go_wp2_with fail
    go_ret
    have := HF.out
    exact ⟨by rw [this]; go_num, rfl⟩
  · rw [if_neg h0] at hf
    have HF := Lib.hid (show (F : Int) = 2 * z by omega)
    clear hf hF
    go_enter Try.func86, Try.ntmps86
    go_wp2_with fail
    go_ret
    have := HF.out
    exact ⟨by rw [this]; go_num, rfl⟩
set_option maxHeartbeats 400000 in
theorem refNum_any (z : Int) (hz : Fits z) (w : World) :
    Calls Try.prog 60 #[.int .i64 z] w fun e w' => ∃ v, e = .returned v ∧ OwnB w' w.heap.size v (cntN (foldN z)) ∧ Below w.heap.size w w' := by
  have HF := Lib.hid (folded_any z hz w)
  have HC := Lib.hid (refCount_any (foldN z) (foldN_lt hz) w)
  clear hz
  go_enter Try.func60, Try.ntmps60
  go_wp2_with fail
  refine Calls.mono HF.out ?_
  rintro e w1 ⟨rfl, rfl⟩
  go_wp2_with fail
  refine Calls.mono HC.out ?_
  rintro e w1 ⟨v, rfl, h1, h2⟩
  have H1 := Lib.hid h1
  have H2 := Lib.hid h2
  clear h1 h2
  go_wp2_with fail
  go_ret
  exact ⟨_, rfl, H1.out, H2.out⟩
/-- A new row of one byte. -/
theorem ownB_one (w : World) (x : Nat) : OwnB (w.alloc (.cells #[.int .u8 (x : Int)] 5)) w.heap.size (.slice (some ⟨w.heap.size, 0, none⟩) 1 1) [x] := by
  refine ⟨rfl, .inr ⟨w.heap.size, 1, #[.int .u8 (x : Int)], rfl, Nat.le_refl _, heap_alloc_new w _, ?_⟩⟩
  simp [valsB, maxLen]
theorem cntN_length (n : Nat) (h : n < 18446744073709551616) : (cntN n).length = sizeN n ∧ (cntN n).length ≤ 10 := by
  obtain ⟨h1, h2, _⟩ := size_spec n h
  unfold cntN
  rw [List.length_append, preN_length]
  simp
  omega
end Go.Proofs.Ytmicheheibkmjaa

/- Counts and numbers, there and back. -/
namespace Go.Proofs.Ytmicheheibkmjaa
set_option maxRecDepth 100000
open Go.RowKit

theorem cntN_small (n : Nat) (h : n < 128) : cntN n = [n] := by
  have key : ∀ y : Fin 128, cntN y.val = [y.val] := by decide +kernel
  exact key ⟨n, h⟩
theorem preN_cons (n k : Nat) : preN n (k + 1) = (n % 128 + 128) :: preN (n / 128) k := by
  unfold preN
  rw [List.range_succ_eq_map, List.map_cons, List.map_map]
  congr 1
  · simp
  · refine List.map_congr_left fun i _ => ?_
    simp only [Function.comp]
    rw [Nat.pow_succ, Nat.mul_comm, Nat.div_div_eq_div_mul]
theorem cntN_big (n : Nat) (h : 128 ≤ n) (hn : n < 18446744073709551616) : cntN n = (n % 128 + 128) :: cntN (n / 128) := by
  have hs : sizeN n = sizeN (n / 128) + 1 := by
    have h1 := Lib.bitLen_shift 7 n h hn
    have h2 : 1 ≤ Lib.bitLen (n / 128) := (bitLen_spec (n / 128 + 1) (n / 128) (by omega) (by omega) (by omega)).1
    unfold sizeN
    rw [h1, show (2 : Nat) ^ 7 = 128 from rfl]
    omega
  have h1 : 1 ≤ sizeN (n / 128) := by unfold sizeN; omega
  obtain ⟨s, e⟩ : ∃ s, sizeN (n / 128) = s + 1 := ⟨sizeN (n / 128) - 1, by omega⟩
  unfold cntN
  rw [hs, e, show s + 1 + 1 - 1 = s + 1 from rfl, show s + 1 - 1 = s from rfl, preN_cons, List.cons_append]
  congr 3
  rw [Nat.pow_succ, Nat.mul_comm, Nat.div_div_eq_div_mul]
theorem rcnt_cntN (f : Nat) : ∀ (i acc m : Nat) (rest : List Nat), f + i = 10 → m < 2 ^ (64 - 7 * i) → (0 < i → 0 < m) → (0 < f) → rcnt f i acc (cntN m ++ rest) = (acc + m * 128 ^ i, rest, false) := by
  induction f with
  | zero => intro i acc m rest _ _ _ h; exact absurd h (by omega)
  | succ f ih =>
    intro i acc m rest hi hm hp _
    have h64 : m < 18446744073709551616 := Nat.lt_of_lt_of_le hm (Nat.le_trans (Nat.pow_le_pow_right (by omega) (show 64 - 7 * i ≤ 64 by omega)) (by decide))
    have h9 : i = 9 → m < 2 := fun h => by subst h; exact hm
    by_cases hs : m < 128
    · rw [cntN_small m hs]
      show (if (i = 9 ∧ 1 < m) ∨ (0 < i ∧ m = 0) then (0, [], true) else if m < 128 then (acc + m % 128 * 128 ^ i, rest, false) else _) = _
      rw [if_neg (by omega), if_pos hs, Nat.mod_eq_of_lt hs]
    · rw [cntN_big m (by omega) h64]
      show (if (i = 9 ∧ 1 < m % 128 + 128) ∨ (0 < i ∧ m % 128 + 128 = 0) then (0, [], true) else if m % 128 + 128 < 128 then _ else rcnt f (i + 1) (acc + (m % 128 + 128) % 128 * 128 ^ i) (cntN (m / 128) ++ rest)) = _
      rw [if_neg (by omega), if_neg (by omega)]
      have hi9 : i < 9 := by
        rcases Nat.lt_or_ge i 9 with h | h
        · exact h
        · have := h9 (by omega); omega
      rw [ih (i + 1) _ (m / 128) rest (by omega) ?_ (fun _ => by omega) (by omega)]
      · congr 1
        have e : (128 : Nat) ^ (i + 1) = 128 * 128 ^ i := by rw [Nat.pow_succ, Nat.mul_comm]
        rw [show (m % 128 + 128) % 128 = m % 128 by omega, e, Nat.add_assoc, ← Nat.mul_assoc, ← Nat.add_mul]
        congr 2
        omega
      · have e : 64 - 7 * i = (64 - 7 * (i + 1)) + 7 := by omega
        rw [e, Nat.pow_add] at hm
        rw [Nat.div_lt_iff_lt_mul (by omega)]
        exact hm
theorem rcount_cntN (n : Nat) (h : n < 18446744073709551616) (rest : List Nat) : rcount (cntN n ++ rest) = (n, rest, false) := by
  unfold rcount
  rw [rcnt_cntN 10 0 0 n rest rfl h (fun h => absurd h (by omega)) (by omega)]
  simp
theorem unfold_fold {z : Int} (h : Fits z) : unfoldN (foldN z) = z := by
  unfold Fits at h
  unfold unfoldN foldN
  split <;> split <;> omega
theorem fold_inj {a b : Int} (ha : Fits a) (hb : Fits b) (h : foldN a = foldN b) : a = b := by rw [← unfold_fold ha, ← unfold_fold hb, h]
/-- No count's bytes begin another one's. -/
theorem cntN_apart {m n : Nat} (hm : m < 18446744073709551616) (hn : n < 18446744073709551616) (h : m ≠ n) (k : Nat) (hk : k = min (cntN m).length (cntN n).length) : (cntN m).take k ≠ (cntN n).take k := by
  have key : ∀ m n : Nat, m < 18446744073709551616 → n < 18446744073709551616 → (cntN m).length ≤ (cntN n).length → (cntN m).take (cntN m).length = (cntN n).take (cntN m).length → m = n := by
    intro m n hm hn hl he
    rw [List.take_length] at he
    have e1 : cntN n = cntN m ++ (cntN n).drop (cntN m).length := by
      rw [he, List.length_take, show min (cntN m).length (cntN n).length = (cntN m).length by omega]
      exact (List.take_append_drop _ _).symm
    have h1 := rcount_cntN m hm ((cntN n).drop (cntN m).length)
    rw [← e1] at h1
    have h2 := rcount_cntN n hn []
    rw [List.append_nil, h1] at h2
    exact (Prod.mk.inj h2).1
  intro he
  rcases Nat.le_total (cntN m).length (cntN n).length with hl | hl
  · rw [Nat.min_eq_left hl] at hk
    subst hk
    exact h (key m n hm hn hl he)
  · rw [Nat.min_eq_right hl] at hk
    subst hk
    exact h (key n m hn hm hl he.symm).symm
theorem size_mono {u v : Nat} (hu : u < 18446744073709551616) (hv : v < 18446744073709551616) (h : u ≤ v) : sizeN u ≤ sizeN v := by
  obtain ⟨a1, a2, a3, a4⟩ := size_spec u hu
  obtain ⟨b1, b2, b3, b4⟩ := size_spec v hv
  rcases Nat.lt_or_ge (sizeN v) (sizeN u) with hlt | hge
  · have h1 := a4 (by omega)
    have h2 : 128 ^ sizeN v ≤ 128 ^ (sizeN u - 1) := Nat.pow_le_pow_right (by omega) (by omega)
    omega
  · exact hge
theorem cntN_small_all (n : Nat) : ∀ x ∈ cntN n, x < 256 := by
  intro x hx
  unfold cntN preN at hx
  rw [List.mem_append, List.mem_map] at hx
  rcases hx with ⟨i, _, rfl⟩ | hx
  · omega
  · rw [List.mem_singleton] at hx; omega
end Go.Proofs.Ytmicheheibkmjaa

/- The document's count, read from its last group, and the program's, read from its first one: the same. -/
namespace Go.Proofs.Ytmicheheibkmjaa
set_option maxRecDepth 100000
open Go.RowKit

def valH : List Nat → Nat
  | [] => 0
  | b :: t => b % 128 + 128 * valH t
theorem valH_cntN : ∀ (k m : Nat), m < k → m < 18446744073709551616 → valH (cntN m) = m
  | 0, m, h, _ => absurd h (by omega)
  | k + 1, m, h, h64 => by
    by_cases hm : m < 128
    · rw [cntN_small m hm]; simp only [valH]; omega
    · rw [cntN_big m (by omega) h64]
      simp only [valH]
      rw [valH_cntN k (m / 128) (by omega) (by omega)]
      omega
/-- A count's bytes: all but the last one are 128 or more. -/
theorem cntN_shape : ∀ (k m : Nat), m < k → m < 18446744073709551616 → ∃ p q, cntN m = p ++ [q] ∧ q < 128 ∧ ∀ x ∈ p, 128 ≤ x
  | 0, m, h, _ => absurd h (by omega)
  | k + 1, m, h, h64 => by
    by_cases hm : m < 128
    · exact ⟨[], m, by rw [cntN_small m hm]; rfl, hm, fun x hx => by cases hx⟩
    · obtain ⟨p, q, e, hq, hp⟩ := cntN_shape k (m / 128) (by omega) (by omega)
      refine ⟨(m % 128 + 128) :: p, q, by rw [cntN_big m (by omega) h64, e]; rfl, hq, fun x hx => ?_⟩
      rw [List.mem_cons] at hx
      rcases hx with rfl | hx
      · omega
      · exact hp x hx
theorem rcnt_ways (f : Nat) : ∀ (i n : Nat) (bs : List Nat), rcnt f i n bs = (0, [], true) ∨ ∃ x rest, rcnt f i n bs = (x, rest, false) := by
  induction f with
  | zero => intro i n bs; exact .inr ⟨n, bs, by cases bs <;> rfl⟩
  | succ f ih =>
    intro i n bs
    rcases bs with _ | ⟨b, t⟩
    · exact .inl rfl
    · simp only [rcnt]
      by_cases hC : (i = 9 ∧ 1 < b) ∨ (0 < i ∧ b = 0)
      · rw [if_pos hC]; exact .inl rfl
      · rw [if_neg hC]
        by_cases hb : b < 128
        · rw [if_pos hb]; exact .inr ⟨_, _, rfl⟩
        · rw [if_neg hb]; exact ih _ _ _
theorem rcnt_yes (f : Nat) : ∀ (i n x : Nat) (bs rest : List Nat), f + i = 10 → 0 < f → (∀ b ∈ bs, b < 256) → rcnt f i n bs = (x, rest, false) → ∃ m, bs = cntN m ++ rest ∧ (0 < i → 0 < m) ∧ m < 2 ^ (64 - 7 * i) := by
  induction f with
  | zero => intro i n x bs rest _ h; exact absurd h (by omega)
  | succ f ih =>
    intro i n x bs rest hi _ hs h
    rcases bs with _ | ⟨b, t⟩
    · simp [rcnt] at h
    · simp only [rcnt] at h
      have hb256 := hs b (List.mem_cons_self ..)
      by_cases hC : (i = 9 ∧ 1 < b) ∨ (0 < i ∧ b = 0)
      · rw [if_pos hC] at h; cases h
      · rw [if_neg hC] at h
        by_cases hb : b < 128
        · rw [if_pos hb] at h
          injection h with _ h
          injection h with h _
          refine ⟨b, by rw [cntN_small b hb, ← h]; rfl, fun h0 => by omega, ?_⟩
          rcases Nat.lt_or_ge i 9 with h9 | h9
          · calc b < 2 ^ 7 := by omega
              _ ≤ 2 ^ (64 - 7 * i) := Nat.pow_le_pow_right (by omega) (by omega)
          · obtain rfl : i = 9 := by omega
            have : ¬ 1 < b := fun h => hC (.inl ⟨rfl, h⟩)
            show b < 2 ^ 1
            omega
        · rw [if_neg hb] at h
          have h9 : i < 9 := by
            rcases Nat.lt_or_ge i 9 with h9 | h9
            · exact h9
            · exact absurd (.inl ⟨by omega, by omega⟩) hC
          obtain ⟨m, e, h0, hm⟩ := ih (i + 1) _ x t rest (by omega) (by omega) (fun y hy => hs y (List.mem_cons_of_mem _ hy)) h
          have h0' := h0 (by omega)
          have hpow : (2 : Nat) ^ (64 - 7 * i) = 2 ^ (64 - 7 * (i + 1)) * 128 := by
            rw [show 64 - 7 * i = (64 - 7 * (i + 1)) + 7 by omega, Nat.pow_add]
          have hM : m * 128 + b % 128 < 2 ^ (64 - 7 * i) := by
            rw [hpow]
            have : (m + 1) * 128 ≤ 2 ^ (64 - 7 * (i + 1)) * 128 := Nat.mul_le_mul hm (Nat.le_refl _)
            omega
          refine ⟨m * 128 + b % 128, ?_, fun _ => by omega, hM⟩
          have h64 : m * 128 + b % 128 < 18446744073709551616 := by
            have : (2 : Nat) ^ (64 - 7 * i) ≤ 2 ^ 64 := Nat.pow_le_pow_right (by omega) (by omega)
            exact Nat.lt_of_lt_of_le hM this
          rw [cntN_big _ (by omega) h64, show (m * 128 + b % 128) / 128 = m by omega, show (m * 128 + b % 128) % 128 + 128 = b by omega, e]
          rfl
theorem rcount_yes {bs rest : List Nat} {x : Nat} (hs : ∀ b ∈ bs, b < 256) (h : rcount bs = (x, rest, false)) : bs = cntN x ++ rest ∧ x < 18446744073709551616 := by
  obtain ⟨m, e, _, hm⟩ := rcnt_yes 10 0 0 x bs rest rfl (by omega) hs h
  have h2 := rcount_cntN m hm rest
  rw [← e, h] at h2
  obtain rfl := (Prod.mk.inj h2).1
  exact ⟨e, hm⟩
/-- Where there is no last group there is no count. -/
theorem rcount_no {bs : List Nat} {k : Nat} (hs : ∀ b ∈ bs, b < 256) (hk : ∀ j (h : j < bs.length), j < k → 128 ≤ bs[j]) (hend : bs.length ≤ k ∨ 10 ≤ k) : rcount bs = (0, [], true) := by
  rcases rcnt_ways 10 0 0 bs with h | ⟨x, rest, h⟩
  · exact h
  · obtain ⟨e, hx⟩ := rcount_yes hs h
    obtain ⟨p, q, e2, hq, _⟩ := cntN_shape (x + 1) x (by omega) hx
    have hl := (cntN_length x hx).2
    rw [e2] at e hl
    simp at hl
    have hlt : p.length < bs.length := by rw [e]; simp
    have h1 := hk p.length hlt (by omega)
    have h2 : bs[p.length] = q := by
      have : bs[p.length]? = some q := by rw [e]; simp
      rw [List.getElem?_eq_getElem hlt] at this
      injection this
    omega
/-- Where the last group is the k-th one, the count is what is written so again. -/
theorem rcount_at {bs : List Nat} {k : Nat} (hs : ∀ b ∈ bs, b < 256) (hlt : k < bs.length) (hk : ∀ j (h : j < bs.length), j < k → 128 ≤ bs[j]) (hq : bs[k] < 128) (u : Nat) (hu : u = valH (bs.take (k + 1)) % 18446744073709551616) :
    rcount bs = if cntN u = bs.take (k + 1) then (u, bs.drop (k + 1), false) else (0, [], true) := by
  have hu64 : u < 18446744073709551616 := by omega
  by_cases he : cntN u = bs.take (k + 1)
  · rw [if_pos he]
    have := rcount_cntN u hu64 (bs.drop (k + 1))
    rw [he, List.take_append_drop] at this
    exact this
  · rw [if_neg he]
    rcases rcnt_ways 10 0 0 bs with h | ⟨x, rest, h⟩
    · exact h
    · obtain ⟨e, hx⟩ := rcount_yes hs h
      obtain ⟨p, q, e2, hq2, hp⟩ := cntN_shape (x + 1) x (by omega) hx
      have hpl : p.length < bs.length := by rw [e, e2]; simp
      have hbp : bs[p.length] = q := by
        have : bs[p.length]? = some q := by rw [e, e2]; simp
        rw [List.getElem?_eq_getElem hpl] at this
        injection this
      have hpk : p.length = k := by
        rcases Nat.lt_trichotomy p.length k with h1 | h1 | h1
        · have := hk p.length hpl h1; omega
        · exact h1
        · have hb : bs[k] = p[k] := by
            have : bs[k]? = some p[k] := by rw [e, e2, List.append_assoc, List.getElem?_append_left h1, List.getElem?_eq_getElem h1]
            rw [List.getElem?_eq_getElem hlt] at this
            injection this
          have := hp p[k] (List.getElem_mem h1)
          omega
      have ht : bs.take (k + 1) = cntN x := by
        have hl : (cntN x).length = k + 1 := by rw [e2]; simp [hpk]
        rw [e, ← hl, List.take_left]
      rw [ht, valH_cntN (x + 1) x (by omega) hx] at hu
      exact absurd (by rw [ht, hu, Nat.mod_eq_of_lt hx]) he
theorem valH_step (l : List Nat) (j : Nat) (h : j < l.length) : valH (l.drop j) = l[j] % 128 + 128 * valH (l.drop (j + 1)) := by
  rw [List.drop_eq_getElem_cons h]
  rfl
end Go.Proofs.Ytmicheheibkmjaa
