/- WWtr, WSize, WCount: put together. -/
import Derived.Test.YtjmjehhmkjhalaaQb01
import Derived.Deep.Heap
import Derived.Shelf.Strconv.Itoa0
import Derived.Laws.BitsAllLaws
import Derived.Laws.Bits64b
/- A writer in memory, and the contract of its put. -/
namespace Go.Proofs.Ytjmjehhmkjhalaa
set_option maxRecDepth 100000
open Go.RowKit

theorem elemB : ElemT Try.prog 51 5 1 1 :=
  ⟨Try.underlying51, by kernel_rfl, by
    obtain ⟨i, hi, hz, h1, _⟩ := info_parts (show (Try.prog.info? 5).map (fun i => (i.zero, i.size, i.bytes)) = some (some (.int .u8 0), 1, 1) by kernel_rfl)
    exact ⟨i, _, hi, hz, rfl⟩, by decide⟩
theorem valsB_append (xs ys : List Nat) : valsB (xs ++ ys) = valsB xs ++ valsB ys := by simp [valsB]

/-- Nothing but a block and a row is changed, and what is new. -/
structure Touch (w w' : World) (g : Nat) (r : Option Nat) : Prop where
  os : w'.os = w.os
  tape : w'.tape = w.tape
  output : w'.output = w.output
  size : w.heap.size ≤ w'.heap.size
  block : ∀ k, k < w.heap.size → k ≠ g → r ≠ some k → w'.heap[k]? = w.heap[k]?
theorem Touch.below {w w' : World} {g B : Nat} {r : Option Nat} (h : Touch w w' g r) (hg : B ≤ g) (hr : ∀ k, r = some k → B ≤ k) (hB : B ≤ w.heap.size) : Below B w w' :=
  ⟨h.os, h.tape, h.output, h.size, fun k hk => h.block k (by omega) (by omega) (fun e => by have := hr k e; omega)⟩
/-- A block that holds a writer of its own bytes. -/
structure Wtr (w : World) (B g : Nat) (v : Value) (xs : List Nat) : Prop where
  low : B ≤ g
  block : w.heap[g]? = some (.cells #[v] 204 (0, 0))
  own : w.ownsRow B 5 1 v xs.length (valsB xs)
theorem Wtr.lt {w : World} {B g : Nat} {v : Value} {xs : List Nat} (h : Wtr w B g v xs) : g < w.heap.size := (Array.getElem?_eq_some_iff.1 h.block).1
theorem Wtr.cell {w : World} {B g : Nat} {v : Value} {xs : List Nat} (h : Wtr w B g v xs) : w.cell? ⟨g, 0, none⟩ = some v := cell_of_row w g 0 _ 204 (0, 0) h.block
theorem Wtr.frozen {w : World} {B g : Nat} {v : Value} {xs : List Nat} (h : Wtr w B g v xs) : w.frozen? ⟨g, 0, none⟩ = false := by
  have := h.block
  simp [World.frozen?, this]
/-- The row is not the block itself: they are of unlike types. -/
theorem row_not_block {w : World} {B g n : Nat} {v u : Value} {xs : List Value} (h : w.ownsRow B 5 1 v n xs) (hg : w.heap[g]? = some (.cells #[u] 204 (0, 0))) : v.ownBlock ≠ some g := by
  rcases h.2 with ⟨rfl, _⟩ | ⟨k, cap, cur, rfl, _, hk, _⟩
  · simp [Value.ownBlock]
  · intro he
    simp [Value.ownBlock] at he
    subst he
    rw [hk] at hg
    simp at hg
theorem row_low {w : World} {B n : Nat} {v : Value} {xs : List Value} (h : w.ownsRow B 5 1 v n xs) : ∀ k, v.ownBlock = some k → B ≤ k := fun k hk => (h.lt k hk).1
/-- A row stands where nothing is changed but blocks that aren't its own. -/
theorem row_stays {w w' : World} {B n : Nat} {v : Value} {xs : List Value} (h : w.ownsRow B 5 1 v n xs) (hk : ∀ k, v.ownBlock = some k → w'.heap[k]? = w.heap[k]?) : w'.ownsRow B 5 1 v n xs := by
  refine ⟨h.1, ?_⟩
  rcases h.2 with h0 | ⟨g, cap, cur, rfl, hb, hg, hrest⟩
  · exact .inl h0
  · exact .inr ⟨g, cap, cur, rfl, hb, (hk g rfl).trans hg, hrest⟩

set_option maxHeartbeats 1000000 in
theorem put_any (B g : Nat) (v : Value) (xs : List Nat) (A : Option Addr) (m c : Nat) (ys : List Nat) (w : World) (hw : Wtr w B g v xs) (hr : Rdv w A m 1 (valsB ys)) (hnil : A = none → c = 0) (hmx : xs.length + m ≤ 17592186044416) :
    Calls Try.prog 144 #[.pointer (some ⟨g, 0, none⟩), .slice A m c] w fun e w' => e = .returned (.tuple #[]) ∧ ∃ v', Wtr w' B g v' (xs ++ ys) ∧ Touch w w' g v.ownBlock ∧ (v'.ownBlock = v.ownBlock ∨ v'.ownBlock = some w.heap.size) := by
  have c0 := hw.cell
  have hlt := hw.lt
  have HW := Lib.hid hw
  have HR := Lib.hid hr
  have hne := row_not_block hw.own hw.block
  have HNE := Lib.hid hne
  have hl : ys.length = m := by have := hr.1; rw [valsB_length] at this; omega
  have HL := Lib.hid hl
  clear hw hr hne hl
  go_enter Try.func144, Try.ntmps144
  go_wp2_with (at_builtin; refine wpList_append_rowv elemB rfl (.tmp 10) (.tmp 11) rfl B v xs.length (valsB xs) rfl HW.out.own A m c (valsB ys) rfl HR.out (valsB_one _) hnil (by unfold maxLen; omega) (by omega) (Nat.le_trans HW.out.low (Nat.le_of_lt hlt)) ?_; intro v3 w3 hown3 hg3 hb3; obtain ⟨A3, k3, rfl, _, _, _⟩ := rdv_own hown3; have hblk : w3.heap[g]? = some (.cells #[v] 204 (0, 0)) := (hg3.block g hlt (fun he => HNE.out he.symm)).trans HW.out.block; have c3 : w3.cell? ⟨g, 0, none⟩ = some v := cell_of_row w3 g 0 _ 204 (0, 0) hblk; have f3 : w3.frozen? ⟨g, 0, none⟩ = false := by simp [World.frozen?, hblk])
  have hlt3 : g < w3.heap.size := Nat.lt_of_lt_of_le hlt hg3.size
  have hw' : Wtr (w3.setCell ⟨g, 0, none⟩ (.slice A3 (xs.length + m) k3)) B g (.slice A3 (xs.length + m) k3) (xs ++ ys) := by
    refine ⟨HW.out.low, ?_, ?_⟩
    · simp [World.setCell, Array.getElem?_modify, hblk]
    · rw [List.length_append, HL.out, valsB_append]
      exact row_stays hown3 (fun k hk => Deep.blk_setCell_other w3 _ _ k (fun he => row_not_block hown3 hblk (by rw [hk]; exact congrArg some he)))
  have ht : Touch w (w3.setCell ⟨g, 0, none⟩ (.slice A3 (xs.length + m) k3)) g v.ownBlock :=
    ⟨hg3.os, hg3.tape, hg3.output, by rw [World.size_setCell]; exact hg3.size, fun k hk h1 h2 => (Deep.blk_setCell_other w3 _ _ k h1).trans (hg3.block k hk (fun he => h2 he.symm))⟩
  have H1 := Lib.hid hw'
  have H2 := Lib.hid ht
  have H3 := Lib.hid hb3
  clear hw' ht hb3 hown3 hg3 hblk c0
  go_wp2_with fail
  refine bodyPost_end (v := .tuple #[]) (by simp [results, Try.results144, go_sem]) rfl ⟨rfl, _, H1.out, H2.out, H3.out⟩
end Go.Proofs.Ytjmjehhmkjhalaa

/- The contract of wire's Size. -/
namespace Go.Proofs.Ytjmjehhmkjhalaa
set_option maxRecDepth 100000
open Go.RowKit Go.Shelf

def renLen : Go.Shelf.Ren := ⟨fun | 129 => 143 | n => n, fun | 53 => 180 | 46 => 79 | n => n, fun | n => n⟩
theorem lays129 : Go.Proofs.Lays.n129 Try.prog renLen := {
  mixed := by kernel_rfl
  f129 := Try.func143.trans (congrArg some (by kernel_rfl))
  t3 := Try.underlying3
  a3 := Try.isAgg3
  z3 := Try.sizeOf3
  v3 := Try.zeroValue3
  t4 := Try.underlying4
  a4 := Try.isAgg4
  z4 := Try.sizeOf4
  v4 := Try.zeroValue4
  t5 := Try.underlying5
  a5 := Try.isAgg5
  z5 := Try.sizeOf5
  v5 := Try.zeroValue5
  t9 := Try.underlying9
  a9 := Try.isAgg9
  z9 := Try.sizeOf9
  v9 := Try.zeroValue9
  t46 := Try.underlying79
  a46 := Try.isAgg79
  z46 := Try.sizeOf79
  v46 := Try.zeroValue79
  t53 := Try.underlying180
  a53 := Try.isAgg180
  z53 := Try.sizeOf180
  v53 := Try.zeroValue180 }
theorem len64_any (x : Int) (h0 : 0 ≤ x) (h1 : x ≤ 18446744073709551615) (w : World) :
    Calls Try.prog 143 #[.int .u64 x] w fun e w' => e = .returned (.int .i64 (Lib.bitLen x.toNat : Int)) ∧ w = w' :=
  (Any.bits_Len64 lays129 x w h0 h1).mono fun _ _ h => ⟨h.1, h.2.symm⟩
/-- In how many bytes a count is written. -/
def sizeN (n : Nat) : Nat := max 1 ((Lib.bitLen n + 6) / 7)
theorem ret_int {a b : Int} (h : a = b) : Ending.returned (.int .i64 a) = .returned (.int .i64 b) := by rw [h]
set_option maxHeartbeats 400000 in
theorem wsize_any (n : Nat) (h : n < 18446744073709551616) (w : World) :
    Calls Try.prog 109 #[.int .u64 (n : Int)] w fun e w' => e = .returned (.int .i64 (sizeN n : Int)) ∧ w = w' := by
  have C := len64_any (n : Int) (by omega) (by omega) w
  rw [show ((n : Int)).toNat = n by omega] at C
  have hl := Lib.bitLen_le n 64 (Nat.le_refl _) h
  unfold sizeN
  obtain ⟨L, hL⟩ : ∃ L, L = Lib.bitLen n := ⟨_, rfl⟩
  rw [← hL] at C hl ⊢
  have D := Lib.hid C
  clear C hL h
  go_enter Try.func109, Try.ntmps109
  go_wp2_with fail
  refine Calls.mono D.out ?_
  rintro e w1 ⟨rfl, rfl⟩
  go_wp2_with fail
  go_ret
  exact ⟨ret_int (by omega), rfl⟩
end Go.Proofs.Ytjmjehhmkjhalaa

/- The contracts of a writer's Count, Num, Byte, Flag. -/
namespace Go.Proofs.Ytjmjehhmkjhalaa
set_option maxRecDepth 100000
open Go.RowKit

/-- What a call of a writer leaves: its bytes, and what else may be changed. -/
structure Wrote (w w' : World) (B g : Nat) (v v' : Value) (xs : List Nat) : Prop where
  wtr : Wtr w' B g v' xs
  touch : Touch w w' g v.ownBlock
  row : v'.ownBlock = v.ownBlock ∨ ∃ k, v'.ownBlock = some k ∧ w.heap.size ≤ k
theorem Wrote.refl {w : World} {B g : Nat} {v : Value} {xs : List Nat} (h : Wtr w B g v xs) : Wrote w w B g v v xs := ⟨h, ⟨rfl, rfl, rfl, Nat.le_refl _, fun _ _ _ _ => rfl⟩, .inl rfl⟩
theorem Wrote.trans {w w1 w2 : World} {B g : Nat} {v v1 v2 : Value} {xs ys : List Nat} (h : Wrote w w1 B g v v1 xs) (k : Wrote w1 w2 B g v1 v2 ys) : Wrote w w2 B g v v2 ys := by
  refine ⟨k.wtr, ⟨k.touch.os.trans h.touch.os, k.touch.tape.trans h.touch.tape, k.touch.output.trans h.touch.output, Nat.le_trans h.touch.size k.touch.size, fun q hq hg hr => ?_⟩, ?_⟩
  · refine (k.touch.block q (Nat.lt_of_lt_of_le hq h.touch.size) hg (fun he => ?_)).trans (h.touch.block q hq hg hr)
    rcases h.row with h1 | ⟨j, h1, h2⟩
    · exact hr (h1.symm.trans he)
    · rw [h1] at he
      injection he with he
      omega
  · rcases k.row with k1 | ⟨j, k1, k2⟩
    · rcases h.row with h1 | ⟨i, h1, h2⟩
      · exact .inl (k1.trans h1)
      · exact .inr ⟨i, k1.trans h1, h2⟩
    · exact .inr ⟨j, k1, Nat.le_trans h.touch.size k2⟩
/-- An alloc beside a writer. -/
theorem Wtr.alloc {w : World} {B g : Nat} {v : Value} {xs : List Nat} (h : Wtr w B g v xs) (o : Obj) : Wtr (w.alloc o) B g v xs :=
  ⟨h.low, (heap_alloc_old w o h.lt).trans h.block, row_stays h.own (fun k hk => heap_alloc_old w o (h.own.lt k hk).2)⟩
theorem Wrote.after_alloc {w w' : World} {B g : Nat} {v v' : Value} {xs : List Nat} {o : Obj} (h : Wrote (w.alloc o) w' B g v v' xs) : Wrote w w' B g v v' xs := by
  refine ⟨h.wtr, ⟨h.touch.os, h.touch.tape, h.touch.output, by have := h.touch.size; rw [World.size_alloc] at this; omega, fun k hk h1 h2 => (h.touch.block k (by rw [World.size_alloc]; omega) h1 h2).trans (heap_alloc_old w o hk)⟩, ?_⟩
  rcases h.row with h1 | ⟨k, h1, h2⟩
  · exact .inl h1
  · exact .inr ⟨k, h1, by rw [World.size_alloc] at h2; omega⟩
theorem rdv_one (w : World) (x : Nat) : Rdv (w.alloc (.cells #[.int .u8 (x : Int)] 5)) (some ⟨w.heap.size, 0, none⟩) 1 1 (valsB [x]) := by
  refine ⟨rfl, fun _ => ⟨_, 0, rfl, fun j u hj => ?_⟩⟩
  have hj0 : j = 0 := by
    rcases Nat.eq_zero_or_pos j with h | h
    · exact h
    · rw [List.getElem?_eq_none (by simp [valsB]; omega)] at hj; cases hj
  subst hj0
  rw [cell_of_row _ _ _ _ 5 (0, 0) (heap_alloc_new w _), ← hj]
  rfl
/-- One byte more. -/
theorem put_one (B g : Nat) (v : Value) (xs : List Nat) (x : Nat) (w : World) (hw : Wtr w B g v xs) (hmx : xs.length + 1 ≤ 17592186044416) :
    Calls Try.prog 144 #[.pointer (some ⟨g, 0, none⟩), .slice (some ⟨w.heap.size, 0, none⟩) 1 1] (w.alloc (.cells #[.int .u8 (x : Int)] 5)) fun e w' => e = .returned (.tuple #[]) ∧ ∃ v', Wrote w w' B g v v' (xs ++ [x]) :=
  (put_any B g v xs _ 1 1 [x] _ (hw.alloc _) (rdv_one w x) (fun h => by cases h) hmx).mono fun _ _ ⟨h1, v', h2, h3, h4⟩ => ⟨h1, v', Wrote.after_alloc ⟨h2, h3, h4.imp id fun h => ⟨_, h, Nat.le_refl _⟩⟩⟩

/-- The bytes of a count: all but the last, and all. -/
def preN (n k : Nat) : List Nat := (List.range k).map fun i => n / 128 ^ i % 128 + 128
def cntN (n : Nat) : List Nat := preN n (sizeN n - 1) ++ [n / 128 ^ (sizeN n - 1) % 256]
theorem preN_succ (n k : Nat) : preN n (k + 1) = preN n k ++ [n / 128 ^ k % 128 + 128] := by simp [preN, List.range_succ]
theorem preN_length (n k : Nat) : (preN n k).length = k := by simp [preN]
theorem or_mark (x : Nat) : bits BinOp.or IntKind.u8 ((x : Int) % 256) 128 = ((x % 128 + 128 : Nat) : Int) := by
  have e : (x : Int) % 256 = ((x % 256 : Nat) : Int) := rfl
  have key : ∀ y : Fin 256, bits BinOp.or IntKind.u8 (y.val : Int) 128 = ((y.val % 128 + 128 : Nat) : Int) := by decide +kernel
  rw [e, key ⟨x % 256, by omega⟩]
  congr 1
  show x % 256 % 128 + 128 = x % 128 + 128
  omega

set_option maxHeartbeats 1000000 in
theorem count_any (B g : Nat) (v : Value) (xs : List Nat) (n : Nat) (hn : n < 18446744073709551616) (w : World) (hw : Wtr w B g v xs) (hmx : xs.length ≤ 8796093022208) :
    Calls Try.prog 111 #[.pointer (some ⟨g, 0, none⟩), .int .u64 (n : Int)] w fun e w' => e = .returned (.tuple #[]) ∧ ∃ v', Wrote w w' B g v v' (xs ++ cntN n) := by
  have S := wsize_any n hn w
  have hl := Lib.bitLen_le n 64 (Nat.le_refl _) hn
  have hs1 : 1 ≤ sizeN n := by unfold sizeN; omega
  have hs2 : sizeN n ≤ 10 := by unfold sizeN; omega
  have hc : cntN n = preN n (sizeN n - 1) ++ [n / 128 ^ (sizeN n - 1) % 256] := rfl
  obtain ⟨s, hs⟩ : ∃ s, s = sizeN n - 1 := ⟨_, rfl⟩
  have hsn : (sizeN n : Int) - 1 = (s : Int) := by omega
  rw [← hs] at hc
  rw [hc]
  obtain ⟨z, hz⟩ : ∃ z, z = sizeN n := ⟨_, rfl⟩
  rw [← hz] at S hsn
  have HS := Lib.hid S
  have HW := Lib.hid (Wrote.refl hw)
  have hs10 : s ≤ 9 := by omega
  clear S hl hs1 hs2 hs hz hw hc
  go_enter Try.func111, Try.ntmps111
  go_wp2_with fail
  refine Calls.mono HS.out ?_
  rintro e w1 ⟨rfl, rfl⟩
  go_wp2_with fail
  go_loopw [1, 7] (fun x i wr => ∃ (k : Nat) (v' : Value), x = .int .u64 ((n / 128 ^ k : Nat) : Int) ∧ i = .int .i64 (k : Int) ∧ k ≤ s ∧ Wrote w wr B g v v' (xs ++ preN n k)) (fun _ i _ => s - (intOf i).toNat)
  case atStart => exact ⟨0, v, by simp, rfl, by omega, by rw [show preN n 0 = [] from rfl, List.append_nil]; exact HW.out⟩
  case round =>
    obtain ⟨k, v', rfl, rfl, hk, hwr⟩ := hrel
    have hpl : (preN n k).length = k := preN_length n k
    obtain ⟨N, hN⟩ : ∃ N, N = n / 128 ^ k := ⟨_, rfl⟩
    have hsucc := preN_succ n k
    have hdiv : n / 128 ^ (k + 1) = N / 128 := by rw [hN, Nat.pow_succ, Nat.div_div_eq_div_mul]
    rw [← hN] at hsucc ⊢
    by_cases hlt : k < s
    · have e1 := or_mark N
      obtain ⟨X, hX⟩ : ∃ X, X = N % 128 + 128 := ⟨_, rfl⟩
      rw [← hX] at e1 hsucc
      have e2 : (N : Int) / 128 = ((N / 128 : Nat) : Int) := rfl
      obtain ⟨M, hM⟩ : ∃ M, M = N / 128 := ⟨_, rfl⟩
      rw [← hM] at e2 hdiv
      have HP := Lib.hid (put_one B g v' (xs ++ preN n k) X wr hwr.wtr (by rw [List.length_append, hpl]; omega))
      have HR := Lib.hid hwr
      have HSU := Lib.hid hsucc
      have HDI := Lib.hid hdiv
      clear hwr hX hM hN hsucc hdiv hpl HW
      go_wp2_with fail
      refine Calls.mono HP.out ?_
      rintro e w2 ⟨rfl, v2, hw2⟩
      have HR2 := Lib.hid (HR.out.trans hw2)
      clear hw2
      go_wp2_with fail
      go_roundw
      case rel => exact ⟨k + 1, v2, by rw [HDI.out], by go_num, by omega, by rw [HSU.out, ← List.append_assoc]; exact HR2.out⟩
      case measure => simp [intOf]; omega
    · obtain rfl : k = s := by omega
      have e1 : (N : Int) % 256 = ((N % 256 : Nat) : Int) := rfl
      obtain ⟨X, hX⟩ : ∃ X, X = N % 256 := ⟨_, rfl⟩
      rw [← hX] at e1
      have HP := Lib.hid (put_one B g v' (xs ++ preN n k) X wr hwr.wtr (by rw [List.length_append, hpl]; omega))
      have HR := Lib.hid hwr
      have HXX := Lib.hid hX
      have HNN := Lib.hid hN
      clear hwr hX hN hsucc hdiv hpl HW
      go_wp2_with fail
      refine Calls.mono HP.out ?_
      rintro e w2 ⟨rfl, v2, hw2⟩
      have HR2 := Lib.hid (HR.out.trans hw2)
      clear hw2
      go_wp2_with fail
      refine bodyPost_end (v := .tuple #[]) (by simp [results, Try.results111, go_sem]) rfl ⟨rfl, v2, ?_⟩
      have h := HR2.out
      rw [HXX.out, HNN.out, List.append_assoc] at h
      exact h
end Go.Proofs.Ytjmjehhmkjhalaa
