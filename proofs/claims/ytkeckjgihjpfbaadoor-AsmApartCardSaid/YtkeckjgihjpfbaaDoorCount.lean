/- The contracts of a writer's Count, Num, Byte, Flag. -/
import Derived.Test.YtkeckjgihjpfbaaDoorSize
import Derived.Laws.BitsAllLaws
import Derived.Laws.Bits64b
namespace Go.Proofs.YtkeckjgihjpfbaaDoor
set_option maxRecDepth 100000
open Go.RowKit

/-- What a call of a writer leaves: its bytes, and what else may be changed. -/
structure Wrote (w w' : World) (B g : Nat) (v v' : Value) (xs : List Nat) : Prop where
  wtr : Wtr w' B g v' xs
  touch : Touch w w' g v.ownBlock
  row : v'.ownBlock = v.ownBlock ∨ ∃ k, v'.ownBlock = some k ∧ w.heap.size ≤ k
theorem Wrote.refl {w : World} {B g : Nat} {v : Value} {xs : List Nat} (h : Wtr w B g v xs) : Wrote w w B g v v xs := ⟨h, ⟨rfl, rfl, rfl, Nat.le_refl _, fun _ _ _ _ => rfl⟩, .inl rfl⟩
theorem Wrote.trans {w w1 w2 : World} {B g : Nat} {v v1 v2 : Value} {xs ys : List Nat} (h : Wrote w w1 B g v v1 xs) (k : Wrote w1 w2 B g v1 v2 ys) : Wrote w w2 B g v v2 ys := by
  refine ⟨k.wtr, ⟨k.touch.os.trans h.touch.os, k.touch.tape.trans h.touch.tape, k.touch.output.trans h.touch.output, Nat.le_trans h.touch.size k.touch.size, fun q hq hg hr => ?_⟩, ?_⟩
  · refine (k.touch.block q (Nat.lt_of_lt_of_le hq h.touch.size) hg (fun he => ?_)).trans (h.touch.block q hq hg hr)
    rcases h.row with h1 | ⟨j, h1, h2⟩
    · exact hr (h1.symm.trans he)
    · rw [h1] at he
      injection he with he
      omega
  · rcases k.row with k1 | ⟨j, k1, k2⟩
    · rcases h.row with h1 | ⟨i, h1, h2⟩
      · exact .inl (k1.trans h1)
      · exact .inr ⟨i, k1.trans h1, h2⟩
    · exact .inr ⟨j, k1, Nat.le_trans h.touch.size k2⟩
/-- An alloc beside a writer. -/
theorem Wtr.alloc {w : World} {B g : Nat} {v : Value} {xs : List Nat} (h : Wtr w B g v xs) (o : Obj) : Wtr (w.alloc o) B g v xs :=
  ⟨h.low, (heap_alloc_old w o h.lt).trans h.block, row_stays h.own (fun k hk => heap_alloc_old w o (h.own.lt k hk).2)⟩
theorem Wrote.after_alloc {w w' : World} {B g : Nat} {v v' : Value} {xs : List Nat} {o : Obj} (h : Wrote (w.alloc o) w' B g v v' xs) : Wrote w w' B g v v' xs := by
  refine ⟨h.wtr, ⟨h.touch.os, h.touch.tape, h.touch.output, by have := h.touch.size; rw [World.size_alloc] at this; omega, fun k hk h1 h2 => (h.touch.block k (by rw [World.size_alloc]; omega) h1 h2).trans (heap_alloc_old w o hk)⟩, ?_⟩
  rcases h.row with h1 | ⟨k, h1, h2⟩
  · exact .inl h1
  · exact .inr ⟨k, h1, by rw [World.size_alloc] at h2; omega⟩
theorem rdv_one (w : World) (x : Nat) : Rdv (w.alloc (.cells #[.int .u8 (x : Int)] 5)) (some ⟨w.heap.size, 0, none⟩) 1 1 (valsB [x]) := by
  refine ⟨rfl, fun _ => ⟨_, 0, rfl, fun j u hj => ?_⟩⟩
  have hj0 : j = 0 := by
    rcases Nat.eq_zero_or_pos j with h | h
    · exact h
    · rw [List.getElem?_eq_none (by simp [valsB]; omega)] at hj; cases hj
  subst hj0
  rw [cell_of_row _ _ _ _ 5 (0, 0) (heap_alloc_new w _), ← hj]
  rfl
/-- One byte more. -/
theorem put_one (B g : Nat) (v : Value) (xs : List Nat) (x : Nat) (w : World) (hw : Wtr w B g v xs) (hmx : xs.length + 1 ≤ 17592186044416) :
    Calls Tryd.prog 66 #[.pointer (some ⟨g, 0, none⟩), .slice (some ⟨w.heap.size, 0, none⟩) 1 1] (w.alloc (.cells #[.int .u8 (x : Int)] 5)) fun e w' => e = .returned (.tuple #[]) ∧ ∃ v', Wrote w w' B g v v' (xs ++ [x]) :=
  (put_any B g v xs _ 1 1 [x] _ (hw.alloc _) (rdv_one w x) (fun h => by cases h) hmx).mono fun _ _ ⟨h1, v', h2, h3, h4⟩ => ⟨h1, v', Wrote.after_alloc ⟨h2, h3, h4.imp id fun h => ⟨_, h, Nat.le_refl _⟩⟩⟩

/-- The bytes of a count: all but the last, and all. -/
def preN (n k : Nat) : List Nat := (List.range k).map fun i => n / 128 ^ i % 128 + 128
def cntN (n : Nat) : List Nat := preN n (sizeN n - 1) ++ [n / 128 ^ (sizeN n - 1) % 256]
theorem preN_succ (n k : Nat) : preN n (k + 1) = preN n k ++ [n / 128 ^ k % 128 + 128] := by simp [preN, List.range_succ]
theorem preN_length (n k : Nat) : (preN n k).length = k := by simp [preN]
theorem or_mark (x : Nat) : bits BinOp.or IntKind.u8 ((x : Int) % 256) 128 = ((x % 128 + 128 : Nat) : Int) := by
  have e : (x : Int) % 256 = ((x % 256 : Nat) : Int) := rfl
  have key : ∀ y : Fin 256, bits BinOp.or IntKind.u8 (y.val : Int) 128 = ((y.val % 128 + 128 : Nat) : Int) := by decide +kernel
  rw [e, key ⟨x % 256, by omega⟩]
  congr 1
  show x % 256 % 128 + 128 = x % 128 + 128
  omega

set_option maxHeartbeats 1000000 in
theorem count_any (B g : Nat) (v : Value) (xs : List Nat) (n : Nat) (hn : n < 18446744073709551616) (w : World) (hw : Wtr w B g v xs) (hmx : xs.length ≤ 8796093022208) :
    Calls Tryd.prog 38 #[.pointer (some ⟨g, 0, none⟩), .int .u64 (n : Int)] w fun e w' => e = .returned (.tuple #[]) ∧ ∃ v', Wrote w w' B g v v' (xs ++ cntN n) := by
  have S := size_any n hn w
  have hl := Lib.bitLen_le n 64 (Nat.le_refl _) hn
  have hs1 : 1 ≤ sizeN n := by unfold sizeN; omega
  have hs2 : sizeN n ≤ 10 := by unfold sizeN; omega
  have hc : cntN n = preN n (sizeN n - 1) ++ [n / 128 ^ (sizeN n - 1) % 256] := rfl
  obtain ⟨s, hs⟩ : ∃ s, s = sizeN n - 1 := ⟨_, rfl⟩
  have hsn : (sizeN n : Int) - 1 = (s : Int) := by omega
  rw [← hs] at hc
  rw [hc]
  obtain ⟨z, hz⟩ : ∃ z, z = sizeN n := ⟨_, rfl⟩
  rw [← hz] at S hsn
  have HS := Lib.hid S
  have HW := Lib.hid (Wrote.refl hw)
  have hs10 : s ≤ 9 := by omega
  clear S hl hs1 hs2 hs hz hw hc
  go_enter Tryd.func38, Tryd.ntmps38
  go_wp2_with fail
  refine Calls.mono HS.out ?_
  rintro e w1 ⟨rfl, rfl⟩
  go_wp2_with fail
  go_loopw [1, 7] (fun x i wr => ∃ (k : Nat) (v' : Value), x = .int .u64 ((n / 128 ^ k : Nat) : Int) ∧ i = .int .i64 (k : Int) ∧ k ≤ s ∧ Wrote w wr B g v v' (xs ++ preN n k)) (fun _ i _ => s - (intOf i).toNat)
  case atStart => exact ⟨0, v, by simp, rfl, by omega, by rw [show preN n 0 = [] from rfl, List.append_nil]; exact HW.out⟩
  case round =>
    obtain ⟨k, v', rfl, rfl, hk, hwr⟩ := hrel
    have hpl : (preN n k).length = k := preN_length n k
    obtain ⟨N, hN⟩ : ∃ N, N = n / 128 ^ k := ⟨_, rfl⟩
    have hsucc := preN_succ n k
    have hdiv : n / 128 ^ (k + 1) = N / 128 := by rw [hN, Nat.pow_succ, Nat.div_div_eq_div_mul]
    rw [← hN] at hsucc ⊢
    by_cases hlt : k < s
    · have e1 := or_mark N
      obtain ⟨X, hX⟩ : ∃ X, X = N % 128 + 128 := ⟨_, rfl⟩
      rw [← hX] at e1 hsucc
      have e2 : (N : Int) / 128 = ((N / 128 : Nat) : Int) := rfl
      obtain ⟨M, hM⟩ : ∃ M, M = N / 128 := ⟨_, rfl⟩
      rw [← hM] at e2 hdiv
      have HP := Lib.hid (put_one B g v' (xs ++ preN n k) X wr hwr.wtr (by rw [List.length_append, hpl]; omega))
      have HR := Lib.hid hwr
      have HSU := Lib.hid hsucc
      have HDI := Lib.hid hdiv
      clear hwr hX hM hN hsucc hdiv hpl HW
      go_wp2_with fail
      refine Calls.mono HP.out ?_
      rintro e w2 ⟨rfl, v2, hw2⟩
      have HR2 := Lib.hid (HR.out.trans hw2)
      clear hw2
      go_wp2_with fail
      go_roundw
      case rel => exact ⟨k + 1, v2, by rw [HDI.out], by go_num, by omega, by rw [HSU.out, ← List.append_assoc]; exact HR2.out⟩
      case measure => simp [intOf]; omega
    · obtain rfl : k = s := by omega
      have e1 : (N : Int) % 256 = ((N % 256 : Nat) : Int) := rfl
      obtain ⟨X, hX⟩ : ∃ X, X = N % 256 := ⟨_, rfl⟩
      rw [← hX] at e1
      have HP := Lib.hid (put_one B g v' (xs ++ preN n k) X wr hwr.wtr (by rw [List.length_append, hpl]; omega))
      have HR := Lib.hid hwr
      have HXX := Lib.hid hX
      have HNN := Lib.hid hN
      clear hwr hX hN hsucc hdiv hpl HW
      go_wp2_with fail
      refine Calls.mono HP.out ?_
      rintro e w2 ⟨rfl, v2, hw2⟩
      have HR2 := Lib.hid (HR.out.trans hw2)
      clear hw2
      go_wp2_with fail
      refine bodyPost_end (v := .tuple #[]) (by simp [results, Tryd.results38, go_sem]) rfl ⟨rfl, v2, ?_⟩
      have h := HR2.out
      rw [HXX.out, HNN.out, List.append_assoc] at h
      exact h
end Go.Proofs.YtkeckjgihjpfbaaDoor
