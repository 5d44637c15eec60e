/- The contracts of a nil writer: nothing is written. -/
import Derived.Test.YtlegaajacmjejaaWrite
namespace Go.Proofs.Ytlegaajacmjejaa
set_option maxRecDepth 100000
open Go.RowKit

set_option maxHeartbeats 400000 in
theorem put_nil (A : Option Addr) (m c : Nat) (w : World) :
    Calls Try.prog 84 #[.pointer none, .slice A m c] w fun e w' => e = .returned (.tuple #[]) ∧ w = w' := by
  go_enter Try.func84, Try.ntmps84
  go_wp2_with fail
  exact bodyPost_end (v := .tuple #[]) (by simp [results, Try.results84, go_sem]) rfl ⟨rfl, rfl⟩
set_option maxHeartbeats 1000000 in
theorem count_nil (n : Nat) (hn : n < 18446744073709551616) (w : World) :
    Calls Try.prog 49 #[.pointer none, .int .u64 (n : Int)] w fun e w' => e = .returned (.tuple #[]) ∧ Below w.heap.size w w' := by
  have S := size_any n hn w
  have hl := Lib.bitLen_le n 64 (Nat.le_refl _) hn
  have hs1 : 1 ≤ sizeN n := by unfold sizeN; omega
  have hs2 : sizeN n ≤ 10 := by unfold sizeN; omega
  obtain ⟨s, hs⟩ : ∃ s, s = sizeN n - 1 := ⟨_, rfl⟩
  have hsn : (sizeN n : Int) - 1 = (s : Int) := by omega
  obtain ⟨z, hz⟩ : ∃ z, z = sizeN n := ⟨_, rfl⟩
  rw [← hz] at S hsn
  have HS := Lib.hid S
  have HP := Lib.hid (fun A m c w => put_nil A m c w)
  have hs10 : s ≤ 9 := by omega
  clear S hl hs1 hs2 hs hz
  go_enter Try.func49, Try.ntmps49
  go_wp2_with fail
  refine Calls.mono HS.out ?_
  rintro e w1 ⟨rfl, rfl⟩
  go_wp2_with fail
  go_loopw [1, 7] (fun x i wr => ∃ (k N : Nat), x = .int .u64 (N : Int) ∧ i = .int .i64 (k : Int) ∧ k ≤ s ∧ Below w.heap.size w wr) (fun _ i _ => s - (intOf i).toNat)
  case atStart => exact ⟨0, n, rfl, rfl, by omega, Below.refl _ _⟩
  case round =>
    obtain ⟨k, N, rfl, rfl, hk, hb⟩ := hrel
    have HB := Lib.hid hb
    have hsz := hb.size
    clear hb
    by_cases hlt : k < s
    · have e2 : (N : Int) / 128 = ((N / 128 : Nat) : Int) := rfl
      obtain ⟨M, hM⟩ : ∃ M, M = N / 128 := ⟨_, rfl⟩
      rw [← hM] at e2
      clear hM
      go_wp2_with fail
      refine Calls.mono (HP.out _ _ _ _) ?_
      rintro e w2 ⟨rfl, rfl⟩
      go_wp2_with fail
      go_roundw
      case rel => exact ⟨k + 1, M, rfl, by go_num, by omega, HB.out.alloc hsz _⟩
      case measure => simp [intOf]; omega
    · obtain rfl : k = s := by omega
      go_wp2_with fail
      refine Calls.mono (HP.out _ _ _ _) ?_
      rintro e w2 ⟨rfl, rfl⟩
      go_wp2_with fail
      exact bodyPost_end (v := .tuple #[]) (by simp [results, Try.results49, go_sem]) rfl ⟨rfl, HB.out.alloc hsz _⟩
set_option maxHeartbeats 400000 in
theorem num_nil (z : Int) (hz : Fits z) (w : World) :
    Calls Try.prog 48 #[.pointer none, .int .i64 z] w fun e w' => e = .returned (.tuple #[]) ∧ Below w.heap.size w w' := by
  have HC := Lib.hid (count_nil (foldN z) (foldN_lt hz) w)
  have hf := fold_bits hz
  clear hz
  go_enter Try.func48, Try.ntmps48
  go_wp2_with fail
  refine Calls.mono HC.out ?_
  rintro e w1 ⟨rfl, h⟩
  have H := Lib.hid h
  clear h
  go_wp2_with fail
  exact bodyPost_end (v := .tuple #[]) (by simp [results, Try.results48, go_sem]) rfl ⟨rfl, H.out⟩
set_option maxHeartbeats 400000 in
theorem byte_nil (x : Int) (w : World) :
    Calls Try.prog 57 #[.pointer none, .int .u8 x] w fun e w' => e = .returned (.tuple #[]) ∧ Below w.heap.size w w' := by
  go_enter Try.func57, Try.ntmps57
  go_wp2_with fail
  refine Calls.mono (put_nil _ _ _ _) ?_
  rintro e w1 ⟨rfl, rfl⟩
  go_wp2_with fail
  exact bodyPost_end (v := .tuple #[]) (by simp [results, Try.results57, go_sem]) rfl ⟨rfl, (Below.refl _ w).alloc (Nat.le_refl _) _⟩
set_option maxHeartbeats 400000 in
theorem flag_nil (f : Bool) (w : World) :
    Calls Try.prog 52 #[.pointer none, .bool f] w fun e w' => e = .returned (.tuple #[]) ∧ Below w.heap.size w w' := by
  cases f <;> go_enter Try.func52, Try.ntmps52 <;> go_wp2_with fail
  all_goals
    refine Calls.mono (put_nil _ _ _ _) ?_
    rintro e w1 ⟨rfl, rfl⟩
    go_wp2_with fail
    exact bodyPost_end (v := .tuple #[]) (by simp [results, Try.results52, go_sem]) rfl ⟨rfl, (Below.refl _ w).alloc (Nat.le_refl _) _⟩
set_option maxHeartbeats 400000 in
theorem bytes_nil (A : Option Addr) (m c : Nat) (hm : m ≤ 8796093000000) (w : World) :
    Calls Try.prog 54 #[.pointer none, .slice A m c] w fun e w' => e = .returned (.tuple #[]) ∧ Below w.heap.size w w' := by
  have e1 : IntKind.u64.wrap (m : Int) = ((m : Nat) : Int) := by rw [IntKind.wrap_u64]; omega
  have HC := Lib.hid (count_nil m (by omega) w)
  have D : Calls Try.prog 86 #[.pointer none, .slice A m c] w fun e w' => e = .returned (.tuple #[]) ∧ Below w.heap.size w w' := by
    go_enter Try.func86, Try.ntmps86
    go_wp2_with fail
    refine Calls.mono HC.out ?_
    rintro e w1 ⟨rfl, h⟩
    have H := Lib.hid h
    clear h
    go_wp2_with fail
    refine Calls.mono (put_nil _ _ _ _) ?_
    rintro e w2 ⟨rfl, rfl⟩
    go_wp2_with fail
    exact bodyPost_end (v := .tuple #[]) (by simp [results, Try.results86, go_sem]) rfl ⟨rfl, H.out⟩
  have HD := Lib.hid D
  clear D HC
  go_enter Try.func54, Try.ntmps54
  go_wp2_with fail
  refine Calls.mono HD.out ?_
  rintro e w1 ⟨rfl, h⟩
  have H := Lib.hid h
  clear h
  go_wp2_with fail
  exact bodyPost_end (v := .tuple #[]) (by simp [results, Try.results54, go_sem]) rfl ⟨rfl, H.out⟩
set_option maxHeartbeats 400000 in
theorem text_nil (s : ByteArray) (hm : s.size ≤ 8796093000000) (w : World) :
    Calls Try.prog 56 #[.pointer none, .string s] w fun e w' => e = .returned (.tuple #[]) ∧ Below w.heap.size w w' := by
  obtain ⟨m, hms⟩ : ∃ m, m = s.size := ⟨_, rfl⟩
  have e1 : IntKind.u64.wrap (s.size : Int) = ((s.size : Nat) : Int) := by rw [IntKind.wrap_u64]; omega
  have HC := Lib.hid (count_nil s.size (by omega) w)
  have hcv : ∀ w1 : World, (convert 9 26 (.string s)).run Try.prog w1 = .ok (.slice (some ⟨w1.heap.size, 0, none⟩) s.size (grownCap w1 s.size 0 5)) (Lib.bytesWorld w1 5 s) := fun w1 =>
    Lib.run_convert_string_bytes (P := Try.prog) w1 9 26 5 s Try.underlying9 Try.underlying26 Try.underlying5
  have HV := Lib.hid hcv
  clear hcv hms
  have D : Calls Try.prog 87 #[.pointer none, .string s] w fun e w' => e = .returned (.tuple #[]) ∧ Below w.heap.size w w' := by
    go_enter Try.func87, Try.ntmps87
    go_wp2_with fail
    refine Calls.mono HC.out ?_
    rintro e w1 ⟨rfl, h⟩
    have H := Lib.hid (h.trans ((bytesWorld_below w1 s).mono h.size))
    have e2 := HV.out w1
    clear h
    go_wp2_with fail
    refine Calls.mono (put_nil _ _ _ _) ?_
    rintro e w2 ⟨rfl, rfl⟩
    go_wp2_with fail
    exact bodyPost_end (v := .tuple #[]) (by simp [results, Try.results87, go_sem]) rfl ⟨rfl, H.out⟩
  have HD := Lib.hid D
  clear D HC HV e1
  go_enter Try.func56, Try.ntmps56
  go_wp2_with fail
  refine Calls.mono HD.out ?_
  rintro e w1 ⟨rfl, h⟩
  have H := Lib.hid h
  clear h
  go_wp2_with fail
  exact bodyPost_end (v := .tuple #[]) (by simp [results, Try.results56, go_sem]) rfl ⟨rfl, H.out⟩
set_option maxHeartbeats 400000 in
theorem out_nil (w : World) : Calls Try.prog 21 #[.pointer none] w fun e w' => e = .returned (.slice none 0 0) ∧ w = w' := by
  go_enter Try.func21, Try.ntmps21
  go_wp2_with fail
  go_ret
  exact ⟨rfl, rfl⟩

set_option maxHeartbeats 1000000 in
theorem write_nil (k n : Int) (u : Nat) (A : Option Addr) (m c : Nat) (ys : List Nat) (w : World) (hr : Rdv w A m 1 (valsB ys)) (hnil : A = none → c = 0)
    (hn : Fits n) (hu : u < 18446744073709551616) (hm : m ≤ 8796093000000) :
    Calls Try.prog 16 #[.pointer none, .agg #[.int .i64 k, .int .i64 n, .int .u64 (u : Int), .slice A m c]] w fun e w' => ∃ r, e = .returned r ∧ Below w.heap.size w w' := by
  have hl : ys.length = m := by have := hr.1; rw [valsB_length] at this; omega
  obtain ⟨o, ho⟩ : ∃ o, o = Obj.cells (valC k n u A m c) 31 (0, 0) := ⟨_, rfl⟩
  have hb0 : Below w.heap.size w (w.alloc o) := (Below.refl _ w).alloc (Nat.le_refl _) o
  have hr1 : Rdv (w.alloc o) A m 1 (valsB ys) := hr.ext (stays_b hb0)
  have hcell : ∀ (w' : World), Below (w.alloc o).heap.size (w.alloc o) w' → ∀ j, w'.cell? ⟨w.heap.size, j, none⟩ = (valC k n u A m c)[j]? := fun w' hh j => by
    rw [hh.cell (p := ⟨w.heap.size, j, none⟩) (by rw [World.size_alloc]; exact Nat.lt_succ_self _), ho]
    exact cell_of_row _ _ j _ 31 (0, 0) (heap_alloc_new w _)
  have HCELL := Lib.hid hcell
  have HB0 := Lib.hid hb0
  have HFIN := Lib.hid (fun w1 w2 (h1 : Below (w.alloc o).heap.size (w.alloc o) w1) (h2 : Below w1.heap.size w1 w2) => ((hb0.trans (h1.mono hb0.size)).trans (h2.mono (Nat.le_trans hb0.size h1.size)) : Below w.heap.size w w2))
  have HR1 := Lib.hid (fun w1 (h1 : Below (w.alloc o).heap.size (w.alloc o) w1) => hr1.ext (stays_b h1))
  subst ho
  clear hb0 hcell
  by_cases h1 : k = 1
  · subst h1
    have HN := Lib.hid (fun w => num_nil n hn w)
    have HF := Lib.hid (fun w' => refNum_any n hn w')
    clear hr hr1
    go_enter Try.func16, Try.ntmps16
    go_wp2_with fail
    refine Calls.mono (HN.out _) ?_
    rintro e w1 ⟨rfl, h2⟩
    have c1 : w1.cell? ⟨w.heap.size, 1, none⟩ = some (.int .i64 n) := HCELL.out w1 h2 1
    have H2 := Lib.hid h2
    clear h2
    go_wp2_with fail
    refine Calls.mono (HF.out _) ?_
    rintro e w2 ⟨r, rfl, h3, h4⟩
    have HB := Lib.hid (HFIN.out w1 w2 H2.out h4)
    clear h3 h4
    go_wp2_with fail
    go_ret
    exact ⟨_, rfl, HB.out⟩
  by_cases h2 : k = 2
  · subst h2
    obtain ⟨f, hf⟩ : ∃ f, f = decide (n = 1) := ⟨_, rfl⟩
    have hf2 : (n == 1) = f := by rw [hf]; by_cases h : n = 1 <;> simp [h]
    have HN := Lib.hid (fun w => flag_nil f w)
    have HF := Lib.hid (fun w' => refFlag_any f w')
    clear hr hr1 hf
    go_enter Try.func16, Try.ntmps16
    go_wp2_with fail
    refine Calls.mono (HN.out _) ?_
    rintro e w1 ⟨rfl, h2⟩
    have c1 : w1.cell? ⟨w.heap.size, 1, none⟩ = some (.int .i64 n) := HCELL.out w1 h2 1
    have H2 := Lib.hid h2
    clear h2
    go_wp2_with fail
    refine Calls.mono (HF.out _) ?_
    rintro e w2 ⟨r, rfl, h3, h4⟩
    have HB := Lib.hid (HFIN.out w1 w2 H2.out h4)
    clear h3 h4
    go_wp2_with fail
    go_ret
    exact ⟨_, rfl, HB.out⟩
  by_cases h3 : k = 3
  · subst h3
    have HN := Lib.hid (fun w => bytes_nil A m c hm w)
    have HF := Lib.hid (fun w' (hq : Rdv w' A m 1 (valsB ys)) => refBytes_any A m c ys w' hq hnil hm)
    clear hr hr1
    go_enter Try.func16, Try.ntmps16
    go_wp2_with fail
    refine Calls.mono (HN.out _) ?_
    rintro e w1 ⟨rfl, h2⟩
    have c1 : w1.cell? ⟨w.heap.size, 3, none⟩ = some (.slice A m c) := HCELL.out w1 h2 3
    have HG := Lib.hid (HF.out w1 (HR1.out w1 h2))
    have H2 := Lib.hid h2
    clear h2
    go_wp2_with fail
    refine Calls.mono HG.out ?_
    rintro e w2 ⟨r, rfl, h3, h4⟩
    have HB := Lib.hid (HFIN.out w1 w2 H2.out h4)
    clear h3 h4
    go_wp2_with fail
    go_ret
    exact ⟨_, rfl, HB.out⟩
  by_cases h4 : k = 4
  · subst h4
    have e1 : Sem.run Try.prog (convert 26 9 (.slice A m c)) (w.alloc (.cells #[.int .i64 4, .int .i64 n, .int .u64 (u : Int), .slice A m c] 31)) = .ok (.string (strN ys)) (w.alloc (.cells #[.int .i64 4, .int .i64 n, .int .u64 (u : Int), .slice A m c] 31)) := run_str _ A m c ys hr1
    have hsz := strN_size ys
    obtain ⟨s, hs⟩ : ∃ s, s = strN ys := ⟨_, rfl⟩
    rw [← hs] at e1 hsz
    have HN := Lib.hid (fun w => text_nil s (by omega) w)
    have HF := Lib.hid (fun w' (hq : Rdv w' A m 1 (valsB ys)) => refBytes_any A m c ys w' hq hnil hm)
    clear hr hr1 hs hsz
    go_enter Try.func16, Try.ntmps16
    go_wp2_with fail
    refine Calls.mono (HN.out _) ?_
    rintro e w1 ⟨rfl, h2⟩
    have c1 : w1.cell? ⟨w.heap.size, 3, none⟩ = some (.slice A m c) := HCELL.out w1 h2 3
    have HG := Lib.hid (HF.out w1 (HR1.out w1 h2))
    have H2 := Lib.hid h2
    clear h2
    go_wp2_with fail
    refine Calls.mono HG.out ?_
    rintro e w2 ⟨r, rfl, h3, h4⟩
    have HB := Lib.hid (HFIN.out w1 w2 H2.out h4)
    clear h3 h4
    go_wp2_with fail
    go_ret
    exact ⟨_, rfl, HB.out⟩
  by_cases h5 : k = 5
  · subst h5
    have HN := Lib.hid (fun x w => byte_nil x w)
    clear hr hr1
    go_enter Try.func16, Try.ntmps16
    go_wp2_with fail
    refine Calls.mono (HN.out _ _) ?_
    rintro e w1 ⟨rfl, h2⟩
    have c1 : w1.cell? ⟨w.heap.size, 1, none⟩ = some (.int .i64 n) := HCELL.out w1 h2 1
    have HB := Lib.hid (fun o => HFIN.out w1 _ h2 ((Below.refl _ w1).alloc (Nat.le_refl _) o))
    clear h2
    go_wp2_with fail
    go_ret
    exact ⟨_, rfl, HB.out _⟩
  have HN := Lib.hid (fun w => count_nil u hu w)
  have HF := Lib.hid (fun w' => refCount_any u hu w')
  have q1 : (k == 1) = false := beq_eq_false_iff_ne.2 h1
  have q2 : (k == 2) = false := beq_eq_false_iff_ne.2 h2
  have q3 : (k == 3) = false := beq_eq_false_iff_ne.2 h3
  have q4 : (k == 4) = false := beq_eq_false_iff_ne.2 h4
  have q5 : (k == 5) = false := beq_eq_false_iff_ne.2 h5
  clear hr hr1 h1 h2 h3 h4 h5
  go_enter Try.func16, Try.ntmps16
  go_wp2_with fail
  refine Calls.mono (HN.out _) ?_
  rintro e w1 ⟨rfl, h2⟩
  have c1 : w1.cell? ⟨w.heap.size, 2, none⟩ = some (.int .u64 (u : Int)) := HCELL.out w1 h2 2
  have H2 := Lib.hid h2
  clear h2
  go_wp2_with fail
  refine Calls.mono (HF.out _) ?_
  rintro e w2 ⟨r, rfl, h3, h4⟩
  have HB := Lib.hid (HFIN.out w1 w2 H2.out h4)
  clear h3 h4
  go_wp2_with fail
  go_ret
  exact ⟨_, rfl, HB.out⟩
end Go.Proofs.Ytlegaajacmjejaa
