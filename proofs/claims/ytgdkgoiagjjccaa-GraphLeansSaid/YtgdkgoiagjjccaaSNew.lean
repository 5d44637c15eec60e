/- sched.New. -/
import Derived.Test.YtgdkgoiagjjccaaZC
import Derived.Test.YtgdkgoiagjjccaaZA
import Derived.Deep.CutRange
import Derived.Deep.CutBlock
namespace Go.Proofs.Ytgdkgoiagjjccaa
set_option maxRecDepth 100000
open Go.RowKit

/-- A slice that reads as truths. -/
def Bls (w : World) (A : Option Addr) (n : Nat) (bs : List Bool) : Prop :=
  bs.length = n ∧ n ≤ 9223372036854775807 ∧ (0 < n → ∃ b off, A = some ⟨b, off, none⟩ ∧ ∀ j, j < n → w.cell? ⟨b, off + j, none⟩ = some (.bool (bs.getD j false)))
theorem Bls.ext {w w' : World} {A : Option Addr} {n : Nat} {bs : List Bool} (h : Bls w A n bs) (hs : ∀ p : Addr, p.block < w.heap.size → w'.cell? p = w.cell? p) : Bls w' A n bs :=
  ⟨h.1, h.2.1, fun hn => by
    obtain ⟨b, off, e, hc⟩ := h.2.2 hn
    exact ⟨b, off, e, fun j hj => (hs _ (World.block_lt_of_cell? _ _ (hc j hj))).trans (hc j hj)⟩⟩
theorem Bls.below {w w' : World} {A : Option Addr} {n : Nat} {bs : List Bool} (h : Bls w A n bs) (hb : Below w.heap.size w w') : Bls w' A n bs := h.ext fun _ hp => hb.cell hp

theorem made_at (z : Array Value) (N i : Nat) (h : i < N) : (madeCells z N)[i]? = some z[i % z.size]! := by simp [madeCells, h]
theorem info127 : (Try.prog.info? 127).map (fun i => (i.zero, i.size, i.bytes)) = some (some (.agg #[.int .i64 0, .int .i64 0, .int .i64 0, .slice none 0 0]), 4, 48) := by kernel_rfl
def zT : Array Value := #[.int .i64 0, .int .i64 0, .int .i64 0, .slice none 0 0]
def zI : Array Value := #[.int .i64 0]
theorem make_tasks (n : Nat) (hn : n ≤ 100000) (w : World) : (Instr.makeSlice 123 (.int .i64 (n : Int)) (.int .i64 (n : Int))).run Try.prog w = .ok (.slice (some ⟨w.heap.size, 0, none⟩) n n) (w.alloc (.cells (madeCells zT (n * 4)) 127)) := by
  obtain ⟨i, hi, hz, hs, hb⟩ := info_parts info127
  have := run_make (P := Try.prog) w 123 127 i _ Try.underlying123 hi hz .i64 .i64 n n (by omega) (Int.le_refl _) (by rw [hb]; omega) (by omega)
  rw [hs, Int.toNat_natCast] at this
  exact this
theorem make_ints (n : Nat) (hn : n ≤ 100000) (w : World) : (Instr.makeSlice 38 (.int .i64 (n : Int)) (.int .i64 (n : Int))).run Try.prog w = .ok (.slice (some ⟨w.heap.size, 0, none⟩) n n) (w.alloc (.cells (madeCells zI n) 3)) := by
  obtain ⟨i, hi, hz, hs, hb⟩ := info_parts info3
  have := run_make (P := Try.prog) w 38 3 i _ Try.underlying38 hi hz .i64 .i64 n n (by omega) (Int.le_refl _) (by rw [hb]; omega) (by omega)
  rw [hs, Int.toNat_natCast, Nat.mul_one] at this
  exact this
def PS.zero (n m : Nat) : PS := ⟨n, m, fun _ => 0, fun _ => 0, fun _ => 0, fun _ => [], fun _ => 0, 0, 0⟩
theorem plan_made {B : Nat} {W : World} {bp bt bw n m : Nat} (hn : n ≤ 1000000 ∧ m ≤ 1000000) (lo : B ≤ bp ∧ B ≤ bt ∧ B ≤ bw) (ap : bp ≠ bt ∧ bp ≠ bw ∧ bt ≠ bw)
    (h1 : W.heap[bp]? = some (.cells #[.slice (some ⟨bt, 0, none⟩) n n, .slice (some ⟨bw, 0, none⟩) m m, .int .i64 0, .int .i64 0] 125 (0, 0))) (h2 : W.heap[bt]? = some (.cells (madeCells zT (n * 4)) 127 (0, 0))) (h3 : W.heap[bw]? = some (.cells (madeCells zI m) 3 (0, 0))) :
    PlanAt B W bp bt bw (PS.zero n m) (fun _ => none) (fun _ => 0) := by
  have l := fun (k : Nat) (o : Obj) (h : W.heap[k]? = some o) => (Array.getElem?_eq_some_iff.1 h).1
  refine ⟨lo, ap, ⟨l _ _ h1, l _ _ h2, l _ _ h3⟩, hn, ⟨?_, ?_, ?_, ?_⟩, fun o => frozen_of_row W _ _ _ _ h1, fun i hi => ?_, fun o => frozen_of_row W _ _ _ _ h2, fun i hi => ?_, fun o => frozen_of_row W _ _ _ _ h3, fun i _ => World.ownsRow_nil _ _ _ _, fun i _ a ha => (by cases ha), fun i j _ _ _ a b ha => (by cases ha)⟩
  · rw [cell_of_row W bp 0 _ _ (0, 0) h1]; rfl
  · rw [cell_of_row W bp 1 _ _ (0, 0) h1]; rfl
  · rw [cell_of_row W bp 2 _ _ (0, 0) h1]; rfl
  · rw [cell_of_row W bp 3 _ _ (0, 0) h1]; rfl
  · change i < n at hi
    rw [cell_of_row W bt _ _ _ (0, 0) h2, cell_of_row W bt _ _ _ (0, 0) h2, cell_of_row W bt _ _ _ (0, 0) h2, cell_of_row W bt _ _ _ (0, 0) h2, made_at _ _ _ (by omega), made_at _ _ _ (by omega), made_at _ _ _ (by omega), made_at _ _ _ (by omega)]
    have e0 : i * 4 % 4 = 0 := by omega
    have e1 : (i * 4 + 1) % 4 = 1 := by omega
    have e2 : (i * 4 + 2) % 4 = 2 := by omega
    have e3 : (i * 4 + 3) % 4 = 3 := by omega
    simp [zT, e0, e1, e2, e3, PS.zero]
  · change i < m at hi
    rw [cell_of_row W bw _ _ _ (0, 0) h3, made_at _ _ _ hi]
    simp [zI, PS.zero, Nat.mod_one]

theorem new_at (w : World) (o : Obj) (k : Nat) (h : k = w.heap.size) : (w.alloc o).heap[k]? = some o := by subst h; exact heap_alloc_new w o
theorem plan_start1 (w : World) (n m : Nat) (hn : n ≤ 1000000 ∧ m ≤ 1000000) : PlanAt w.heap.size (((w.alloc (.cells (madeCells zT (n * 4)) 127)).alloc (.cells (madeCells zI m) 3)).alloc (.cells #[.slice (some ⟨w.heap.size, 0, none⟩) n n, .slice (some ⟨w.heap.size + 1, 0, none⟩) m m, .int .i64 0, .int .i64 0] 125)).drew (w.heap.size + 2) w.heap.size (w.heap.size + 1) (PS.zero n m) (fun _ => none) (fun _ => 0) ∧
    Below w.heap.size w (((w.alloc (.cells (madeCells zT (n * 4)) 127)).alloc (.cells (madeCells zI m) 3)).alloc (.cells #[.slice (some ⟨w.heap.size, 0, none⟩) n n, .slice (some ⟨w.heap.size + 1, 0, none⟩) m m, .int .i64 0, .int .i64 0] 125)).drew := by
  refine ⟨plan_made hn ⟨by omega, by omega, by omega⟩ ⟨by omega, by omega, by omega⟩ ?_ ?_ ?_, ((((Below.refl _ w).alloc (Nat.le_refl _) _).alloc (by simp) _).alloc (by simp; omega) _).drew⟩
  · exact new_at ((w.alloc (.cells (madeCells zT (n * 4)) 127)).alloc (.cells (madeCells zI m) 3)) _ _ (by simp)
  · exact (Below.heap_alloc _ _ _ (by simp; omega)).trans ((Below.heap_alloc _ _ _ (by simp)).trans (new_at w _ _ (by simp)))
  · exact (Below.heap_alloc _ _ _ (by simp)).trans (new_at (w.alloc (.cells (madeCells zT (n * 4)) 127)) _ _ (by simp))
theorem plan_start2 (w : World) (n m : Nat) (hn : n ≤ 1000000 ∧ m ≤ 1000000) : PlanAt w.heap.size (((w.alloc (.cells (madeCells zI m) 3)).alloc (.cells (madeCells zT (n * 4)) 127)).alloc (.cells #[.slice (some ⟨w.heap.size + 1, 0, none⟩) n n, .slice (some ⟨w.heap.size, 0, none⟩) m m, .int .i64 0, .int .i64 0] 125)).drew (w.heap.size + 2) (w.heap.size + 1) w.heap.size (PS.zero n m) (fun _ => none) (fun _ => 0) ∧
    Below w.heap.size w (((w.alloc (.cells (madeCells zI m) 3)).alloc (.cells (madeCells zT (n * 4)) 127)).alloc (.cells #[.slice (some ⟨w.heap.size + 1, 0, none⟩) n n, .slice (some ⟨w.heap.size, 0, none⟩) m m, .int .i64 0, .int .i64 0] 125)).drew := by
  refine ⟨plan_made hn ⟨by omega, by omega, by omega⟩ ⟨by omega, by omega, by omega⟩ ?_ ?_ ?_, ((((Below.refl _ w).alloc (Nat.le_refl _) _).alloc (by simp) _).alloc (by simp; omega) _).drew⟩
  · exact new_at ((w.alloc (.cells (madeCells zI m) 3)).alloc (.cells (madeCells zT (n * 4)) 127)) _ _ (by simp)
  · exact (Below.heap_alloc _ _ _ (by simp)).trans (new_at (w.alloc (.cells (madeCells zI m) 3)) _ _ (by simp))
  · exact (Below.heap_alloc _ _ _ (by simp; omega)).trans ((Below.heap_alloc _ _ _ (by simp)).trans (new_at w _ _ (by simp)))
theorem getD_some {l : List Int} {u : Nat} (h : u < l.length) : l[u]? = some (l.getD u 0) := by
  rw [List.getElem?_eq_getElem h]; simp [List.getD_eq_getElem?_getD, h]
theorem getD_mem {l : List Int} {u : Nat} (h : u < l.length) : l.getD u 0 ∈ l := List.mem_of_getElem? (getD_some h)
theorem ln_small (idl : Nat → Bool) (ls : List (List Int)) (n m h k q x : Nat) : ((nS idl ls n m h k q).ln x).length ≤ k + 1 := by
  show (if idl x = true then [] else inRows ls x k ++ if (x : Int) ∈ (ls.getD k []).take q then [(k : Int)] else []).length ≤ k + 1
  have h1 : (inRows ls x k).length ≤ k := by
    unfold inRows
    have := List.length_filter_le (fun i => decide ((x : Int) ∈ ls.getD i [])) (List.range k)
    rw [List.length_range] at this
    rw [List.length_map]; exact this
  split
  · simp
  · rw [List.length_append]
    split <;> simp <;> omega
theorem wt_small (idl : Nat → Bool) (ls : List (List Int)) (n m h k q : Nat) (hq : q ≤ 1000) : 0 ≤ (nS idl ls n m h k q).wt k ∧ (nS idl ls n m h k q).wt k ≤ 1000 := by
  show 0 ≤ (if k < k then cntL idl (ls.getD k []) else if k = k then cntL idl ((ls.getD k []).take q) else 0) ∧ (if k < k then cntL idl (ls.getD k []) else if k = k then cntL idl ((ls.getD k []).take q) else 0) ≤ 1000
  rw [if_neg (by omega), if_pos rfl]
  have := cntL_le idl ((ls.getD k []).take q)
  have h2 : ((ls.getD k []).take q).length ≤ q := List.length_take_le _ _
  omega
theorem zero_nS (idl : Nat → Bool) (ls : List (List Int)) (n m : Nat) : ({ PS.zero n m with ws := fun x => if x < m then -1 else 0 } : PS) = nS idl ls n m 0 0 0 := by
  unfold PS.zero nS
  simp only [PS.mk.injEq, true_and]
  refine ⟨by funext x; simp, by funext x; simp, ?_, ?_, ?_⟩
  · funext x
    by_cases h : x = 0 <;> simp [h, cntL_nil]
  · funext x
    simp [inRows]
  · simp [leftN]

set_option maxHeartbeats 400000 in
theorem new_form (A : Option Addr) (n c : Nat) (A2 : Option Addr) (n2 c2 : Nat) (ls : List (List Int)) (m : Int) (w : World) (h : Rws w A n ls) (hbad : ¬ (GoodL ls ∧ n2 = n)) :
    Calls Try.prog 42 #[.slice A n c, .slice A2 n2 c2, .int .i64 m] w fun e w' => e = .returned (.tuple #[.pointer none, errV 2]) ∧ w = w' := by
  have C := goodg_any A n c ls w h
  unfold errV
  by_cases hg : GoodL ls
  · rw [decide_eq_true hg] at C
    have HC := Lib.hid C
    have hne : ((n2 : Int) != (n : Int)) = true := by
      have : n2 ≠ n := fun e => hbad ⟨hg, e⟩
      simp; omega
    clear C hbad h hg
    go_enter Try.func42, Try.ntmps42
    go_wp2_with fail
    refine Calls.mono HC.out ?_
    rintro e w' ⟨rfl, rfl⟩
    go_wp2_with fail
    go_ret2
    exact ⟨rfl, rfl⟩
  · rw [decide_eq_false hg] at C
    have HC := Lib.hid C
    clear C hbad h hg
    go_enter Try.func42, Try.ntmps42
    go_wp2_with fail
    refine Calls.mono HC.out ?_
    rintro e w' ⟨rfl, rfl⟩
    go_wp2_with fail
    go_ret2
    exact ⟨rfl, rfl⟩
set_option maxHeartbeats 400000 in
theorem new_range (A : Option Addr) (n c : Nat) (A2 : Option Addr) (c2 : Nat) (ls : List (List Int)) (m : Int) (w : World) (h : Rws w A n ls) (hg : GoodL ls) (hm : m < 1 ∨ 64 < m) :
    Calls Try.prog 42 #[.slice A n c, .slice A2 n c2, .int .i64 m] w fun e w' => e = .returned (.tuple #[.pointer none, errV 1]) ∧ w = w' := by
  have C := goodg_any A n c ls w h
  unfold errV
  rw [decide_eq_true hg] at C
  have HC := Lib.hid C
  clear C h hg
  by_cases h1 : m < 1
  · go_enter Try.func42, Try.ntmps42
    go_wp2_with fail
    refine Calls.mono HC.out ?_
    rintro e w' ⟨rfl, rfl⟩
    go_wp2_with fail
    go_ret2
    exact ⟨rfl, rfl⟩
  · have h2 : 64 < m := by omega
    go_enter Try.func42, Try.ntmps42
    go_wp2_with fail
    refine Calls.mono HC.out ?_
    rintro e w' ⟨rfl, rfl⟩
    go_wp2_with fail
    go_ret2
    exact ⟨rfl, rfl⟩
set_option maxHeartbeats 4000000 in
theorem new_ok (A : Option Addr) (n c : Nat) (A2 : Option Addr) (c2 : Nat) (ls : List (List Int)) (bs : List Bool) (m : Nat) (w : World) (h : Rws w A n ls) (hi : Bls w A2 n bs) (hg : GoodL ls) (hm : 1 ≤ m ∧ m ≤ 64) (hn : n ≤ 10000) (hr : ∀ i, (ls.getD i []).length ≤ 1000) :
    Calls Try.prog 42 #[.slice A n c, .slice A2 n c2, .int .i64 (m : Int)] w fun e w' => ∃ bp, e = .returned (.tuple #[ptr bp, .nilIface]) ∧ ∃ bt bw sa sc, PlanAt w.heap.size w' bp bt bw (nS (fun i => bs.getD i false) ls n m n n 0) sa sc ∧ Below w.heap.size w w' := by
  have C := goodg_any A n c ls w h
  unfold ptr
  rw [decide_eq_true hg] at C
  have HC := Lib.hid C
  have HH := Lib.hid h
  have HI := Lib.hid hi
  have HG := Lib.hid hg
  have HR := Lib.hid hr
  have mt := make_tasks n (by omega)
  have mi := make_ints m (by omega)
  have b1 : (1 : Int) ≤ m := by omega
  have b2 : (m : Int) ≤ 64 := by omega
  have d1 : decide ((m : Int) < 1) = false := decide_eq_false (by omega)
  have d2 : decide ((64 : Int) < (m : Int)) = false := decide_eq_false (by omega)
  clear C h hi hg hr
  go_enter Try.func42, Try.ntmps42
  go_wp2_with fail
  refine Calls.mono HC.out ?_
  rintro e w' ⟨rfl, rfl⟩
  go_upto_region 5 with fail
  go_cut [8] from 32 to 38 (fun v wx => ∃ bp bt bw, v = .pointer (some ⟨bp, 0, none⟩) ∧ PlanAt w.heap.size wx bp bt bw (PS.zero n m) (fun _ => none) (fun _ => 0) ∧ Below w.heap.size w wx)
  case first =>
    go_wp2_with fail
    go_region
    all_goals
      go_wp2_with fail
      go_meet
      case rel => first | exact ⟨_, _, _, rfl, plan_start1 w n m ⟨by omega, by omega⟩⟩ | exact ⟨_, _, _, rfl, plan_start2 w n m ⟨by omega, by omega⟩⟩
  case rest =>
    obtain ⟨bp, bt, bw, rfl, hP0, hB0⟩ := hcut
    have HB0 := Lib.hid hB0
    have HP0 := Lib.hid hP0
    obtain ⟨-, p1, -, -⟩ := hP0.pl
    change wc.cell? ⟨bp, 1, none⟩ = some (.slice (some ⟨bw, 0, none⟩) m m) at p1
    clear hP0 hB0 mt mi
    go_wp2_with fail
    go_loopw [9, 44] (fun _ i wr => ∃ k : Nat, i = .int .i64 (k : Int) ∧ k ≤ m ∧ PlanAt w.heap.size wr bp bt bw { PS.zero n m with ws := fun x => if x < k then -1 else 0 } (fun _ => none) (fun _ => 0) ∧ Below w.heap.size w wr) (fun _ i _ => m - (intOf i).toNat)
    case atStart => exact ⟨0, rfl, by omega, by simpa [PS.zero] using HP0.out, HB0.out⟩
    case round =>
      obtain ⟨k, rfl, hk, hP, hB⟩ := hrel
      clear HP0 HB0 p1
      by_cases hlt : k < m
      · obtain ⟨-, p1, -, -⟩ := hP.pl
        change wr.cell? ⟨bp, 1, none⟩ = some (.slice (some ⟨bw, 0, none⟩) m m) at p1
        have wf := hP.wf k
        have w0 := hP.wr k hlt
        have e : upd (fun x => if x < k then (-1 : Int) else 0) k (-1) = fun x => if x < k + 1 then -1 else 0 := by
          funext x
          unfold upd
          by_cases e : x = k
          · subst e; simp
          · have : (x < k + 1) ↔ x < k := by omega
            simp [e, this]
        have hP2 := hP.setWs k hlt (-1)
        rw [show ({ ({ PS.zero n m with ws := fun x => if x < k then -1 else 0 } : PS) with ws := upd (fun x => if x < k then (-1 : Int) else 0) k (-1) } : PS) = { PS.zero n m with ws := fun x => if x < k + 1 then -1 else 0 } by rw [e]] at hP2
        have HP2 := Lib.hid hP2
        have HB2 := Lib.hid (hB.setCell (p := ⟨bw, k, none⟩) hP.lo.2.2 (.int .i64 (-1)))
        clear hP hB hP2 e
        go_wp2_with fail
        go_roundw
        case rel => exact ⟨k + 1, by go_num, by omega, HP2.out, HB2.out⟩
        case measure => simp [intOf]; omega
      · obtain rfl : k = m := by omega
        rw [zero_nS (fun i => bs.getD i false) ls n k] at hP
        have HP := Lib.hid hP
        have HB := Lib.hid hB
        clear hP hB
        go_wp2_with fail
        go_loopw [10, 11, 13, 56] (fun _ _ _ i wr => ∃ (q : Nat) (sa : Nat → Option Addr) (sc : Nat → Nat), i = .int .i64 (q : Int) ∧ q ≤ n ∧ PlanAt w.heap.size wr bp bt bw (nS (fun i => bs.getD i false) ls n k q q 0) sa sc ∧ Below w.heap.size w wr) (fun _ _ _ i _ => n - (intOf i).toNat)
        case atStart => exact ⟨0, _, _, rfl, by omega, HP.out, HB.out⟩
        case round =>
          obtain ⟨q, sa, sc, rfl, hq, hP, hB⟩ := hrel
          clear HP HB
          rename World => wo
          by_cases hqn : q < n
          · have hbig : q < 10000 := by omega
            obtain ⟨b, off, rfl, hrow⟩ := (HH.out.below hB).2.2 (by omega)
            obtain ⟨A', c', hc1, hnums, hm'⟩ := hrow q hqn
            have hbW : b < w.heap.size := by
              obtain ⟨_, _, rfl', hrow'⟩ := HH.out.2.2 (by omega)
              injection rfl' with e1
              injection e1 with e1 _
              subst e1
              obtain ⟨_, _, h1, _⟩ := hrow' q hqn
              exact World.block_lt_of_cell? _ _ h1
            obtain ⟨b2, off2, rfl, hidl⟩ := HI.out.2.2 (by omega)
            have hb2W : b2 < w.heap.size := World.block_lt_of_cell? _ _ (hidl q hqn)
            have hi1 := (hB.cell (p := ⟨b2, off2 + q, none⟩) hb2W).trans (hidl q hqn)
            obtain ⟨v, hv⟩ : ∃ v, v = bs.getD q false := ⟨_, rfl⟩
            rw [← hv] at hi1
            have HV := Lib.hid hv
            have hlo := hP.lo
            have n1 : bt ≠ b := by omega
            have n2 : bt ≠ b2 := by omega
            have n3 : b ≠ bt := by omega
            have n4 : b2 ≠ bt := by omega
            obtain ⟨a1, a2, a3⟩ := hP.ap
            have a6 : bt ≠ bp := fun e => a1 e.symm
            obtain ⟨p0, -, -, p3⟩ := hP.pl
            obtain ⟨-, t1, -, -⟩ := hP.tk q hqn
            have tf1 := hP.tf (q * 4 + 1)
            obtain ⟨L, hL⟩ : ∃ L, L = (ls.getD q []).length := ⟨_, rfl⟩
            have hL1 : L ≤ 1000 := by rw [hL]; exact HR.out q
            rw [← hL] at hc1 hnums
            have HL := Lib.hid hL
            have hN' : Nums w A' L (ls.getD q []) := by
              obtain ⟨_, _, rfl', hrow'⟩ := HH.out.2.2 (by omega)
              injection rfl' with e1
              injection e1 with e1 e2
              subst e1 e2
              obtain ⟨A2', c2', h1, h2, _⟩ := hrow' q hqn
              have h3 := (hB.cell (p := ⟨b, off + q, none⟩) hbW).trans h1
              rw [hc1, ← hL] at h3
              injection h3 with h3
              injection h3 with h3
              subst h3
              rw [← hL] at h2
              exact h2
            have HN := Lib.hid hN'
            have HP1 := Lib.hid (hP.setWk q hqn (-1))
            have HB1 := Lib.hid (hB.setCell (p := ⟨bt, q * 4 + 1, none⟩) hlo.2.1 (.int .i64 (-1)))
            have HLO := Lib.hid hlo
            clear hrow hidl hv hP hB hL hnums hm' hN' hlo
            go_upto_if 71 with fail
            have hP1 := HP1.out
            have hB1 := HB1.out
            revert hP1 hB1
            clear HP1 HB1 p0 p3 t1 tf1 hc1 hi1
            generalize World.setCell wo _ _ = wa
            intro hP1 hB1
            obtain ⟨p0, -, -, p3⟩ := hP1.pl
            obtain ⟨t0, -, -, -⟩ := hP1.tk q hqn
            have tf0 := hP1.tf (q * 4)
            have pf3 := hP1.pf 3
            have hlf := leftN_le (fun i => bs.getD i false) q
            obtain ⟨lf, hlf2⟩ : ∃ lf, lf = leftN (fun i => bs.getD i false) q := ⟨_, rfl⟩
            rw [← hlf2] at hlf
            change wa.cell? ⟨bp, 3, none⟩ = some (.int .i64 (leftN (fun i => bs.getD i false) q)) at p3
            rw [← hlf2] at p3
            have HLF := Lib.hid hlf2
            have lf1 : 0 ≤ lf := hlf.1
            have lf2 : lf ≤ 10000 := by omega
            have HP1 := Lib.hid hP1
            have HB1 := Lib.hid hB1
            clear hP1 hB1 hlf2 hlf
            go_cut [] from 72 to 85 (fun wx => PlanAt w.heap.size wx bp bt bw (nS (fun i => bs.getD i false) ls n k (q + 1) q 0) sa sc ∧ Below w.heap.size w wx)
            case first =>
              cases v with
              | true =>
                have hP2 := HP1.out.setKd q hqn 3
                rw [nS_head_idle (fun i => bs.getD i false) ls n k q HV.out.symm] at hP2
                have HP2 := Lib.hid hP2
                have HB2 := Lib.hid (HB1.out.setCell (p := ⟨bt, q * 4, none⟩) HLO.out.2.1 (.int .i64 3))
                clear hP2
                go_wp2_with fail
                go_meet
                case rel => exact ⟨HP2.out, HB2.out⟩
              | false =>
                have hP2 := HP1.out.setLeft (lf + 1)
                rw [HLF.out] at hP2
                rw [nS_head_busy (fun i => bs.getD i false) ls n k q HV.out.symm, ← HLF.out] at hP2
                have HP2 := Lib.hid hP2
                have HB2 := Lib.hid (HB1.out.setCell (p := ⟨bp, 3, none⟩) HLO.out.1 (.int .i64 (lf + 1)))
                clear hP2
                go_wp2_with fail
                go_meet
                case rel => exact ⟨HP2.out, HB2.out⟩
            case rest =>
              obtain ⟨hP2, hB2⟩ := hcut
              have HP2 := Lib.hid hP2
              have HB2 := Lib.hid hB2
              clear hP2 hB2 HP1 HB1 p0 p3 t0 tf0 pf3 HLF
              go_wp2_with fail
              go_loopw [13, 88] (fun _ x wr => ∃ (u : Nat) (sa : Nat → Option Addr) (sc : Nat → Nat), x = .int .i64 (u : Int) ∧ u ≤ L ∧ PlanAt w.heap.size wr bp bt bw (nS (fun i => bs.getD i false) ls n k (q + 1) q u) sa sc ∧ Below w.heap.size w wr) (fun _ x _ => L - (intOf x).toNat)
              case atStart => exact ⟨0, _, _, rfl, by omega, HP2.out, HB2.out⟩
              case round =>
                obtain ⟨u, sa', sc', rfl, hu, hP3, hB3⟩ := hrel
                clear HP2 HB2
                by_cases hul : u < L
                · go_upto_block 5 with fail
                  go_cut [13] from 90 to 124 (fun _ wx => ∃ sa sc, PlanAt w.heap.size wx bp bt bw (nS (fun i => bs.getD i false) ls n k (q + 1) q (u + 1)) sa sc ∧ Below w.heap.size w wx)
                  case first =>
                    obtain ⟨b3, off3, rfl, hcells⟩ := HN.out.2.2 (by omega)
                    have c3 := hcells u hul
                    have hx0 : u < (ls.getD q []).length := by have := HL.out; omega
                    have hxm : (ls.getD q []).getD u 0 ∈ ls.getD q [] := getD_mem hx0
                    have hx1 := HG.out.mem hxm
                    obtain ⟨j, hj⟩ : ∃ j : Nat, (ls.getD q []).getD u 0 = (j : Int) := ⟨((ls.getD q []).getD u 0).toNat, by omega⟩
                    have hjs : (ls.getD q [])[u]? = some (j : Int) := by rw [← hj]; exact getD_some hx0
                    rw [hj] at c3 hx1
                    have hjn : j < n := by omega
                    obtain ⟨_, _, rfl', hidl⟩ := HI.out.2.2 (by omega)
                    injection rfl' with e1
                    injection e1 with e1 e2
                    subst e1 e2
                    have hi2 := (hB3.cell (p := ⟨b2, off2 + j, none⟩) hb2W).trans (hidl j hjn)
                    obtain ⟨vj, hvj⟩ : ∃ v, v = bs.getD j false := ⟨_, rfl⟩
                    rw [← hvj] at hi2
                    have HJS := Lib.hid hjs
                    have HVJ := Lib.hid hvj
                    have hb3 : b3 < w.heap.size := World.block_lt_of_cell? _ _ c3
                    have c3' := (hB3.cell (p := ⟨b3, off3 + u, none⟩) hb3).trans c3
                    have HP3 := Lib.hid hP3
                    have HB3 := Lib.hid hB3
                    have hj0 : (0 : Int) ≤ (j : Int) := by omega
                    clear hcells c3 hxm hj hjs hidl hvj hx1 hx0
                    cases vj with
                    | true =>
                      have hs := nS_skip (fun i => bs.getD i false) ls n k q u (j : Int) HJS.out (by rw [Int.toNat_natCast]; exact HVJ.out.symm)
                      have hP4 := HP3.out
                      rw [hs] at hP4
                      have HP4 := Lib.hid hP4
                      clear hP3 hB3 hP4 hs
                      go_wp2_with fail
                      go_meet
                      case rel => exact ⟨_, _, HP4.out, HB3.out⟩
                    | false =>
                      obtain ⟨p0, -, -, -⟩ := hP3.pl
                      obtain ⟨-, -, t2, -⟩ := hP3.tk q hqn
                      have tf2 := hP3.tf (q * 4 + 2)
                      have n5 : bt ≠ b3 := by have := HLO.out; omega
                      have n6 : b3 ≠ bt := fun e => n5 e.symm
                      have hw := wt_small (fun i => bs.getD i false) ls n k (q + 1) q u (by omega)
                      have hnext := nS_push (fun i => bs.getD i false) ls n k q u j HJS.out (HG.out.nodup q) HVJ.out.symm
                      obtain ⟨d, hd⟩ : ∃ d, d = (nS (fun i => bs.getD i false) ls n k (q + 1) q u).wt q := ⟨_, rfl⟩
                      rw [← hd] at t2 hw hnext
                      have hP4 := hP3.setWt q hqn (d + 1)
                      have HNX := Lib.hid hnext
                      have HP4 := Lib.hid hP4
                      have HB4 := Lib.hid (hB3.setCell (p := ⟨bt, q * 4 + 2, none⟩) HLO.out.2.1 (.int .i64 (d + 1)))
                      have d3 : 0 ≤ d := hw.1
                      have d4 : d ≤ 1000 := hw.2
                      clear hP3 hB3 hnext hd hP4 hw
                      go_upto_region 23 with fail
                      have hP4 := HP4.out
                      have hB4 := HB4.out
                      revert hP4 hB4
                      clear HP4 HB4 p0 t2 tf2 c3' hi2 HP3 HB3
                      generalize World.setCell wr _ _ = wb
                      intro hP4 hB4
                      obtain ⟨p0, -, -, -⟩ := hP4.pl
                      obtain ⟨-, -, -, t3⟩ := hP4.tk j hjn
                      have tf3 := hP4.tf (j * 4 + 3)
                      change wb.cell? ⟨bp, 0, none⟩ = some (.slice (some ⟨bt, 0, none⟩) n n) at p0
                      have hll := ln_small (fun i => bs.getD i false) ls n k (q + 1) q u j
                      obtain ⟨M, hM⟩ : ∃ M, M = ((nS (fun i => bs.getD i false) ls n k (q + 1) q u).ln j).length := ⟨_, rfl⟩
                      change wb.cell? ⟨bt, j * 4 + 3, none⟩ = some (.slice (sa' j) ((nS (fun i => bs.getD i false) ls n k (q + 1) q u).ln j).length (sc' j)) at t3
                      rw [← hM] at t3 hll
                      have HM := Lib.hid hM
                      have hll2 : ((nS (fun i => bs.getD i false) ls n k (q + 1) q u).ln j).length ≤ 1000000 := by rw [← hM]; omega
                      have HLL := Lib.hid hll2
                      have hBw : w.heap.size ≤ wb.heap.size := hB4.size
                      have HBW := Lib.hid hBw
                      have HP4 := Lib.hid hP4
                      have HB4 := Lib.hid hB4
                      have l1 : bt < wb.heap.size := hP4.hi.2.1
                      have l2 : bp < wb.heap.size := hP4.hi.1
                      have HX1 := Lib.hid (show Below wb.heap.size wb (wb.alloc (.cells #[.int .i64 (q : Int)] 3)).drew from ((Below.refl _ wb).alloc (Nat.le_refl _) _).drew)
                      have HX2 := Lib.hid (show (wb.alloc (.cells #[.int .i64 (q : Int)] 3)).drew.cell? ⟨wb.heap.size, 0, none⟩ = some (.int .i64 (q : Int)) from by rw [World.cell?_drew, World.cell?_alloc_new]; rfl)
                      obtain ⟨Aj, hAj⟩ : ∃ A, A = sa' j := ⟨_, rfl⟩
                      obtain ⟨Cj, hCj⟩ : ∃ C, C = sc' j := ⟨_, rfl⟩
                      rw [← hAj, ← hCj] at t3
                      have HAC := Lib.hid (show Value.slice Aj M Cj = .slice (sa' j) ((nS (fun i => bs.getD i false) ls n k (q + 1) q u).ln j).length (sc' j) by rw [hAj, hCj, hM])
                      have HNP := Lib.hid (fun g cap w1 (hp : Push w.heap.size wb bp bt bw _ sa' j g cap (q : Int) w1) => hp.next HP4.out hjn HNX.out HM.out HB4.out)
                      clear hM hP4 hB4 hll2 hBw hAj hCj n1 n2 n3 n4 n5 n6 hbig hqn hbW hb2W hb3 hul hu hL1 d3 d4 a1 a2 a3 a6 HN HR HL HLO HI HH HG HV HJS HVJ
                      go_region_law (first | ((refine step_push HP4.out hjn HLL.out HBW.out (by rfl) (.tmp 119) (.tmp 121) (by rfl) HX1.out (by exact HAC.out) wb.heap.size 1 (q : Int) (by rfl) HX2.out ?_); intro g cap w1 hpush; obtain ⟨y0, y1, y2⟩ := hpush.cells HP4.out hjn; change w1.cell? ⟨bp, 0, none⟩ = some (.slice (some ⟨bt, 0, none⟩) n n) at y0; change w1.cell? ⟨bt, j * 4 + 3, none⟩ = some (.slice (sa' j) ((nS (fun i => bs.getD i false) ls n k (q + 1) q u).ln j).length (sc' j)) at y1; rw [← HAC.out] at y1; rw [← HM.out]; have HPU := Lib.hid (HNP.out g cap w1 hpush); clear hpush) | fail)
                      all_goals
                        clear y0 y1 y2 p0 t3 tf3
                        go_wp2_with fail
                        go_meet
                        case rel => exact HPU.out
                  case rest =>
                    obtain ⟨sa2, sc2, hP5, hB5⟩ := hcut
                    have HP5 := Lib.hid hP5
                    have HB5 := Lib.hid hB5
                    clear hP5 hB5 hP3 hB3
                    go_wp2_with fail
                    go_roundw
                    case rel => exact ⟨u + 1, _, _, by go_num, by omega, HP5.out, HB5.out⟩
                    case measure => simp [intOf]; omega
                · obtain rfl : u = L := by omega
                  rw [HL.out, nS_row] at hP3
                  have HP3 := Lib.hid hP3
                  have HB3 := Lib.hid hB3
                  clear hP3 hB3
                  go_wp2_with fail
                  go_roundw
                  case rel => exact ⟨q + 1, _, _, by go_num, by omega, HP3.out, HB3.out⟩
                  case measure => simp [intOf]; omega
          · obtain rfl : q = n := by omega
            have HP := Lib.hid hP
            have HB := Lib.hid hB
            clear hP hB
            go_wp2_with fail
            go_ret2
            exact ⟨bp, rfl, bt, bw, sa, sc, HP.out, HB.out⟩
end Go.Proofs.Ytgdkgoiagjjccaa
