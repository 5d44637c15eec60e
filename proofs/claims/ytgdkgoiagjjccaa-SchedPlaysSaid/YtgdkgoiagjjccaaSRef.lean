/- The document's plan in memory: who holds a task, how many are left, which are ready. -/
import Derived.Test.YtgdkgoiagjjccaaSReady
import Derived.Test.YtgdkgoiagjjccaaSLarge
import Derived.Test.YtgdkgoiagjjccaaSOnceM
import Derived.Deep.CutRange
namespace Go.Proofs.Ytgdkgoiagjjccaa
set_option maxRecDepth 100000
open Go.RowKit

def enL (s : PS) : List Bool := (List.range s.n).map fun i => decide (s.kd i = 3)
def haL (s : PS) : List Int := (List.range s.m).map s.ws
def ranB (s : PS) (w : Nat) : Bool := !decide (s.ws w = -1) && decide (s.kd (s.ws w).toNat = 2)
def raL (s : PS) : List Bool := (List.range s.m).map (ranB s)
theorem enL_at (s : PS) (i : Nat) (h : i < s.n) : (enL s).getD i false = decide (s.kd i = 3) := by simp [enL, List.getD_eq_getElem?_getD, h]
theorem haL_at (s : PS) (i : Nat) (h : i < s.m) : (haL s).getD i 0 = s.ws i := by simp [haL, List.getD_eq_getElem?_getD, h]
theorem raL_at (s : PS) (i : Nat) (h : i < s.m) : (raL s).getD i false = ranB s i := by simp [raL, List.getD_eq_getElem?_getD, h]
def refC (A : Option Addr) (n c : Nat) (A2 : Option Addr) (c2 : Nat) (A3 : Option Addr) (m c3 : Nat) (A4 : Option Addr) (c4 : Nat) (p : Int) : Array Value := #[.slice A n c, .slice A2 n c2, .slice A3 m c3, .slice A4 m c4, .int .i64 p]
def refV (A : Option Addr) (n c : Nat) (A2 : Option Addr) (c2 : Nat) (A3 : Option Addr) (m c3 : Nat) (A4 : Option Addr) (c4 : Nat) (p : Int) : Value := .agg (refC A n c A2 c2 A3 m c3 A4 c4 p)
/-- The document's plan that a plan is. -/
structure RefR (W : World) (A A2 A3 A4 : Option Addr) (ls : List (List Int)) (s : PS) : Prop where
  leans : Rws W A s.n ls
  ended : Bls W A2 s.n (enL s)
  has : Nums W A3 s.m (haL s)
  ran : Bls W A4 s.m (raL s)
theorem RefR.ext {W W' : World} {A A2 A3 A4 : Option Addr} {ls : List (List Int)} {s : PS} (h : RefR W A A2 A3 A4 ls s) (hs : ∀ p : Addr, p.block < W.heap.size → W'.cell? p = W.cell? p) : RefR W' A A2 A3 A4 ls s :=
  ⟨h.leans.ext hs, h.ended.ext hs, h.has.ext hs, h.ran.ext hs⟩
theorem RefR.below {W W' : World} {A A2 A3 A4 : Option Addr} {ls : List (List Int)} {s : PS} (h : RefR W A A2 A3 A4 ls s) (hb : Below W.heap.size W W') : RefR W' A A2 A3 A4 ls s := h.ext fun _ hp => hb.cell hp
/-- Who holds a task. -/
theorem holder_wk {ls : List (List Int)} {s : PS} (h : Inv ls s) {i : Nat} (hi : i < s.n) : idx s.m (fun w => decide (s.ws w = (i : Int))) = s.wk i := by
  by_cases hk : s.wk i = -1
  · rw [hk]
    refine idx_miss fun w hw => decide_eq_false fun e => ?_
    obtain ⟨_, _, c⟩ := h.ws w hw (by omega)
    rw [e, Int.toNat_natCast] at c
    omega
  · obtain ⟨a, b, c⟩ := h.wk i hi hk
    obtain ⟨v, hv⟩ : ∃ v : Nat, s.wk i = (v : Int) := ⟨(s.wk i).toNat, by omega⟩
    rw [hv, Int.toNat_natCast] at c
    rw [hv]
    refine idx_hit (by omega) (decide_eq_true c) fun w hw => decide_eq_false fun e => ?_
    obtain ⟨_, _, c2⟩ := h.ws w (by omega) (by omega)
    rw [e, Int.toNat_natCast] at c2
    omega
set_option maxHeartbeats 1000000 in
theorem holder_any (A : Option Addr) (c : Nat) (A2 : Option Addr) (c2 : Nat) (A3 : Option Addr) (c3 : Nat) (A4 : Option Addr) (c4 : Nat) (p : Int) (ls : List (List Int)) (s : PS) (i : Nat) (w : World) (h : RefR w A A2 A3 A4 ls s) (hI : Inv ls s) (hi : i < s.n) (hm : s.m ≤ 1000000) :
    Calls Try.prog 75 #[refV A s.n c A2 c2 A3 s.m c3 A4 c4 p, .int .i64 (i : Int)] w fun e w' => e = .returned (.int .i64 (s.wk i)) ∧ Below w.heap.size w w' := by
  have hb := (Below.refl _ w).alloc (Nat.le_refl _) (.cells (refC A s.n c A2 c2 A3 s.m c3 A4 c4 p) 74)
  have HB := Lib.hid hb
  have HH := Lib.hid h.has
  have HX := Lib.hid (show ∀ k, k < s.m → s.ws k = (i : Int) → (∀ j, j < k → s.ws j ≠ (i : Int)) → s.wk i = (k : Int) from fun k hk h1 h2 => by
    rw [← holder_wk hI hi]
    exact idx_hit hk (decide_eq_true h1) fun j hj => decide_eq_false (h2 j hj))
  have HY := Lib.hid (show (∀ j, j < s.m → s.ws j ≠ (i : Int)) → s.wk i = -1 from fun h2 => by
    rw [← holder_wk hI hi]
    exact idx_miss fun j hj => decide_eq_false (h2 j hj))
  have HAT := Lib.hid (haL_at s)
  obtain ⟨R, hR⟩ : ∃ R, R = s.wk i := ⟨_, rfl⟩
  rw [← hR] at HX HY ⊢
  obtain ⟨m, hm'⟩ : ∃ m, m = s.m := ⟨_, rfl⟩
  obtain ⟨n, hn'⟩ : ∃ n, n = s.n := ⟨_, rfl⟩
  rw [← hm'] at HH HX HY HAT HB hm ⊢
  rw [← hn'] at HB ⊢
  unfold refV refC at *
  clear h hI hi hb hR hm' hn'
  go_enter Try.func75, Try.ntmps75
  go_wp2_with fail
  go_loop [5] (fun x => ∃ k : Nat, x = .int .i64 (k : Int) ∧ k ≤ m ∧ Hid (∀ j, j < k → s.ws j ≠ (i : Int))) (fun x => m - (intOf x).toNat)
  case atStart => exact ⟨0, rfl, by omega, fun j hj => by omega⟩
  case round =>
    obtain ⟨k, rfl, hk, hno⟩ := hrel
    by_cases hlt : k < m
    · obtain ⟨b, off, rfl, hc⟩ := HH.out.2.2 (by omega)
      have c1 := hc k hlt
      rw [HAT.out k hlt] at c1
      have hbl : b < w.heap.size := World.block_lt_of_cell? _ _ c1
      have HXk := Lib.hid (HX.out k hlt)
      obtain ⟨z, hz⟩ : ∃ z, z = s.ws k := ⟨_, rfl⟩
      rw [← hz] at c1 HXk
      have HZ := Lib.hid hz
      clear hc hz
      by_cases he : z = (i : Int)
      · subst he
        go_wp2_with fail
        go_ret
        exact ⟨by rw [HXk.out (by first | exact rfl | trivial) hno.out]; rfl, HB.out⟩
      · have e1 : (z == (i : Int)) = false := beq_eq_false_iff_ne.2 he
        have HNE := Lib.hid he
        clear he
        go_wp2_with fail
        go_round
        case rel =>
          refine ⟨k + 1, by go_num, by omega, fun j hj => ?_⟩
          rcases Nat.lt_succ_iff_lt_or_eq.1 hj with h1 | h1
          · exact hno.out j h1
          · rw [h1, ← HZ.out]; exact HNE.out
        case measure => simp [intOf]; omega
    · obtain rfl : k = m := by omega
      go_wp2_with fail
      go_ret
      exact ⟨by rw [HY.out hno.out]; rfl, HB.out⟩
/-- How many of the first are left. -/
def leftTo (s : PS) (k : Nat) : Int := (((List.range k).filter fun i => !decide (s.kd i = 3)).length : Nat)
theorem leftTo_succ (s : PS) (k : Nat) : leftTo s (k + 1) = leftTo s k + if s.kd k = 3 then 0 else 1 := by
  unfold leftTo
  rw [List.range_succ, List.filter_append, List.length_append]
  by_cases h : s.kd k = 3 <;> simp [h]
theorem leftTo_le (s : PS) (k : Nat) : 0 ≤ leftTo s k ∧ leftTo s k ≤ k := by
  unfold leftTo
  have := List.length_filter_le (fun i => !decide (s.kd i = 3)) (List.range k)
  rw [List.length_range] at this
  omega
set_option maxHeartbeats 1000000 in
theorem refleft_any (A : Option Addr) (c : Nat) (A2 : Option Addr) (c2 : Nat) (A3 : Option Addr) (c3 : Nat) (A4 : Option Addr) (c4 : Nat) (p : Int) (ls : List (List Int)) (s : PS) (w : World) (h : RefR w A A2 A3 A4 ls s) (hI : Inv ls s) (hn : s.n ≤ 1000000) :
    Calls Try.prog 73 #[refV A s.n c A2 c2 A3 s.m c3 A4 c4 p] w fun e w' => e = .returned (.int .i64 s.left) ∧ Below w.heap.size w w' := by
  have hb := (Below.refl _ w).alloc (Nat.le_refl _) (.cells (refC A s.n c A2 c2 A3 s.m c3 A4 c4 p) 74)
  have HB := Lib.hid hb
  have HH := Lib.hid h.ended
  have HAT := Lib.hid (enL_at s)
  have HE := Lib.hid (show leftTo s s.n = s.left from hI.left.symm)
  obtain ⟨R, hR⟩ : ∃ R, R = s.left := ⟨_, rfl⟩
  rw [← hR] at HE ⊢
  obtain ⟨m, hm'⟩ : ∃ m, m = s.m := ⟨_, rfl⟩
  obtain ⟨n, hn'⟩ : ∃ n, n = s.n := ⟨_, rfl⟩
  rw [← hm'] at HB ⊢
  rw [← hn'] at HH HAT HB HE hn ⊢
  unfold refV refC at *
  clear h hI hb hR hm' hn'
  go_enter Try.func73, Try.ntmps73
  go_wp2_with fail
  go_loop [3, 4] (fun v x => ∃ k : Nat, x = .int .i64 (k : Int) ∧ k ≤ n ∧ v = .int .i64 (leftTo s k)) (fun _ x => n - (intOf x).toNat)
  case atStart => exact ⟨0, rfl, by omega, rfl⟩
  case round =>
    obtain ⟨k, rfl, hk, rfl⟩ := hrel
    by_cases hlt : k < n
    · obtain ⟨b, off, rfl, hc⟩ := HH.out.2.2 (by omega)
      have c1 := hc k hlt
      rw [HAT.out k hlt] at c1
      have hbl : b < w.heap.size := World.block_lt_of_cell? _ _ c1
      have hs := leftTo_succ s k
      have hle := leftTo_le s k
      obtain ⟨z, hz⟩ : ∃ z, z = leftTo s k := ⟨_, rfl⟩
      rw [← hz] at hs hle ⊢
      by_cases he : s.kd k = 3
      · rw [decide_eq_true he] at c1
        rw [if_pos he] at hs
        have HS := Lib.hid (show leftTo s (k + 1) = z by omega)
        clear hc hs he hz
        go_wp2_with fail
        go_round
        case rel => exact ⟨k + 1, by go_num, by omega, by rw [HS.out]⟩
        case measure => simp [intOf]; omega
      · rw [decide_eq_false he] at c1
        rw [if_neg he] at hs
        have HS := Lib.hid hs
        clear hc hs he hz
        go_wp2_with fail
        go_round
        case rel => exact ⟨k + 1, by go_num, by omega, by rw [HS.out]⟩
        case measure => simp [intOf]; omega
    · obtain rfl : k = n := by omega
      rw [HE.out]
      go_wp2_with fail
      go_ret
      exact ⟨rfl, HB.out⟩
end Go.Proofs.Ytgdkgoiagjjccaa
