/- SFn2: put together. -/
import Derived.Test.YtejpjbmbcdgomaaPa32
/- takes: a transaction's number and its tables. -/
namespace Go.Proofs.Ytejpjbmbcdgomaa
set_option maxRecDepth 100000
open Go.RowKit

def Wr.vals (x : Wr) : List Value := [.int .i64 x.t, .int .i64 x.k, .int .i64 x.v, .bool x.dead]
theorem Wr.vlen (x : Wr) : x.vals.length = 4 := rfl
abbrev Wrs (w : World) (A : Option Addr) (l : List Wr) : Prop := RowAt Wr.vals 4 w A l.length l
theorem Wrs.cell {w : World} {A : Option Addr} {l : List Wr} (h : Wrs w A l) (hn : 0 < l.length) : ∃ b off, A = some ⟨b, off, none⟩ ∧ ∀ q (hq : q < l.length), w.cell? ⟨b, off + q * 4, none⟩ = some (.int .i64 l[q].t) ∧ w.cell? ⟨b, off + q * 4 + 1, none⟩ = some (.int .i64 l[q].k) ∧ w.cell? ⟨b, off + q * 4 + 2, none⟩ = some (.int .i64 l[q].v) ∧ w.cell? ⟨b, off + q * 4 + 3, none⟩ = some (.bool l[q].dead) := by
  obtain ⟨b, off, e, hc⟩ := RowAt.cells h Wr.vlen hn
  exact ⟨b, off, e, fun q hq => ⟨hc q hq 0 _ (by omega) rfl, hc q hq 1 _ (by omega) rfl, hc q hq 2 _ (by omega) rfl, hc q hq 3 _ (by omega) rfl⟩⟩
/-- Are a transaction and its tables some? -/
def takB (q : Int) (ws : List Wr) : Bool := decide (1 ≤ q) && ws.all fun x => decide (0 ≤ x.t ∧ x.t < 4)
theorem takB_in {q : Int} {ws : List Wr} (h : takB q ws = true) : 1 ≤ q ∧ ∀ x ∈ ws, InT x.t := by
  unfold takB at h
  simp only [Bool.and_eq_true, decide_eq_true_eq, List.all_eq_true] at h
  exact h
theorem takB_low {q : Int} {ws : List Wr} (h : q < 1) : takB q ws = false := by
  unfold takB
  rw [decide_eq_false (by omega), Bool.false_and]
theorem takB_bad {q : Int} {ws : List Wr} {x : Wr} (hx : x ∈ ws) (h : ¬ InT x.t) : takB q ws = false := by
  cases e : takB q ws
  · rfl
  · exact absurd ((takB_in e).2 x hx) h
theorem takB_good {q : Int} {ws : List Wr} (hq : 1 ≤ q) (h : ∀ (j : Nat) (hj : j < ws.length), InT ws[j].t) : takB q ws = true := by
  unfold takB
  simp only [Bool.and_eq_true, decide_eq_true_eq, List.all_eq_true]
  refine ⟨hq, fun x hx => ?_⟩
  obtain ⟨j, hj, rfl⟩ := List.getElem_of_mem hx
  exact h j hj
set_option maxHeartbeats 4000000 in
theorem takes_any {w : World} {sb : Nat} {A : Option Addr} {c : Nat} {ws : List Wr} (q : Int) (h : Wrs w A ws) (hl : ws.length ≤ 100000) : Calls Try.prog 54 #[.pointer (some ⟨sb, 0, none⟩), .int .i64 q, .slice A ws.length c] w fun e w' => e = .returned (.bool (takB q ws)) ∧ Below w.heap.size w w' := by
  obtain ⟨n, hn⟩ : ∃ n, n = ws.length := ⟨_, rfl⟩
  have HN := Lib.hid hn
  have H := Lib.hid h
  rw [← hn] at hl ⊢
  obtain ⟨r, hr⟩ : ∃ r, r = takB q ws := ⟨_, rfl⟩
  have HR := Lib.hid hr
  rw [← hr]
  clear hn h hr
  by_cases h1 : q < 1
  · have d1 : decide (q < 1) = true := decide_eq_true h1
    obtain rfl : r = false := by rw [HR.out]; exact takB_low h1
    clear h1
    go_enter Try.func54, Try.ntmps54
    go_wp2_with fail
    go_ret
    exact ⟨rfl, Below.refl _ _⟩
  · have d1 : decide (q < 1) = false := decide_eq_false h1
    have HQ : Hid (1 ≤ q) := Lib.hid (by omega)
    clear h1
    go_enter Try.func54, Try.ntmps54
    go_wp2_with fail
    go_loopw [8, 17, 18, 19, 20, 21, 22, 23, 24, 25, 26, 27, 28, 29, 30, 31] (fun _ ix _ _ _ _ _ _ _ _ _ _ _ _ _ _ wr => ∃ z : Nat, ix = .int .i64 (z : Int) ∧ z ≤ n ∧ (∀ (j : Nat) (hj : j < ws.length), j < z → InT ws[j].t) ∧ Below w.heap.size w wr) (fun _ ix _ _ _ _ _ _ _ _ _ _ _ _ _ _ _ => n - (intOf ix).toNat)
    case atStart => exact ⟨0, rfl, by omega, fun j _ hj => by omega, Below.refl _ _⟩
    case round =>
      obtain ⟨z, rfl, hz, hall, hb⟩ := hrel
      have HB := Lib.hid (And.intro hall hb)
      clear hall hb
      by_cases hlt : z < n
      · have hzl : z < ws.length := by rw [← HN.out]; exact hlt
        obtain ⟨b, off, rfl, hcl⟩ := Wrs.cell (RowAt.below H.out HB.out.2) (by omega)
        obtain ⟨x0, x1, x2, x3⟩ := hcl z hzl
        obtain ⟨x, hx⟩ : ∃ x, x = ws[z] := ⟨_, rfl⟩
        rw [← hx] at x0 x1 x2 x3
        have HX := Lib.hid hx
        have HAL := Lib.hid (HB.out.2.trans (((Below.refl _ wr).alloc (Nat.le_refl _) (.cells #[.int .i64 x.t, .int .i64 x.k, .int .i64 x.v, .bool x.dead] 51)).mono HB.out.2.size))
        clear hcl hx
        by_cases hin : InT x.t
        · have d2 : decide (x.t < 0) = false := decide_eq_false (by have := hin.1; omega)
          have d3 : decide ((4 : Int) ≤ x.t) = false := decide_eq_false (by have := hin.2; omega)
          have HI := Lib.hid hin
          clear hin
          go_wp2_with fail
          go_roundw
          case rel => exact ⟨z + 1, by go_num, by omega, fun j hj hjz => by
            rcases Nat.lt_or_ge j z with e | e
            · exact HB.out.1 j hj e
            · obtain rfl : j = z := by omega
              rw [← HX.out]; exact HI.out, HAL.out⟩
          case measure => simp [intOf]; omega
        · obtain rfl : r = false := by rw [HR.out]; exact takB_bad (by rw [HX.out]; exact List.getElem_mem hzl) hin
          by_cases h0 : x.t < 0
          · have d2 : decide (x.t < 0) = true := decide_eq_true h0
            clear hin h0
            go_wp2_with fail
            go_ret
            exact ⟨rfl, HAL.out⟩
          · have d2 : decide (x.t < 0) = false := decide_eq_false h0
            have d3 : decide ((4 : Int) ≤ x.t) = true := decide_eq_true (by unfold InT at hin; omega)
            clear hin h0
            go_wp2_with fail
            go_ret
            exact ⟨rfl, HAL.out⟩
      · obtain rfl : z = n := by omega
        obtain rfl : r = true := by rw [HR.out]; exact takB_good HQ.out fun j hj => HB.out.1 j hj (by rw [HN.out]; exact hj)
        go_wp2_with fail
        go_ret
        exact ⟨rfl, HB.out.2⟩
end Go.Proofs.Ytejpjbmbcdgomaa
