/- The contracts of num.Copy and num.Kept: a copy with two marks behind it, and the look at them. -/
import Derived.Test.YtfajalhpenincaaDoorApp
import Derived.Laws.BytesArg
namespace Go.Proofs.YtfajalhpenincaaDoor
open Go.RowKit

/-- A copy: its bytes, and two marks in its spare room. -/
def Marked (w : World) (g n cap : Nat) (xs : List Nat) : Prop :=
  xs.length = n ∧ Small xs ∧ n + 2 ≤ cap ∧ (∀ j, j < n + 2 → w.cell? ⟨g, j, none⟩ = some (.int .u8 (((xs ++ [165, 90]).getD j 0 : Nat) : Int)))
theorem Marked.bts {w : World} {g n cap : Nat} {xs : List Nat} (h : Marked w g n cap xs) : Bts w (some ⟨g, 0, none⟩) n xs := by
  obtain ⟨hl, hs, hcap, hc⟩ := h
  refine ⟨hl, hs, fun _ => ⟨g, 0, rfl, fun j hj => ?_⟩⟩
  rw [Nat.zero_add, hc j (by omega)]
  simp [List.getD_eq_getElem?_getD, List.getElem?_append_left (show j < xs.length by omega)]
theorem Marked.ext {w w' : World} {g n cap : Nat} {xs : List Nat} (h : Marked w g n cap xs) (hs : Stays w w') : Marked w' g n cap xs :=
  ⟨h.1, h.2.1, h.2.2.1, fun j hj => hs.cell (h.2.2.2 j hj)⟩

theorem bts_two (w : World) : Bts (w.alloc (.cells #[Value.int .u8 165, Value.int .u8 90] 5)) (some ⟨w.heap.size, 0, none⟩) 2 [165, 90] :=
  bts_at w [165, 90] 5 (0, 0) _ _ 2 rfl rfl rfl (by unfold Small; decide)

theorem vals_get (ys : List Nat) (j : Nat) (h : j < ys.length) : (vals ys)[j]? = some (.int .u8 ((ys.getD j 0 : Nat) : Int)) := by
  simp [vals, List.getD_eq_getElem?_getD, h]
theorem marked_of_own {w : World} {B n : Nat} {v : Value} {xs : List Nat} (h : Own w B v ([] ++ xs ++ [165, 90])) (hl : xs.length = n) (hs : Small xs) :
    ∃ g cap, v = .slice (some ⟨g, 0, none⟩) (n + 2) cap ∧ Marked w g n cap xs ∧ n + 2 ≤ cap ∧ cap ≤ 9223372036854775807 := by
  have hlen : ([] ++ xs ++ [165, 90]).length = n + 2 := by simp [hl]
  rcases h.2 with ⟨rfl, h0⟩ | ⟨g, cap, cur, rfl, _, _, h1, h2, _⟩
  · omega
  · rw [hlen] at h1
    unfold maxLen at h2
    refine ⟨g, cap, by rw [hlen], ⟨hl, hs, h1, fun j hj => ?_⟩, h1, h2⟩
    have hc := h.cells (g := g) rfl j (.int .u8 (((xs ++ [165, 90]).getD j 0 : Nat) : Int)) (by
      exact vals_get (xs ++ [165, 90]) j (by simp [hl]; omega))
    rw [addr_add, Nat.zero_add] at hc
    exact hc

set_option maxHeartbeats 400000 in
theorem copy_any (A : Option Addr) (n c : Nat) (xs : List Nat) (w : World) (hb : Bts w A n xs) (hnil : A = none → c = 0) (hn : n ≤ 100000) :
    Calls Tryd.prog 10 #[.slice A n c] w fun e w' => ∃ g cap, e = .returned (.slice (some ⟨g, 0, none⟩) n cap) ∧ Marked w' g n cap xs ∧ Below w.heap.size w w' := by
  obtain ⟨i0, hi, hz0, hz1, hz2⟩ := info_parts u8_info
  have hl := hb.1
  have hsm := hb.2.1
  have HL := Lib.hid hl
  clear hl
  go_enter Tryd.func10, Tryd.ntmps10
  go_wp2_with (first
    | (at_make; refine wpList_make_own w rfl _ _ 22 rfl w.heap.size 5 i0 (.int .u8 0) 1 Tryd.underlying22 hi hz0 hz1 .i64 .i64 ((n : Int) + 2) (n + 2) rfl rfl (by omega) (by rw [hz2]; omega) (by unfold maxLen; omega) (Nat.le_refl _) ?_; intro w1 hown1 hg1; have hb1 : Below w.heap.size w w1 := (Below.refl _ w).grown hg1 (Nat.le_refl _) (fun k hk => by cases hk))
    | (at_builtin; refine wpList_append_bts rfl (.tmp 6) (.tmp 7) rfl w.heap.size _ [] rfl (own_of_row (xs := []) hown1 rfl) A n c xs rfl (hb.ext (stays_below hb1)) hnil (by show 0 + n ≤ _; omega) hb1.size ?_; intro v2 w2 hown2 hb2; have hbw2 := hb1.trans hb2; have hbw3 := hbw2.alloc hbw2.size (.cells #[Value.int .u8 165, Value.int .u8 90] 5))
    | (at_builtin; refine wpList_append_bts rfl (.tmp 8) (.tmp 9) rfl w.heap.size _ ([] ++ xs) rfl (hown2.alloc _) _ 2 2 [165, 90] rfl (bts_two w2) (fun h => by cases h) (by rw [List.nil_append, HL.out]; omega) (by simp; have := hbw2.size; omega) ?_; intro v4 w4 hown4 hb4; obtain ⟨g, cap, rfl, hmk, hcap, hcap2⟩ := marked_of_own hown4 HL.out hsm))
  go_ret
  exact ⟨g, cap, rfl, hmk, hbw3.trans hb4⟩

/-- What string(b) is. -/
def strN (xs : List Nat) : ByteArray := strOfNums (xs.map fun (x : Nat) => (x : Int))
theorem run_str (w : World) (A : Option Addr) (n c : Nat) (xs : List Nat) (h : Bts w A n xs) : (convert 22 9 (.slice A n c)).run Tryd.prog w = .ok (.string (strN xs)) w := by
  obtain ⟨hl, _, hc⟩ := h
  rcases Nat.eq_zero_or_pos n with h0 | h0
  · subst h0
    obtain rfl : xs = [] := List.eq_nil_of_length_eq_zero hl
    rw [run_convert_bytes_string w 22 9 5 _ 0 c Tryd.underlying22 Tryd.underlying5 Tryd.underlying9]
    rcases A with _ | ad
    · rfl
    · rw [run_bytesToString w ad 0 c [] (by simpa using run_loadCells_list (P := Tryd.prog) w ad [] (fun j v hj => by simp at hj))]
      rfl
  · obtain ⟨b, off, rfl, hc'⟩ := hc h0
    exact run_convert_bytes_arg w 22 5 Tryd.underlying22 Tryd.underlying5 b off n c (xs.map fun (x : Nat) => (x : Int)) (by simp [hl]) (fun i hi => by
      rw [hc' i hi]
      simp [List.getD_eq_getElem?_getD, show i < xs.length by omega]) 9 Tryd.underlying9

set_option maxHeartbeats 400000 in
theorem kept_any (g n cap : Nat) (xs : List Nat) (A : Option Addr) (c : Nat) (w : World) (hm : Marked w g n cap xs) (hb : Bts w A n xs) (hn : n ≤ 100000) :
    Calls Tryd.prog 15 #[.slice (some ⟨g, 0, none⟩) n cap, .slice A n c] w fun e w' => e = .returned (.bool true) ∧ w = w' := by
  have h1 := run_str w (some ⟨g, 0, none⟩) n cap xs hm.bts
  have h2 := run_str w A n c xs hb
  obtain ⟨s, hs⟩ : ∃ s, s = strN xs := ⟨_, rfl⟩
  rw [← hs] at h1 h2
  obtain ⟨hl, hsm, hcap, hc⟩ := hm
  have c1 := hc n (by omega)
  have c2 := hc (n + 1) (by omega)
  have e1 : (xs ++ [165, 90]).getD n 0 = 165 := by simp [List.getD_eq_getElem?_getD, ← hl]
  have e2 : (xs ++ [165, 90]).getD (n + 1) 0 = 90 := by simp [List.getD_eq_getElem?_getD, ← hl]
  rw [e1] at c1
  rw [e2] at c2
  have c1' : w.cell? ⟨g, n, none⟩ = some (.int .u8 165) := c1
  have c2' : w.cell? ⟨g, n + 1, none⟩ = some (.int .u8 90) := c2
  clear c1 c2 e1 e2 hl hc hs hb hsm
  go_enter Tryd.func15, Tryd.ntmps15
  go_wp2
  go_ret
  exact ⟨rfl, rfl⟩
end Go.Proofs.YtfajalhpenincaaDoor
