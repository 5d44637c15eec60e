/- num.Copy once more: the copy is the caller's own. Rows of byte rows: num.Rows. -/
import Derived.Test.YtiemjgkpjmncfaaCopy
import Derived.Test.YtiemjgkpjmncfaaOwn
import Derived.BigQuiet
import Derived.Deep.QuietTactic
namespace Go.Proofs.Ytiemjgkpjmncfaa
set_option maxRecDepth 100000
open Go.RowKit

theorem own_front {w : World} {B g m cap n : Nat} {xs ys : List Nat} (h : OwnB w B (.slice (some ⟨g, 0, none⟩) m cap) ([] ++ xs ++ ys)) (hl : xs.length = n) : w.ownsRow B 5 1 (.slice (some ⟨g, 0, none⟩) n cap) n (valsB xs) := by
  refine ⟨by rw [valsB_length]; omega, .inr ?_⟩
  have hlen : ([] ++ xs ++ ys).length = n + ys.length := by simp [hl]
  rcases h.2 with ⟨h1, _⟩ | ⟨g', cap', cur, e, h1, h2, h3, h4, h5, h6⟩
  · cases h1
  · injection e with e1 _ e3
    injection e1 with e1
    injection e1 with e1
    subst e1 e3
    refine ⟨g, cap, cur, rfl, h1, h2, by omega, h4, h5, ?_⟩
    have h7 := congrArg (List.take n) h6
    rw [List.take_take, Nat.min_eq_left (by omega), List.nil_append, valsB_append, List.take_left' (by rw [valsB_length]; exact hl)] at h7
    rw [Nat.mul_one]
    exact h7
set_option maxHeartbeats 1000000 in
theorem copy_own (A : Option Addr) (n c : Nat) (xs : List Nat) (w : World) (hb : Rdv w A n 1 (valsB xs)) (hnil : A = none → c = 0) (hn : n ≤ 8796093000000) :
    Calls Try.prog 36 #[.slice A n c] w fun e w' => ∃ g cap, e = .returned (.slice (some ⟨g, 0, none⟩) n cap) ∧ Mk w' g n cap xs ∧ NewO w w' (some ⟨g, 0, none⟩) n cap xs ∧ Below w.heap.size w w' := by
  obtain ⟨i0, hi, hz0, hz1, hz2⟩ := info_parts (show (Try.prog.info? 5).map (fun i => (i.zero, i.size, i.bytes)) = some (some (.int .u8 0), 1, 1) by kernel_rfl)
  have hl : xs.length = n := by have := hb.1; rw [valsB_length] at this; omega
  have HL := Lib.hid hl
  have HR := Lib.hid hb
  clear hl hb
  go_enter Try.func36, Try.ntmps36
  go_wp2_with (first
    | (at_make; refine wpList_make_own w rfl _ _ 45 rfl w.heap.size 5 i0 (.int .u8 0) 1 Try.underlying45 hi hz0 hz1 .i64 .i64 ((n : Int) + 2) (n + 2) rfl rfl (by omega) (by rw [hz2]; omega) (by unfold maxLen; omega) (Nat.le_refl _) ?_; intro w1 hown1 hg1; have hb1 : Below w.heap.size w w1 := (Below.refl _ w).grown hg1 (Nat.le_refl _) (fun k hk => by cases hk))
    | (at_builtin; refine wpList_appB rfl (.tmp 6) (.tmp 7) rfl w.heap.size _ [] rfl hown1 A n c xs rfl (HR.out.ext (stays_b hb1)) hnil (by show 0 + n ≤ _; omega) hb1.size ?_; intro v2 w2 hown2 hb2 _ _; have hbw2 := hb1.trans hb2; have hbw3 := hbw2.alloc hbw2.size (.cells #[Value.int .u8 165, Value.int .u8 90] 5))
    | (at_builtin; refine wpList_appB rfl (.tmp 8) (.tmp 9) rfl w.heap.size _ ([] ++ xs) rfl (World.ownsRow.alloc hown2 _) _ 2 2 [165, 90] rfl (rdv_two w2) (fun h => by cases h) (by rw [List.nil_append, HL.out]; omega) (by have := hbw2.size; rw [World.size_alloc]; omega) ?_; intro v4 w4 hown4 hb4 _ _; obtain ⟨g, cap, rfl, hmk, _, hcap2⟩ := mk_of_own hown4 HL.out; have hcap := hmk.cap))
  go_ret
  exact ⟨g, cap, rfl, hmk, own_front hown4 HL.out, hbw3.trans hb4⟩
/-- A slice of byte slices, and what they read as. -/
def RowsAre (w : World) (R : Option Addr) (K : Nat) (p : Nat → List Nat) : Prop :=
  ∃ vs : List Value, Rdv w R K 1 vs ∧ ∀ k, k < K → ∃ A m c, vs[k]? = some (.slice A m c) ∧ m = (p k).length ∧ Rdv w A m 1 (valsB (p k))
theorem RowsAre.at_ {w : World} {R : Option Addr} {K : Nat} {p : Nat → List Nat} (h : RowsAre w R K p) (k : Nat) (hk : k < K) : ∃ b off A c, R = some ⟨b, off, none⟩ ∧ w.cell? ⟨b, off + k, none⟩ = some (.slice A (p k).length c) ∧ Rdv w A (p k).length 1 (valsB (p k)) := by
  obtain ⟨vs, h1, h2⟩ := h
  obtain ⟨b, off, e, hc⟩ := h1.2 (by omega)
  obtain ⟨A, m, c, h3, rfl, h4⟩ := h2 k hk
  exact ⟨b, off, A, c, e, hc k _ h3, h4⟩
set_option maxHeartbeats 1000000 in
theorem rows_any (R R' : Option Addr) (K c c' : Nat) (p : Nat → List Nat) (w : World) (h1 : RowsAre w R K p) (h2 : RowsAre w R' K p) (hp : ∀ k, k < K → ∀ x ∈ p k, x < 256) (hK : K ≤ 9223372036854775807) :
    Calls Try.prog 49 #[.slice R K c, .slice R' K c'] w fun e w' => e = .returned (.bool true) ∧ ∃ t, w' = w.drewN t := by
  have H1 := Lib.hid h1
  have H2 := Lib.hid h2
  have HP := Lib.hid hp
  clear h1 h2 hp
  go_enter Try.func49, Try.ntmps49
  go_wp2_with fail
  go_loopw [13] (fun i wr => ∃ k : Nat, k ≤ K ∧ i = .int .i64 (k : Int) ∧ ∃ t, wr = w.drewN t) (fun i _ => K - (intOf i).toNat)
  case atStart => exact ⟨0, Nat.zero_le _, rfl, 0, rfl⟩
  case round =>
    obtain ⟨k, hk, rfl, t, rfl⟩ := hrel
    by_cases hlt : k < K
    · obtain ⟨b, off, A, ca, rfl, ha, hra⟩ := H1.out.at_ k hlt
      obtain ⟨b', off', A', ca', rfl, ha', hra'⟩ := H2.out.at_ k hlt
      have e1 := fun m => run_str (w.drewN m) A (p k).length ca (p k) hra
      have e2 := fun m => run_str (w.drewN m) A' (p k).length ca' (p k) hra'
      obtain ⟨s, hs⟩ : ∃ s, s = strN (p k) := ⟨_, rfl⟩
      rw [← hs] at e1 e2
      obtain ⟨n, hn⟩ : ∃ n, n = (p k).length := ⟨_, rfl⟩
      rw [← hn] at e1 e2 ha ha'
      clear hra hra' hs hn
      go_wp2_with fail
      go_quiet (fail)
      go_wp2_with fail
      exact ⟨⟨k + 1, by omega, by go_num, _, rfl⟩, by simp [intOf]; omega⟩
    · go_wp2_with fail
      go_ret
      exact ⟨rfl, _, rfl⟩
end Go.Proofs.Ytiemjgkpjmncfaa
