/- RS7, RS8, RS9, RS10, VBeh: put together. -/
import Derived.Test.YtejpjbmbcdgomaaPt29
import Derived.Test.YtejpjbmbcdgomaaPt25
/- num.Writes: the same writes. -/
namespace Go.Proofs.Ytejpjbmbcdgomaa
set_option maxRecDepth 100000
open Go.RowKit

set_option maxHeartbeats 4000000 in
theorem writes_any {w : World} {A A2 : Option Addr} {c c2 : Nat} {ws : List Wr} (h : Wrs w A ws) (h2 : Wrs w A2 ws) (hl : ws.length ≤ 100000) : Calls Try.prog 41 #[.slice A ws.length c, .slice A2 ws.length c2] w fun e w' => e = .returned (.bool true) ∧ Below w.heap.size w w' := by
  have HH := Lib.hid h
  have HH2 := Lib.hid h2
  obtain ⟨n, hn⟩ : ∃ n, n = ws.length := ⟨_, rfl⟩
  have HN := Lib.hid hn
  rw [← hn]
  rw [← hn] at hl
  have HL := Lib.hid hl
  clear h h2 hn hl
  have d0 : ((n : Int) != (n : Int)) = false := by simp
  go_enter Try.func41, Try.ntmps41
  go_wp2_with fail
  clear d0
  go_loopw [5, 13, 14, 15, 16, 17, 18, 19, 20, 21, 22, 23, 24, 25] (fun _ ix _ _ _ _ _ _ _ _ _ _ _ _ wr => ∃ z : Nat, ix = .int .i64 (z : Int) ∧ z ≤ n ∧ Below w.heap.size w wr) (fun _ ix _ _ _ _ _ _ _ _ _ _ _ _ wr => n - (intOf ix).toNat)
  case atStart => exact ⟨0, rfl, Nat.zero_le _, Below.refl _ _⟩
  case round =>
    obtain ⟨z, rfl, hz, hb⟩ := hrel
    have HB := Lib.hid hb
    by_cases hlt : z < n
    · have hzl : z < ws.length := by rw [← HN.out]; exact hlt
      obtain ⟨b, off, rfl, hcl⟩ := Wrs.cell (RowAt.below HH.out hb) (by omega)
      obtain ⟨x0, x1, x2, x3⟩ := hcl z hzl
      obtain ⟨b', off', rfl, hcl'⟩ := Wrs.cell (RowAt.below HH2.out hb) (by omega)
      obtain ⟨y0, y1, y2, y3⟩ := hcl' z hzl
      obtain ⟨x, hx⟩ : ∃ x, x = ws[z] := ⟨_, rfl⟩
      rw [← hx] at x0 x1 x2 x3 y0 y1 y2 y3
      have hnb : n ≤ 100000 := HL.out
      clear hcl hcl' hx hzl hb
      go_wp2_with fail
      go_quiet (fail)
      go_wp2_with fail
      go_roundw
      case rel => exact ⟨z + 1, by go_num, by omega, below_dN HB.out⟩
      case measure => simp [intOf]; omega
    · obtain rfl : z = n := by omega
      go_wp2_with fail
      go_ret
      exact ⟨rfl, HB.out⟩
end Go.Proofs.Ytejpjbmbcdgomaa

/- The document's From, pure: entries from a key on. -/
namespace Go.Proofs.Ytejpjbmbcdgomaa
set_option maxRecDepth 100000
open Go.RowKit

theorem allE_filter (p : En → Bool) (ps : Nat → List Ix) : ∀ (n i : Nat), (allE ps i n).filter p = allE (fun j => (ps j).filter fun x => p ⟨j, x⟩) i n
  | 0, _ => rfl
  | n + 1, i => by
    rw [allE, allE, List.filter_append, allE_filter p ps n (i + 1)]
    congr 1
    unfold tag
    rw [List.filter_map]
    rfl
theorem from_ents {ts : Tb} (h : ∀ i, i < 4 → NumL (ts i)) (t k : Int) : (ents ts).filter (fun e => !lessK (e.t : Int) e.x.k t k) = fromE t k ts := by
  have hi0 : i0F t ≤ 4 := by unfold i0F; omega
  have e4 : allE ts 0 4 = allE ts 0 (i0F t) ++ allE ts (i0F t) (4 - i0F t) := by
    have e : i0F t + (4 - i0F t) = 4 := by omega
    have h9 := allE_add ts (i0F t) 0 (4 - i0F t)
    rw [e, Nat.zero_add] at h9
    exact h9
  unfold ents fromE
  rw [e4, List.filter_append, List.filter_eq_nil_iff.2 fun e he => ?_, List.nil_append, allE_filter]
  · refine allE_congr fun j hj1 hj2 => ?_
    have hj4 : j < 4 := by omega
    have hjt : t ≤ (j : Int) := by unfold i0F at hj1; omega
    unfold partF rng
    refine List.filter_congr fun x hx => ?_
    have hn := h j hj4 x hx
    unfold lessK loI hiI
    by_cases e : (j : Int) = t
    · have a1 : ¬ (j : Int) < t := by omega
      by_cases a2 : x.k < k
      · have a3 : ¬ k ≤ x.k := by omega
        simp [e, a2, a3]
      · have a3 : k ≤ x.k := by omega
        simp [e, a2, a3, hn.2]
    · have a1 : ¬ (j : Int) < t := by omega
      simp [e, a1, hn.1, hn.2]
  · obtain ⟨_, h8, _⟩ := mem_allE he
    have a1 : (e.t : Int) < t := by unfold i0F at h8; omega
    simp [lessK, a1]
end Go.Proofs.Ytejpjbmbcdgomaa

/- The document's Range, pure. -/
namespace Go.Proofs.Ytejpjbmbcdgomaa
set_option maxRecDepth 100000
open Go.RowKit

end Go.Proofs.Ytejpjbmbcdgomaa

/- The document's store: From. Written by gen_rs10.py. -/
namespace Go.Proofs.Ytejpjbmbcdgomaa
set_option maxRecDepth 100000
open Go.RowKit

def keepE (t k : Int) (e : En) : Bool := !lessK (e.t : Int) e.x.k t k && !e.x.c.dead
def takeE (t k n : Int) (l : List En) : List En := (l.filter (keepE t k)).take n.toNat
end Go.Proofs.Ytejpjbmbcdgomaa

/- The key behind another one. -/
namespace Go.Proofs.Ytejpjbmbcdgomaa
set_option maxRecDepth 100000
open Go.RowKit

/-- The key behind another one. -/
def bhT (t k : Int) : Int := if k = 9223372036854775807 then t + 1 else t
def bhK (k : Int) : Int := if k = 9223372036854775807 then -9223372036854775808 else k + 1
theorem behind_any (w : World) (t k : Int) (ht : 0 ≤ t ∧ t ≤ 4) (hk : Fits k) : Calls Try.prog 106 #[.agg #[.int .i64 t, .int .i64 k]] w fun e w' => e = .returned (.agg #[.int .i64 (bhT t k), .int .i64 (bhK k)]) ∧ Below w.heap.size w w' := by
  obtain ⟨p1, hp1⟩ : ∃ p1, p1 = w.heap.size := ⟨_, rfl⟩
  obtain ⟨p2, hp2⟩ : ∃ p2, p2 = p1 + 1 := ⟨_, rfl⟩
  obtain ⟨W1, hW1⟩ : ∃ W1, W1 = (w.alloc (.cells #[.int .i64 t, .int .i64 k] 42)).alloc (.cells #[.int .i64 0, .int .i64 0] 42) := ⟨_, rfl⟩
  have h3 := blocks2 w (.cells #[.int .i64 t, .int .i64 k] 42) (.cells #[.int .i64 0, .int .i64 0] 42)
  rw [← hW1, ← hp1, ← hp2] at h3
  obtain ⟨g1, g2, gs, gb⟩ := h3
  rw [hp1] at gb
  have x0 : W1.cell? ⟨p1, 0, none⟩ = some (.int .i64 t) := by rw [cell_of_row _ _ 0 _ _ _ g1]; rfl
  have x1 : W1.cell? ⟨p1, 1, none⟩ = some (.int .i64 k) := by rw [cell_of_row _ _ 1 _ _ _ g1]; rfl
  have y0 : W1.cell? ⟨p2, 0, none⟩ = some (.int .i64 0) := by rw [cell_of_row _ _ 0 _ _ _ g2]; rfl
  have y1 : W1.cell? ⟨p2, 1, none⟩ = some (.int .i64 0) := by rw [cell_of_row _ _ 1 _ _ _ g2]; rfl
  have yf := frozen_of g2
  have hlo : w.heap.size ≤ p2 := by omega
  have HFI : Hid (∀ a b, ((W1.setCell ⟨p2, 0, none⟩ a).setCell ⟨p2, 1, none⟩ b).cell? ⟨p2, 0, none⟩ = some a ∧ ((W1.setCell ⟨p2, 0, none⟩ a).setCell ⟨p2, 1, none⟩ b).cell? ⟨p2, 1, none⟩ = some b ∧ Below w.heap.size w ((W1.setCell ⟨p2, 0, none⟩ a).setCell ⟨p2, 1, none⟩ b)) := Lib.hid fun a b => by
    have k1 := heap_set W1 p2 0 a g2
    have k2 := heap_set _ p2 1 b k1
    exact ⟨by rw [cell_of_row _ _ 0 _ _ _ k2]; rfl, by rw [cell_of_row _ _ 1 _ _ _ k2]; rfl, (gb.setCell (p := ⟨p2, 0, none⟩) hlo _).setCell (p := ⟨p2, 1, none⟩) hlo _⟩
  have HW := Lib.hid (And.intro hW1 (And.intro hp1 hp2))
  clear hW1 hp1 hp2 g1 g2 gs gb hlo
  unfold bhT bhK
  unfold Fits at hk
  by_cases hm : k = 9223372036854775807
  · subst hm
    rw [if_pos rfl, if_pos rfl]
    go_enter Try.func106, Try.ntmps106
    go_upto_region 1 with fail
    rw [← HW.out.1, ← HW.out.2.1, ← HW.out.2.2]
    go_wp2_with fail
    exact bodyPost_ret (v := .agg #[.int .i64 (t + 1), .int .i64 (-9223372036854775808)]) (by simp [results, Try.results106, go_sem, (HFI.out _ _).1, (HFI.out _ _).2.1]) rfl ⟨rfl, (HFI.out _ _).2.2⟩
  · have d1 : (k == 9223372036854775807) = false := by simpa using hm
    rw [if_neg hm, if_neg hm]
    go_enter Try.func106, Try.ntmps106
    go_upto_region 1 with fail
    rw [← HW.out.1, ← HW.out.2.1, ← HW.out.2.2]
    go_wp2_with fail
    exact bodyPost_ret (v := .agg #[.int .i64 t, .int .i64 (k + 1)]) (by simp [results, Try.results106, go_sem, (HFI.out _ _).1, (HFI.out _ _).2.1]) rfl ⟨rfl, (HFI.out _ _).2.2⟩
end Go.Proofs.Ytejpjbmbcdgomaa
