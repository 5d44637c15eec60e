/- SEntL: put together. -/
import Derived.Test.YtejpjbmbcdgomaaPd04
import Derived.Test.YtejpjbmbcdgomaaPd07
/- The law's entries: the same entries. -/
namespace Go.Proofs.Ytejpjbmbcdgomaa
set_option maxRecDepth 100000
open Go.RowKit

set_option maxHeartbeats 8000000 in
theorem entriesL_any {w : World} {A A2 : Option Addr} {c c2 : Nat} {l : List En} (h : Ens w A l) (h2 : Ens w A2 l) (hl : l.length ≤ 100000) : Calls Try.prog 17 #[.slice A l.length c, .slice A2 l.length c2] w fun e w' => e = .returned (.bool true) ∧ Below w.heap.size w w' := by
  have HH := Lib.hid h
  have HH2 := Lib.hid h2
  obtain ⟨n, hn⟩ : ∃ n, n = l.length := ⟨_, rfl⟩
  have HN := Lib.hid hn
  rw [← hn]
  rw [← hn] at hl
  have HL := Lib.hid hl
  clear h h2 hn hl
  have d0 : ((n : Int) != (n : Int)) = false := by simp
  go_enter Try.func17, Try.ntmps17
  go_wp2_with fail
  clear d0
  go_loopw [5, 6, 14, 15, 16, 17, 18, 19, 20, 21, 22, 23, 24, 25, 26, 27, 28, 29, 30, 31, 32, 33, 34, 35, 36, 37] (fun _ _ ix _ _ _ _ _ _ _ _ _ _ _ _ _ _ _ _ _ _ _ _ _ _ _ wr => ∃ z : Nat, ix = .int .i64 (z : Int) ∧ z ≤ n ∧ Below w.heap.size w wr) (fun _ _ ix _ _ _ _ _ _ _ _ _ _ _ _ _ _ _ _ _ _ _ _ _ _ _ wr => n - (intOf ix).toNat)
  case atStart => exact ⟨0, rfl, Nat.zero_le _, Below.refl _ _⟩
  case round =>
    obtain ⟨z, rfl, hz, hb⟩ := hrel
    have HB := Lib.hid hb
    by_cases hlt : z < n
    · have hzl : z < l.length := by rw [← HN.out]; exact hlt
      obtain ⟨b, off, rfl, hcl⟩ := Ens.cell (RowAt.below HH.out hb) (by omega)
      obtain ⟨x0, x1, x2, x3, x4⟩ := hcl z hzl
      obtain ⟨x, hx⟩ : ∃ x, x = l[z] := ⟨_, rfl⟩
      rw [← hx] at x0 x1 x2 x3 x4
      obtain ⟨p6, hp6⟩ : ∃ p6, p6 = wr.heap.size := ⟨_, rfl⟩
      obtain ⟨we, hwe⟩ : ∃ we, we = wr.alloc (.cells #[.int .i64 (x.t : Int), .int .i64 x.x.k, .int .i64 x.x.c.v, .int .i64 x.x.c.s, .bool x.x.c.dead] 112) := ⟨_, rfl⟩
      have hbe : Below wr.heap.size wr we := by rw [hwe]; exact (Below.refl _ _).alloc (Nat.le_refl _) _
      have hE6 : we.heap[p6]? = some (.cells #[.int .i64 (x.t : Int), .int .i64 x.x.k, .int .i64 x.x.c.v, .int .i64 x.x.c.s, .bool x.x.c.dead] 112 (0, 0)) := by rw [hwe, hp6]; exact heap_alloc_new wr _
      have HBE : Hid (Below w.heap.size w we) := Lib.hid (hb.trans (hbe.mono hb.size))
      obtain ⟨b', off', rfl, hcl'⟩ := Ens.cell (RowAt.below HH2.out HBE.out) (by omega)
      obtain ⟨y0, y1, y2, y3, y4⟩ := hcl' z hzl
      rw [← hx] at y0 y1 y2 y3 y4
      have hnb : n ≤ 100000 := HL.out
      have HWE := Lib.hid (And.intro hwe hp6)
      clear hcl hcl' hx hzl hb hwe hp6 hbe
      go_upto_region 6 with fail
      rw [← HWE.out.1, ← HWE.out.2]
      clear x0 x1 x2 x3 x4
      have m0 : we.cell? ⟨p6, 0, none⟩ = some (.int .i64 (x.t : Int)) := by rw [cell_of_row _ _ 0 _ _ _ hE6]; rfl
      have m1 : we.cell? ⟨p6, 1, none⟩ = some (.int .i64 x.x.k) := by rw [cell_of_row _ _ 1 _ _ _ hE6]; rfl
      have m2 : we.cell? ⟨p6, 2, none⟩ = some (.int .i64 x.x.c.v) := by rw [cell_of_row _ _ 2 _ _ _ hE6]; rfl
      have m3 : we.cell? ⟨p6, 3, none⟩ = some (.int .i64 x.x.c.s) := by rw [cell_of_row _ _ 3 _ _ _ hE6]; rfl
      have m4 : we.cell? ⟨p6, 4, none⟩ = some (.bool x.x.c.dead) := by rw [cell_of_row _ _ 4 _ _ _ hE6]; rfl
      clear hE6
      go_quiet (fail)
      go_wp2_with fail
      go_roundw
      case rel => exact ⟨z + 1, by go_num, by omega, below_dN HBE.out⟩
      case measure => simp [intOf]; omega
    · obtain rfl : z = n := by omega
      go_wp2_with fail
      go_ret
      exact ⟨rfl, HB.out⟩
end Go.Proofs.Ytejpjbmbcdgomaa
