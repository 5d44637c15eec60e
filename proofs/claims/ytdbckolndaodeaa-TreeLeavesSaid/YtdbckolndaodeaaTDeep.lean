/- How deep a tree is. -/
import Derived.Test.YtdbckolndaodeaaTGet
namespace Go.Proofs.Ytdbckolndaodeaa
set_option maxRecDepth 100000
open Go.RowKit

set_option maxHeartbeats 4000000 in
theorem deep_none {w : World} {F : Nat → Prop} {tb d : Nat} (h : TL w F tb [] d) : Calls Try.prog 20 #[.pointer (some ⟨tb, 0, none⟩)] w fun e w' => e = .returned (.int .i64 0) ∧ w = w' := by
  have HL := Lib.hid (len_any h)
  clear h
  go_enter Try.func20, Try.ntmps20
  go_wp2_with fail
  refine Calls.mono HL.out ?_
  rintro e w1 ⟨rfl, rfl⟩
  go_wp2_with fail
  go_ret
  exact ⟨rfl, rfl⟩
set_option maxHeartbeats 4000000 in
theorem deep_some {w : World} {F : Nat → Prop} {tb d : Nat} {l : List Ix} (h : TL w F tb l d) (hn : 0 < l.length) (hd : d ≤ 1000) : Calls Try.prog 20 #[.pointer (some ⟨tb, 0, none⟩)] w fun e w' => e = .returned (.int .i64 ((d + 1 : Nat) : Int)) ∧ w = w' := by
  have HL := Lib.hid (len_any h)
  obtain ⟨T, m, rfl, rfl, hT⟩ := h
  have c0 : w.cell? ⟨tb, 0, none⟩ = some (.pointer (some ⟨(root T.d m).p, 0, none⟩)) := by rw [cell_of_row _ _ 0 _ _ _ hT.block]; rfl
  have HT := Lib.hid hT.tu
  obtain ⟨n, hnn⟩ : ∃ n, n = T.items.length := ⟨_, rfl⟩
  rw [← hnn] at HL hn
  have t0 : ((n : Int) == 0) = false := by rw [beq_eq_false_iff_ne]; omega
  clear hT hnn
  generalize T.d = dd at m HT c0 hd ⊢
  obtain ⟨p, hp⟩ : ∃ p, p = (root dd m).p := ⟨_, rfl⟩
  have HP := Lib.hid hp
  rw [← hp] at c0
  clear hp hn
  go_enter Try.func20, Try.ntmps20
  go_wp2_with fail
  refine Calls.mono HL.out ?_
  rintro e w1 ⟨rfl, rfl⟩
  clear HL
  go_wp2_with fail
  clear t0 c0
  go_loopg [3, 4, 12, 13, 14, 15, 16, 17, 18, 19, 20, 21, 22] dd (fun k' a p _ _ _ _ _ _ _ _ _ _ _ wr => ∃ (m' : MT k') (z : Nat), p = .pointer (some ⟨(root k' m').p, 0, none⟩) ∧ a = .int .i64 (z : Int) ∧ z + k' = dd + 1 ∧ Tu w k' m' ∧ wr = w)
  case atStart => exact ⟨m, 1, by rw [HP.out], rfl, by omega, HT.out, rfl⟩
  case round =>
    obtain ⟨m', z, rfl, rfl, hz, hT, rfl⟩ := hrel
    have HLE := Lib.hid (leaf_any hT.top)
    rw [hT.leafb] at HLE
    have HT2 := Lib.hid hT
    obtain ⟨q, hq⟩ : ∃ q, q = (root gk m').p := ⟨_, rfl⟩
    have HQ := Lib.hid hq
    rw [← hq] at HLE ⊢
    clear hT hq
    cases gk with
    | zero =>
      rw [show decide (0 = 0) = true from rfl] at HLE
      obtain rfl : z = dd + 1 := by omega
      clear hz
      go_wp2_with fail
      refine Calls.mono HLE.out ?_
      rintro e w2 ⟨rfl, rfl⟩
      go_wp2_with fail
      go_ret
      exact ⟨rfl, rfl⟩
    | succ k' =>
      rw [show decide (k' + 1 = 0) = false from rfl] at HLE
      obtain ⟨a, c, b, hcs, ha⟩ := kid_cut HT2.out.ok 0 (Nat.zero_le _)
      obtain ⟨gu, cu, A, cc, e1, l1, k1, k2, _⟩ := (show NodeIn wr m'.1 m'.2 from HT2.out.node).cell (j := 0) (z := c) (by rw [hcs]; exact get_mid a c b 0 ha)
      change wr.cell? ⟨(root (k' + 1) m').p, 1, none⟩ = _ at k1
      rw [← HQ.out] at k1
      have l2 : 0 < m'.1.ps.length := by omega
      have HC := Lib.hid (And.intro hcs hz)
      have hz2 : z ≤ 1001 := by omega
      clear e1 hcs ha hz
      go_wp2_with fail
      refine Calls.mono HLE.out ?_
      rintro e w2 ⟨rfl, rfl⟩
      go_wp2_with fail
      go_roundg k'
      case measure => omega
      case rel => exact ⟨c, z + 1, rfl, by go_num, by have := HC.out.2; omega, HT2.out.kid (by rw [HC.out.1]; simp), rfl⟩
end Go.Proofs.Ytdbckolndaodeaa
