/- The contract of the reference's trim. -/
import Derived.Test.YtfajalhpenincaaBigRest
namespace Go.Proofs.Ytfajalhpenincaa
open Go.RowKit

/-- The world of trim: its own two structs. -/
abbrev tw (w : World) (s : Bool) (A : Option Addr) (c k : Nat) : World := (w.alloc (.cells #[.bool s, .slice A k c] 25)).alloc (.cells #[.bool false, .slice none 0 0] 25)
def kOf : Option Value → Nat
  | some (.slice _ k _) => k
  | _ => 0
theorem tw_below (w : World) (s : Bool) (A : Option Addr) (c k : Nat) : Below w.heap.size w (tw w s A c k) := ((Below.refl _ w).alloc (Nat.le_refl _) _).alloc (by simp) _
set_option maxHeartbeats 1000000 in
theorem trim_any (s : Bool) (A : Option Addr) (n c : Nat) (ds : List Nat) (w : World) (ha : Dg w A n ds) (hn : n ≤ 1000000) (hc : n ≤ c) :
    Calls Try.prog 33 #[.agg #[.bool s, .slice A n c]] w fun e w' => ∃ k, e = .returned (.agg #[.bool (s && decide (k ≠ 0)), .slice A k c]) ∧ k ≤ n ∧ Norm (ds.take k) ∧ val (ds.take k) = val ds ∧ Below w.heap.size w w' := by
  go_enter Try.func33, Try.ntmps33
  go_wp2_with fail
  change Code.wp _ _ _ _ (tw w s A c n)
  go_loopw [5] (fun _ wr => ∃ k : Nat, wr = tw w s A c k ∧ k ≤ n ∧ val (ds.take k) = val ds) (fun _ wr => kOf (wr.cell? ⟨w.heap.size, 1, none⟩))
  case atStart => exact ⟨n, rfl, Nat.le_refl _, by rw [List.take_of_length_le (by rw [ha.1]; exact Nat.le_refl _)]⟩
  case round =>
    obtain ⟨k, rfl, hk, hval⟩ := hrel
    have hl := ha.1
    by_cases hz : k = 0
    · subst hz
      have hb : Below w.heap.size w ((w.alloc (.cells #[.bool false, .slice A 0 c] 25)).alloc (.cells #[.bool false, .slice A 0 c] 25)) := ((Below.refl _ w).alloc (Nat.le_refl _) _).alloc (by simp) _
      clear ha hl
      go_wp2_with fail
      refine bodyPost_ret (v := .agg #[.bool false, .slice A 0 c]) (by simp [results, Try.results33, go_sem]) rfl ⟨0, ?_, hk, by simp [Norm], hval, hb⟩
      simp
    · obtain ⟨j, rfl⟩ : ∃ j, k = j + 1 := ⟨k - 1, by omega⟩
      obtain ⟨b, off, hA, hcc⟩ := (ha.ext (stays_below (tw_below w s A c (j + 1)))).2.2 (by omega)
      have hcell := hcc j (by omega)
      subst hA
      obtain ⟨d, hd⟩ : ∃ d, d = ds.getD j 0 := ⟨_, rfl⟩
      rw [← hd] at hcell
      have hf := fig_getD ha.2.1 j
      by_cases hd0 : d = 0
      · subst hd0
        have hv := val_take_zero ds j (by omega) hd.symm
        have HV := Lib.hid (hv.symm.trans hval)
        clear hv hval hcc hd hf ha hl
        go_wp2_with fail
        go_roundw
        case rel => exact ⟨j, rfl, by omega, HV.out⟩
        case measure => simp [kOf]
      · have hno := norm_take (ds := ds) j (by omega) (by rw [← hd]; exact hd0)
        have e1 : ((d : Int) == 0) = false := by rw [beq_eq_false_iff_ne]; omega
        have HN := Lib.hid hno
        have HV := Lib.hid hval
        have hb : Below w.heap.size w ((w.alloc (.cells #[.bool s, .slice (some ⟨b, off, none⟩) (j + 1) c] 25)).alloc (.cells #[.bool s, .slice (some ⟨b, off, none⟩) (j + 1) c] 25)) := ((Below.refl _ w).alloc (Nat.le_refl _) _).alloc (by simp) _
        have HB := Lib.hid hb
        clear hno hval hcc hd hf ha hl hb
        go_wp2_with fail
        refine bodyPost_ret (v := .agg #[.bool s, .slice (some ⟨b, off, none⟩) (j + 1) c]) (by simp [results, Try.results33, go_sem]) rfl ⟨j + 1, ?_, hk, HN.out, HV.out, HB.out⟩
        simp
end Go.Proofs.Ytfajalhpenincaa
