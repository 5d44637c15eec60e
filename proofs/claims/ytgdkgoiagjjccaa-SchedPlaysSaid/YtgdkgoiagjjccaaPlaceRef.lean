/- The contracts of the reference's Place and of num.Writes. -/
import Derived.Test.YtgdkgoiagjjccaaOpen2
import Derived.Test.YtgdkgoiagjjccaaInts
import Derived.Deep.QuietTactic
import Derived.Deep.CutRange
import Derived.Laws.StructEq
namespace Go.Proofs.Ytgdkgoiagjjccaa
set_option maxRecDepth 100000
open Go.RowKit

theorem Wrs.ext {w w' : World} {A : Option Addr} {n : Nat} {ws : List (Int × Int × Int × Bool)} (h : Wrs w A n ws) (hs : ∀ p : Addr, p.block < w.heap.size → w'.cell? p = w.cell? p) : Wrs w' A n ws :=
  ⟨h.1, fun hn => by
    obtain ⟨b, off, e, hc⟩ := h.2 hn
    exact ⟨b, off, e, fun j hj => by
      obtain ⟨h0, h1, h2, h3⟩ := hc j hj
      exact ⟨(hs _ (World.block_lt_of_cell? _ _ h0)).trans h0, (hs _ (World.block_lt_of_cell? _ _ h1)).trans h1, (hs _ (World.block_lt_of_cell? _ _ h2)).trans h2, (hs _ (World.block_lt_of_cell? _ _ h3)).trans h3⟩⟩⟩
theorem key_eq (d : Nat) (T K : Int) (w : World) : (Op.equalIn (d + 1 + 1) 104 (.agg #[.int .i64 T, .int .i64 K]) (.agg #[.int .i64 T, .int .i64 K])).run Try.prog w = .ok true w := by
  have u3 := Try.underlying3
  have a3 := Try.isAgg3
  have z3 := Try.sizeOf3
  have hS : Try.prog.underlying 104 = some (.struct (Try.prog.fieldsOf 104)) := by kernel_rfl
  have hp : Try.prog.stoodInHeld 104 = false := by kernel_rfl
  rw [run_equalIn_agg w (d + 1) 104 _ _ hS hp]
  simp only [Program.fieldsOf, Try.underlying104]
  go_simp
theorem write_eq (T K V : Int) (D : Bool) (w : World) : (Op.equalIn 10000 106 (.agg #[.int .i64 T, .int .i64 K, .int .i64 V, .bool D]) (.agg #[.int .i64 T, .int .i64 K, .int .i64 V, .bool D])).run Try.prog w = .ok true w := by
  have u3 := Try.underlying3
  have a3 := Try.isAgg3
  have z3 := Try.sizeOf3
  have u4 := Try.underlying4
  have a4 := Try.isAgg4
  have z4 := Try.sizeOf4
  have u104 := Try.underlying104
  have a104 := Try.isAgg104
  have z104 := Try.sizeOf104
  have hk := key_eq 9997 T K
  have hS : Try.prog.underlying 106 = some (.struct (Try.prog.fieldsOf 106)) := by kernel_rfl
  have hp : Try.prog.stoodInHeld 106 = false := by kernel_rfl
  rw [show (10000 : Nat) = 9999 + 1 from rfl, run_equalIn_agg w 9999 106 _ _ hS hp]
  simp only [Program.fieldsOf, Try.underlying106]
  go_simp
theorem write_neq (T K V : Int) (D : Bool) (w : World) : (binOp .neq 106 (.agg #[.int .i64 T, .int .i64 K, .int .i64 V, .bool D]) (.agg #[.int .i64 T, .int .i64 K, .int .i64 V, .bool D])).run Try.prog w = .ok (.bool false) w := by
  rw [run_neq_struct, write_eq]
  rfl

set_option maxHeartbeats 1000000 in
theorem writes_same (A : Option Addr) (n c : Nat) (A2 : Option Addr) (c2 : Nat) (ws : List (Int × Int × Int × Bool)) (w : World) (ha : Wrs w A n ws) (hb : Wrs w A2 n ws) (hn : n ≤ 9223372036854775807) :
    Calls Try.prog 25 #[.slice A n c, .slice A2 n c2] w fun e w' => e = .returned (.bool true) ∧ Below w.heap.size w w' := by
  have HA := Lib.hid ha
  have HB := Lib.hid hb
  clear ha hb
  go_enter Try.func25, Try.ntmps25
  go_wp2_with fail
  go_loopw [5, 13] (fun _ i wr => ∃ k : Nat, i = .int .i64 (k : Int) ∧ k ≤ n ∧ Below w.heap.size w wr) (fun _ i _ => n - (intOf i).toNat)
  case atStart => exact ⟨0, rfl, by omega, Below.refl _ _⟩
  case round =>
    obtain ⟨k, rfl, hk, hbr⟩ := hrel
    by_cases hlt : k < n
    · obtain ⟨b, off, rfl, hc⟩ := (HA.out.ext (stays_w hbr)).2 (by omega)
      obtain ⟨b2, off2, rfl, hc2⟩ := (HB.out.ext (stays_w hbr)).2 (by omega)
      have hl : k < ws.length := by rw [HA.out.1]; exact hlt
      obtain ⟨p0, p1, p2, p3⟩ := hc k hl
      obtain ⟨q0, q1, q2, q3⟩ := hc2 k hl
      obtain ⟨T, hT⟩ : ∃ T, T = ws[k].1 := ⟨_, rfl⟩
      obtain ⟨K, hK⟩ : ∃ T, T = ws[k].2.1 := ⟨_, rfl⟩
      obtain ⟨V, hV⟩ : ∃ T, T = ws[k].2.2.1 := ⟨_, rfl⟩
      obtain ⟨D, hD⟩ : ∃ T, T = ws[k].2.2.2 := ⟨_, rfl⟩
      rw [← hT] at p0 q0
      rw [← hK] at p1 q1
      rw [← hV] at p2 q2
      rw [← hD] at p3 q3
      have hne := write_neq T K V D
      have HR := Lib.hid hbr
      clear hc hc2 hT hK hV hD hbr HA HB hl
      go_wp2_with fail
      go_quiet (fail)
      have hbd : Below w.heap.size w (wr.drewN nq) := ⟨HR.out.os, HR.out.tape, HR.out.output, HR.out.size, HR.out.block⟩
      go_wp2_with fail
      go_roundw
      case rel => exact ⟨k + 1, by go_num, by omega, hbd⟩
      case measure => simp [intOf]; omega
    · obtain rfl : k = n := by omega
      go_wp2_with fail
      go_ret
      exact ⟨rfl, hbr⟩
end Go.Proofs.Ytgdkgoiagjjccaa
