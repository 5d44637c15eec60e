/- The contract of bits.Div64. -/
import Derived.Test.YtfajalhpenincaaDivMath
import Derived.Test.YtfajalhpenincaaDiv
import Derived.Laws.Bits64b
import Derived.Deep.CutRange
import Derived.Deep.CutBlock
namespace Go.Proofs.Ytfajalhpenincaa
set_option maxRecDepth 100000
open Go.RowKit

theorem u64_small (n : Nat) (h : n < 18446744073709551616) : IntKind.u64.wrap (n : Int) = (n : Int) := IntWalk.u64_in _ (by omega)
theorem mask32 (n : Nat) (h : n < 18446744073709551616) : bits BinOp.and IntKind.u64 (n : Int) 4294967295 = ((n % 4294967296 : Nat) : Int) := by
  have h1 := bits_and_u64_nat n 4294967295 h (by decide)
  have h2 : n &&& 4294967295 = n % 2 ^ 32 := Nat.and_two_pow_sub_one_eq_mod n 32
  rw [show ((4294967295 : Nat) : Int) = 4294967295 from rfl] at h1
  rw [h1, h2]

set_option maxHeartbeats 4000000 in
/-- The division, told by its two figures. -/
theorem div64_norm (x l y s U T Y V1 V0 u1 u0 q1 r1 q0 r0 : Nat) (hx : 0 < x) (hxy : x < y) (hy : y < 18446744073709551616) (hs : s < 64) (hlz : (64 - (Lib.bitLen y : Int)) = (s : Int))
    (eY : y * 2 ^ s = Y) (hYm : Y < 18446744073709551616) (eU : x * 2 ^ s ||| l / 2 ^ (64 - s) = U) (hU1 : x * 2 ^ s < 18446744073709551616) (hU2 : l / 2 ^ (64 - s) < 18446744073709551616) (eT : (l * 2 ^ s) % 18446744073709551616 = T)
    (e1 : Y / 4294967296 = V1) (e2 : Y % 4294967296 = V0) (e3 : T / 4294967296 = u1) (e4 : T % 4294967296 = u0)
    (D1 : Digit U u1 V1 V0 Y q1 r1) (D0 : Digit r1 u0 V1 V0 Y q0 r0) (w : World) :
    Calls Try.prog 39 #[.int .u64 x, .int .u64 l, .int .u64 y] w fun e w' => e = .returned (.tuple #[.int .u64 ((q1 * 4294967296 + q0 : Nat) : Int), .int .u64 ((r0 : Int) / 2 ^ s)]) ∧ w = w' := by
  have hTm : T < 18446744073709551616 := by rw [← eT]; exact Nat.mod_lt _ (by decide)
  have f1 : ((y : Int) == 0) = false := by rw [beq_eq_false_iff_ne]; omega
  have f2 : ((x : Int) == 0) = false := by rw [beq_eq_false_iff_ne]; omega
  have f2' : ¬ y ≤ x := by omega
  have f3 : ((V1 : Int) == 0) = false := by rw [beq_eq_false_iff_ne]; have := D1.high; omega
  have f4 : ¬ V1 = 0 := by have := D1.high; omega
  have f5 : ¬ Y < 4294967296 := by have := D1.high; have := D1.parts; omega
  have f6 : ¬ Y / 4294967296 = 0 := by rw [e1]; exact f4
  have f7 : ¬ (Y : Int) / 4294967296 = 0 := by have := D1.high; have := D1.parts; omega
  have g1 : IntKind.u64.wrap ((y : Int) * 2 ^ s) = (Y : Int) := by
    rw [show ((y : Int) * 2 ^ s) = ((y * 2 ^ s : Nat) : Int) by push_cast; rfl, eY]; exact u64_small Y hYm
  have g2 : (Y : Int) / 4294967296 = (V1 : Int) := by rw [← e1]; rfl
  have g3 : bits BinOp.and IntKind.u64 (Y : Int) 4294967295 = (V0 : Int) := by rw [mask32 Y hYm, e2]
  have g4 : IntKind.u64.wrap ((x : Int) * 2 ^ s) = ((x * 2 ^ s : Nat) : Int) := by
    rw [show ((x : Int) * 2 ^ s) = ((x * 2 ^ s : Nat) : Int) by push_cast; rfl]; exact u64_small _ hU1
  have g5 : (l : Int) / 2 ^ (64 - s) = ((l / 2 ^ (64 - s) : Nat) : Int) := by push_cast; rfl
  have g6 : bits BinOp.or IntKind.u64 ((x * 2 ^ s : Nat) : Int) ((l / 2 ^ (64 - s) : Nat) : Int) = (U : Int) := by rw [bits_or_u64_nat _ _ hU1 hU2, eU]
  have g7 : IntKind.u64.wrap ((l : Int) * 2 ^ s) = (T : Int) := by
    rw [show ((l : Int) * 2 ^ s) = ((l * 2 ^ s : Nat) : Int) by push_cast; rfl, IntKind.wrap_u64, ← eT]
    omega
  have g8 : (T : Int) / 4294967296 = (u1 : Int) := by rw [← e3]; rfl
  have g9 : bits BinOp.and IntKind.u64 (T : Int) 4294967295 = (u0 : Int) := by rw [mask32 T hTm, e4]
  obtain ⟨X', hX'⟩ : ∃ z, z = x * 2 ^ s := ⟨_, rfl⟩
  obtain ⟨L', hL'⟩ : ∃ z, z = l / 2 ^ (64 - s) := ⟨_, rfl⟩
  rw [← hX'] at g4 g6
  rw [← hL'] at g5 g6
  have C := lz_any (y : Int) (by omega) (by omega) w
  rw [show ((y : Int)).toNat = y by omega, hlz] at C
  have HC := Lib.hid C
  obtain ⟨i1, i2, i3, i4⟩ := D1.first
  obtain ⟨Q0, hQ0⟩ : ∃ z, z = U / V1 := ⟨_, rfl⟩
  obtain ⟨R0, hR0⟩ : ∃ z, z = U % V1 := ⟨_, rfl⟩
  have hUm : U < 18446744073709551616 := by have := D1.less; omega
  have h1 : (U : Int).tdiv (V1 : Int) = (Q0 : Int) := by rw [hQ0]; rfl
  have h2 : (U : Int) / (V1 : Int) = (Q0 : Int) := by rw [hQ0]; rfl
  rw [← hQ0] at i1 i2 i4
  rw [← hR0] at i3 i4
  have h3 : IntKind.u64.wrap (Q0 : Int) = (Q0 : Int) := u64_small Q0 (by omega)
  obtain ⟨P0, hP0⟩ : ∃ z, z = Q0 * V1 := ⟨_, rfl⟩
  have h4 : IntKind.u64.wrap ((Q0 : Int) * (V1 : Int)) = (P0 : Int) := by
    rw [← Int.natCast_mul, ← hP0]; exact u64_small P0 (by omega)
  have h5 : IntKind.u64.wrap ((U : Int) - (P0 : Int)) = (R0 : Int) := by
    rw [show (U : Int) - (P0 : Int) = (R0 : Int) by omega]; exact u64_small R0 (by omega)
  have HD1 := Lib.hid D1
  have HD0 := Lib.hid D0
  have HI1 := Lib.hid i1
  have HI2 := Lib.hid i2
  have HI3 := Lib.hid i3
  have HI4 := Lib.hid i4
  clear C hlz eY eU eT e1 e2 e3 e4 D1 D0 i1 i2 i3 i4 hQ0 hR0 hP0 hX' hL' hU1 hU2
  obtain ⟨FF, hFF⟩ : ∃ z, z = q1 * 4294967296 + q0 := ⟨_, rfl⟩
  rw [← hFF]
  have HFF := Lib.hid hFF
  clear hFF
  go_enter Try.func39, Try.ntmps39
  go_wp2_with fail
  refine Calls.mono HC.out ?_
  rintro e w9 ⟨rfl, rfl⟩
  go_upto_block 0 with fail
  go_cut [15, 16] from 67 to 85 (fun a _ wx => a = .int .u64 (q1 : Int) ∧ w = wx)
  case first =>
    go_wp2_with fail
    go_loop [15, 16] (fun a b => ∃ Q R : Nat, a = .int .u64 (Q : Int) ∧ b = .int .u64 (R : Int) ∧ Q * V1 + R = U ∧ q1 ≤ Q ∧ Q ≤ 4294967297 ∧ R < 4294967296) (fun a _ => (intOf a).toNat)
    case atStart => exact ⟨Q0, R0, rfl, rfl, HI4.out, HI1.out, HI2.out, HI3.out⟩
    case round =>
      obtain ⟨Q, R, rfl, rfl, he, hq, hQ, hR⟩ := hrel
      have hPb : Q * V0 ≤ 4294967297 * 4294967295 := Nat.mul_le_mul hQ (by have := HD1.out.low; omega)
      obtain ⟨P, hP⟩ : ∃ P, P = Q * V0 := ⟨_, rfl⟩
      obtain ⟨G, hG⟩ : ∃ G, G = 4294967296 * R := ⟨_, rfl⟩
      obtain ⟨J, hJ⟩ : ∃ J, J = G + u1 := ⟨_, rfl⟩
      have a1 : IntKind.u64.wrap ((Q : Int) * (V0 : Int)) = (P : Int) := by
        rw [← Int.natCast_mul, ← hP]; exact u64_small P (by omega)
      have a2 : IntKind.u64.wrap (4294967296 * (R : Int)) = (G : Int) := by
        rw [show 4294967296 * (R : Int) = (G : Int) by omega]; exact u64_small G (by omega)
      have a3 : IntKind.u64.wrap ((G : Int) + (u1 : Int)) = (J : Int) := by
        rw [show (G : Int) + (u1 : Int) = (J : Int) by omega]; exact u64_small J (by have := HD1.out.small; omega)
      have b2 : IntKind.u64.wrap ((R : Int) + (V1 : Int)) = ((R + V1 : Nat) : Int) := by
        rw [← Int.natCast_add]; exact u64_small _ (by have := HD1.out.top; omega)
      obtain ⟨R', hR'⟩ : ∃ R', R' = R + V1 := ⟨_, rfl⟩
      rw [← hR'] at b2
      have hdone := fun (h : P ≤ J) => HD1.out.done he (by rw [← hP, ← hG, ← hJ]; exact h) hq
      have hmore := fun (h : 4294967296 ≤ Q ∨ J < P) => HD1.out.more he hq (by rw [← hP, ← hG, ← hJ]; exact h)
      have hstop := fun (h : q1 + 1 ≤ Q) (h2 : 4294967296 ≤ R') => HD1.out.stop (Q := Q - 1) (R := R') (by
        rw [hR', ← he]
        obtain ⟨k, hk⟩ : ∃ k, Q = k + 1 := ⟨Q - 1, by omega⟩
        rw [hk, Nat.succ_mul]; simp; omega) (by omega) (by omega) h2
      have hnext : q1 + 1 ≤ Q → (Q - 1) * V1 + R' = U := fun h => by
        rw [hR', ← he]
        obtain ⟨k, hk⟩ : ∃ k, Q = k + 1 := ⟨Q - 1, by omega⟩
        rw [hk, Nat.succ_mul]; simp; omega
      have HDN := Lib.hid hdone
      have HMO := Lib.hid hmore
      have HST := Lib.hid hstop
      have HNX := Lib.hid hnext
      clear hdone hmore hstop hnext he hP hG hJ hPb
      by_cases hc : 4294967296 ≤ Q ∨ J < P
      · have hm := HMO.out hc
        obtain ⟨Q', hQ'⟩ : ∃ Q', Q' = Q - 1 := ⟨_, rfl⟩
        have b1 : IntKind.u64.wrap ((Q : Int) - 1) = (Q' : Int) := by
          rw [show (Q : Int) - 1 = (Q' : Int) by omega]; exact u64_small Q' (by omega)
        have hst := HST.out hm
        have hnx := HNX.out hm
        rw [← hQ'] at hst hnx
        have KST := Lib.hid hst
        have KNX := Lib.hid hnx
        have KM := Lib.hid (show q1 ≤ Q' by omega)
        have KL := Lib.hid (show Q' < Q by omega)
        have KQ := Lib.hid hQ
        clear hst hnx hR' HDN HMO HST HNX hm hq hQ' hQ hR
        by_cases h1 : (4294967296 : Int) ≤ (Q : Int)
        · clear hc
          by_cases hb : (4294967296 : Int) ≤ (R' : Int)
          · go_wp2_with fail
            go_meet
            case rel => exact ⟨by rw [KST.out (by omega)], rfl⟩
          · go_wp2_with fail
            go_round
            case rel => exact ⟨Q', R', rfl, rfl, KNX.out, KM.out, by have := KL.out; have := KQ.out; omega, by omega⟩
            case measure =>
              have := KL.out
              simp [intOf]; omega
        · have h2 : J < P := hc.resolve_left (fun h => h1 (by omega))
          clear hc
          by_cases hb : (4294967296 : Int) ≤ (R' : Int)
          · go_wp2_with fail
            go_meet
            case rel => exact ⟨by rw [KST.out (by omega)], rfl⟩
          · go_wp2_with fail
            go_round
            case rel => exact ⟨Q', R', rfl, rfl, KNX.out, KM.out, by have := KL.out; have := KQ.out; omega, by omega⟩
            case measure =>
              have := KL.out
              simp [intOf]; omega
      · have h1 : ¬ (4294967296 : Int) ≤ (Q : Int) := fun h => hc (.inl (by omega))
        have h2 : ¬ J < P := fun h => hc (.inr h)
        have hd := HDN.out (by omega)
        have KD := Lib.hid hd
        clear hc HDN HMO HST HNX hd hq hQ hR' b2 hR
        go_wp2_with fail
        go_meet
        case rel => exact ⟨by rw [KD.out], rfl⟩
  case rest =>
    obtain ⟨rfl, rfl⟩ := hcut
    clear HI1 HI2 HI3 HI4 h1 h2 h3 h4 h5
    obtain ⟨i1, i2, i3, i4⟩ := HD0.out.first
    obtain ⟨Q1, hQ1⟩ : ∃ z, z = r1 / V1 := ⟨_, rfl⟩
    obtain ⟨R1, hR1⟩ : ∃ z, z = r1 % V1 := ⟨_, rfl⟩
    have hr1 := HD1.out.rest
    have hq1 := HD1.out.lt
    have hq0 := HD0.out.lt
    have hr0 := HD0.out.rest
    have heq1 := HD1.out.eq
    have heq0 := HD0.out.eq
    obtain ⟨z1, hz1⟩ : ∃ z, z = U * 4294967296 % 18446744073709551616 := ⟨_, rfl⟩
    obtain ⟨z2, hz2⟩ : ∃ z, z = (z1 + u1) % 18446744073709551616 := ⟨_, rfl⟩
    obtain ⟨z3, hz3⟩ : ∃ z, z = q1 * Y % 18446744073709551616 := ⟨_, rfl⟩
    obtain ⟨m1, hm1⟩ : ∃ z, z = r1 * 4294967296 % 18446744073709551616 := ⟨_, rfl⟩
    obtain ⟨m2, hm2⟩ : ∃ z, z = (m1 + u0) % 18446744073709551616 := ⟨_, rfl⟩
    obtain ⟨m3, hm3⟩ : ∃ z, z = q0 * Y % 18446744073709551616 := ⟨_, rfl⟩
    obtain ⟨pr, hpr⟩ : ∃ z, z = q1 * Y := ⟨_, rfl⟩
    obtain ⟨ps, hps⟩ : ∃ z, z = q0 * Y := ⟨_, rfl⟩
    rw [← hpr] at heq1 hz3
    rw [← hps] at heq0 hm3
    have k1 : IntKind.u64.wrap ((U : Int) * 4294967296) = (z1 : Int) := by rw [IntKind.wrap_u64]; omega
    have k2 : IntKind.u64.wrap ((z1 : Int) + (u1 : Int)) = (z2 : Int) := by rw [IntKind.wrap_u64]; omega
    have k3 : IntKind.u64.wrap ((q1 : Int) * (Y : Int)) = (z3 : Int) := by
      rw [← Int.natCast_mul, ← hpr, IntKind.wrap_u64]; omega
    have k4 : IntKind.u64.wrap ((z2 : Int) - (z3 : Int)) = (r1 : Int) := by rw [IntKind.wrap_u64]; omega
    have k5 : (r1 : Int).tdiv (V1 : Int) = (Q1 : Int) := by rw [hQ1]; rfl
    have k6 : (r1 : Int) / (V1 : Int) = (Q1 : Int) := by rw [hQ1]; rfl
    rw [← hQ1] at i1 i2 i4
    rw [← hR1] at i3 i4
    have k7 : IntKind.u64.wrap (Q1 : Int) = (Q1 : Int) := u64_small Q1 (by omega)
    obtain ⟨P1, hP1⟩ : ∃ z, z = Q1 * V1 := ⟨_, rfl⟩
    have k8 : IntKind.u64.wrap ((Q1 : Int) * (V1 : Int)) = (P1 : Int) := by
      rw [← Int.natCast_mul, ← hP1]; exact u64_small P1 (by omega)
    have k9 : IntKind.u64.wrap ((r1 : Int) - (P1 : Int)) = (R1 : Int) := by
      rw [show (r1 : Int) - (P1 : Int) = (R1 : Int) by omega]; exact u64_small R1 (by omega)
    have n1 : IntKind.u64.wrap ((q1 : Int) * 4294967296) = ((q1 * 4294967296 : Nat) : Int) := by
      rw [show (q1 : Int) * 4294967296 = ((q1 * 4294967296 : Nat) : Int) by omega]; exact u64_small _ (by omega)
    obtain ⟨F1, hF1⟩ : ∃ z, z = q1 * 4294967296 := ⟨_, rfl⟩
    have hFF := HFF.out
    rw [← hF1] at n1 hFF
    have n2 : IntKind.u64.wrap ((F1 : Int) + (q0 : Int)) = (FF : Int) := by
      rw [show (F1 : Int) + (q0 : Int) = (FF : Int) by omega]; exact u64_small _ (by omega)
    have n3 : IntKind.u64.wrap ((r1 : Int) * 4294967296) = (m1 : Int) := by rw [IntKind.wrap_u64]; omega
    have n4 : IntKind.u64.wrap ((m1 : Int) + (u0 : Int)) = (m2 : Int) := by rw [IntKind.wrap_u64]; omega
    have n5 : IntKind.u64.wrap ((q0 : Int) * (Y : Int)) = (m3 : Int) := by
      rw [← Int.natCast_mul, ← hps, IntKind.wrap_u64]; omega
    have n6 : IntKind.u64.wrap ((m2 : Int) - (m3 : Int)) = (r0 : Int) := by rw [IntKind.wrap_u64]; omega
    have HJ1 := Lib.hid i1
    have HJ2 := Lib.hid i2
    have HJ3 := Lib.hid i3
    have HJ4 := Lib.hid i4
    clear i1 i2 i3 i4 hQ1 hR1 hr1 hq1 hq0 hr0 heq1 heq0 hz1 hz2 hz3 hm1 hm2 hm3 hpr hps hP1 hF1 hFF
    go_upto_block 2 with fail
    go_cut [18, 16] from 102 to 120 (fun a _ wx => a = .int .u64 (q0 : Int) ∧ w = wx)
    case first =>
      go_wp2_with fail
      go_loop [18, 16] (fun a b => ∃ Q R : Nat, a = .int .u64 (Q : Int) ∧ b = .int .u64 (R : Int) ∧ Q * V1 + R = r1 ∧ q0 ≤ Q ∧ Q ≤ 4294967297 ∧ R < 4294967296) (fun a _ => (intOf a).toNat)
      case atStart => exact ⟨Q1, R1, rfl, rfl, HJ4.out, HJ1.out, HJ2.out, HJ3.out⟩
      case round =>
        obtain ⟨Q, R, rfl, rfl, he, hq, hQ, hR⟩ := hrel
        have hPb : Q * V0 ≤ 4294967297 * 4294967295 := Nat.mul_le_mul hQ (by have := HD0.out.low; omega)
        obtain ⟨P, hP⟩ : ∃ P, P = Q * V0 := ⟨_, rfl⟩
        obtain ⟨G, hG⟩ : ∃ G, G = 4294967296 * R := ⟨_, rfl⟩
        obtain ⟨J, hJ⟩ : ∃ J, J = G + u0 := ⟨_, rfl⟩
        have a1 : IntKind.u64.wrap ((Q : Int) * (V0 : Int)) = (P : Int) := by
          rw [← Int.natCast_mul, ← hP]; exact u64_small P (by omega)
        have a2 : IntKind.u64.wrap (4294967296 * (R : Int)) = (G : Int) := by
          rw [show 4294967296 * (R : Int) = (G : Int) by omega]; exact u64_small G (by omega)
        have a3 : IntKind.u64.wrap ((G : Int) + (u0 : Int)) = (J : Int) := by
          rw [show (G : Int) + (u0 : Int) = (J : Int) by omega]; exact u64_small J (by have := HD0.out.small; omega)
        have b2 : IntKind.u64.wrap ((R : Int) + (V1 : Int)) = ((R + V1 : Nat) : Int) := by
          rw [← Int.natCast_add]; exact u64_small _ (by have := HD0.out.top; omega)
        obtain ⟨R', hR'⟩ : ∃ R', R' = R + V1 := ⟨_, rfl⟩
        rw [← hR'] at b2
        have hdone := fun (h : P ≤ J) => HD0.out.done he (by rw [← hP, ← hG, ← hJ]; exact h) hq
        have hmore := fun (h : 4294967296 ≤ Q ∨ J < P) => HD0.out.more he hq (by rw [← hP, ← hG, ← hJ]; exact h)
        have hstop := fun (h : q0 + 1 ≤ Q) (h2 : 4294967296 ≤ R') => HD0.out.stop (Q := Q - 1) (R := R') (by
          rw [hR', ← he]
          obtain ⟨k, hk⟩ : ∃ k, Q = k + 1 := ⟨Q - 1, by omega⟩
          rw [hk, Nat.succ_mul]; simp; omega) (by omega) (by omega) h2
        have hnext : q0 + 1 ≤ Q → (Q - 1) * V1 + R' = r1 := fun h => by
          rw [hR', ← he]
          obtain ⟨k, hk⟩ : ∃ k, Q = k + 1 := ⟨Q - 1, by omega⟩
          rw [hk, Nat.succ_mul]; simp; omega
        have HDN := Lib.hid hdone
        have HMO := Lib.hid hmore
        have HST := Lib.hid hstop
        have HNX := Lib.hid hnext
        clear hdone hmore hstop hnext he hP hG hJ hPb
        by_cases hc : 4294967296 ≤ Q ∨ J < P
        · have hm := HMO.out hc
          obtain ⟨Q', hQ'⟩ : ∃ Q', Q' = Q - 1 := ⟨_, rfl⟩
          have b1 : IntKind.u64.wrap ((Q : Int) - 1) = (Q' : Int) := by
            rw [show (Q : Int) - 1 = (Q' : Int) by omega]; exact u64_small Q' (by omega)
          have hst := HST.out hm
          have hnx := HNX.out hm
          rw [← hQ'] at hst hnx
          have KST := Lib.hid hst
          have KNX := Lib.hid hnx
          have KM := Lib.hid (show q0 ≤ Q' by omega)
          have KL := Lib.hid (show Q' < Q by omega)
          have KQ := Lib.hid hQ
          clear hst hnx hR' HDN HMO HST HNX hm hq hQ' hQ hR
          by_cases h1 : (4294967296 : Int) ≤ (Q : Int)
          · clear hc
            by_cases hb : (4294967296 : Int) ≤ (R' : Int)
            · go_wp2_with fail
              go_meet
              case rel => exact ⟨by rw [KST.out (by omega)], rfl⟩
            · go_wp2_with fail
              go_round
              case rel => exact ⟨Q', R', rfl, rfl, KNX.out, KM.out, by have := KL.out; have := KQ.out; omega, by omega⟩
              case measure =>
                have := KL.out
                simp [intOf]; omega
          · have h2 : J < P := hc.resolve_left (fun h => h1 (by omega))
            clear hc
            by_cases hb : (4294967296 : Int) ≤ (R' : Int)
            · go_wp2_with fail
              go_meet
              case rel => exact ⟨by rw [KST.out (by omega)], rfl⟩
            · go_wp2_with fail
              go_round
              case rel => exact ⟨Q', R', rfl, rfl, KNX.out, KM.out, by have := KL.out; have := KQ.out; omega, by omega⟩
              case measure =>
                have := KL.out
                simp [intOf]; omega
        · have h1 : ¬ (4294967296 : Int) ≤ (Q : Int) := fun h => hc (.inl (by omega))
          have h2 : ¬ J < P := fun h => hc (.inr h)
          have hd := HDN.out (by omega)
          have KD := Lib.hid hd
          clear hc HDN HMO HST HNX hd hq hQ hR' b2 hR
          go_wp2_with fail
          go_meet
          case rel => exact ⟨by rw [KD.out], rfl⟩
    case rest =>
      obtain ⟨rfl, rfl⟩ := hcut
      go_wp2_with fail
      go_ret2
      exact ⟨rfl, rfl⟩
end Go.Proofs.Ytfajalhpenincaa
