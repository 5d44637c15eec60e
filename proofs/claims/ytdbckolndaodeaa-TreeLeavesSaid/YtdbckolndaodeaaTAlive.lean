/- The fixed fact. -/
import Derived.Test.YtdbckolndaodeaaTSetT
import Derived.Test.YtdbckolndaodeaaTDropT
import Derived.Test.YtdbckolndaodeaaTSnd
namespace Go.Proofs.Ytdbckolndaodeaa
set_option maxRecDepth 100000
open Go.RowKit

def LV (z : Nat) : List Ix := (List.range z).map fun (j : Nat) => ⟨(j : Int) + 1, ⟨(j : Int), 0, false⟩⟩
theorem LV.lt (z : Nat) : ∀ y ∈ LV z, y.k < (z : Int) + 1 := by
  intro y hy
  unfold LV at hy
  obtain ⟨j, hj, rfl⟩ := List.mem_map.1 hy
  have := List.mem_range.1 hj
  show (j : Int) + 1 < _
  omega
theorem LV.next (z : Nat) : ins (⟨(z : Int) + 1, ⟨(z : Int), 0, false⟩⟩ : Ix) (LV z) = LV (z + 1) := by
  have h := ins_new (⟨(z : Int) + 1, ⟨(z : Int), 0, false⟩⟩ : Ix) (LV z) [] (LV.lt z) (fun y hy => by simp at hy)
  rw [List.append_nil] at h
  rw [h]
  simp [LV, List.range_succ]
theorem LV.none (z : Nat) : getC ((z : Int) + 1) (LV z) = none := getC_none _ _ fun y hy => by have := LV.lt z y hy; omega
theorem LV.len (z : Nat) : (LV z).length = z := by simp [LV]
theorem TL.two {w : World} {F : Nat → Prop} {tb d : Nat} {l : List Ix} (h : TL w F tb l d) (hl : l.length = 6) : d = 1 := by
  have h1 : 0 < d := by
    rcases Nat.eq_zero_or_pos d with e | e
    · exfalso
      obtain ⟨⟨d', t⟩, m, e1, rfl, hT⟩ := h
      have e1 : d' = d := e1
      subst e1 e
      have h5 : (its 0 t).length ≤ 5 := hT.ok.few
      have h6 : (Top.items (⟨0, t⟩ : Top Cl)).length = (its 0 t).length := rfl
      omega
    · exact e
  have h2 := h.deep h1
  rcases Nat.lt_or_ge d 2 with h3 | h3
  · omega
  · have : 3 ^ 2 ≤ 3 ^ d := Nat.pow_le_pow_right (by omega) h3
    omega
set_option maxHeartbeats 8000000 in
theorem alive_any (w : World) : Calls Try.prog 8 #[] w fun e w' => e = .returned (.bool true) ∧ Below w.heap.size w w' := by
  have HN := Lib.hid (new_any w)
  go_enter Try.func8, Try.ntmps8
  go_wp2_with fail
  refine Calls.mono HN.out ?_
  rintro e w1 ⟨F1, tb, rfl, hT1, hF1, hb1⟩
  have H1 := Lib.hid (And.intro hT1 (And.intro hF1 hb1))
  clear hT1 hF1 hb1 HN
  go_wp2_with fail
  go_loopw [2, 3, 4, 8, 9, 10, 11, 12, 13, 14, 15, 16, 17, 18, 19, 20, 21] (fun _ _ _ ix _ _ _ _ _ _ _ _ _ _ _ _ _ wr => ∃ (z : Nat) (F : Nat → Prop) (d : Nat), ix = .int .i64 (z : Int) ∧ z ≤ 6 ∧ TL wr F tb (LV z) d ∧ (∀ k, F k → w.heap.size ≤ k) ∧ Below w.heap.size w wr) (fun _ _ _ ix _ _ _ _ _ _ _ _ _ _ _ _ _ _ => 6 - (intOf ix).toNat)
  case atStart => exact ⟨0, F1, 0, rfl, by omega, H1.out.1, H1.out.2.1, H1.out.2.2⟩
  case round =>
    obtain ⟨z, F, d, rfl, hz, hT, hF, hb⟩ := hrel
    have HT := Lib.hid (And.intro hT (And.intro hF hb))
    by_cases hlt : z < 6
    · have HS := Lib.hid (tset_any hT (⟨(z : Int) + 1, ⟨(z : Int), 0, false⟩⟩ : Ix) (by rw [LV.len]; omega))
      rw [LV.none, LV.next] at HS
      change Hid (Calls Try.prog _ #[_, .int .i64 ((z : Int) + 1), .agg #[.int .i64 (z : Int), .int .i64 0, .bool false]] wr fun e w' => e = .returned (.tuple #[.agg #[.int .i64 0, .int .i64 0, .bool false], .bool false]) ∧ _) at HS
      clear hT hF hb
      go_wp2_with fail
      refine Calls.mono HS.out ?_
      rintro e w2 ⟨rfl, F', d', hT', hC⟩
      have hb2 : Below w.heap.size w w2 := ⟨hC.ch.os.trans HT.out.2.2.os, hC.ch.tape.trans HT.out.2.2.tape, hC.ch.output.trans HT.out.2.2.output, Nat.le_trans HT.out.2.2.size hC.ch.size, fun k hk => (hC.ch.block k (Nat.lt_of_lt_of_le hk HT.out.2.2.size) (fun e => by have := HT.out.2.1 k e; omega)).trans (HT.out.2.2.block k hk)⟩
      have hF2 : ∀ k, F' k → w.heap.size ≤ k := fun k e => by
        rcases hC.fr k e with e | e
        · exact HT.out.2.1 k e
        · exact Nat.le_trans HT.out.2.2.size e
      have HT2 := Lib.hid (And.intro hT' (And.intro hF2 hb2))
      clear hT' hC hF2 hb2 HS
      go_wp2_with fail
      go_roundw
      case rel => exact ⟨z + 1, F', d', by go_num, by omega, HT2.out.1.below ((Below.refl _ _).alloc (Nat.le_refl _) _), HT2.out.2.1, HT2.out.2.2.alloc HT2.out.2.2.size _⟩
      case measure => simp [intOf]; omega
    · obtain rfl : z = 6 := by omega
      have hd := hT.two (LV.len 6)
      subst hd
      have HG := Lib.hid (get_any hT 4)
      rw [show getC 4 (LV 6) = some ⟨3, 0, false⟩ from rfl] at HG
      change Hid (Calls Try.prog _ #[_, .int .i64 4] wr fun e w' => e = .returned (.tuple #[.agg #[.int .i64 3, .int .i64 0, .bool false], .bool true]) ∧ _) at HG
      clear hT hF hb hlt hz
      go_wp2_with fail
      refine Calls.mono HG.out ?_
      rintro e w2 ⟨rfl, hb2⟩
      have hba : Below wr.heap.size wr (w2.alloc (.cells #[.int .i64 3, .int .i64 0, .bool false] 29)) := hb2.alloc hb2.size _
      have HT2 := Lib.hid (HT.out.1.below hba)
      have HB2 := Lib.hid (HT.out.2.2.trans (hba.mono HT.out.2.2.size))
      have HLN := Lib.hid (len_any HT2.out)
      rw [LV.len] at HLN
      have HDP := Lib.hid (deep_some HT2.out (by rw [LV.len]; omega) (by omega))
      have HSO := Lib.hid (tsound_any HT2.out (by rw [LV.len]; omega) (fun x hx => by
        unfold LV at hx
        obtain ⟨j, hj, rfl⟩ := List.mem_map.1 hx
        have := List.mem_range.1 hj
        show -9223372036854775808 ≤ (j : Int) + 1 ∧ (j : Int) + 1 ≤ 9223372036854775807
        omega))
      have c0 : ∀ o o2 : Obj, True := fun _ _ => trivial
      clear hb2 hba HG c0
      go_wp2_with fail
      refine Calls.mono HLN.out ?_
      rintro e w3 ⟨rfl, rfl⟩
      go_wp2_with fail
      refine Calls.mono HDP.out ?_
      rintro e w3 ⟨rfl, rfl⟩
      go_wp2_with fail
      refine Calls.mono HSO.out ?_
      rintro e w3 ⟨rfl, hb3⟩
      go_wp2_with fail
      go_ret
      exact ⟨rfl, HB2.out.trans (hb3.mono HB2.out.size)⟩
end Go.Proofs.Ytdbckolndaodeaa
