/- Layer 7: figures; the words of fields. -/
import Derived.Test.YtkeckjgihjpfbaaDoorAsm1
import Derived.Lib.ItoaLen
namespace Go.Proofs.YtkeckjgihjpfbaaDoor
set_option maxRecDepth 100000
open Go.RowKit

theorem var_ext {P : Program} {name : String} {w w' : World} {k : IntKind} {zs : List Int} (h : Lib.TabIs P w name k zs) (hb : Below w.heap.size w w') : Lib.TabIs P w' name k zs := by
  unfold Lib.TabIs World.var? at *
  cases hg : P.globalNamed name with
  | none => rw [hg] at h; cases h
  | some g =>
    rw [hg] at h
    rw [← h]
    simp only [Option.bind_some] at h ⊢
    have hlt : g < w.heap.size := by
      rcases Nat.lt_or_ge g w.heap.size with h1 | h1
      · exact h1
      · rw [Array.getElem?_eq_none h1] at h; cases h
    rw [hb.block g hlt]
theorem AT.ext {w w' : World} (h : AT w) (hb : Below w.heap.size w w') : AT w' :=
  ⟨h.shapes.ext hb, fun i hi => (hb.cell (p := ⟨1, i, none⟩) (World.block_lt_of_cell? w ⟨1, i, none⟩ (h.words i hi))).trans (h.words i hi), fun i hi => (hb.cell (p := ⟨2, i, none⟩) (World.block_lt_of_cell? w ⟨2, i, none⟩ (h.rels i hi))).trans (h.rels i hi), var_ext h.pow hb⟩
theorem ret_str {a b : ByteArray} (h : a = b) : Ending.returned (.string a) = Ending.returned (.string b) := by rw [h]
theorem tx_size (l : List UInt8) : (tx l).size = l.length := by simp [tx, ByteArray.size]
theorem digits_len (u : Nat) (h : u < 18446744073709551616) : (Lib.decDigits u).length ≤ 20 := by
  rw [Lib.decDigits_length]
  exact Lib.nDigits_le20 u h
theorem digits_step (u : Nat) (h : 10 ≤ u) : Lib.decDigits u = Lib.decDigits (u / 10) ++ Lib.decDigits (u % 10) := by
  rw [Lib.decDigits, dif_neg (by omega)]
  congr 1
  rw [Lib.decDigits, dif_pos (Nat.mod_lt _ (by omega))]
theorem digit_one (u : Nat) (h : u < 10) : Lib.decDigits u = [UInt8.ofNat (48 + u)] := by rw [Lib.decDigits, dif_pos h]
set_option maxHeartbeats 400000 in
theorem unsigned_any (u : Nat) : ∀ (_ : u < 18446744073709551616) (w : World), Calls Tryd.prog 87 #[.int .u64 (u : Int)] w fun e w' => e = .returned (.string (tx (Lib.decDigits u))) ∧ w = w' := by
  induction u using Nat.strongRecOn with
  | ind u ih =>
    intro hu w
    by_cases h : u < 10
    · have hc : u = 0 ∨ u = 1 ∨ u = 2 ∨ u = 3 ∨ u = 4 ∨ u = 5 ∨ u = 6 ∨ u = 7 ∨ u = 8 ∨ u = 9 := by omega
      rw [digit_one u h]
      clear ih h hu
      rcases hc with rfl | rfl | rfl | rfl | rfl | rfl | rfl | rfl | rfl | rfl
      all_goals
        go_enter Tryd.func87, Tryd.ntmps87
        go_wp2_with fail
        go_ret
        exact ⟨rfl, rfl⟩
    · have H1 := ih (u / 10) (by omega) (by omega) w
      have H2 := ih (u % 10) (by omega) (by omega) w
      have HS := Lib.hid (digits_step u (by omega))
      have d1 : decide ((u : Int) < 10) = false := decide_eq_false (by omega)
      have hz : (tx (Lib.decDigits (u / 10))).size + (tx (Lib.decDigits (u % 10))).size ≤ 9223372036854775807 := by
        have h1 := digits_len (u / 10) (by omega)
        have h2 := digits_len (u % 10) (by omega)
        rw [tx_size, tx_size]; omega
      have HA := Lib.hid (tx_append (Lib.decDigits (u / 10)) (Lib.decDigits (u % 10)))
      obtain ⟨s1, hs1⟩ : ∃ s, s = tx (Lib.decDigits (u / 10)) := ⟨_, rfl⟩
      obtain ⟨s2, hs2⟩ : ∃ s, s = tx (Lib.decDigits (u % 10)) := ⟨_, rfl⟩
      rw [← hs1] at H1 hz HA
      rw [← hs2] at H2 hz HA
      have H1 := Lib.hid H1
      have H2 := Lib.hid H2
      clear ih h hs1 hs2
      go_enter Tryd.func87, Tryd.ntmps87
      go_wp2_with fail
      refine Calls.mono H1.out ?_
      rintro e w' ⟨rfl, rfl⟩
      go_wp2_with fail
      refine Calls.mono H2.out ?_
      rintro e w' ⟨rfl, rfl⟩
      go_wp2_with fail
      go_ret
      exact ⟨ret_str (by rw [HS.out, ← HA.out]), rfl⟩
set_option maxHeartbeats 400000 in
theorem figures_any (z : Int) (hz : Fits z) (w : World) : Calls Tryd.prog 59 #[.int .i64 z] w fun e w' => e = .returned (.string (tx (Lib.itoa z))) ∧ w = w' := by
  unfold Fits at hz
  by_cases h : z < 0
  · have d1 : decide (z < 0) = true := decide_eq_true h
    have HU := unsigned_any z.natAbs (by omega) w
    rw [show ((z.natAbs : Nat) : Int) = -(z + 1) + 1 by omega] at HU
    have HS := Lib.hid (show Lib.itoa z = [45] ++ Lib.decDigits z.natAbs by unfold Lib.itoa; rw [if_pos h]; rfl)
    have HA := Lib.hid (tx_append [45] (Lib.decDigits z.natAbs))
    have hl : 1 + (tx (Lib.decDigits z.natAbs)).size ≤ 9223372036854775807 := by
      have := digits_len z.natAbs (by omega)
      rw [tx_size]; omega
    obtain ⟨s1, hs1⟩ : ∃ s, s = tx (Lib.decDigits z.natAbs) := ⟨_, rfl⟩
    rw [← hs1] at HU HA hl
    have HU := Lib.hid HU
    have h1 : -9223372036854775808 ≤ z := hz.1
    clear hs1
    go_enter Tryd.func59, Tryd.ntmps59
    go_wp2_with fail
    refine Calls.mono HU.out ?_
    rintro e w' ⟨rfl, rfl⟩
    go_wp2_with fail
    go_ret
    exact ⟨ret_str (by rw [HS.out, ← HA.out]; rfl), rfl⟩
  · have d1 : decide (z < 0) = false := decide_eq_false h
    have HU := unsigned_any z.toNat (by omega) w
    rw [show ((z.toNat : Nat) : Int) = z by omega] at HU
    have HU := Lib.hid HU
    have h0 : 0 ≤ z := by omega
    have HS := Lib.hid (show Lib.itoa z = Lib.decDigits z.toNat by unfold Lib.itoa; rw [if_neg h])
    clear h
    go_enter Tryd.func59, Tryd.ntmps59
    go_wp2_with fail
    refine Calls.mono HU.out ?_
    rintro e w' ⟨rfl, rfl⟩
    go_wp2_with fail
    go_ret
    exact ⟨ret_str (by rw [HS.out]), rfl⟩
end Go.Proofs.YtkeckjgihjpfbaaDoor
