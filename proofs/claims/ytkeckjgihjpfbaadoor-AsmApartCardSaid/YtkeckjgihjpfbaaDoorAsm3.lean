/- Layer 7: the words of fields. -/
import Derived.Test.YtkeckjgihjpfbaaDoorAsm2
import Derived.Test.YtkeckjgihjpfbaaDoorValue
namespace Go.Proofs.YtkeckjgihjpfbaaDoor
set_option maxRecDepth 100000
open Go.RowKit

set_option maxHeartbeats 1000000 in
theorem afield_any (g l : Nat) (w : World) : Calls Tryd.prog 82 #[.pointer (some ⟨g, 0, none⟩), .int .u8 (l : Int)] w fun e w' => e = .returned (.pointer (some ⟨g, offL l, none⟩)) ∧ w = w' := by
  by_cases h1 : l = 97
  · subst h1
    go_enter Tryd.func82, Tryd.ntmps82
    go_wp2_with fail
    go_ret
    exact ⟨rfl, rfl⟩
  by_cases h2 : l = 115
  · subst h2
    go_enter Tryd.func82, Tryd.ntmps82
    go_wp2_with fail
    go_ret
    exact ⟨rfl, rfl⟩
  by_cases h3 : l = 98
  · subst h3
    go_enter Tryd.func82, Tryd.ntmps82
    go_wp2_with fail
    go_ret
    exact ⟨rfl, rfl⟩
  by_cases h4 : l = 99
  · subst h4
    go_enter Tryd.func82, Tryd.ntmps82
    go_wp2_with fail
    go_ret
    exact ⟨rfl, rfl⟩
  by_cases h5 : l = 116
  · subst h5
    go_enter Tryd.func82, Tryd.ntmps82
    go_wp2_with fail
    go_ret
    exact ⟨rfl, rfl⟩
  have e : offL l = 5 := by simp [offL, h1, h2, h3, h4, h5]
  have d1 : ((l : Int) == 97) = false := by rw [beq_eq_false_iff_ne]; omega
  have d2 : ((l : Int) == 115) = false := by rw [beq_eq_false_iff_ne]; omega
  have d3 : ((l : Int) == 98) = false := by rw [beq_eq_false_iff_ne]; omega
  have d4 : ((l : Int) == 99) = false := by rw [beq_eq_false_iff_ne]; omega
  have d5 : ((l : Int) == 116) = false := by rw [beq_eq_false_iff_ne]; omega
  rw [e]
  clear e h1 h2 h3 h4 h5
  go_enter Tryd.func82, Tryd.ntmps82
  go_wp2_with fail
  go_ret
  exact ⟨rfl, rfl⟩
set_option maxHeartbeats 2000000 in
theorem rvalue_any (x : Ins) (l : Nat) (w : World) : Calls Tryd.prog 62 #[x.val, .int .u8 (l : Int)] w fun e w' => e = .returned (.int .i64 (x.get (offL l))) ∧ Below w.heap.size w w' := by
  have HBA := Lib.hid ((Below.refl w.heap.size w).alloc (Nat.le_refl _) (.cells #[.int .i64 x.op, .int .i64 x.a, .int .i64 x.b, .int .i64 x.c, .int .i64 x.t, .int .i64 x.n] 43))
  unfold Ins.val
  by_cases h1 : l = 97
  · subst h1
    go_enter Tryd.func62, Tryd.ntmps62
    go_wp2_with fail
    go_ret
    exact ⟨rfl, HBA.out⟩
  by_cases h2 : l = 115
  · subst h2
    go_enter Tryd.func62, Tryd.ntmps62
    go_wp2_with fail
    go_ret
    exact ⟨rfl, HBA.out⟩
  by_cases h3 : l = 98
  · subst h3
    go_enter Tryd.func62, Tryd.ntmps62
    go_wp2_with fail
    go_ret
    exact ⟨rfl, HBA.out⟩
  by_cases h4 : l = 99
  · subst h4
    go_enter Tryd.func62, Tryd.ntmps62
    go_wp2_with fail
    go_ret
    exact ⟨rfl, HBA.out⟩
  by_cases h5 : l = 116
  · subst h5
    go_enter Tryd.func62, Tryd.ntmps62
    go_wp2_with fail
    go_ret
    exact ⟨rfl, HBA.out⟩
  have HE := Lib.hid (show x.get (offL l) = x.n by rw [show offL l = 5 by simp [offL, h1, h2, h3, h4, h5]]; rfl)
  have d1 : ((l : Int) == 97) = false := by rw [beq_eq_false_iff_ne]; omega
  have d2 : ((l : Int) == 115) = false := by rw [beq_eq_false_iff_ne]; omega
  have d3 : ((l : Int) == 98) = false := by rw [beq_eq_false_iff_ne]; omega
  have d4 : ((l : Int) == 99) = false := by rw [beq_eq_false_iff_ne]; omega
  have d5 : ((l : Int) == 116) = false := by rw [beq_eq_false_iff_ne]; omega
  clear h1 h2 h3 h4 h5
  go_enter Tryd.func62, Tryd.ntmps62
  go_wp2_with fail
  go_ret
  exact ⟨by rw [HE.out]; rfl, HBA.out⟩
/-- The mark ahead of a field's figures; a relation's sign; a field's word. -/
def markL (l : Nat) : List UInt8 := if l = 97 ∨ l = 98 ∨ l = 99 then [114] else if l = 116 then [116] else []
def signL (z : Int) : List UInt8 := if z = 0 then [60] else if z = 1 then [61] else if z = 2 then [62] else if z = 3 then [60, 62] else [63]
def fieldW (l : Nat) (z : Int) : List UInt8 := if l = 106 then signL z else markL l ++ Lib.itoa z
set_option maxHeartbeats 1000000 in
theorem mark_any (l : Nat) (w : World) : Calls Tryd.prog 93 #[.int .u8 (l : Int)] w fun e w' => e = .returned (.string (tx (markL l))) ∧ w = w' := by
  by_cases h1 : l = 97
  · subst h1
    go_enter Tryd.func93, Tryd.ntmps93
    go_wp2_with fail
    go_ret
    exact ⟨rfl, rfl⟩
  by_cases h2 : l = 98
  · subst h2
    go_enter Tryd.func93, Tryd.ntmps93
    go_wp2_with fail
    go_ret
    exact ⟨rfl, rfl⟩
  by_cases h3 : l = 99
  · subst h3
    go_enter Tryd.func93, Tryd.ntmps93
    go_wp2_with fail
    go_ret
    exact ⟨rfl, rfl⟩
  by_cases h4 : l = 116
  · subst h4
    go_enter Tryd.func93, Tryd.ntmps93
    go_wp2_with fail
    go_ret
    exact ⟨rfl, rfl⟩
  have HE := Lib.hid (show markL l = [] by simp [markL, h1, h2, h3, h4])
  have d1 : ((l : Int) == 97) = false := by rw [beq_eq_false_iff_ne]; omega
  have d2 : ((l : Int) == 98) = false := by rw [beq_eq_false_iff_ne]; omega
  have d3 : ((l : Int) == 99) = false := by rw [beq_eq_false_iff_ne]; omega
  have d4 : ((l : Int) == 116) = false := by rw [beq_eq_false_iff_ne]; omega
  clear h1 h2 h3 h4
  go_enter Tryd.func93, Tryd.ntmps93
  go_wp2_with fail
  go_ret
  exact ⟨ret_str (by rw [HE.out]; rfl), rfl⟩
theorem below_grow {w : World} (k : Nat) (os : Array Obj) : Below w.heap.size w (Sort.grow (w.drewN k) os) := by
  refine ⟨rfl, rfl, rfl, ?_, fun b hb => ?_⟩
  · simp [Sort.grow]
  · show (w.heap ++ os)[b]? = _
    rw [Array.getElem?_append_left hb]
theorem itoa_len (z : Int) (hz : Fits z) : (Lib.itoa z).length ≤ 21 := Lib.itoa_length_le z hz.1 hz.2
theorem mark_len (l : Nat) : (markL l).length ≤ 1 := by
  unfold markL
  split
  · decide
  · split <;> decide
theorem sign_any (z : Int) (w : World) : Calls Tryd.prog 63 #[.int .i64 z] w fun e w' => e = .returned (.string (tx (signL z))) ∧ w = w' := by
  by_cases h : z = 0 ∨ z = 1 ∨ z = 2 ∨ z = 3
  · rcases h with rfl | rfl | rfl | rfl
    all_goals
      go_enter Tryd.func63, Tryd.ntmps63
      go_wp2_with fail
      go_ret
      exact ⟨rfl, rfl⟩
  · have HE := Lib.hid (show signL z = [63] by unfold signL; rw [if_neg (by omega), if_neg (by omega), if_neg (by omega), if_neg (by omega)])
    have d0 : (z == 0) = false := by rw [beq_eq_false_iff_ne]; omega
    have d1 : (z == 1) = false := by rw [beq_eq_false_iff_ne]; omega
    have d2 : (z == 2) = false := by rw [beq_eq_false_iff_ne]; omega
    have d3 : (z == 3) = false := by rw [beq_eq_false_iff_ne]; omega
    clear h
    go_enter Tryd.func63, Tryd.ntmps63
    go_wp2_with fail
    go_ret
    exact ⟨ret_str (by rw [HE.out]; rfl), rfl⟩
set_option maxHeartbeats 1000000 in
theorem show_any (l : Nat) (z : Int) (hz : Fits z) (w : World) (hT : AT w) : Calls Tryd.prog 81 #[.int .u8 (l : Int), .int .i64 z] w fun e w' => e = .returned (.string (tx (fieldW l z))) ∧ Below w.heap.size w w' := by
  by_cases hj : l = 106
  · subst hj
    have HE := Lib.hid (show fieldW 106 z = signL z from rfl)
    by_cases h : 0 ≤ z ∧ z < 4
    · obtain ⟨k, rfl⟩ := Int.eq_ofNat_of_zero_le h.1
      have hc := hT.rels k (by omega)
      have HS := Lib.hid (show signL (k : Int) = (relsS[k]?).getD [] by
        have hk : k = 0 ∨ k = 1 ∨ k = 2 ∨ k = 3 := by omega
        rcases hk with rfl | rfl | rfl | rfl <;> rfl)
      obtain ⟨s, hs⟩ : ∃ s, s = tx ((relsS[k]?).getD []) := ⟨_, rfl⟩
      rw [← hs] at hc
      have HSS := Lib.hid hs
      have d1 : decide ((k : Int) < 0) = false := decide_eq_false (by omega)
      have d2 : decide ((4 : Int) ≤ (k : Int)) = false := decide_eq_false (by omega)
      clear hT hs
      go_enter Tryd.func81, Tryd.ntmps81
      go_wp2_with fail
      go_ret
      exact ⟨ret_str (by rw [HE.out, HS.out, HSS.out]), Below.refl _ _⟩
    · have HS := Lib.hid (show signL z = [63] by unfold signL; rw [if_neg (by omega), if_neg (by omega), if_neg (by omega), if_neg (by omega)])
      by_cases h1 : z < 0
      · have d1 : decide (z < 0) = true := decide_eq_true h1
        clear hT h
        go_enter Tryd.func81, Tryd.ntmps81
        go_wp2_with fail
        go_ret
        exact ⟨ret_str (by rw [HE.out, HS.out]; rfl), Below.refl _ _⟩
      · have d1 : decide (z < 0) = false := decide_eq_false h1
        have d2 : decide ((4 : Int) ≤ z) = true := decide_eq_true (by omega)
        clear hT h
        go_enter Tryd.func81, Tryd.ntmps81
        go_wp2_with fail
        go_ret
        exact ⟨ret_str (by rw [HE.out, HS.out]; rfl), Below.refl _ _⟩
  · have HE := Lib.hid (show fieldW l z = markL l ++ Lib.itoa z from if_neg hj)
    have d1 : ((l : Int) != 106) = true := by rw [bne_iff_ne]; omega
    have HM := Lib.hid (mark_any l w)
    have HI := Lib.hid (Tryd.strconv_Itoa z hz.1 hz.2 w hT.pow)
    have hl : (tx (markL l)).size + (tx (Lib.itoa z)).size ≤ 9223372036854775807 := by
      have h1 := mark_len l
      have h2 := itoa_len z hz
      rw [tx_size, tx_size]; omega
    have HA := Lib.hid (tx_append (markL l) (Lib.itoa z))
    change Hid (Calls _ _ _ _ fun e w' => e = .returned (.string (tx (Lib.itoa z))) ∧ _) at HI
    obtain ⟨s1, hs1⟩ : ∃ s, s = tx (markL l) := ⟨_, rfl⟩
    obtain ⟨s2, hs2⟩ : ∃ s, s = tx (Lib.itoa z) := ⟨_, rfl⟩
    rw [← hs1] at HM hl HA
    rw [← hs2] at HI hl HA
    clear hj hT hs1 hs2
    go_enter Tryd.func81, Tryd.ntmps81
    go_wp2_with fail
    refine Calls.mono HM.out ?_
    rintro e w' ⟨rfl, rfl⟩
    go_wp2_with fail
    refine Calls.mono HI.out ?_
    rintro e w' ⟨rfl, k, os, rfl⟩
    go_wp2_with fail
    go_ret
    exact ⟨ret_str (by rw [HE.out, HA.out]), below_grow k os⟩
end Go.Proofs.YtkeckjgihjpfbaaDoor
