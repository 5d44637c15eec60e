/- The contract of the reference's Add: unlike signs, the first is less. -/
import Derived.Test.YtfajalhpenincaaBigAddS
namespace Go.Proofs.Ytfajalhpenincaa
open Go.RowKit

set_option maxHeartbeats 4000000 in
theorem add_less (s t : Bool) (A A2 : Option Addr) (n c n2 c2 : Nat) (ds es : List Nat) (a b : Int) (w : World) (ha : BigOf w s A n c ds a) (hb : BigOf w t A2 n2 c2 es b) (hz : (a + b).natAbs < 10 ^ 200) (hst : ¬ s = t) (hlt : val ds < val es) :
    Calls Try.prog 15 #[.agg #[.bool s, .slice A n c], .agg #[.bool t, .slice A2 n2 c2]] w fun e w' => ∃ v, e = .returned v ∧ IsBig w' v (a + b) ∧ Below w.heap.size w w' := by
  have hb1 := aw_below w s A n c t A2 n2 c2
  have ga : BigOf (aw w s A n c t A2 n2 c2).drew s A n c ds a := (ha.ext (stays_below hb1)).ext (fun p _ => by simp)
  have gb : BigOf (aw w s A n c t A2 n2 c2).drew t A2 n2 c2 es b := (hb.ext (stays_below hb1)).ext (fun p _ => by simp)
  have hne : (s == t) = false := by rw [beq_eq_false_iff_ne]; exact hst
  have hsh : n + n2 + 1 ≤ 1000 := by have := ga.short; have := gb.short; omega
  have va := ga.value
  have vb := gb.value
  have sa := ga.sign
  have sb := gb.sign
  have CL := less_any A n c ds A2 n2 c2 es (aw w s A n c t A2 n2 c2) (ha.ext (stays_below hb1)).dg (hb.ext (stays_below hb1)).dg (by omega) (by omega)
  have hab : ¬ (a < 0 ↔ b < 0) := fun h => hst (by rw [sa, sb]; exact decide_eq_decide.2 h)
  rw [decide_eq_true hlt] at CL
  have DL := Lib.hid CL
  have C := rest_any A2 n2 c2 es A n c ds _ gb.dg ga.dg (by omega) (by omega) (Nat.le_of_lt hlt)
  have hval : val es - val ds = (a + b).natAbs := by omega
  rw [hval] at C
  have hsg : a + b ≠ 0 → t = decide (a + b < 0) := fun _ => by rw [sb]; exact decide_eq_decide.2 (by omega)
  have D := Lib.hid C
  have HA0 := Lib.hid (show Bg (aw w s A n c t A2 n2 c2).drew w.heap.size s (.slice A n c) from aw_0 w s A n c t A2 n2 c2)
  have HA1 := Lib.hid (show Bg (aw w s A n c t A2 n2 c2).drew (w.heap.size + 1) t (.slice A2 n2 c2) from aw_1 w s A n c t A2 n2 c2)
  have HA2 := Lib.hid (show Bg (aw w s A n c t A2 n2 c2).drew (w.heap.size + 1 + 1) false (.slice none 0 0) from aw_2 w s A n c t A2 n2 c2)
  have HB1 := Lib.hid (show Below w.heap.size w (aw w s A n c t A2 n2 c2).drew from hb1.drew)
  have HSG := Lib.hid hsg
  have HSZ := Lib.hid (show (aw w s A n c t A2 n2 c2).drew.heap.size = w.heap.size + 1 + 1 + 1 from aw_size w s A n c t A2 n2 c2)
  have HZ := Lib.hid hz
  clear C CL ga gb ha hb hb1 hval hsg hz va vb sa sb hab hlt hst
  go_enter Try.func15, Try.ntmps15
  go_wp2_with fail
  refine Calls.mono DL.out ?_
  rintro e w9 ⟨rfl, rfl⟩
  go_wp2_with fail
  go_region_law (first | (go_simp; go_at_call 36; refine Calls.mono D.out ?_; rintro e w3 ⟨v, rfl, fs, ho, hf, hv, hl, hb3⟩; have HLN := Lib.hid hl; clear hl; obtain ⟨A3, c3, rfl, hd3, hnil3, hle3⟩ := ho.dg hf; have k0 := (Bg.below HA1.out hb3 (by rw [HSZ.out]; omega)).cell0; have hq2 := Bg.below HA2.out hb3 (by rw [HSZ.out]; omega)) | (go_simp; go_at_call 33; refine Calls.mono (trimB_any t A3 fs.length c3 fs (a + b) w3 hd3 (by have := HLN.out; omega) hle3 hnil3 hv HSG.out HZ.out) ?_; rintro e w4 ⟨s', k, rfl, hk, hbo, hb4⟩; have hq4 := hq2.below hb4 hq2.lt; have c0 := hq4.cell0; have f0 := hq4.frozen 0; have c1 := (hq4.set0 s').cell1; have f1 := (hq4.set0 s').frozen 1))
  all_goals
    obtain ⟨i1, i2, i3⟩ := laid w w3 w4 (aw w s A n c t A2 n2 c2).drew.heap.size s' A3 c3 k fs (a + b) (w.heap.size + 1 + 1) (by omega) (by rw [HSZ.out]; omega) hb3.size (HB1.out.trans (hb3.mono HB1.out.size)) hq2 ho hf hk hbo hb4
    have I1 := Lib.hid i1
    have I2 := Lib.hid i2
    have I3 := Lib.hid i3
    clear i1 i2 i3 hb3 hb4 hbo hd3 ho hq2 hq4 c0 f0 c1 f1 k0
    go_wp2_with fail
    refine bodyPost_ret (v := .agg #[.bool s', .slice A3 k c3]) ?_ rfl ?_
    · exact results_cell_row rfl _ _ (w.heap.size + 1 + 1) 25 _ (0, 0) _ rfl I3.out Try.underlying25 rfl info25
    · exact ⟨_, rfl, I1.out, I2.out⟩
end Go.Proofs.Ytfajalhpenincaa
