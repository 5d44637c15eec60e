/- The contract of the reference's Add. -/
import Derived.Test.YtfajalhpenincaaBigNumber
namespace Go.Proofs.Ytfajalhpenincaa
open Go.RowKit

/-- The world of Add: the two numbers, and the answer's room. -/
abbrev aw (w : World) (s : Bool) (A : Option Addr) (n c : Nat) (t : Bool) (A2 : Option Addr) (n2 c2 : Nat) : World :=
  ((w.alloc (.cells #[.bool s, .slice A n c] 25)).alloc (.cells #[.bool t, .slice A2 n2 c2] 25)).alloc (.cells #[.bool false, .slice none 0 0] 25)
theorem aw_below (w : World) (s : Bool) (A : Option Addr) (n c : Nat) (t : Bool) (A2 : Option Addr) (n2 c2 : Nat) : Below w.heap.size w (aw w s A n c t A2 n2 c2) :=
  (((Below.refl _ w).alloc (Nat.le_refl _) _).alloc (by simp) _).alloc (by simp; omega) _
theorem aw_size (w : World) (s : Bool) (A : Option Addr) (n c : Nat) (t : Bool) (A2 : Option Addr) (n2 c2 : Nat) : (aw w s A n c t A2 n2 c2).heap.size = w.heap.size + 1 + 1 + 1 := by simp [aw]
theorem aw_0 (w : World) (s : Bool) (A : Option Addr) (n c : Nat) (t : Bool) (A2 : Option Addr) (n2 c2 : Nat) : Bg (aw w s A n c t A2 n2 c2) w.heap.size s (.slice A n c) :=
  ((box_one w s _).alloc _).alloc _
theorem aw_1 (w : World) (s : Bool) (A : Option Addr) (n c : Nat) (t : Bool) (A2 : Option Addr) (n2 c2 : Nat) : Bg (aw w s A n c t A2 n2 c2) (w.heap.size + 1) t (.slice A2 n2 c2) := by
  have h := (box_one (w.alloc (.cells #[.bool s, .slice A n c] 25)) t (.slice A2 n2 c2)).alloc (.cells #[.bool false, .slice none 0 0] 25)
  rw [World.size_alloc] at h
  exact h
theorem aw_2 (w : World) (s : Bool) (A : Option Addr) (n c : Nat) (t : Bool) (A2 : Option Addr) (n2 c2 : Nat) : Bg (aw w s A n c t A2 n2 c2) (w.heap.size + 1 + 1) false (.slice none 0 0) := by
  have h := box_one ((w.alloc (.cells #[.bool s, .slice A n c] 25)).alloc (.cells #[.bool t, .slice A2 n2 c2] 25)) false (.slice none 0 0)
  rw [World.size_alloc, World.size_alloc] at h
  exact h

/-- What is left to do behind the trim: the answer laid down. -/
theorem laid (w w3 w4 : World) (B : Nat) (s' : Bool) (A3 : Option Addr) (c3 k : Nat) (es : List Nat) (z : Int) (g : Nat) (hg : w.heap.size ≤ g) (hgB : g < B) (hB : B ≤ w3.heap.size)
    (hb3 : Below w.heap.size w w3) (hbg : Bg w3 g false (.slice none 0 0)) (ho : Own w3 B (.slice A3 es.length c3) es) (hf : Fig es) (hk : k ≤ es.length)
    (hbo : BigOf w4 s' A3 k c3 (es.take k) z) (hb4 : Below w3.heap.size w3 w4) :
    IsBig ((w4.setCell ⟨g, 0, none⟩ (.bool s')).setCell ⟨g, 1, none⟩ (.slice A3 k c3)) (.agg #[.bool s', .slice A3 k c3]) z ∧
    Below w.heap.size w ((w4.setCell ⟨g, 0, none⟩ (.bool s')).setCell ⟨g, 1, none⟩ (.slice A3 k c3)) ∧
    Bg ((w4.setCell ⟨g, 0, none⟩ (.bool s')).setCell ⟨g, 1, none⟩ (.slice A3 k c3)) g s' (.slice A3 k c3) := by
  have h4 := hbg.below hb4 (by omega)
  have ho4 : Own w4 B (.slice A3 es.length c3) es := by
    refine ⟨ho.1, ?_⟩
    rcases ho.2 with h0 | ⟨g', cap, cur, hv, hb, hgg, hrest⟩
    · exact .inl h0
    · exact .inr ⟨g', cap, cur, hv, hb, (hb4.block g' (Array.getElem?_eq_some_iff.1 hgg).1).trans hgg, hrest⟩
  have ho5 := own_set (own_set ho4 ⟨g, 0, none⟩ (.bool s') hgB) ⟨g, 1, none⟩ (.slice A3 k c3) hgB
  obtain ⟨A5, c5, he, hd, _⟩ := ho5.dg hf
  injection he with e1 e2 e3
  subst e1 e3
  exact ⟨⟨_, _, _, _, _, rfl, hbo.redg (hd.take k hk)⟩, ((hb3.trans (hb4.mono hb3.size)).setCell (by exact hg) _).setCell (by exact hg) _, (h4.set0 s').set1 _⟩

set_option maxHeartbeats 4000000 in
theorem add_same (s t : Bool) (A A2 : Option Addr) (n c n2 c2 : Nat) (ds es : List Nat) (a b : Int) (w : World) (ha : BigOf w s A n c ds a) (hb : BigOf w t A2 n2 c2 es b) (hz : (a + b).natAbs < 10 ^ 200) (hst : s = t) :
    Calls Try.prog 15 #[.agg #[.bool s, .slice A n c], .agg #[.bool t, .slice A2 n2 c2]] w fun e w' => ∃ v, e = .returned v ∧ IsBig w' v (a + b) ∧ Below w.heap.size w w' := by
  have hb1 := aw_below w s A n c t A2 n2 c2
  have ga : BigOf (aw w s A n c t A2 n2 c2).drew s A n c ds a := (ha.ext (stays_below hb1)).ext (fun p _ => by simp)
  have gb : BigOf (aw w s A n c t A2 n2 c2).drew t A2 n2 c2 es b := (hb.ext (stays_below hb1)).ext (fun p _ => by simp)
  subst hst
  have hval : val ds + val es = (a + b).natAbs := by
    have h1 := ga.value
    have h2 := gb.value
    have h3 := ga.sign.symm.trans gb.sign
    have h4 : a < 0 ↔ b < 0 := by simpa using h3
    omega
  have hsg : a + b ≠ 0 → s = decide (a + b < 0) := by
    intro h
    have h3 := ga.sign.symm.trans gb.sign
    have h4 : a < 0 ↔ b < 0 := by simpa using h3
    rw [ga.sign]
    exact decide_eq_decide.2 (by omega)
  have C := sum_any A n c ds A2 n2 c2 es _ ga.dg gb.dg (by have := ga.short; omega) (by have := gb.short; omega)
  rw [hval] at C
  have hsh : n + n2 + 1 ≤ 1000 := by have := ga.short; have := gb.short; omega
  have D := Lib.hid C
  have HA0 := Lib.hid (show Bg (aw w s A n c s A2 n2 c2).drew w.heap.size s (.slice A n c) from aw_0 w s A n c s A2 n2 c2)
  have HA1 := Lib.hid (show Bg (aw w s A n c s A2 n2 c2).drew (w.heap.size + 1) s (.slice A2 n2 c2) from aw_1 w s A n c s A2 n2 c2)
  have HA2 := Lib.hid (show Bg (aw w s A n c s A2 n2 c2).drew (w.heap.size + 1 + 1) false (.slice none 0 0) from aw_2 w s A n c s A2 n2 c2)
  have HB1 := Lib.hid (show Below w.heap.size w (aw w s A n c s A2 n2 c2).drew from hb1.drew)
  have HSG := Lib.hid hsg
  have HSZ := Lib.hid (show (aw w s A n c s A2 n2 c2).drew.heap.size = w.heap.size + 1 + 1 + 1 from aw_size w s A n c s A2 n2 c2)
  have HZ := Lib.hid hz
  clear C ga gb ha hb hb1 hval hsg hz
  go_enter Try.func15, Try.ntmps15
  go_wp2_with fail
  go_region_law (first | (go_simp; go_at_call 34; refine Calls.mono D.out ?_; rintro e w3 ⟨v, rfl, fs, ho, hf, hv, hl, hb3⟩; obtain ⟨A3, c3, rfl, hd3, hnil3, hle3⟩ := ho.dg hf; have k0 := (Bg.below HA0.out hb3 (by rw [HSZ.out]; omega)).cell0; have hq2 := Bg.below HA2.out hb3 (by rw [HSZ.out]; omega)) | (go_simp; go_at_call 33; refine Calls.mono (trimB_any s A3 fs.length c3 fs (a + b) w3 hd3 (by omega) hle3 hnil3 hv HSG.out HZ.out) ?_; rintro e w4 ⟨s', k, rfl, hk, hbo, hb4⟩; have hq4 := hq2.below hb4 hq2.lt; have c0 := hq4.cell0; have f0 := hq4.frozen 0; have c1 := (hq4.set0 s').cell1; have f1 := (hq4.set0 s').frozen 1))
  all_goals
    obtain ⟨i1, i2, i3⟩ := laid w w3 w4 (aw w s A n c s A2 n2 c2).drew.heap.size s' A3 c3 k fs (a + b) (w.heap.size + 1 + 1) (by omega) (by rw [HSZ.out]; omega) hb3.size (HB1.out.trans (hb3.mono HB1.out.size)) hq2 ho hf hk hbo hb4
    have I1 := Lib.hid i1
    have I2 := Lib.hid i2
    have I3 := Lib.hid i3
    clear i1 i2 i3 hb3 hb4 hbo hd3 ho hq2 hq4 c0 f0 c1 f1 k0
    go_wp2_with fail
    refine bodyPost_ret (v := .agg #[.bool s', .slice A3 k c3]) ?_ rfl ?_
    · exact results_cell_row rfl _ _ (w.heap.size + 1 + 1) 25 _ (0, 0) _ rfl I3.out Try.underlying25 rfl info25
    · exact ⟨_, rfl, I1.out, I2.out⟩
end Go.Proofs.Ytfajalhpenincaa
