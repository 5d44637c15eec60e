/- A struct that reads as a whole number; trim, Minus, Same of such. -/
import Derived.Test.YtfajalhpenincaaBigOf
import Derived.Deep.RegionLaw
namespace Go.Proofs.Ytfajalhpenincaa
open Go.RowKit

/-- A big number's sign and figures. -/
structure BigOf (w : World) (s : Bool) (A : Option Addr) (n c : Nat) (ds : List Nat) (z : Int) : Prop where
  dg : Dg w A n ds
  sign : s = decide (z < 0)
  norm : Norm ds
  value : val ds = z.natAbs
  room : n ≤ c
  none : A = none → c = 0
  short : n ≤ 200
theorem BigOf.redg {w w' : World} {s : Bool} {A : Option Addr} {n c : Nat} {ds : List Nat} {z : Int} (h : BigOf w s A n c ds z) (hd : Dg w' A n ds) : BigOf w' s A n c ds z :=
  ⟨hd, h.sign, h.norm, h.value, h.room, h.none, h.short⟩
def IsBig (w : World) (x : Value) (z : Int) : Prop := ∃ s A n c ds, x = .agg #[.bool s, .slice A n c] ∧ BigOf w s A n c ds z
theorem BigOf.ext {w w' : World} {s : Bool} {A : Option Addr} {n c : Nat} {ds : List Nat} {z : Int} (h : BigOf w s A n c ds z) (hs : Stays w w') : BigOf w' s A n c ds z :=
  ⟨h.dg.ext hs, h.sign, h.norm, h.value, h.room, h.none, h.short⟩
theorem IsBig.ext {w w' : World} {x : Value} {z : Int} (h : IsBig w x z) (hs : Stays w w') : IsBig w' x z := by
  obtain ⟨s, A, n, c, ds, rfl, hb⟩ := h
  exact ⟨s, A, n, c, ds, rfl, hb.ext hs⟩

theorem trimB_any (s : Bool) (A : Option Addr) (n c : Nat) (ds : List Nat) (z : Int) (w : World) (ha : Dg w A n ds) (hn : n ≤ 1000000) (hc : n ≤ c) (hnil : A = none → c = 0)
    (hv : val ds = z.natAbs) (hs : z ≠ 0 → s = decide (z < 0)) (hz : z.natAbs < 10 ^ 200) :
    Calls Try.prog 33 #[.agg #[.bool s, .slice A n c]] w fun e w' => ∃ s' k, e = .returned (.agg #[.bool s', .slice A k c]) ∧ k ≤ n ∧ BigOf w' s' A k c (ds.take k) z ∧ Below w.heap.size w w' := by
  refine (trim_any s A n c ds w ha hn hc).mono fun e w' ⟨k, he, hk, hno, hval, hb⟩ => ⟨_, k, he, hk, ⟨(ha.take k hk).ext (stays_below hb), ?_, hno, hval.trans hv, by omega, hnil, ?_⟩, hb⟩
  · have hl : (ds.take k).length = k := by have := ha.1; simp; omega
    by_cases h0 : z = 0
    · subst h0
      have h1 := norm_zero hno (hval.trans hv)
      rw [h1] at hl
      have : k = 0 := by simpa using hl.symm
      subst this
      simp
    · have h1 : k ≠ 0 := by
        intro hk0
        subst hk0
        rw [← hval] at hv
        simp [val] at hv
        omega
      rw [← hs h0]
      simp [h1]
  · have h1 := norm_length hno 200 (by rw [hval, hv]; exact hz)
    have hl : (ds.take k).length = k := by have := ha.1; simp; omega
    omega

set_option maxHeartbeats 1000000 in
theorem minus_any (x : Value) (z : Int) (w : World) (hx : IsBig w x z) (hz : z.natAbs < 10 ^ 200) :
    Calls Try.prog 16 #[x] w fun e w' => ∃ y, e = .returned y ∧ IsBig w' y (-z) ∧ Below w.heap.size w w' := by
  obtain ⟨s, A, n, c, ds, rfl, hb⟩ := hx
  have hb1 : Below w.heap.size w ((w.alloc (.cells #[.bool s, .slice A n c] 25)).alloc (.cells #[.bool false, .slice none 0 0] 25)) := ((Below.refl _ w).alloc (Nat.le_refl _) _).alloc (by simp) _
  have hh := hb.ext (stays_below hb1)
  have C := trimB_any (!s) A n c ds (-z) _ hh.dg (by have := hh.short; omega) hh.room hh.none (by rw [hh.value]; simp) (fun h => by
    rw [hh.sign]
    by_cases h1 : z < 0
    · have : ¬ (-z < 0) := by omega
      rw [decide_eq_true h1, decide_eq_false this]; rfl
    · have : -z < 0 := by omega
      rw [decide_eq_false h1, decide_eq_true this]; rfl) (by simpa using hz)
  have D := Lib.hid C
  have hB2 : Bg ((w.alloc (.cells #[.bool s, .slice A n c] 25)).alloc (.cells #[.bool false, .slice none 0 0] 25)) (w.heap.size + 1) false (.slice none 0 0) := heap_alloc2_new w _ _
  have HB2 := Lib.hid hB2
  have HB1 := Lib.hid hb1
  have HDG := Lib.hid hb.dg
  clear C hh hb hb1 hB2
  go_enter Try.func16, Try.ntmps16
  go_wp2_with fail
  refine Calls.mono D.out ?_
  rintro e w3 ⟨s', k, rfl, hk, hbo, hb3⟩
  have hg := HB2.out.below hb3 (by simp)
  have c0 := hg.cell0
  have f0 := hg.frozen 0
  have hg0 := hg.set0 s'
  have c1 := hg0.cell1
  have f1 := hg0.frozen 1
  have hge := hg0.set1 (.slice A k c)
  have hbe : Below w.heap.size w ((w3.setCell ⟨w.heap.size + 1, 0, none⟩ (.bool s')).setCell ⟨w.heap.size + 1, 1, none⟩ (.slice A k c)) := ((HB1.out.trans (hb3.mono HB1.out.size)).setCell (by show w.heap.size ≤ w.heap.size + 1; omega) _).setCell (by show w.heap.size ≤ w.heap.size + 1; omega) _
  have hfin := hbo.redg ((HDG.out.take k hk).ext (stays_below hbe))
  have HGE := Lib.hid hge
  have HFIN := Lib.hid hfin
  have HBE := Lib.hid hbe
  clear hg hg0 hge hfin hbe hbo hb3 D HB2
  go_wp2_with fail
  refine bodyPost_ret (v := .agg #[.bool s', .slice A k c]) ?_ rfl ?_
  · exact results_cell_row rfl _ _ (w.heap.size + 1) 25 _ (0, 0) _ rfl HGE.out Try.underlying25 rfl info25
  · exact ⟨_, rfl, ⟨s', A, k, c, _, rfl, HFIN.out⟩, HBE.out⟩
end Go.Proofs.Ytfajalhpenincaa
