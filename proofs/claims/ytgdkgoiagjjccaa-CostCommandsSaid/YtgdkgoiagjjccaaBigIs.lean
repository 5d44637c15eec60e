/- A struct that reads as a whole number; trim, Minus, Same of such. -/
import Derived.Test.YtgdkgoiagjjccaaBigOf
import Derived.Deep.RegionLaw
namespace Go.Proofs.Ytgdkgoiagjjccaa
set_option maxRecDepth 100000
open Go.RowKit

/-- A big number's sign and figures. -/
structure BigOf (w : World) (s : Bool) (A : Option Addr) (n c : Nat) (ds : List Nat) (z : Int) : Prop where
  dg : Dg w A n ds
  sign : s = decide (z < 0)
  norm : Norm ds
  value : val ds = z.natAbs
  room : n ≤ c
  none : A = none → c = 0
  short : n ≤ 200
theorem BigOf.redg {w w' : World} {s : Bool} {A : Option Addr} {n c : Nat} {ds : List Nat} {z : Int} (h : BigOf w s A n c ds z) (hd : Dg w' A n ds) : BigOf w' s A n c ds z :=
  ⟨hd, h.sign, h.norm, h.value, h.room, h.none, h.short⟩
def IsBig (w : World) (x : Value) (z : Int) : Prop := ∃ s A n c ds, x = .agg #[.bool s, .slice A n c] ∧ BigOf w s A n c ds z
theorem BigOf.ext {w w' : World} {s : Bool} {A : Option Addr} {n c : Nat} {ds : List Nat} {z : Int} (h : BigOf w s A n c ds z) (hs : Stays w w') : BigOf w' s A n c ds z :=
  ⟨h.dg.ext hs, h.sign, h.norm, h.value, h.room, h.none, h.short⟩
theorem IsBig.ext {w w' : World} {x : Value} {z : Int} (h : IsBig w x z) (hs : Stays w w') : IsBig w' x z := by
  obtain ⟨s, A, n, c, ds, rfl, hb⟩ := h
  exact ⟨s, A, n, c, ds, rfl, hb.ext hs⟩

theorem trimB_any (s : Bool) (A : Option Addr) (n c : Nat) (ds : List Nat) (z : Int) (w : World) (ha : Dg w A n ds) (hn : n ≤ 1000000) (hc : n ≤ c) (hnil : A = none → c = 0)
    (hv : val ds = z.natAbs) (hs : z ≠ 0 → s = decide (z < 0)) (hz : z.natAbs < 10 ^ 200) :
    Calls Try.prog 79 #[.agg #[.bool s, .slice A n c]] w fun e w' => ∃ s' k, e = .returned (.agg #[.bool s', .slice A k c]) ∧ k ≤ n ∧ BigOf w' s' A k c (ds.take k) z ∧ Below w.heap.size w w' := by
  refine (trim_any s A n c ds w ha hn hc).mono fun e w' ⟨k, he, hk, hno, hval, hb⟩ => ⟨_, k, he, hk, ⟨(ha.take k hk).ext (stays_below hb), ?_, hno, hval.trans hv, by omega, hnil, ?_⟩, hb⟩
  · have hl : (ds.take k).length = k := by have := ha.1; simp; omega
    by_cases h0 : z = 0
    · subst h0
      have h1 := norm_zero hno (hval.trans hv)
      rw [h1] at hl
      have : k = 0 := by simpa using hl.symm
      subst this
      simp
    · have h1 : k ≠ 0 := by
        intro hk0
        subst hk0
        rw [← hval] at hv
        simp [val] at hv
        omega
      rw [← hs h0]
      simp [h1]
  · have h1 := norm_length hno 200 (by rw [hval, hv]; exact hz)
    have hl : (ds.take k).length = k := by have := ha.1; simp; omega
    omega

end Go.Proofs.Ytgdkgoiagjjccaa
