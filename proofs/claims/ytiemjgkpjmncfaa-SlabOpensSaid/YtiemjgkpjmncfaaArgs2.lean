/- A sector that came in, opened. -/
import Derived.Test.YtiemjgkpjmncfaaAlive
import Derived.ProofKit
import Derived.OpenShut
namespace Go.Proofs.Ytiemjgkpjmncfaa
set_option maxRecDepth 100000
open Go.ChangeShapes Go.WideShapes Go.ChangeAt Go.RowKit

def natIn : Value → Nat
  | .int _ n => n.toNat
  | _ => 0
theorem cell_u8 {w : World} {r : Reach} {base : Nat} {v : Value} (hc : Cell.okWide Try.prog w r base 5 v) : v = Value.int .u8 ((natIn v : Nat) : Int) ∧ natIn v < 256 := by
  unfold Cell.okWide at hc
  rw [Try.underlying5] at hc
  cases v with
  | int q n =>
    simp only [Cell.ok] at hc
    obtain ⟨rfl, h⟩ := hc
    have h1 : 0 ≤ n := (show IntKind.u8.min = 0 by decide) ▸ h.1
    have h2 : n ≤ 255 := (show IntKind.u8.max = 255 by decide) ▸ h.2
    exact ⟨by simp only [natIn]; rw [Int.toNat_of_nonneg h1], by simp only [natIn]; omega⟩
  | _ => simp_all [Cell.ok]
theorem open_sector {w : World} {r : Reach} {base : Nat} {v : Value} (h : Value.okWide Try.prog w r base 50 v) : ∃ l : List Nat, v = .agg (secV l) ∧ l.length = 64 ∧ ∀ x ∈ l, x < 256 := by
  unfold Value.okWide at h
  rw [Try.underlying50] at h
  obtain ⟨cs, rfl, hsz, ts, h1, _, h3⟩ := h
  have hts : Try.prog.cellTypes Try.prog.depth 50 = some (List.replicate 64 5) := by kernel_rfl
  have hk : Try.prog.cellsOf 50 = 64 := by kernel_rfl
  rw [hts] at h1
  injection h1 with h1
  subst h1
  have hall : ∀ (i : Nat) (v : Value), cs[i]? = some v → v = Value.int .u8 ((natIn v : Nat) : Int) ∧ natIn v < 256 := by
    intro i v hv
    obtain ⟨u, hu, hc⟩ := h3 i v hv
    have hu5 : u = 5 := (List.mem_replicate.1 (List.mem_of_getElem? hu)).2
    subst hu5
    exact cell_u8 hc
  refine ⟨cs.toList.map natIn, ?_, by simp [hsz, hk], ?_⟩
  · congr 1
    unfold secV valsB
    rw [List.map_map]
    apply Array.ext
    · simp
    · intro i h1 h2
      have he := (hall i cs[i] (by simp [h1])).1
      simp only [List.getElem_toArray, List.getElem_map, Function.comp, Array.getElem_toList]
      exact he
  · intro x hx
    simp only [List.mem_map] at hx
    obtain ⟨v, hv, rfl⟩ := hx
    obtain ⟨i, hi, he⟩ := List.getElem_of_mem hv
    exact (hall i v (by rw [← he]; simp at hi ⊢)).2
end Go.Proofs.Ytiemjgkpjmncfaa
