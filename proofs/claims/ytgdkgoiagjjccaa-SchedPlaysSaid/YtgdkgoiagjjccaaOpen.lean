/- Struct arguments of whole numbers, opened. -/
import Derived.Test.YtgdkgoiagjjccaaSteady
import Derived.OpenShut
namespace Go.Proofs.Ytgdkgoiagjjccaa
set_option maxRecDepth 100000
open Go.RowKit

def intIn : Value → Int
  | .int _ n => n
  | _ => 0
theorem okWide_ints {w : World} {r : Reach} {base : Nat} {t : TypeId} {v : Value} (k : Nat) (hu : ∃ fs, Try.prog.underlying t = some (.struct fs)) (hts : Try.prog.cellTypes Try.prog.depth t = some (List.replicate k 3)) (hk : Try.prog.cellsOf t = k)
    (h : Value.okWide Try.prog w r base t v) : ∃ zs : List Int, v = .agg (zs.map (Value.int .i64)).toArray ∧ zs.length = k ∧ ∀ z ∈ zs, Fits z := by
  obtain ⟨fs, hfs⟩ := hu
  unfold Value.okWide at h
  rw [hfs] at h
  obtain ⟨cs, rfl, hsz, ts, h1, _, h3⟩ := h
  rw [hts] at h1
  injection h1 with h1
  subst h1
  have hall : ∀ (i : Nat) (v : Value), cs[i]? = some v → ∃ n : Int, v = Value.int .i64 n ∧ Fits n := by
    intro i v hv
    obtain ⟨u, hu, hc⟩ := h3 i v hv
    have hu3 : u = 3 := (List.mem_replicate.1 (List.mem_of_getElem? hu)).2
    subst hu3
    unfold Cell.okWide at hc
    rw [Try.underlying3] at hc
    cases v with
    | int q n =>
      simp only [Cell.ok] at hc
      obtain ⟨rfl, h⟩ := hc
      exact ⟨n, rfl, (show IntKind.i64.min = -9223372036854775808 by decide) ▸ h.1, (show IntKind.i64.max = 9223372036854775807 by decide) ▸ h.2⟩
    | _ => simp_all [Cell.ok]
  refine ⟨cs.toList.map intIn, ?_, by simp [hsz, hk], ?_⟩
  · congr 1
    apply Array.ext
    · simp
    · intro i h1 h2
      obtain ⟨n, he, _⟩ := hall i cs[i] (by simp [h1])
      simp [he, intIn]
  · intro z hz
    simp only [List.mem_map] at hz
    obtain ⟨v, hv, rfl⟩ := hz
    obtain ⟨i, hi, he⟩ := List.getElem_of_mem hv
    obtain ⟨n, hn, hf⟩ := hall i v (by rw [← he]; simp at hi ⊢)
    rw [hn]; exact hf

theorem list8 (zs : List Int) (h : zs.length = 8) : ∃ B C F W P b f n, zs = [B, C, F, W, P, b, f, n] := by
  match zs, h with
  | [B, C, F, W, P, b, f, n], _ => exact ⟨B, C, F, W, P, b, f, n, rfl⟩
theorem list5 (zs : List Int) (h : zs.length = 5) : ∃ B C F W P, zs = [B, C, F, W, P] := by
  match zs, h with
  | [B, C, F, W, P], _ => exact ⟨B, C, F, W, P, rfl⟩
theorem open_ask {w : World} {r : Reach} {base : Nat} {v : Value} (h : Value.okWide Try.prog w r base 25 v) :
    ∃ B C F W P b f n, v = askV B C F W P b f n ∧ Fits B ∧ Fits C ∧ Fits F ∧ Fits W ∧ Fits b ∧ Fits f ∧ Fits n := by
  obtain ⟨zs, rfl, hl, hf⟩ := okWide_ints 8 ⟨_, Try.underlying25⟩ (by kernel_rfl) (by kernel_rfl) h
  obtain ⟨B, C, F, W, P, b, f, n, rfl⟩ := list8 zs hl
  exact ⟨B, C, F, W, P, b, f, n, rfl, hf _ (by simp), hf _ (by simp), hf _ (by simp), hf _ (by simp), hf _ (by simp), hf _ (by simp), hf _ (by simp)⟩
theorem open_pol {w : World} {r : Reach} {base : Nat} {v : Value} (h : Value.okWide Try.prog w r base 23 v) :
    ∃ B C F W P, v = polV B C F W P ∧ Fits P := by
  obtain ⟨zs, rfl, hl, hf⟩ := okWide_ints 5 ⟨_, Try.underlying23⟩ (by kernel_rfl) (by kernel_rfl) h
  obtain ⟨B, C, F, W, P, rfl⟩ := list5 zs hl
  exact ⟨B, C, F, W, P, rfl, hf _ (by simp)⟩
end Go.Proofs.Ytgdkgoiagjjccaa
