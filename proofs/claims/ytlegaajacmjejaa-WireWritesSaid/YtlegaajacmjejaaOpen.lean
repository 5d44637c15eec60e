/- The arguments of wire's laws, opened. -/
import Derived.Test.YtlegaajacmjejaaWrite
import Derived.Test.YtlegaajacmjejaaCodec
import Derived.ProofKit
import Derived.OpenShut
import Derived.Deep.Slices
import Derived.Deep.Strs
namespace Go.Proofs.Ytlegaajacmjejaa
set_option maxRecDepth 100000
open Go.ChangeShapes Go.WideShapes Go.ChangeAt Go.RowKit

/-- The cells of a struct argument, each of its kind. -/
theorem okWide_parts {w : World} {r : Reach} {base : Nat} {t : TypeId} {v : Value} (ts : List TypeId) (hu : ∃ fs, Try.prog.underlying t = some (.struct fs)) (hts : Try.prog.cellTypes Try.prog.depth t = some ts) (hk : Try.prog.cellsOf t = ts.length)
    (h : Value.okWide Try.prog w r base t v) : ∃ l : List Value, v = .agg l.toArray ∧ l.length = ts.length ∧ ∀ (i : Nat) (u : Value), l[i]? = some u → ∃ k, ts[i]? = some k ∧ Cell.okWide Try.prog w r base k u := by
  obtain ⟨fs, hfs⟩ := hu
  unfold Value.okWide at h
  rw [hfs] at h
  obtain ⟨cs, rfl, hsz, ts', h1, _, h3⟩ := h
  rw [hts] at h1
  injection h1 with h1
  subst h1
  refine ⟨cs.toList, by simp, by simp [hsz, hk], fun i u hu => ?_⟩
  obtain ⟨k, h4, h5⟩ := h3 i u (by simpa using hu)
  have hlt : i < ts.length := by
    have := (List.getElem?_eq_some_iff.1 hu).1
    simpa [hsz, hk] using this
  rw [Nat.mod_eq_of_lt hlt] at h4
  exact ⟨k, h4, h5⟩
theorem cell_i64 {w : World} {r : Reach} {base : Nat} {v : Value} (hc : Cell.okWide Try.prog w r base 3 v) : ∃ n : Int, v = Value.int .i64 n ∧ Fits n := by
  unfold Cell.okWide at hc
  rw [Try.underlying3] at hc
  cases v with
  | int q n =>
    simp only [Cell.ok] at hc
    obtain ⟨rfl, h⟩ := hc
    exact ⟨n, rfl, (show IntKind.i64.min = -9223372036854775808 by decide) ▸ h.1, (show IntKind.i64.max = 9223372036854775807 by decide) ▸ h.2⟩
  | _ => simp_all [Cell.ok]
theorem cell_u64 {w : World} {r : Reach} {base : Nat} {v : Value} (hc : Cell.okWide Try.prog w r base 29 v) : ∃ n : Nat, v = Value.int .u64 (n : Int) ∧ n < 18446744073709551616 := by
  unfold Cell.okWide at hc
  rw [Try.underlying29] at hc
  cases v with
  | int q n =>
    simp only [Cell.ok] at hc
    obtain ⟨rfl, h⟩ := hc
    have h1 : 0 ≤ n := (show IntKind.u64.min = 0 by decide) ▸ h.1
    have h2 : n ≤ 18446744073709551615 := (show IntKind.u64.max = 18446744073709551615 by decide) ▸ h.2
    exact ⟨n.toNat, by rw [Int.toNat_of_nonneg h1], by omega⟩
  | _ => simp_all [Cell.ok]
theorem open_numbers {w : World} {r : Reach} {base : Nat} {v : Value} (h : Value.okWide Try.prog w r base 57 v) :
    ∃ (a b : Int) (m n : Nat), v = .agg #[.int .i64 a, .int .i64 b, .int .u64 (m : Int), .int .u64 (n : Int)] ∧ Fits a ∧ Fits b ∧ m < 18446744073709551616 ∧ n < 18446744073709551616 := by
  obtain ⟨l, rfl, hl, hc⟩ := okWide_parts [3, 3, 29, 29] ⟨_, Try.underlying57⟩ (by kernel_rfl) (by kernel_rfl) h
  match l, hl with
  | [u0, u1, u2, u3], _ =>
    obtain ⟨k0, e0, c0⟩ := hc 0 u0 rfl
    obtain ⟨k1, e1, c1⟩ := hc 1 u1 rfl
    obtain ⟨k2, e2, c2⟩ := hc 2 u2 rfl
    obtain ⟨k3, e3, c3⟩ := hc 3 u3 rfl
    cases e0; cases e1; cases e2; cases e3
    obtain ⟨a, rfl, fa⟩ := cell_i64 c0
    obtain ⟨b, rfl, fb⟩ := cell_i64 c1
    obtain ⟨m, rfl, fm⟩ := cell_u64 c2
    obtain ⟨n, rfl, fn⟩ := cell_u64 c3
    exact ⟨a, b, m, n, rfl, fa, fb, fm, fn⟩
end Go.Proofs.Ytlegaajacmjejaa
