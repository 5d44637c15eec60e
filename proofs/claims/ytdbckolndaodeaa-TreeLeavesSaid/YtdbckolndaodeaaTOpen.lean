/- Acts, opened. -/
import Derived.Test.YtdbckolndaodeaaTGet
import Derived.ProofKit
import Derived.OpenShut
import Derived.Deep.Slices
import Derived.Deep.Strs
import Derived.ShutString
import Derived.ChangeOld
namespace Go.Proofs.Ytdbckolndaodeaa
set_option maxRecDepth 100000
open Go.ChangeShapes Go.WideShapes Go.ChangeAt Go.RowKit

/-- An act. -/
structure Ot where
  k : Int
  c : Cl
  drop : Bool
def Ot.vals (o : Ot) : List Value := [.int .i64 o.k, .int .i64 o.c.v, .int .i64 o.c.s, .bool o.c.dead, .bool o.drop]
theorem Ot.vlen (o : Ot) : o.vals.length = 5 := rfl
abbrev Ots (w : World) (A : Option Addr) (l : List Ot) : Prop := RowAt Ot.vals 5 w A l.length l
def In64 (k : Int) : Prop := -9223372036854775808 ≤ k ∧ k ≤ 9223372036854775807
theorem Ots.cell {w : World} {A : Option Addr} {l : List Ot} (h : Ots w A l) (hn : 0 < l.length) : ∃ b off, A = some ⟨b, off, none⟩ ∧ ∀ q (hq : q < l.length), w.cell? ⟨b, off + q * 5, none⟩ = some (.int .i64 l[q].k) ∧ w.cell? ⟨b, off + q * 5 + 1, none⟩ = some (.int .i64 l[q].c.v) ∧ w.cell? ⟨b, off + q * 5 + 2, none⟩ = some (.int .i64 l[q].c.s) ∧ w.cell? ⟨b, off + q * 5 + 3, none⟩ = some (.bool l[q].c.dead) ∧ w.cell? ⟨b, off + q * 5 + 4, none⟩ = some (.bool l[q].drop) := by
  obtain ⟨b, off, e, hc⟩ := RowAt.cells h Ot.vlen hn
  exact ⟨b, off, e, fun q hq => ⟨hc q hq 0 _ (by omega) rfl, hc q hq 1 _ (by omega) rfl, hc q hq 2 _ (by omega) rfl, hc q hq 3 _ (by omega) rfl, hc q hq 4 _ (by omega) rfl⟩⟩
theorem addr_add' (b off j : Nat) : (⟨b, off, none⟩ : Addr).add j = ⟨b, off + j, none⟩ := by
  unfold Addr.add
  by_cases h : j = 0
  · subst h; simp
  · simp [h]
theorem cells3 : Try.prog.cellsOf 3 = 1 := by kernel_rfl
theorem cellsBo : Try.prog.cellsOf 4 = 1 := by kernel_rfl
theorem cellsCl : Try.prog.cellsOf 29 = 3 := by kernel_rfl
theorem cellsOp : Try.prog.cellsOf 31 = 5 := by kernel_rfl
theorem RowAt.of {α : Type} {f : α → List Value} {k : Nat} {W : World} {n : Nat} {l : List α} (hf : ∀ x, (f x).length = k) (hk : 0 < k) (hl : l.length = n) (b off : Nat) (hc : ∀ (i : Nat) (hi : i < l.length) (r : Nat) (u : Value), r < k → (f l[i])[r]? = some u → W.cell? ⟨b, off + i * k + r, none⟩ = some u) : RowAt f k W (some ⟨b, off, none⟩) n l := by
  have hlen : (rowV f l).length = n * k := by
    rw [← hl]
    clear hl hc
    induction l with
    | nil => simp [rowV]
    | cons a l ih =>
      have e : rowV f (a :: l) = f a ++ rowV f l := by simp [rowV]
      rw [e, List.length_append, ih, hf, List.length_cons, Nat.succ_mul, Nat.add_comm]
  refine ⟨hl, hlen, fun _ => ⟨b, off, rfl, fun j u hj => ?_⟩⟩
  have hjl : j < n * k := by rw [← hlen]; exact (List.getElem?_eq_some_iff.1 hj).1
  have h1 : j / k < l.length := by rw [hl]; exact Nat.div_lt_of_lt_mul (by rw [Nat.mul_comm]; exact hjl)
  have h2 : j % k < k := Nat.mod_lt _ hk
  have e : j / k * k + j % k = j := Nat.div_add_mod' j k
  have h3 := rowV_get f k hf l (j / k) h1 (j % k) h2
  rw [e, hj] at h3
  have h4 := hc (j / k) h1 (j % k) u h2 h3.symm
  rw [Nat.add_assoc, e] at h4
  exact h4
section
variable {H : Type} {enc : TypeId × Value → H} {W : World} {sp : Nat → Bool}
theorem trod_struct3 {P : Program} {base : Nat} {held : Bool} {t : TypeId} {f0 f1 f2 : Field} {fuel : Nat} {cs : List Value} {x : DataW H × List MemPlace} (ht : P.underlying t = some (.struct #[f0, f1, f2])) (h : DataW.trod enc P W base sp held fuel t cs = some x) :
    ∃ y0 y1 y2 n, x = (.agg [y0.1, y1.1, y2.1], y0.2 ++ (y1.2 ++ y2.2)) ∧ cs.length = P.cellsOf t ∧ DataW.trod enc P W base sp held n f0.type ((cs.drop f0.offset).take (P.cellsOf f0.type)) = some y0 ∧
      DataW.trod enc P W base sp held n f1.type ((cs.drop f1.offset).take (P.cellsOf f1.type)) = some y1 ∧ DataW.trod enc P W base sp held n f2.type ((cs.drop f2.offset).take (P.cellsOf f2.type)) = some y2 := by
  obtain ⟨xs, n, _, rfl, hl, hlen, hf⟩ := DataW.trod_struct ht h
  match xs, hlen with
  | [y0, y1, y2], _ => exact ⟨y0, y1, y2, n, by simp, hl, by simpa using hf 0 f0 rfl, by simpa using hf 1 f1 rfl, by simpa using hf 2 f2 rfl⟩
theorem open_rowat {α : Type} {f : α → List Value} {k : Nat} (p : α → Prop) (hf : ∀ x, (f x).length = k) (hk : 0 < k) {t e : TypeId} (hu : Try.prog.underlying t = some (.slice e)) (he : Try.prog.cellsOf e = k) (d : α)
    (ho : ∀ {fuel : Nat} {cs : List Value} {x : DataW H × List MemPlace}, DataW.trod enc Try.prog W 0 sp true fuel e cs = some x → ∃ q : α, cs = f q ∧ p q) {fuel : Nat} {v : Value} {x : DataW H × List MemPlace} (hin : DataW.trod enc Try.prog W 0 sp true fuel t [v] = some x) :
    ∃ A n c l, v = .slice A n c ∧ RowAt f k W A n l ∧ n ≤ 9223372036854775807 ∧ (A = none → c = 0) ∧ ∀ s ∈ l, p s := by
  rcases Go.Deep.open_slice hu hin with ⟨hcs, _⟩ | ⟨a, len, cap, m, k2, D, Pl, hcs, _, hl, hm, hmm, _, hx⟩
  · injection hcs with hcs
    subst hcs
    exact ⟨none, 0, 0, [], rfl, ⟨rfl, by simp [rowV], fun hn => absurd hn (by omega)⟩, by decide, fun _ => rfl, fun s hs => by simp at hs⟩
  · injection hcs with hcs
    subst hcs
    unfold maxLen at hm
    have hlm : len ≤ m := by rw [hmm]; split <;> omega
    have hall : ∀ j, ∃ q : α, j < len → W.cells? 0 (a.add (j * k)) k = some (f q) ∧ p q := by
      intro j
      by_cases hj : j < len
      · obtain ⟨cs', h1, h2⟩ := hx j (by omega)
        rw [he] at h1
        obtain ⟨q, rfl, hp⟩ := ho h2
        exact ⟨q, fun _ => ⟨h1, hp⟩⟩
      · exact ⟨d, fun h => absurd h hj⟩
    obtain ⟨F, hall⟩ := Classical.axiomOfChoice hall
    rcases Nat.eq_zero_or_pos len with h0 | h0
    · subst h0
      exact ⟨some a, 0, cap, [], rfl, ⟨rfl, by simp [rowV], fun hn => absurd hn (by omega)⟩, by decide, fun h => absurd h (by simp), fun s hs => by simp at hs⟩
    obtain ⟨b, off, spot⟩ := a
    obtain ⟨_, _, h0'⟩ := World.cells?_some (hall 0 h0).1
    have h00 := h0' 0 hk
    rw [List.getElem?_eq_getElem (by rw [hf]; exact hk)] at h00
    have hspot : spot = none := by simpa [Addr.add] using World.cell?_spot h00
    subst hspot
    refine ⟨_, len, cap, (List.range len).map F, rfl, RowAt.of hf hk (by simp) b off fun j hj r u hr hu => ?_, by omega, fun h => absurd h (by simp), fun s hs => ?_⟩
    · have hj' : j < len := by simpa using hj
      obtain ⟨_, _, h1⟩ := World.cells?_some (hall j hj').1
      have c0 := h1 r (by omega)
      simp only [addr_add'] at c0
      simp only [List.getElem_map, List.getElem_range] at hu
      rw [c0]
      simpa using hu
    · rw [List.mem_map] at hs
      obtain ⟨i, hi, rfl⟩ := hs
      exact (hall i (List.mem_range.1 hi)).2
theorem open_op {fuel : Nat} {cs : List Value} {x : DataW H × List MemPlace} (hf : DataW.trod enc Try.prog W 0 sp true fuel 31 cs = some x) : ∃ q : Ot, cs = q.vals ∧ In64 q.k := by
  obtain ⟨y0, y1, y2, n, _, hl, g0, g1, g2⟩ := trod_struct3 Try.underlying31 hf
  rw [cellsOp] at hl
  match cs, hl with
  | [v0, v1, v2, v3, v4], _ =>
    simp [cells3, cellsBo, cellsCl] at g0 g1 g2
    obtain ⟨a0, e0, _, w0⟩ := DataW.trod_int Try.underlying3 g0
    obtain ⟨z0, z1, z2, n2, _, hl2, k0, k1, k2⟩ := trod_struct3 Try.underlying29 g1
    simp [cells3, cellsBo] at k0 k1 k2
    obtain ⟨a1, e1, _⟩ := DataW.trod_int Try.underlying3 k0
    obtain ⟨a2, e2, _⟩ := DataW.trod_int Try.underlying3 k1
    obtain ⟨b3, e3, _⟩ := DataW.trod_bool Try.underlying4 k2
    obtain ⟨b4, e4, _⟩ := DataW.trod_bool Try.underlying4 g2
    injection e0 with e0
    injection e1 with e1
    injection e2 with e2
    injection e3 with e3
    injection e4 with e4
    exact ⟨⟨a0, ⟨a1, a2, b3⟩, b4⟩, by rw [e0, e1, e2, e3, e4]; rfl, bounds_i64 w0⟩
theorem open_ops {v : Value} {base : Nat} {r : Reach} {x : DataW H × List MemPlace} (hv : Value.okWide Try.prog W r base 22 v) (h : ∃ fuel, DataW.trod enc Try.prog W 0 sp true fuel 22 v.cells.toList = some x) :
    ∃ A c l, v = .slice A (List.length l) c ∧ Ots W A l ∧ l.length ≤ 9223372036854775807 ∧ ∀ o ∈ l, In64 o.k := by
  obtain ⟨B, len, cap, rfl⟩ := okWide_slice Try.underlying22 hv
  obtain ⟨fuel, hf⟩ := h
  obtain ⟨A, n, c, l, e, h1, h2, _, h4⟩ := open_rowat (fun q : Ot => In64 q.k) Ot.vlen (by decide) Try.underlying22 cellsOp ⟨0, ⟨0, 0, false⟩, false⟩ open_op (by simpa [Value.cells] using hf)
  obtain rfl := h1.len
  exact ⟨A, c, l, e, h1, h2, h4⟩
end
end Go.Proofs.Ytdbckolndaodeaa
