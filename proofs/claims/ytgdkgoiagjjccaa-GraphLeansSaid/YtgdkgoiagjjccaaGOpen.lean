/- Feet, opened. -/
import Derived.Test.YtgdkgoiagjjccaaGFeet
import Derived.Test.YtgdkgoiagjjccaaSOpen
namespace Go.Proofs.Ytgdkgoiagjjccaa
set_option maxRecDepth 100000
open Go.ChangeShapes Go.WideShapes Go.ChangeAt Go.RowKit

theorem cells52 : Try.prog.cellsOf 52 = 1 := by kernel_rfl
theorem cells53 : Try.prog.cellsOf 53 = 1 := by kernel_rfl
theorem cells55 : Try.prog.cellsOf 55 = 3 := by kernel_rfl
theorem cells153 : Try.prog.cellsOf 153 = 3 := by kernel_rfl
theorem RowAt.of {α : Type} {f : α → List Value} {k : Nat} {W : World} {n : Nat} {l : List α} (hf : ∀ x, (f x).length = k) (hk : 0 < k) (hl : l.length = n) (b off : Nat) (hc : ∀ (i : Nat) (hi : i < l.length) (r : Nat) (u : Value), r < k → (f l[i])[r]? = some u → W.cell? ⟨b, off + i * k + r, none⟩ = some u) : RowAt f k W (some ⟨b, off, none⟩) n l := by
  have hlen : (rowV f l).length = n * k := by
    rw [← hl]
    clear hl hc
    induction l with
    | nil => simp [rowV]
    | cons a l ih =>
      have e : rowV f (a :: l) = f a ++ rowV f l := by simp [rowV]
      rw [e, List.length_append, ih, hf, List.length_cons, Nat.succ_mul, Nat.add_comm]
  refine ⟨hl, hlen, fun _ => ⟨b, off, rfl, fun j u hj => ?_⟩⟩
  have hjl : j < n * k := by rw [← hlen]; exact (List.getElem?_eq_some_iff.1 hj).1
  have h1 : j / k < l.length := by rw [hl]; exact Nat.div_lt_of_lt_mul (by rw [Nat.mul_comm]; exact hjl)
  have h2 : j % k < k := Nat.mod_lt _ hk
  have e : j / k * k + j % k = j := Nat.div_add_mod' j k
  have h3 := rowV_get f k hf l (j / k) h1 (j % k) h2
  rw [e, hj] at h3
  have h4 := hc (j / k) h1 (j % k) u h2 h3.symm
  rw [Nat.add_assoc, e] at h4
  exact h4
section
variable {H : Type} {enc : TypeId × Value → H} {W : World} {sp : Nat → Bool}
theorem open_key {fuel : Nat} {cs : List Value} {x : DataW H × List MemPlace} (hf : DataW.trod enc Try.prog W 0 sp true fuel 104 cs = some x) : ∃ q : K, cs = q.vals := by
  obtain ⟨z0, z1, m, _, hl2, k0, k1⟩ := trod_struct2 Try.underlying104 hf
  rw [cells104] at hl2
  match cs, hl2 with
  | [v0, v1], _ =>
    simp [cells3] at k0 k1
    obtain ⟨a0, e0, _⟩ := DataW.trod_int Try.underlying3 k0
    obtain ⟨a1, e1, _⟩ := DataW.trod_int Try.underlying3 k1
    injection e0 with e0
    injection e1 with e1
    exact ⟨⟨a0, a1⟩, by rw [e0, e1]; rfl⟩
theorem open_spanw {fuel : Nat} {cs : List Value} {x : DataW H × List MemPlace} (hf : DataW.trod enc Try.prog W 0 sp true fuel 153 cs = some x) : ∃ q : Sp, cs = q.vals := by
  obtain ⟨y0, y1, y2, n, _, hl, g0, g1, g2⟩ := Go.Deep.trod_struct3 Try.underlying153 hf
  rw [cells153] at hl
  match cs, hl with
  | [v0, v1, v2], _ =>
    simp [cells3] at g0 g1 g2
    obtain ⟨a0, e0, _⟩ := DataW.trod_int Try.underlying3 g0
    obtain ⟨a1, e1, _⟩ := DataW.trod_int Try.underlying3 g1
    obtain ⟨a2, e2, _⟩ := DataW.trod_int Try.underlying3 g2
    injection e0 with e0
    injection e1 with e1
    injection e2 with e2
    exact ⟨⟨a0, a1, a2⟩, by rw [e0, e1, e2]; rfl⟩
theorem open_rowat {α : Type} {f : α → List Value} {k : Nat} (hf : ∀ x, (f x).length = k) (hk : 0 < k) {t e : TypeId} (hu : Try.prog.underlying t = some (.slice e)) (he : Try.prog.cellsOf e = k) (d : α)
    (ho : ∀ {fuel : Nat} {cs : List Value} {x : DataW H × List MemPlace}, DataW.trod enc Try.prog W 0 sp true fuel e cs = some x → ∃ q : α, cs = f q) {fuel : Nat} {v : Value} {x : DataW H × List MemPlace} (hin : DataW.trod enc Try.prog W 0 sp true fuel t [v] = some x) :
    ∃ A n c l, v = .slice A n c ∧ RowAt f k W A n l ∧ n ≤ 9223372036854775807 := by
  rcases Go.Deep.open_slice hu hin with ⟨hcs, _⟩ | ⟨a, len, cap, m, k2, D, Pl, hcs, _, hl, hm, hmm, _, hx⟩
  · injection hcs with hcs
    subst hcs
    exact ⟨none, 0, 0, [], rfl, ⟨rfl, by simp [rowV], fun hn => absurd hn (by omega)⟩, by decide⟩
  · injection hcs with hcs
    subst hcs
    unfold maxLen at hm
    have hlm : len ≤ m := by rw [hmm]; split <;> omega
    have hall : ∀ j, ∃ q : α, j < len → W.cells? 0 (a.add (j * k)) k = some (f q) := by
      intro j
      by_cases hj : j < len
      · obtain ⟨cs', h1, h2⟩ := hx j (by omega)
        rw [he] at h1
        obtain ⟨q, rfl⟩ := ho h2
        exact ⟨q, fun _ => h1⟩
      · exact ⟨d, fun h => absurd h hj⟩
    obtain ⟨F, hall⟩ := Classical.axiomOfChoice hall
    rcases Nat.eq_zero_or_pos len with h0 | h0
    · subst h0
      exact ⟨some a, 0, cap, [], rfl, ⟨rfl, by simp [rowV], fun hn => absurd hn (by omega)⟩, by decide⟩
    obtain ⟨b, off, spot⟩ := a
    obtain ⟨_, _, h0'⟩ := World.cells?_some (hall 0 h0)
    have h00 := h0' 0 hk
    rw [List.getElem?_eq_getElem (by rw [hf]; exact hk)] at h00
    have hspot : spot = none := by simpa [Addr.add] using World.cell?_spot h00
    subst hspot
    refine ⟨_, len, cap, (List.range len).map F, rfl, RowAt.of hf hk (by simp) b off fun j hj r u hr hu => ?_, by omega⟩
    have hj' : j < len := by simpa using hj
    obtain ⟨_, _, h1⟩ := World.cells?_some (hall j hj')
    have c0 := h1 r (by omega)
    simp only [addr_add'] at c0
    simp only [List.getElem_map, List.getElem_range] at hu
    rw [c0]
    simpa using hu
theorem open_keys {fuel : Nat} {v : Value} {x : DataW H × List MemPlace} (hx : DataW.trod enc Try.prog W 0 sp true fuel 52 [v] = some x) : ∃ A n c l, v = .slice A n c ∧ Keys W A n l ∧ n ≤ 9223372036854775807 :=
  open_rowat K.len (by decide) Try.underlying52 cells104 ⟨0, 0⟩ open_key hx
theorem open_spans {fuel : Nat} {v : Value} {x : DataW H × List MemPlace} (hx : DataW.trod enc Try.prog W 0 sp true fuel 53 [v] = some x) : ∃ A n c l, v = .slice A n c ∧ Spans W A n l ∧ n ≤ 9223372036854775807 :=
  open_rowat Sp.len (by decide) Try.underlying53 cells153 ⟨0, 0, 0⟩ open_spanw hx
theorem open_footw {fuel : Nat} {cs : List Value} {x : DataW H × List MemPlace} (hf : DataW.trod enc Try.prog W 0 sp true fuel 55 cs = some x) : ∃ q : FV × Ft, cs = q.1.cs.toList ∧ FtAt W q.1 q.2 := by
  obtain ⟨y0, y1, y2, n, _, hl, g0, g1, g2⟩ := Go.Deep.trod_struct3 Try.underlying55 hf
  rw [cells55] at hl
  match cs, hl with
  | [v0, v1, v2], _ =>
    simp [cells52, cells53] at g0 g1 g2
    obtain ⟨A, n1, c, l, rfl, h1, h2⟩ := open_keys g0
    obtain ⟨A2, n2, c2, l2, rfl, h3, h4⟩ := open_spans g1
    obtain ⟨A3, n3, c3, l3, rfl, h5, h6⟩ := open_keys g2
    exact ⟨(⟨A, n1, c, A2, n2, c2, A3, n3, c3⟩, ⟨l, l2, l3⟩), rfl, h1, h3, h5, h2, h4, h6⟩
theorem open_feet' {fuel : Nat} {v : Value} {x : DataW H × List MemPlace} (hin : DataW.trod enc Try.prog W 0 sp true fuel 51 [v] = some x) : ∃ A n c fs, v = .slice A n c ∧ Fts W A n fs := by
  rcases Go.Deep.open_slice Try.underlying51 hin with ⟨hcs, _⟩ | ⟨a, len, cap, m, k2, D, Pl, hcs, _, hl, hm, hmm, _, hx⟩
  · injection hcs with hcs
    subst hcs
    exact ⟨none, 0, 0, [], rfl, rfl, by decide, fun hn => absurd hn (by omega)⟩
  · injection hcs with hcs
    subst hcs
    unfold maxLen at hm
    have hlm : len ≤ m := by rw [hmm]; split <;> omega
    have hall : ∀ j, ∃ q : FV × Ft, j < len → W.cells? 0 (a.add (j * 3)) 3 = some q.1.cs.toList ∧ FtAt W q.1 q.2 := by
      intro j
      by_cases hj : j < len
      · obtain ⟨cs', h1, h2⟩ := hx j (by omega)
        rw [cells55] at h1
        obtain ⟨q, rfl, hq⟩ := open_footw h2
        exact ⟨q, fun _ => ⟨h1, hq⟩⟩
      · exact ⟨(⟨none, 0, 0, none, 0, 0, none, 0, 0⟩, noFt), fun h => absurd h hj⟩
    obtain ⟨F, hall⟩ := Classical.axiomOfChoice hall
    refine ⟨some a, len, cap, (List.range len).map fun j => (F j).2, rfl, by simp, by omega, fun hn => ?_⟩
    obtain ⟨b, off, spot⟩ := a
    obtain ⟨_, _, h0⟩ := World.cells?_some (hall 0 hn).1
    have h00 := h0 0 (by show 0 < 3; omega)
    have hspot : spot = none := by simpa [Addr.add] using World.cell?_spot h00
    subst hspot
    refine ⟨b, off, rfl, fun j hj => ⟨(F j).1, ?_, ?_⟩⟩
    · have e : ((List.range len).map fun j => (F j).2).getD j noFt = (F j).2 := by simp [List.getD_eq_getElem?_getD, hj]
      rw [e]
      exact (hall j hj).2
    · obtain ⟨_, _, h1⟩ := World.cells?_some (hall j hj).1
      have c0 := h1 0 (by omega)
      have c1 := h1 1 (by omega)
      have c2 := h1 2 (by omega)
      simp only [addr_add'] at c0 c1 c2
      exact ⟨by simpa [FV.cs] using c0, by simpa [FV.cs] using c1, by simpa [FV.cs] using c2⟩
theorem open_feet {v : Value} {base : Nat} {r : Reach} {x : DataW H × List MemPlace} (hv : Value.okWide Try.prog W r base 51 v) (h : ∃ fuel, DataW.trod enc Try.prog W 0 sp true fuel 51 v.cells.toList = some x) : ∃ A n c fs, v = .slice A n c ∧ Fts W A n fs := by
  obtain ⟨B, len, cap, rfl⟩ := okWide_slice Try.underlying51 hv
  obtain ⟨fuel, hf⟩ := h
  exact open_feet' (by simpa [Value.cells] using hf)
end
end Go.Proofs.Ytgdkgoiagjjccaa
