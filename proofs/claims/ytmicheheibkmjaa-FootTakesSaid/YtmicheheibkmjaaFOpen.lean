/- Feet, opened. -/
import Derived.Test.YtmicheheibkmjaaFJoinW
import Derived.ProofKit
import Derived.OpenShut
import Derived.Deep.Slices
import Derived.Deep.Strs
import Derived.ShutString
import Derived.ChangeOld
namespace Go.Proofs.Ytmicheheibkmjaa
set_option maxRecDepth 100000
open Go.ChangeShapes Go.WideShapes Go.ChangeAt Go.RowKit

theorem addr_add' (b off j : Nat) : (⟨b, off, none⟩ : Addr).add j = ⟨b, off + j, none⟩ := by
  unfold Addr.add
  by_cases h : j = 0
  · subst h; simp
  · simp [h]
theorem cells3 : Try.prog.cellsOf 3 = 1 := by kernel_rfl
theorem cells24 : Try.prog.cellsOf 24 = 2 := by kernel_rfl
theorem cells54 : Try.prog.cellsOf 54 = 3 := by kernel_rfl
theorem cells27 : Try.prog.cellsOf 27 = 1 := by kernel_rfl
theorem cells28 : Try.prog.cellsOf 28 = 1 := by kernel_rfl
theorem cells30 : Try.prog.cellsOf 30 = 3 := by kernel_rfl
theorem RowAt.of {α : Type} {f : α → List Value} {k : Nat} {W : World} {n : Nat} {l : List α} (hf : ∀ x, (f x).length = k) (hk : 0 < k) (hl : l.length = n) (b off : Nat) (hc : ∀ (i : Nat) (hi : i < l.length) (r : Nat) (u : Value), r < k → (f l[i])[r]? = some u → W.cell? ⟨b, off + i * k + r, none⟩ = some u) : RowAt f k W (some ⟨b, off, none⟩) n l := by
  have hlen : (rowV f l).length = n * k := by
    rw [← hl]
    clear hl hc
    induction l with
    | nil => simp [rowV]
    | cons a l ih =>
      have e : rowV f (a :: l) = f a ++ rowV f l := by simp [rowV]
      rw [e, List.length_append, ih, hf, List.length_cons, Nat.succ_mul, Nat.add_comm]
  refine ⟨hl, hlen, fun _ => ⟨b, off, rfl, fun j u hj => ?_⟩⟩
  have hjl : j < n * k := by rw [← hlen]; exact (List.getElem?_eq_some_iff.1 hj).1
  have h1 : j / k < l.length := by rw [hl]; exact Nat.div_lt_of_lt_mul (by rw [Nat.mul_comm]; exact hjl)
  have h2 : j % k < k := Nat.mod_lt _ hk
  have e : j / k * k + j % k = j := Nat.div_add_mod' j k
  have h3 := rowV_get f k hf l (j / k) h1 (j % k) h2
  rw [e, hj] at h3
  have h4 := hc (j / k) h1 (j % k) u h2 h3.symm
  rw [Nat.add_assoc, e] at h4
  exact h4
section
variable {H : Type} {enc : TypeId × Value → H} {W : World} {sp : Nat → Bool}
theorem open_key {fuel : Nat} {cs : List Value} {x : DataW H × List MemPlace} (hf : DataW.trod enc Try.prog W 0 sp true fuel 24 cs = some x) : ∃ q : K, cs = q.vals ∧ True := by
  obtain ⟨z0, z1, m, _, hl2, k0, k1⟩ := trod_struct2 Try.underlying24 hf
  rw [cells24] at hl2
  match cs, hl2 with
  | [v0, v1], _ =>
    simp [cells3] at k0 k1
    obtain ⟨a0, e0, _⟩ := DataW.trod_int Try.underlying3 k0
    obtain ⟨a1, e1, _⟩ := DataW.trod_int Try.underlying3 k1
    injection e0 with e0
    injection e1 with e1
    exact ⟨⟨a0, a1⟩, by rw [e0, e1]; rfl, trivial⟩
theorem open_spanw {fuel : Nat} {cs : List Value} {x : DataW H × List MemPlace} (hf : DataW.trod enc Try.prog W 0 sp true fuel 54 cs = some x) : ∃ q : Sp, cs = q.vals ∧ FitS q := by
  obtain ⟨y0, y1, y2, n, _, hl, g0, g1, g2⟩ := Go.Deep.trod_struct3 Try.underlying54 hf
  rw [cells54] at hl
  match cs, hl with
  | [v0, v1, v2], _ =>
    simp [cells3] at g0 g1 g2
    obtain ⟨a0, e0, _⟩ := DataW.trod_int Try.underlying3 g0
    obtain ⟨a1, e1, _, w1⟩ := DataW.trod_int Try.underlying3 g1
    obtain ⟨a2, e2, _, w2⟩ := DataW.trod_int Try.underlying3 g2
    injection e0 with e0
    injection e1 with e1
    injection e2 with e2
    have b1 := bounds_i64 w1
    have b2 := bounds_i64 w2
    exact ⟨⟨a0, a1, a2⟩, by rw [e0, e1, e2]; rfl, by unfold FitS; simp only; omega⟩
theorem open_rowat {α : Type} {f : α → List Value} {k : Nat} (p : α → Prop) (hf : ∀ x, (f x).length = k) (hk : 0 < k) {t e : TypeId} (hu : Try.prog.underlying t = some (.slice e)) (he : Try.prog.cellsOf e = k) (d : α)
    (ho : ∀ {fuel : Nat} {cs : List Value} {x : DataW H × List MemPlace}, DataW.trod enc Try.prog W 0 sp true fuel e cs = some x → ∃ q : α, cs = f q ∧ p q) {fuel : Nat} {v : Value} {x : DataW H × List MemPlace} (hin : DataW.trod enc Try.prog W 0 sp true fuel t [v] = some x) :
    ∃ A n c l, v = .slice A n c ∧ RowAt f k W A n l ∧ n ≤ 9223372036854775807 ∧ (A = none → c = 0) ∧ ∀ s ∈ l, p s := by
  rcases Go.Deep.open_slice hu hin with ⟨hcs, _⟩ | ⟨a, len, cap, m, k2, D, Pl, hcs, _, hl, hm, hmm, _, hx⟩
  · injection hcs with hcs
    subst hcs
    exact ⟨none, 0, 0, [], rfl, ⟨rfl, by simp [rowV], fun hn => absurd hn (by omega)⟩, by decide, fun _ => rfl, fun s hs => by simp at hs⟩
  · injection hcs with hcs
    subst hcs
    unfold maxLen at hm
    have hlm : len ≤ m := by rw [hmm]; split <;> omega
    have hall : ∀ j, ∃ q : α, j < len → W.cells? 0 (a.add (j * k)) k = some (f q) ∧ p q := by
      intro j
      by_cases hj : j < len
      · obtain ⟨cs', h1, h2⟩ := hx j (by omega)
        rw [he] at h1
        obtain ⟨q, rfl, hp⟩ := ho h2
        exact ⟨q, fun _ => ⟨h1, hp⟩⟩
      · exact ⟨d, fun h => absurd h hj⟩
    obtain ⟨F, hall⟩ := Classical.axiomOfChoice hall
    rcases Nat.eq_zero_or_pos len with h0 | h0
    · subst h0
      exact ⟨some a, 0, cap, [], rfl, ⟨rfl, by simp [rowV], fun hn => absurd hn (by omega)⟩, by decide, fun h => absurd h (by simp), fun s hs => by simp at hs⟩
    obtain ⟨b, off, spot⟩ := a
    obtain ⟨_, _, h0'⟩ := World.cells?_some (hall 0 h0).1
    have h00 := h0' 0 hk
    rw [List.getElem?_eq_getElem (by rw [hf]; exact hk)] at h00
    have hspot : spot = none := by simpa [Addr.add] using World.cell?_spot h00
    subst hspot
    refine ⟨_, len, cap, (List.range len).map F, rfl, RowAt.of hf hk (by simp) b off fun j hj r u hr hu => ?_, by omega, fun h => absurd h (by simp), fun s hs => ?_⟩
    · have hj' : j < len := by simpa using hj
      obtain ⟨_, _, h1⟩ := World.cells?_some (hall j hj').1
      have c0 := h1 r (by omega)
      simp only [addr_add'] at c0
      simp only [List.getElem_map, List.getElem_range] at hu
      rw [c0]
      simpa using hu
    · rw [List.mem_map] at hs
      obtain ⟨i, hi, rfl⟩ := hs
      exact (hall i (List.mem_range.1 hi)).2
theorem open_footw {fuel : Nat} {cs : List Value} {x : DataW H × List MemPlace} (hf : DataW.trod enc Try.prog W 0 sp true fuel 30 cs = some x) : ∃ q : FV × Ft, cs = q.1.cs.toList ∧ FtG W q.1 q.2 := by
  obtain ⟨y0, y1, y2, n, _, hl, g0, g1, g2⟩ := Go.Deep.trod_struct3 Try.underlying30 hf
  rw [cells30] at hl
  match cs, hl with
  | [v0, v1, v2], _ =>
    simp [cells27, cells28] at g0 g1 g2
    obtain ⟨A, n1, c, l, rfl, h1, h2, i1, _⟩ := open_rowat (fun _ => True) K.len (by decide) Try.underlying27 cells24 ⟨0, 0⟩ open_key g0
    obtain ⟨A2, n2, c2, l2, rfl, h3, h4, i2, hfit⟩ := open_rowat FitS Sp.len (by decide) Try.underlying28 cells54 ⟨0, 0, 0⟩ open_spanw g1
    obtain ⟨A3, n3, c3, l3, rfl, h5, h6, i3, _⟩ := open_rowat (fun _ => True) K.len (by decide) Try.underlying27 cells24 ⟨0, 0⟩ open_key g2
    exact ⟨(⟨A, n1, c, A2, n2, c2, A3, n3, c3⟩, ⟨l, l2, l3⟩), rfl, ⟨h1, h3, h5, h2, h4, h6⟩, i1, i2, i3, hfit⟩
theorem open_footv {v : Value} {base : Nat} {r : Reach} {x : DataW H × List MemPlace} (hv : Value.okWide Try.prog W r base 30 v) (h : ∃ fuel, DataW.trod enc Try.prog W 0 sp true fuel 30 v.cells.toList = some x) : ∃ (q : FV) (f : Ft), v = q.val ∧ FtG W q f := by
  obtain ⟨cs, rfl, _⟩ := okWide_struct Try.underlying30 hv
  obtain ⟨fuel, hf⟩ := h
  obtain ⟨q, e, hq⟩ := open_footw hf
  refine ⟨q.1, q.2, ?_, hq⟩
  have e' : cs.toList = q.1.cs.toList := e
  unfold FV.val
  obtain ⟨l⟩ := cs
  simp only at e'
  rw [e']
theorem open_keyv {v : Value} {base : Nat} {r : Reach} {x : DataW H × List MemPlace} (hv : Value.okWide Try.prog W r base 24 v) (h : ∃ fuel, DataW.trod enc Try.prog W 0 sp true fuel 24 v.cells.toList = some x) : ∃ k : K, v = k.val := by
  obtain ⟨cs, rfl, _⟩ := okWide_struct Try.underlying24 hv
  obtain ⟨fuel, hf⟩ := h
  obtain ⟨q, e, _⟩ := open_key hf
  refine ⟨q, ?_⟩
  have e' : cs.toList = q.vals := e
  unfold K.val
  obtain ⟨l⟩ := cs
  simp only at e'
  rw [e']
  rfl
end
end Go.Proofs.Ytmicheheibkmjaa
