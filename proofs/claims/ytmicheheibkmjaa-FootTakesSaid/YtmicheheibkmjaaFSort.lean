/- What the library's sort leaves of an own row. -/
import Derived.Test.YtmicheheibkmjaaFCmp
import Derived.Test.YtmicheheibkmjaaFOwn
import Derived.Shelf.SlSortCmp.WholeK
import Derived.Below
namespace Go.Proofs.Ytmicheheibkmjaa
set_option maxRecDepth 100000
open Go.Sort

theorem below_grown {w w' : World} (h : Go.RowKit.Below w.heap.size w w') (hd : w.drawn ≤ w'.drawn) : ∃ q os, w' = grow (w.drewN q) os := by
  refine ⟨w'.drawn - w.drawn, w'.heap.extract w.heap.size w'.heap.size, ?_⟩
  obtain ⟨hp, tp, dr, os, ou⟩ := w
  obtain ⟨hp', tp', dr', os', ou'⟩ := w'
  obtain ⟨h1, h2, h3, h4, h5⟩ := h
  simp only at h1 h2 h3 h4 h5 hd
  subst h1 h2 h3
  have hh : hp' = hp ++ hp'.extract hp.size hp'.size := by
    apply Array.ext
    · rw [Array.size_append, Array.size_extract]; omega
    · intro i hi hi'
      by_cases hlt : i < hp.size
      · rw [Array.getElem_append_left hlt]
        have := h5 i hlt
        rw [Array.getElem?_eq_getElem hi, Array.getElem?_eq_getElem hlt] at this
        exact Option.some.inj this
      · rw [Array.getElem_append_right (by omega), Array.getElem_extract]
        congr 1
        omega
  have e : dr + (dr' - dr) = dr' := by omega
  unfold grow World.drewN
  simp only [e]
  rw [← hh]
section
variable {α : Type} [Inhabited α] {f : α → List Value} {k : Nat}
theorem flatK_row (hf : ∀ x, (f x).length = k) (hk : 0 < k) (d : Array α) : (flatK f k d).toList = rowV f d.toList := by
  apply List.ext_getElem?
  intro j
  by_cases hj : j < d.size * k
  · have h1 : j / k < d.size := Nat.div_lt_of_lt_mul (by rw [Nat.mul_comm]; exact hj)
    have h2 : j % k < k := Nat.mod_lt _ hk
    have e : j / k * k + j % k = j := Nat.div_add_mod' j k
    have h3 := rowV_get f k hf d.toList (j / k) (by simpa using h1) (j % k) h2
    rw [e] at h3
    rw [h3]
    have h4 := get_flatK f k d j hj
    have hs : j < (flatK f k d).size := by rw [size_flatK]; exact hj
    rw [getElem!_pos (flatK f k d) _ hs] at h4
    rw [Array.getElem?_toList, Array.getElem?_eq_getElem hs, h4, getElem!_pos d _ h1]
    have hl : j % k < (f d[j / k]).length := by rw [hf]; exact h2
    rw [getElem!_pos (f d[j / k]) _ hl]
    simp [List.getElem?_eq_getElem hl]
  · rw [List.getElem?_eq_none (by simpa using hj), List.getElem?_eq_none (by rw [rowV_length f k hf]; simpa using hj)]
/-- What the library's sort leaves of an own row. -/
theorem sorted_own (hf : ∀ x, (f x).length = k) (hk : 0 < k) {w : World} {B : Nat} {e : TypeId} {g n cap : Nat} {l : List α} (h : w.ownsRow B e k (.slice (some ⟨g, 0, none⟩) n cap) n (rowV f l)) (m : Nat) (d : Array α) (hd : d.size = n) (os : Array Obj) :
    (sortWorldK f k w g 0 m d os).ownsRow B e k (.slice (some ⟨g, 0, none⟩) n cap) n (rowV f d.toList) ∧ w.grownBy (sortWorldK f k w g 0 m d os) (some g) := by
  obtain ⟨h1, h2⟩ := h
  rcases h2 with ⟨hv, _⟩ | ⟨g', cap', cur, hv, hB, hg, hn, hc, hs, ht⟩
  · cases hv
  · injection hv with e1 e2 e3
    injection e1 with e1
    injection e1 with e1
    subst e1 e3
    have hgs : g < w.heap.size := (Array.getElem?_eq_some_iff.1 hg).1
    have hnk : n * k ≤ cur.size := by rw [hs]; exact Nat.mul_le_mul_right k hn
    have hsz : w.heap.size ≤ (sortWorldK f k w g 0 m d os).heap.size := by
      unfold sortWorldK grow
      simp only [Array.size_append]
      rw [size_putRowK]
      exact Nat.le_add_right _ _
    have hblk : ∀ j, j < w.heap.size → (sortWorldK f k w g 0 m d os).heap[j]? = (putRowK f k w g 0 d).heap[j]? := by
      intro j hj
      show ((putRowK f k (Sort.ahead w m) g 0 d).heap ++ os)[j]? = _
      rw [Array.getElem?_append_left (by rw [size_putRowK]; exact hj)]
      rfl
    have hrow : (putRowK f k w g 0 d).heap[g]? = some (.cells (putCells id 0 (flatK f k d) cur) e (0, 0)) := by
      unfold putRowK putRow mapBlock
      simp only
      rw [Array.getElem?_modify, if_pos rfl, hg]
      rfl
    have hoth : ∀ j, j ≠ g → (putRowK f k w g 0 d).heap[j]? = w.heap[j]? := by
      intro j hj
      unfold putRowK putRow mapBlock
      simp only
      rw [Array.getElem?_modify, if_neg (Ne.symm hj)]
    refine ⟨⟨?_, Or.inr ⟨g, cap, putCells id 0 (flatK f k d) cur, rfl, hB, ?_, hn, hc, ?_, ?_⟩⟩, ⟨rfl, rfl, rfl, hsz, fun j hj hne => ?_⟩⟩
    · rw [rowV_length f k hf, Array.length_toList, hd]
    · rw [hblk g hgs, hrow]
    · simp [putCells, hs]
    · rw [← flatK_row hf hk d]
      apply List.ext_getElem?
      intro j
      by_cases hj : j < n * k
      · have hs1 : j < (putCells id 0 (flatK f k d) cur).size := by simp only [putCells, Array.size_mapIdx]; omega
        have hs2 : j < (flatK f k d).size := by rw [size_flatK, hd]; exact hj
        rw [List.getElem?_take_of_lt hj, Array.getElem?_toList, Array.getElem?_toList, Array.getElem?_eq_getElem hs1, Array.getElem?_eq_getElem hs2]
        simp [putCells, hd, hj]
      · rw [List.getElem?_eq_none (by simp; omega), List.getElem?_eq_none (by simp [hd]; omega)]
    · rw [hblk j hj, hoth j (fun e => hne (by rw [e]))]
/-- An own row holds what the sort asks for. -/
theorem holds_own (hf : ∀ x, (f x).length = k) (hk : 0 < k) {w : World} {B : Nat} {e : TypeId} {g n cap : Nat} {d : Array α} (h : w.ownsRow B e k (.slice (some ⟨g, 0, none⟩) n cap) n (rowV f d.toList)) (hd : d.size = n) : HoldsK f k w g 0 d ∧ g < w.heap.size := by
  obtain ⟨h1, h2⟩ := h
  rcases h2 with ⟨hv, _⟩ | ⟨g', cap', cur, hv, hB, hg, hn, hc, hs, ht⟩
  · cases hv
  · injection hv with e1 e2 e3
    injection e1 with e1
    injection e1 with e1
    subst e1 e3
    refine ⟨fun j hj => ?_, (Array.getElem?_eq_some_iff.1 hg).1⟩
    rw [size_flatK, hd] at hj
    have hs2 : j < (flatK f k d).size := by rw [size_flatK, hd]; exact hj
    rw [Nat.zero_add]
    have hc : cur[j]? = some (flatK f k d)[j]! := by
      have := congrArg (fun l => l[j]?) ht
      simp only [List.getElem?_take_of_lt hj, Array.getElem?_toList] at this
      rw [this, ← flatK_row hf hk d, Array.getElem?_toList, Array.getElem?_eq_getElem hs2, getElem!_pos (flatK f k d) _ hs2]
    constructor
    · unfold World.cell?
      simp only [hg]
      exact hc
    · unfold World.frozen?
      simp [hg]
end
end Go.Proofs.Ytmicheheibkmjaa
