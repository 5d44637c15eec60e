/- Rows of bytes, one for each sector: an array of ten slices. -/
import Derived.Test.YthmebgpleegonaaDBytesM
import Derived.Test.YthmebgpleegonaaDRefO
import Derived.Test.YthmebgpleegonaaDAlive
import Derived.ArgAppend
namespace Go.Proofs.Ythmebgpleegonaa
set_option maxRecDepth 100000
open Go.RowKit

theorem elemBy : ElemT Try.prog 45 5 1 1 :=
  ⟨Try.underlying45, by kernel_rfl, by
    obtain ⟨i, hi, hz, h1, _⟩ := info_parts (show (Try.prog.info? 5).map (fun i => (i.zero, i.size, i.bytes)) = some (some (.int .u8 0), 1, 1) by kernel_rfl)
    exact ⟨i, _, hi, hz, rfl⟩, by decide⟩
/-- A row of bytes in memory: its block, where it begins, its room. -/
structure Br where
  b : Nat
  off : Nat
  cap : Nat
  xs : List Nat
def Br.v (r : Br) : Value := .slice (some ⟨r.b, r.off, none⟩) r.xs.length r.cap
structure BrOk (W : World) (r : Br) : Prop where
  blk : ∃ cur, W.heap[r.b]? = some (.cells cur 5 (0, 0)) ∧ r.off + r.cap ≤ cur.size ∧ ∀ j u, (valsB r.xs)[j]? = some u → cur[r.off + j]? = some u
  le : r.xs.length ≤ r.cap
  pos : 0 < r.xs.length
theorem BrOk.keep {W W' : World} {r : Br} (h : BrOk W r) (hk : W'.heap[r.b]? = W.heap[r.b]?) : BrOk W' r := by
  obtain ⟨cur, h1, h2⟩ := h.blk
  exact ⟨⟨cur, hk.trans h1, h2⟩, h.le, h.pos⟩
theorem BrOk.lt {W : World} {r : Br} (h : BrOk W r) : r.b < W.heap.size := by
  obtain ⟨cur, h1, _⟩ := h.blk
  exact (Array.getElem?_eq_some_iff.1 h1).1
theorem BrOk.cell {W : World} {r : Br} (h : BrOk W r) (j : Nat) (u : Value) (hj : (valsB r.xs)[j]? = some u) : W.cell? ⟨r.b, r.off + j, none⟩ = some u := by
  obtain ⟨cur, h1, _, h3⟩ := h.blk
  rw [cell_of_row W r.b (r.off + j) cur _ (0, 0) h1]
  exact h3 j u hj
theorem valsB_append (a b : List Nat) : valsB (a ++ b) = valsB a ++ valsB b := by simp [valsB]
/-- One byte more. -/
theorem br_append {W : World} {r : Br} (h : BrOk W r) (ty : TypeId) (x g2 : Nat) (hg2 : W.heap[g2]? = some (.cells #[.int .u8 (x : Int)] 5 (0, 0))) (hl : r.xs.length ≤ 1000) :
    ∃ r' W', (Builtin.append_ #[45, 45] ty #[r.v, .slice (some ⟨g2, 0, none⟩) 1 1]).run Try.prog W = .ok r'.v W' ∧ r'.xs = r.xs ++ [x] ∧ BrOk W' r' ∧ W.grownBy W' (some r.b) ∧ (r'.b = r.b ∨ W.heap.size ≤ r'.b) := by
  obtain ⟨ht, hinfo, ⟨i, z, hi, hz, hzs⟩, hpos⟩ := elemBy
  rw [hi] at hinfo
  simp at hinfo
  obtain ⟨cur, h1, h2, h3⟩ := h.blk
  have hnew : ∀ j u, [Value.int .u8 (x : Int)][j]? = some u → W.cell? ((⟨g2, 0, none⟩ : Addr).add j) = some u := fun j u hj => by
    rw [addr_plus, Nat.zero_add, cell_of_row W g2 j _ _ (0, 0) hg2]
    simpa using hj
  by_cases hroom : r.xs.length + 1 ≤ r.cap
  · have hle := h.le
    have hr := run_append_room_cells (P := Try.prog) (w := W) 45 ty 5 i ht hi r.b r.off r.xs.length r.cap ⟨g2, 0, none⟩ 1 1 [.int .u8 (x : Int)] (by rw [hinfo.1]; rfl) hnew (fun u hu => by rw [List.mem_singleton.1 hu]; rfl) hroom (fun j hj => by
      have hj0 : j = 0 := by simpa using hj
      subst hj0
      rw [hinfo.1, cell_of_row W r.b _ cur _ (0, 0) h1, Array.getElem?_eq_getElem (by omega)]
      rfl) (fun j _ => frozen_at h1 _)
    refine ⟨⟨r.b, r.off, r.cap, r.xs ++ [x]⟩, W.setCell ⟨r.b, r.off + r.xs.length, none⟩ (.int .u8 (x : Int)), ?_, rfl, ⟨⟨cur.setIfInBounds (r.off + r.xs.length) (.int .u8 (x : Int)), ?_, ?_, fun j u hj => ?_⟩, ?_, ?_⟩, ?_, .inl rfl⟩
    · unfold Br.v
      rw [hinfo.1, Nat.mul_one] at hr
      rw [hr, List.length_append]
      rfl
    · exact box_set h1 _ _
    · rw [Array.size_setIfInBounds]; exact h2
    · dsimp only at hj ⊢
      rw [valsB_append] at hj
      by_cases hjl : j < r.xs.length
      · rw [List.getElem?_append_left (by rw [valsB_length]; exact hjl)] at hj
        rw [Array.getElem?_setIfInBounds_ne (by omega)]
        exact h3 j u hj
      · rw [List.getElem?_append_right (by rw [valsB_length]; omega), valsB_length] at hj
        have hj1 : j = r.xs.length := by
          have := (List.getElem?_eq_some_iff.1 hj).1
          simp [valsB] at this
          omega
        subst hj1
        rw [Nat.sub_self] at hj
        rw [Array.getElem?_setIfInBounds_self_of_lt (by omega)]
        simpa [valsB] using hj
    · rw [List.length_append]; exact hroom
    · rw [List.length_append]; simp
    · exact grown_setCell W r.b (r.off + r.xs.length) _
  · have holds : ∀ j u, (valsB r.xs)[j]? = some u → W.cell? ((⟨r.b, r.off, none⟩ : Addr).add j) = some u := fun j u hj => by
      rw [addr_plus]; exact h.cell j u hj
    have hr := run_append_grow (P := Try.prog) W 45 ty 5 i z ht hi hz ⟨r.b, r.off, none⟩ r.xs.length r.cap (valsB r.xs) (by rw [valsB_length, hinfo.1, Nat.mul_one]) holds ⟨g2, 0, none⟩ 1 1 [.int .u8 (x : Int)] (by rw [hinfo.1]; rfl) hnew (by omega) (by omega) (growslice_fits (by omega) (by rw [hinfo.2]; omega))
    obtain ⟨gc, hgc⟩ : ∃ gc, gc = grownCap W (r.xs.length + 1) r.cap 5 := ⟨_, rfl⟩
    rw [← hgc] at hr
    have hcl : r.xs.length + 1 ≤ gc := by rw [hgc]; exact grownCap_ge _ _ _ _
    refine ⟨⟨W.heap.size, 0, gc, r.xs ++ [x]⟩, W.drew.alloc (.cells ((valsB r.xs).toArray ++ [Value.int .u8 (x : Int)].toArray ++ Builtin.zeroCells z.cells (gc - (r.xs.length + 1))) 5), ?_, rfl, ⟨⟨_, heap_alloc_new W.drew _, ?_, fun j u hj => ?_⟩, ?_, ?_⟩, ?_, .inr (Nat.le_refl _)⟩
    · unfold Br.v
      rw [hr, List.length_append]
      rfl
    · simp only [Array.size_append, List.size_toArray, valsB_length, size_zeroCells, hzs]
      simp
      omega
    · dsimp only at hj ⊢
      rw [valsB_append] at hj
      have hjl := (List.getElem?_eq_some_iff.1 hj).1
      have e : ((valsB r.xs).toArray ++ [Value.int .u8 (x : Int)].toArray) = (valsB r.xs ++ valsB [x]).toArray := by simp [valsB]
      rw [e, Nat.zero_add, Array.getElem?_append_left (by simpa using hjl)]
      simpa using hj
    · rw [List.length_append]; exact hcl
    · rw [List.length_append]; simp
    · exact grown_below (((Below.refl _ W).drew).alloc (Nat.le_refl _) _) _
end Go.Proofs.Ythmebgpleegonaa
