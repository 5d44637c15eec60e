/- Rows of numbers and of writes, as values. -/
import Derived.Test.YtgdkgoiagjjccaaPlaceRef2
import Derived.Test.YtgdkgoiagjjccaaRowv
namespace Go.Proofs.Ytgdkgoiagjjccaa
set_option maxRecDepth 100000
open Go.RowKit

theorem elem38 : ElemT Try.prog 38 3 1 8 :=
  ⟨Try.underlying38, by kernel_rfl, by
    obtain ⟨i, hi, hz, h1, _⟩ := info_parts (show (Try.prog.info? 3).map (fun i => (i.zero, i.size, i.bytes)) = some (some (.int .i64 0), 1, 8) by kernel_rfl)
    exact ⟨i, _, hi, hz, rfl⟩, by decide⟩
theorem elem37 : ElemT Try.prog 37 106 4 32 :=
  ⟨Try.underlying37, by kernel_rfl, by
    obtain ⟨i, hi, hz, h1, _⟩ := info_parts (show (Try.prog.info? 106).map (fun i => (i.zero, i.size, i.bytes)) = some (some (.agg #[.int .i64 0, .int .i64 0, .int .i64 0, .bool false]), 4, 32) by kernel_rfl)
    exact ⟨i, _, hi, hz, rfl⟩, by decide⟩
def valsZ (xs : List Int) : List Value := xs.map (Value.int .i64)
theorem valsZ_one (xs : List Int) : ∀ u ∈ valsZ xs, u.oneCell' = true := by
  intro u hu
  simp only [valsZ, List.mem_map] at hu
  obtain ⟨x, _, rfl⟩ := hu
  rfl
theorem rdv_nums {w : World} {A : Option Addr} {n : Nat} {xs : List Int} (h : Nums w A n xs) : Rdv w A n 1 (valsZ xs) := by
  refine ⟨by simp [valsZ, h.1], fun hn => ?_⟩
  obtain ⟨b, off, e, hc⟩ := h.2.2 hn
  refine ⟨b, off, e, fun j u hj => ?_⟩
  have hl : j < xs.length := by
    rcases Nat.lt_or_ge j xs.length with h' | h'
    · exact h'
    · rw [List.getElem?_eq_none (by simp [valsZ]; exact h')] at hj; cases hj
  rw [hc j (by rw [← h.1]; exact hl)]
  simp [valsZ, hl] at hj
  rw [← hj]
  simp [List.getD_eq_getElem?_getD, hl]
theorem nums_rdv {w : World} {A : Option Addr} {n : Nat} {xs : List Int} (h : Rdv w A n 1 (valsZ xs)) (hf : ∀ x ∈ xs, Fits x) : Nums w A n xs := by
  have hl : xs.length = n := by have := h.1; simpa [valsZ] using this
  refine ⟨hl, hf, fun hn => ?_⟩
  obtain ⟨b, off, e, hc⟩ := h.2 hn
  refine ⟨b, off, e, fun j hj => hc j _ ?_⟩
  simp [valsZ, List.getD_eq_getElem?_getD, show j < xs.length by omega]
theorem nums_own {w : World} {B n : Nat} {v : Value} {xs : List Int} (h : w.ownsRow B 3 1 v n (valsZ xs)) (hf : ∀ x ∈ xs, Fits x) : ∃ A c, v = .slice A n c ∧ Nums w A n xs ∧ (A = none → c = 0) ∧ n ≤ c := by
  obtain ⟨A, c, hv, hr, h1, h2⟩ := rdv_own h
  exact ⟨A, c, hv, nums_rdv hr hf, h1, h2⟩

def wval (q : Int × Int × Int × Bool) : List Value := [.int .i64 q.1, .int .i64 q.2.1, .int .i64 q.2.2.1, .bool q.2.2.2]
def valsW (ws : List (Int × Int × Int × Bool)) : List Value := ws.flatMap wval
theorem valsW_one (ws : List (Int × Int × Int × Bool)) : ∀ u ∈ valsW ws, u.oneCell' = true := by
  intro u hu
  simp only [valsW, List.mem_flatMap, wval] at hu
  obtain ⟨q, _, hq⟩ := hu
  simp at hq
  rcases hq with rfl | rfl | rfl | rfl <;> rfl
theorem valsW_length (ws : List (Int × Int × Int × Bool)) : (valsW ws).length = ws.length * 4 := by
  induction ws with
  | nil => rfl
  | cons q ws ih =>
    have e : valsW (q :: ws) = wval q ++ valsW ws := rfl
    rw [e, List.length_append, ih, List.length_cons]
    show 4 + _ = _
    omega
theorem valsW_at (ws : List (Int × Int × Int × Bool)) (i r : Nat) (hr : r < 4) (hi : i < ws.length) : (valsW ws)[i * 4 + r]? = (wval ws[i])[r]? := by
  induction ws generalizing i with
  | nil => simp at hi
  | cons q ws ih =>
    have e : valsW (q :: ws) = wval q ++ valsW ws := rfl
    have hw : (wval q).length = 4 := rfl
    rw [e]
    cases i with
    | zero => rw [List.getElem?_append_left (by rw [hw]; omega)]; simp
    | succ i =>
      rw [List.getElem?_append_right (by rw [hw]; omega), hw]
      have h1 := ih i (by simpa using hi)
      rw [show (i + 1) * 4 + r - 4 = i * 4 + r by omega, h1]
      rfl
theorem rdv_wrs {w : World} {A : Option Addr} {n : Nat} {ws : List (Int × Int × Int × Bool)} (h : Wrs w A n ws) : Rdv w A n 4 (valsW ws) := by
  refine ⟨by rw [valsW_length, h.1], fun hn => ?_⟩
  obtain ⟨b, off, e, hc⟩ := h.2 hn
  refine ⟨b, off, e, fun j u hj => ?_⟩
  have hl : j < ws.length * 4 := by
    rcases Nat.lt_or_ge j (ws.length * 4) with h' | h'
    · exact h'
    · rw [List.getElem?_eq_none (by rw [valsW_length]; exact h')] at hj; cases hj
  have hi : j / 4 < ws.length := by omega
  obtain ⟨c0, c1, c2, c3⟩ := hc (j / 4) hi
  have ej : j / 4 * 4 + j % 4 = j := by omega
  have ha := valsW_at ws (j / 4) (j % 4) (by omega) hi
  rw [ej, hj] at ha
  rcases (show j % 4 = 0 ∨ j % 4 = 1 ∨ j % 4 = 2 ∨ j % 4 = 3 by omega) with h4 | h4 | h4 | h4
  · rw [h4] at ha
    simp [wval] at ha
    rw [ha, show off + j = off + j / 4 * 4 by omega]; exact c0
  · rw [h4] at ha
    simp [wval] at ha
    rw [ha, show off + j = off + j / 4 * 4 + 1 by omega]; exact c1
  · rw [h4] at ha
    simp [wval] at ha
    rw [ha, show off + j = off + j / 4 * 4 + 2 by omega]; exact c2
  · rw [h4] at ha
    simp [wval] at ha
    rw [ha, show off + j = off + j / 4 * 4 + 3 by omega]; exact c3
theorem wrs_rdv {w : World} {A : Option Addr} {n : Nat} {ws : List (Int × Int × Int × Bool)} (h : Rdv w A n 4 (valsW ws)) : Wrs w A n ws := by
  have hl : ws.length = n := by have := h.1; rw [valsW_length] at this; omega
  refine ⟨hl, fun hn => ?_⟩
  obtain ⟨b, off, e, hc⟩ := h.2 hn
  refine ⟨b, off, e, fun j hj => ⟨?_, ?_, ?_, ?_⟩⟩
  · have := hc (j * 4 + 0) _ ((valsW_at ws j 0 (by omega) hj).trans rfl)
    simpa using this
  · have := hc (j * 4 + 1) _ ((valsW_at ws j 1 (by omega) hj).trans rfl)
    rw [Nat.add_assoc]; exact this
  · have := hc (j * 4 + 2) _ ((valsW_at ws j 2 (by omega) hj).trans rfl)
    rw [Nat.add_assoc]; exact this
  · have := hc (j * 4 + 3) _ ((valsW_at ws j 3 (by omega) hj).trans rfl)
    rw [Nat.add_assoc]; exact this
theorem wrs_own {w : World} {B n : Nat} {v : Value} {ws : List (Int × Int × Int × Bool)} (h : w.ownsRow B 106 4 v n (valsW ws)) : ∃ A c, v = .slice A n c ∧ Wrs w A n ws ∧ (A = none → c = 0) ∧ n ≤ c := by
  obtain ⟨A, c, hv, hr, h1, h2⟩ := rdv_own h
  exact ⟨A, c, hv, wrs_rdv hr, h1, h2⟩
theorem ownsRow_ext {w w' : World} {B e size n : Nat} {v : Value} {xs : List Value} (h : w.ownsRow B e size v n xs) (hb : Below w.heap.size w w') : w'.ownsRow B e size v n xs := by
  refine ⟨h.1, ?_⟩
  rcases h.2 with h0 | ⟨g, cap, cur, hv, hB, hg, hrest⟩
  · exact .inl h0
  · exact .inr ⟨g, cap, cur, hv, hB, (hb.block g (Array.getElem?_eq_some_iff.1 hg).1).trans hg, hrest⟩
theorem ownsRow_low {w : World} {B B' e size n : Nat} {v : Value} {xs : List Value} (h : w.ownsRow B e size v n xs) (hB : B' ≤ B) : w.ownsRow B' e size v n xs := by
  refine ⟨h.1, ?_⟩
  rcases h.2 with h0 | ⟨g, cap, cur, hv, hb, hg, hrest⟩
  · exact .inl h0
  · exact .inr ⟨g, cap, cur, hv, by omega, hg, hrest⟩
end Go.Proofs.Ytgdkgoiagjjccaa
