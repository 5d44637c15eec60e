/- Feet put together: the order doesn't matter, nor once more; such feet are in order. -/
import Derived.Test.YtmicheheibkmjaaFFeet
namespace Go.Proofs.Ytmicheheibkmjaa
set_option maxRecDepth 100000
open Go.RowKit

theorem insAll_same {l m : List K} (h : ∀ x, x ∈ l ↔ x ∈ m) : insAll [] l = insAll [] m :=
  keys_same _ _ (insAll_rises l [] (by simp)) (insAll_rises m [] (by simp)) fun x => by rw [insAll_mem, insAll_mem, h]
theorem addAll_same {l m : List Sp} (h : ∀ t n, cov l t n ↔ cov m t n) : addAll [] l = addAll [] m := by
  obtain ⟨g1, g2⟩ := addAll_ok l [] ⟨by simp, by simp⟩
  obtain ⟨f1, f2⟩ := addAll_ok m [] ⟨by simp, by simp⟩
  exact spans_same _ _ g1 f1 fun t n => by rw [g2, f2, h]
theorem joinF_same {fs gs : List Ft} (h1 : ∀ x, x ∈ rsOf fs ↔ x ∈ rsOf gs) (h2 : ∀ t n, cov (spOf fs) t n ↔ cov (spOf gs) t n) (h3 : ∀ x, x ∈ wsOf fs ↔ x ∈ wsOf gs) : joinF fs = joinF gs := by
  unfold joinF
  rw [insAll_same h1, addAll_same h2, insAll_same h3]
theorem join_rs (fs : List Ft) (x : K) : x ∈ (joinF fs).rs ↔ x ∈ rsOf fs := by
  show x ∈ insAll [] (rsOf fs) ↔ _
  rw [insAll_mem]; simp
theorem join_ws (fs : List Ft) (x : K) : x ∈ (joinF fs).ws ↔ x ∈ wsOf fs := by
  show x ∈ insAll [] (wsOf fs) ↔ _
  rw [insAll_mem]; simp
theorem join_sp (fs : List Ft) (t n : Int) : cov (joinF fs).sp t n ↔ cov (spOf fs) t n := by
  show cov (addAll [] (spOf fs)) t n ↔ _
  rw [(addAll_ok (spOf fs) [] ⟨by simp, by simp⟩).2]
  simp [cov]
theorem rs1 (f : Ft) : rsOf [f] = f.rs := by simp [rsOf]
theorem ws1 (f : Ft) : wsOf [f] = f.ws := by simp [wsOf]
theorem sp1 (f : Ft) : spOf [f] = f.sp := by simp [spOf]
theorem rs2 (f g : Ft) : rsOf [f, g] = f.rs ++ g.rs := by simp [rsOf]
theorem ws2 (f g : Ft) : wsOf [f, g] = f.ws ++ g.ws := by simp [wsOf]
theorem sp2 (f g : Ft) : spOf [f, g] = f.sp ++ g.sp := by simp [spOf]
theorem join_once (a b : Ft) : joinF [joinF [a, b]] = joinF [a, b] :=
  joinF_same (fun x => by rw [rs1, join_rs]) (fun t n => by rw [sp1, join_sp]) (fun x => by rw [ws1, join_ws])
theorem join_swap (a b : Ft) : joinF [b, a] = joinF [a, b] :=
  joinF_same (fun x => by rw [rs2, rs2, List.mem_append, List.mem_append, or_comm]) (fun t n => by rw [sp2, sp2, cov_append, cov_append, or_comm]) (fun x => by rw [ws2, ws2, List.mem_append, List.mem_append, or_comm])
theorem join_more (a b : Ft) : joinF [joinF [a, b], a] = joinF [a, b] :=
  joinF_same (fun x => by rw [rs2, List.mem_append, join_rs, rs2, List.mem_append]; exact ⟨fun h => h.elim id .inl, .inl⟩)
    (fun t n => by rw [sp2, cov_append, join_sp, sp2, cov_append]; exact ⟨fun h => h.elim id .inl, .inl⟩)
    (fun x => by rw [ws2, List.mem_append, join_ws, ws2, List.mem_append]; exact ⟨fun h => h.elim id .inl, .inl⟩)
theorem insA_length (k : K) : ∀ (l : List K) (d : Bool), (insA k l d).length ≤ l.length + (if d then 0 else 1)
  | [], d => by cases d <;> simp [insA]
  | x :: l, d => by
    have h1 := insA_length k l true
    have h2 := insA_length k l false
    unfold insA
    simp only [List.length_append, List.length_cons]
    cases d <;> cases lessK x k <;> by_cases e : x = k <;> simp [e] at h1 h2 ⊢ <;> omega
theorem insAll_length : ∀ (m l : List K), (insAll l m).length ≤ l.length + m.length
  | [], l => by simp [insAll]
  | k :: m, l => by
    have h1 := insAll_length m (ins l k)
    have h2 : (ins l k).length ≤ l.length + 1 := insA_length k l false
    show (insAll (ins l k) m).length ≤ _
    rw [List.length_cons]
    omega
theorem far_length : ∀ (l : List Sp) (x : Sp), (far l x).length ≤ l.length
  | [], _ => by simp [far]
  | y :: l, x => by
    unfold far
    have h1 := far_length l (hull x y)
    have h2 := far_length l x
    split <;> simp <;> omega
theorem putA_length (x : Sp) : ∀ (l : List Sp) (d : Bool), (putA x l d).length ≤ l.length + (if d then 0 else 1)
  | [], d => by cases d <;> simp [putA]
  | y :: l, d => by
    have h1 := putA_length x l true
    have h2 := putA_length x l false
    unfold putA
    simp only [List.length_append, List.length_cons]
    cases d <;> cases aft y x <;> simp at h1 h2 ⊢ <;> omega
theorem add_length (l : List Sp) (x : Sp) : (add l x).length ≤ l.length + 1 := by
  unfold add
  split
  · omega
  · have h1 := putA_length (near l x) (far l x) false
    have h2 := far_length l x
    simp at h1
    omega
theorem addAll_length : ∀ (m l : List Sp), (addAll l m).length ≤ l.length + m.length
  | [], l => by simp [addAll]
  | x :: m, l => by
    have h1 := addAll_length m (add l x)
    have h2 := add_length l x
    show (addAll (add l x) m).length ≤ _
    rw [List.length_cons]
    omega
theorem join_few (a b : Ft) (h : Few [a, b] 60) : (joinF [a, b]).rs.length ≤ 120 ∧ (joinF [a, b]).sp.length ≤ 120 ∧ (joinF [a, b]).ws.length ≤ 120 := by
  have ha := h a (by simp)
  have hb := h b (by simp)
  have h1 := insAll_length (rsOf [a, b]) []
  have h2 := addAll_length (spOf [a, b]) []
  have h3 := insAll_length (wsOf [a, b]) []
  rw [rs2] at h1
  rw [sp2] at h2
  rw [ws2] at h3
  simp at h1 h2 h3
  unfold joinF
  rw [rs2, sp2, ws2]
  simp only
  omega
theorem kgB_rises {l : List K} (h : l.Pairwise ltK) : kgB l = l.all fun k => tabB k.t := by
  cases ha : l.all (fun k => tabB k.t) with
  | true =>
    rw [List.all_eq_true] at ha
    refine kg_true fun j hj _ => ⟨ha _ (List.getElem_mem hj), fun h0 => ?_⟩
    rw [lessK_iff]
    exact List.pairwise_iff_getElem.1 h (j - 1) j (by omega) hj (by omega)
  | false =>
    refine kg_false fun hk => ?_
    have : l.all (fun k => tabB k.t) = true := by
      rw [List.all_eq_true]
      intro x hx
      obtain ⟨i, hi, rfl⟩ := List.getElem_of_mem hx
      exact (hk i hi hi).1
    rw [this] at ha
    cases ha
theorem sgB_canon {l : List Sp} (h : Canon l) : sgB l = l.all fun k => tabB k.t := by
  cases ha : l.all (fun k => tabB k.t) with
  | true =>
    rw [List.all_eq_true] at ha
    refine sg_true fun j hj _ => ⟨ha _ (List.getElem_mem hj), ?_, fun h0 => ?_⟩
    · rw [decide_eq_false_iff_not]
      have := h.ne _ (List.getElem_mem hj)
      omega
    · rw [decide_eq_true_iff]
      exact List.pairwise_iff_getElem.1 h.ap (j - 1) j (by omega) hj (by omega)
  | false =>
    refine sg_false fun hk => ?_
    have : l.all (fun k => tabB k.t) = true := by
      rw [List.all_eq_true]
      intro x hx
      obtain ⟨i, hi, rfl⟩ := List.getElem_of_mem hx
      exact (hk i hi hi).1
    rw [this] at ha
    cases ha
theorem join_good (fs : List Ft) : goodB (joinF fs) = (((joinF fs).rs ++ (joinF fs).ws).all (fun k => tabB k.t) && (joinF fs).sp.all fun k => tabB k.t) := by
  unfold goodB
  have h1 : (joinF fs).rs.Pairwise ltK := insAll_rises _ [] (by simp)
  have h2 : (joinF fs).ws.Pairwise ltK := insAll_rises _ [] (by simp)
  have h3 : Canon (joinF fs).sp := (addAll_ok _ [] ⟨by simp, by simp⟩).1
  rw [kgB_rises h1, kgB_rises h2, sgB_canon h3, List.all_append, Bool.and_assoc]
end Go.Proofs.Ytmicheheibkmjaa
