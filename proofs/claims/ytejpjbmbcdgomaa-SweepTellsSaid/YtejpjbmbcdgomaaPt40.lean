/- VNoteM: put together. -/
import Derived.Test.YtejpjbmbcdgomaaPt38
/- Notes, pure. -/
namespace Go.Proofs.Ytejpjbmbcdgomaa
set_option maxRecDepth 100000
open Go.RowKit

theorem noteS_len (t : Nat) (k : Int) (o : Option Cl) (NS : List Nt) : (noteS t k o NS).length ≤ NS.length + 1 := by
  unfold noteS
  split
  · omega
  · have := posN_le (t : Int) k NS
    simp
    omega
theorem not_less_of {t k : Int} {NS : List Nt} (hu : UpN NS) {j : Nat} (hj : j < NS.length) (h : posN t k NS ≤ j) : lessK NS[j].e.t NS[j].e.x.k t k = false := by
  cases hc : lessK NS[j].e.t NS[j].e.x.k t k with
  | false => rfl
  | true =>
    exfalso
    have key : ∀ i (hi : i < NS.length), i ≤ j → lessK NS[i].e.t NS[i].e.x.k t k = true := fun i hi hij => by
      by_cases e : i = j
      · subst e; exact hc
      · exact lessK_tr ((List.pairwise_iff_getElem.1 hu) i j hi hj (by omega)) hc
    have h2 : ∀ (NS : List Nt) (hu : ∀ i (hi : i < NS.length), i ≤ j → lessK NS[i].e.t NS[i].e.x.k t k = true), j < NS.length → j < posN t k NS := by
      clear key hc h hj hu
      intro NS
      induction NS generalizing j with
      | nil => intro _ h; cases h
      | cons x NS ih =>
        intro hu hj
        have h0 : lessK (x.e.t : Int) x.e.x.k t k = true := hu 0 (by simp) (by omega)
        unfold posN
        rw [List.takeWhile_cons, if_pos h0, List.length_cons]
        cases j with
        | zero => omega
        | succ j =>
          have := ih (j := j) (fun i hi hij => hu (i + 1) (by simpa using hi) (by omega)) (by simpa using hj)
          unfold posN at this
          omega
    have := h2 NS key hj
    omega
theorem hasN_iff {t k : Int} {NS : List Nt} (hu : UpN NS) : hasN t k NS = true ↔ ∃ x ∈ NS, (x.e.t : Int) = t ∧ x.e.x.k = k := by
  unfold hasN
  constructor
  · intro h
    cases hg : NS[posN t k NS]? with
    | none => rw [hg] at h; cases h
    | some x =>
      rw [hg] at h
      unfold atN at h
      simp only [Bool.and_eq_true, decide_eq_true_eq] at h
      exact ⟨x, List.mem_of_getElem? hg, h⟩
  · rintro ⟨x, hx, h1, h2⟩
    obtain ⟨j, hj, rfl⟩ := List.mem_iff_getElem.1 hx
    have hp : posN t k NS = j := by
      refine posN_eq (by omega) (fun i hi hij => ?_) fun _ => ?_
      · have := (List.pairwise_iff_getElem.1 hu) i j hi hj hij
        unfold lessN at this
        rw [h1, h2] at this
        exact this
      · rw [h1, h2]
        unfold lessK
        simp
    rw [hp, List.getElem?_eq_getElem hj]
    unfold atN
    simp [h1, h2]
theorem noteS_mem {t : Nat} {k : Int} {o : Option Cl} {NS : List Nt} {x : Nt} : x ∈ noteS t k o NS ↔ x ∈ NS ∨ (hasN (t : Int) k NS = false ∧ x = newN t k o) := by
  unfold noteS
  cases h : hasN (t : Int) k NS with
  | true => simp
  | false =>
    rw [if_neg (by decide)]
    have e : NS = NS.take (posN (t : Int) k NS) ++ NS.drop (posN (t : Int) k NS) := (List.take_append_drop _ _).symm
    constructor
    · intro hx
      rcases List.mem_append.1 hx with hx | hx
      · exact .inl (List.mem_of_mem_take hx)
      · rcases List.mem_cons.1 hx with hx | hx
        · exact .inr ⟨rfl, hx⟩
        · exact .inl (List.mem_of_mem_drop hx)
    · rintro (hx | ⟨_, rfl⟩)
      · rw [e] at hx
        rcases List.mem_append.1 hx with hx | hx
        · exact List.mem_append.2 (.inl hx)
        · exact List.mem_append.2 (.inr (List.mem_cons_of_mem _ hx))
      · exact List.mem_append.2 (.inr List.mem_cons_self)
theorem lessK_total {t k t2 k2 : Int} (h : lessK t k t2 k2 = false) (hn : ¬ (t = t2 ∧ k = k2)) : lessK t2 k2 t k = true := by
  unfold lessK at *
  simp only [Bool.or_eq_true, decide_eq_true_eq, Bool.and_eq_true, Bool.or_eq_false_iff, decide_eq_false_iff_not, Bool.and_eq_false_iff] at *
  omega
theorem noteS_up {t : Nat} {k : Int} {o : Option Cl} {NS : List Nt} (hu : UpN NS) : UpN (noteS t k o NS) := by
  unfold noteS
  cases h : hasN (t : Int) k NS with
  | true => rw [if_pos rfl]; exact hu
  | false =>
    rw [if_neg (by decide)]
    have hlt : ∀ x ∈ NS.take (posN (t : Int) k NS), lessK (x.e.t : Int) x.e.x.k t k = true := fun x hx => by
      obtain ⟨j, hj, rfl⟩ := List.mem_iff_getElem.1 hx
      rw [List.length_take] at hj
      rw [List.getElem_take]
      exact posN_lt (by omega) (by omega)
    have hgt : ∀ x ∈ NS.drop (posN (t : Int) k NS), lessK (t : Int) k x.e.t x.e.x.k = true := fun x hx => by
      obtain ⟨j, hj, rfl⟩ := List.mem_iff_getElem.1 hx
      rw [List.length_drop] at hj
      rw [List.getElem_drop]
      have h1 := not_less_of hu (t := (t : Int)) (k := k) (j := posN (t : Int) k NS + j) (by omega) (by omega)
      refine lessK_total h1 fun e => ?_
      have h2 := (hasN_iff hu (t := (t : Int)) (k := k)).2 ⟨_, List.getElem_mem (h := by omega), e⟩
      rw [h] at h2
      cases h2
    rw [UpN, List.pairwise_append, List.pairwise_cons]
    refine ⟨hu.sublist (List.take_sublist _ _), ⟨fun x hx => hgt x hx, hu.sublist (List.drop_sublist _ _)⟩, fun a ha b hb => ?_⟩
    rcases List.mem_cons.1 hb with rfl | hb
    · exact hlt a ha
    · exact lessK_tr (hlt a ha) (hgt b hb)
/-- What a row of writes brings into the notes. -/
def befW (cel : Int → Int → Option Cl) (ct ck : Int) (NS : List Nt) (x : Wr) : List Nt := if (0 ≤ x.t ∧ x.t < 4) ∧ lessK x.t x.k ct ck = false then noteS x.t.toNat x.k (cel x.t x.k) NS else NS
def befS (cel : Int → Int → Option Cl) (ct ck : Int) (NS : List Nt) (ws : List Wr) : List Nt := ws.foldl (befW cel ct ck) NS
theorem befS_snoc (cel : Int → Int → Option Cl) (ct ck : Int) (NS : List Nt) (ws : List Wr) (x : Wr) : befS cel ct ck NS (ws ++ [x]) = befW cel ct ck (befS cel ct ck NS ws) x := by
  unfold befS
  rw [List.foldl_append]
  rfl
theorem befW_up {cel : Int → Int → Option Cl} {ct ck : Int} {NS : List Nt} (x : Wr) (hu : UpN NS) : UpN (befW cel ct ck NS x) := by
  unfold befW
  split
  · exact noteS_up hu
  · exact hu
theorem befW_len (cel : Int → Int → Option Cl) (ct ck : Int) (NS : List Nt) (x : Wr) : (befW cel ct ck NS x).length ≤ NS.length + 1 := by
  unfold befW
  split
  · exact noteS_len _ _ _ _
  · omega
end Go.Proofs.Ytejpjbmbcdgomaa
