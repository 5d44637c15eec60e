/- RS9: put together. -/
import Derived.Test.YtejpjbmbcdgomaaPd05
/- The document's Range, pure. -/
namespace Go.Proofs.Ytejpjbmbcdgomaa
set_option maxRecDepth 100000
open Go.RowKit

theorem rangeE_out {ts : Tb} {t lo hi : Int} (h : ¬ InT t) : rangeE t lo hi (ents ts) = [] := by
  unfold rangeE
  rw [List.filter_eq_nil_iff]
  intro e he
  obtain ⟨_, h8, _⟩ := mem_allE he
  have : (e.t : Int) ≠ t := fun e9 => h (by unfold InT; omega)
  simp [inE, this]
theorem allE_only {ps : Nat → List Ix} {i : Nat} : ∀ (n a : Nat), a ≤ i → i < a + n → (∀ j, j ≠ i → ps j = []) → allE ps a n = tag i (ps i)
  | 0, _, h1, h2, _ => by omega
  | n + 1, a, h1, h2, h => by
    rw [allE]
    by_cases e : a = i
    · subst e
      have : allE ps (a + 1) n = [] := by
        have h9 : allE ps (a + 1) n = allE (fun _ => []) (a + 1) n := allE_congr fun j hj _ => h j (by omega)
        rw [h9]
        clear h9 h h1 h2
        induction n generalizing a with
        | zero => rfl
        | succ n ih => rw [allE, ih (a + 1)]; rfl
      rw [this, List.append_nil]
    · rw [h a e, allE_only n (a + 1) (by omega) (by omega) h]
      rfl
theorem rangeE_ents {ts : Tb} {i : Nat} (hi : i < 4) (lo hi' : Int) : rangeE (i : Int) lo hi' (ents ts) = tag i ((rng lo hi' (ts i)).filter fun x => !x.c.dead) := by
  unfold rangeE ents
  rw [allE_filter, allE_only (i := i) 4 0 (by omega) (by omega) fun j hj => ?_]
  · congr 1
    unfold rng
    rw [List.filter_filter]
    refine List.filter_congr fun x _ => ?_
    unfold inE
    cases x.c.dead <;> simp
  · rw [List.filter_eq_nil_iff]
    intro x _
    have : ((j : Nat) : Int) ≠ (i : Int) := by omega
    simp [inE, this]
end Go.Proofs.Ytejpjbmbcdgomaa
