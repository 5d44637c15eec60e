/- RS8: put together. -/
import Derived.Test.YtejpjbmbcdgomaaPd04
/- The document's From, pure: entries from a key on. -/
namespace Go.Proofs.Ytejpjbmbcdgomaa
set_option maxRecDepth 100000
open Go.RowKit

theorem allE_filter (p : En → Bool) (ps : Nat → List Ix) : ∀ (n i : Nat), (allE ps i n).filter p = allE (fun j => (ps j).filter fun x => p ⟨j, x⟩) i n
  | 0, _ => rfl
  | n + 1, i => by
    rw [allE, allE, List.filter_append, allE_filter p ps n (i + 1)]
    congr 1
    unfold tag
    rw [List.filter_map]
    rfl
theorem from_ents {ts : Tb} (h : ∀ i, i < 4 → NumL (ts i)) (t k : Int) : (ents ts).filter (fun e => !lessK (e.t : Int) e.x.k t k) = fromE t k ts := by
  have hi0 : i0F t ≤ 4 := by unfold i0F; omega
  have e4 : allE ts 0 4 = allE ts 0 (i0F t) ++ allE ts (i0F t) (4 - i0F t) := by
    have e : i0F t + (4 - i0F t) = 4 := by omega
    have h9 := allE_add ts (i0F t) 0 (4 - i0F t)
    rw [e, Nat.zero_add] at h9
    exact h9
  unfold ents fromE
  rw [e4, List.filter_append, List.filter_eq_nil_iff.2 fun e he => ?_, List.nil_append, allE_filter]
  · refine allE_congr fun j hj1 hj2 => ?_
    have hj4 : j < 4 := by omega
    have hjt : t ≤ (j : Int) := by unfold i0F at hj1; omega
    unfold partF rng
    refine List.filter_congr fun x hx => ?_
    have hn := h j hj4 x hx
    unfold lessK loI hiI
    by_cases e : (j : Int) = t
    · have a1 : ¬ (j : Int) < t := by omega
      by_cases a2 : x.k < k
      · have a3 : ¬ k ≤ x.k := by omega
        simp [e, a2, a3]
      · have a3 : k ≤ x.k := by omega
        simp [e, a2, a3, hn.2]
    · have a1 : ¬ (j : Int) < t := by omega
      simp [e, a1, hn.1, hn.2]
  · obtain ⟨_, h8, _⟩ := mem_allE he
    have a1 : (e.t : Int) < t := by unfold i0F at h8; omega
    simp [lessK, a1]
end Go.Proofs.Ytejpjbmbcdgomaa
