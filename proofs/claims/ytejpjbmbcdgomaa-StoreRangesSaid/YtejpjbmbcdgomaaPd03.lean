/- RS6: put together. -/
import Derived.Test.YtejpjbmbcdgomaaPd02
/- The document's Apply on a store's entries. -/
namespace Go.Proofs.Ytejpjbmbcdgomaa
set_option maxRecDepth 100000
open Go.RowKit

theorem apR_ents {q : Int} {ts : Tb} {ws : List Wr} (hu : ∀ i, i < 4 → Up (ts i)) : apR q (ents ts) ws = apN q ts ws := by
  unfold apR apN
  cases ht : takB q ws with
  | false => rfl
  | true =>
    rw [if_pos rfl, if_pos rfl, foldE_ents ws hu (takB_in ht).2, liveE_ents]
theorem apL_ents {q : Int} {ts : Tb} {ws : List Wr} (hu : ∀ i, i < 4 → Up (ts i)) : apL q (ents ts) ws = ents (if apN q ts ws = 0 then forceT q ts ws else ts) := by
  unfold apL apN
  cases ht : takB q ws with
  | false => rfl
  | true =>
    rw [if_pos rfl, if_pos rfl, foldE_ents ws hu (takB_in ht).2, liveE_ents]
    by_cases h : liveT (forceT q ts ws) ≤ 4096
    · rw [if_pos h, if_pos h, if_pos rfl]
    · rw [if_neg h, if_neg h, if_neg (by decide)]
/-- The store's Apply and the document's come to the same. -/
theorem ApOut.same {q : Int} {ts ts' : Tb} {ws : List Wr} {last last' : Int} (h : ApOut q ts ws (apN q ts ws) last ts' last') (hu : ∀ i, i < 4 → Up (ts i)) : apL q (ents ts) ws = ents ts' ∧ apQ q (ents ts) last ws = last' ∧ apR q (ents ts) ws = apN q ts ws := by
  rw [apL_ents hu]
  unfold apQ
  rw [apR_ents hu]
  rcases h.out with ⟨h1, rfl, rfl⟩ | ⟨h1, rfl, rfl⟩
  · rw [if_pos h1, if_pos h1]; exact ⟨rfl, rfl, rfl⟩
  · rw [if_neg h1, if_neg h1]; exact ⟨rfl, rfl, rfl⟩
end Go.Proofs.Ytejpjbmbcdgomaa
