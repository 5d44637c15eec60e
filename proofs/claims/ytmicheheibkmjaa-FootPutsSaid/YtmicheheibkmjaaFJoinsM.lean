/- What feet put together read and write; put together one after another. -/
import Derived.Test.YtmicheheibkmjaaFGoodM
namespace Go.Proofs.Ytmicheheibkmjaa
set_option maxRecDepth 100000
open Go.RowKit

theorem any_cov (l : List Sp) (k : K) : l.any (inSp k) = true ↔ cov l k.t k.k := by
  rw [List.any_eq_true]
  unfold cov
  refine exists_congr fun x => and_congr Iff.rfl ?_
  simp [inSp, inS]
theorem reads_iff (f : Ft) (k : K) : readsB f k = true ↔ k ∈ f.rs ∨ cov f.sp k.t k.k := by
  unfold readsB
  rw [Bool.or_eq_true, decide_eq_true_iff, any_cov]
theorem cov_all (fs : List Ft) (t n : Int) : cov (spOf fs) t n ↔ ∃ f ∈ fs, cov f.sp t n := by
  constructor
  · rintro ⟨x, hx, h⟩
    unfold spOf at hx
    rw [List.mem_flatMap] at hx
    obtain ⟨f, hf, hxf⟩ := hx
    exact ⟨f, hf, x, hxf, h⟩
  · rintro ⟨f, hf, x, hx, h⟩
    refine ⟨x, ?_, h⟩
    unfold spOf
    rw [List.mem_flatMap]
    exact ⟨f, hf, hx⟩
theorem reads_join (fs : List Ft) (k : K) : readsB (joinF fs) k = fs.any fun f => readsB f k := by
  rw [Bool.eq_iff_iff, reads_iff, join_rs, join_sp, cov_all, List.any_eq_true]
  constructor
  · rintro (h | ⟨f, hf, h⟩)
    · unfold rsOf at h
      rw [List.mem_flatMap] at h
      obtain ⟨f, hf, h⟩ := h
      exact ⟨f, hf, (reads_iff f k).2 (.inl h)⟩
    · exact ⟨f, hf, (reads_iff f k).2 (.inr h)⟩
  · rintro ⟨f, hf, h⟩
    rcases (reads_iff f k).1 h with h | h
    · refine .inl ?_
      unfold rsOf
      rw [List.mem_flatMap]
      exact ⟨f, hf, h⟩
    · exact .inr ⟨f, hf, h⟩
theorem writes_join (fs : List Ft) (k : K) : writesB (joinF fs) k = fs.any fun f => writesB f k := by
  rw [Bool.eq_iff_iff, List.any_eq_true]
  unfold writesB
  rw [decide_eq_true_iff, join_ws]
  unfold wsOf
  rw [List.mem_flatMap]
  refine exists_congr fun f => and_congr Iff.rfl ?_
  rw [decide_eq_true_iff]
theorem insAll_app (l a b : List K) : insAll l (a ++ b) = insAll (insAll l a) b := List.foldl_append
theorem addAll_app (l a b : List Sp) : addAll l (a ++ b) = addAll (addAll l a) b := List.foldl_append
theorem insAll_one (l a : List K) (k : K) : insAll l (a ++ [k]) = ins (insAll l a) k := by rw [insAll_app]; rfl
theorem addAll_one (l a : List Sp) (x : Sp) : addAll l (a ++ [x]) = add (addAll l a) x := by rw [addAll_app]; rfl
end Go.Proofs.Ytmicheheibkmjaa
