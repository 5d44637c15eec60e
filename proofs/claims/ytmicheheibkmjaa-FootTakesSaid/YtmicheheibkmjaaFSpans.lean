/- foot's spans in order: sorted, put together. -/
import Derived.Test.YtmicheheibkmjaaFSortK
import Derived.Test.YtmicheheibkmjaaFSortN
import Derived.Test.YtmicheheibkmjaaFCmpS
import Derived.Test.YtmicheheibkmjaaFSp1
import Derived.Test.YtmicheheibkmjaaFApart
namespace Go.Proofs.Ytmicheheibkmjaa
set_option maxRecDepth 100000
open Go.RowKit Go.Shelf Go.Lib Go.Sort

theorem ltOf_span (x y : Sp) : ltOf compS x y = true ↔ (x.t < y.t ∨ (x.t = y.t ∧ x.lo < y.lo)) := by
  unfold ltOf compS
  rw [decide_eq_true_iff]
  by_cases h : x.t = y.t
  · rw [if_neg (fun q => (cmpI_ne _ _).1 q h), cmpI_lt]; omega
  · rw [if_pos ((cmpI_ne _ _).2 h), cmpI_lt]; omega
theorem ltOf_spanF (x y : Sp) : ltOf compS x y = false ↔ ¬ (x.t < y.t ∨ (x.t = y.t ∧ x.lo < y.lo)) := by
  rw [← ltOf_span]; cases ltOf compS x y <;> simp
theorem swoS : SWO (ltOf compS) where
  irrefl x := by rw [ltOf_spanF]; omega
  trans x y z h1 h2 := by rw [ltOf_span] at *; omega
  ntrans x y z h1 h2 := by rw [ltOf_spanF] at *; omega
theorem cmpLays71 (blk off size : Nat) (w : World) : CmpLays Try.prog 71 #[] Sp.vals 3 compS blk off size w :=
  fun _ _ _ _ x y => (compareS_any x y _).mono fun _ _ ⟨he, hb, hd⟩ => ⟨he, below_grown hb hd⟩
theorem sortspans_any (g n c B : Nat) (l : List Sp) (w : World) (h : w.ownsRow B 54 3 (.slice (some ⟨g, 0, none⟩) n c) n (rowV Sp.vals l)) (hl : l.length = n) (hn : n ≤ 1000000) :
    Calls Try.prog 70 #[.slice (some ⟨g, 0, none⟩) n c, .func (.func 71) #[] #[]] w fun e w' => e = .returned (.tuple #[]) ∧ ∃ s : List Sp, s.length = n ∧ (∀ x, x ∈ s ↔ x ∈ l) ∧ s.Pairwise leS ∧ w'.ownsRow B 54 3 (.slice (some ⟨g, 0, none⟩) n c) n (rowV Sp.vals s) ∧ w.grownBy w' (some g) := by
  have eg : ∀ args w, (callFunc 71 args).run Try.prog w = .ok (.enter 71 args) w := enters_of Try.func71 (by kernel_rfl) rfl
  have hd : l.toArray.size = n := by simpa using hl
  obtain ⟨h1, h2⟩ := holds_own Sp.len (by decide) (d := l.toArray) (by simpa using h) hd
  have hcon := AnyQ.slices_SortFunc Try.sortSpans 3 Try.isAgg54 Try.sizeOf54 Sp.vals Sp.len svals_one compS swoS 71 #[] g 0 c l.toArray w eg (cmpLays71 g 0 _ w) h1 h2 (by rw [hd]; omega)
  change Calls Try.prog 70 _ _ _ at hcon
  rw [hd] at hcon
  refine hcon.mono ?_
  rintro e w' ⟨rfl, d', m, os, hp, hs, rfl⟩
  rw [← hd] at hp hs
  obtain ⟨p1, p2⟩ := perm_mem hp
  rw [← p1] at hs
  have q := sorted_own Sp.len (by decide) h m d' (by rw [p1, hd]) os
  refine ⟨rfl, d'.toList, by simp [p1, hd], fun x => by rw [p2.mem_iff], ?_, q.1, q.2⟩
  exact (sorted_pair hs).imp fun hxy => by
    have := (ltOf_spanF _ _).1 hxy
    unfold leS
    omega
end Go.Proofs.Ytmicheheibkmjaa
