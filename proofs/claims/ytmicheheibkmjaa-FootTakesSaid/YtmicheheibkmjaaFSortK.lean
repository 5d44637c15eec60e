/- foot's keys sorted by the library: a permutation, in order. -/
import Derived.Test.YtmicheheibkmjaaFSort
import Derived.Test.YtmicheheibkmjaaFShelf
import Derived.Test.YtmicheheibkmjaaFJoinM
namespace Go.Proofs.Ytmicheheibkmjaa
set_option maxRecDepth 100000
open Go.RowKit Go.Shelf Go.Lib Go.Sort

instance : Inhabited K := ⟨⟨0, 0⟩⟩
instance : Inhabited Sp := ⟨⟨0, 0, 0⟩⟩
theorem cmpI_lt (a b : Int) : cmpI a b < 0 ↔ a < b := by unfold cmpI; split <;> (try split) <;> omega
theorem cmpI_ne (a b : Int) : cmpI a b ≠ 0 ↔ a ≠ b := by unfold cmpI; split <;> (try split) <;> omega
theorem ltOf_key (x y : K) : ltOf compK x y = true ↔ ltK x y := by
  unfold ltOf compK ltK
  rw [decide_eq_true_iff]
  by_cases h : x.t = y.t
  · rw [if_neg (fun q => (cmpI_ne _ _).1 q h), cmpI_lt]; omega
  · rw [if_pos ((cmpI_ne _ _).2 h), cmpI_lt]; omega
theorem ltOf_keyF (x y : K) : ltOf compK x y = false ↔ ¬ ltK x y := by
  rw [← ltOf_key]; cases ltOf compK x y <;> simp
theorem swoK : SWO (ltOf compK) where
  irrefl x := by rw [ltOf_keyF]; exact ltK.irrefl x
  trans x y z h1 h2 := by rw [ltOf_key] at *; exact h1.trans h2
  ntrans x y z h1 h2 := by rw [ltOf_keyF] at *; unfold ltK at *; omega
theorem cmpLays47 (blk off size : Nat) (w : World) : CmpLays Try.prog 47 #[] K.vals 2 compK blk off size w :=
  fun _ _ _ _ x y => (compare_any x y _).mono fun _ _ ⟨he, hb, hd⟩ => ⟨he, below_grown hb hd⟩
theorem vals_one (x : K) : ∀ v ∈ x.vals, v.oneCell' = true := by
  intro v hv
  simp [K.vals] at hv
  rcases hv with rfl | rfl <;> rfl
theorem svals_one (x : Sp) : ∀ v ∈ x.vals, v.oneCell' = true := by
  intro v hv
  simp [Sp.vals] at hv
  rcases hv with rfl | rfl | rfl <;> rfl
theorem perm_mem {α : Type} [Inhabited α] {d d' : Array α} (h : PermIn 0 d.size d d') : d'.size = d.size ∧ d'.toList.Perm d.toList := by
  obtain ⟨h1, _, h3⟩ := h
  refine ⟨h1, ?_⟩
  have e1 : d.extract 0 d.size = d := by simp
  have e2 : d'.extract 0 d.size = d' := by rw [← h1]; simp
  rwa [e1, e2] at h3
theorem sorted_pair {α : Type} [Inhabited α] {lt : α → α → Bool} {d : Array α} (h : SortedIn lt 0 d.size d) : d.toList.Pairwise fun x y => lt y x = false := by
  rw [List.pairwise_iff_getElem]
  intro i j hi hj hij
  have h1 : i < d.size := by simpa using hi
  have h2 : j < d.size := by simpa using hj
  have := h i j (Nat.zero_le _) hij h2
  rw [getElem!_pos d _ h2, getElem!_pos d _ h1] at this
  simpa using this
theorem sortkeys_any (g n c B : Nat) (l : List K) (w : World) (h : w.ownsRow B 24 2 (.slice (some ⟨g, 0, none⟩) n c) n (rowV K.vals l)) (hl : l.length = n) (hn : n ≤ 1000000) :
    Calls Try.prog 66 #[.slice (some ⟨g, 0, none⟩) n c, .func (.func 47) #[] #[]] w fun e w' => e = .returned (.tuple #[]) ∧ ∃ s : List K, s.length = n ∧ (∀ x, x ∈ s ↔ x ∈ l) ∧ s.Pairwise leK ∧ w'.ownsRow B 24 2 (.slice (some ⟨g, 0, none⟩) n c) n (rowV K.vals s) ∧ w.grownBy w' (some g) := by
  have eg : ∀ args w, (callFunc 47 args).run Try.prog w = .ok (.enter 47 args) w := enters_of Try.func47 (by kernel_rfl) rfl
  have hd : l.toArray.size = n := by simpa using hl
  obtain ⟨h1, h2⟩ := holds_own K.len (by decide) (d := l.toArray) (by simpa using h) hd
  have hcon := AnyQ.slices_SortFunc Try.sortKeys 2 Try.isAgg24 Try.sizeOf24 K.vals K.len vals_one compK swoK 47 #[] g 0 c l.toArray w eg (cmpLays47 g 0 _ w) h1 h2 (by rw [hd]; omega)
  change Calls Try.prog 66 _ _ _ at hcon
  rw [hd] at hcon
  refine hcon.mono ?_
  rintro e w' ⟨rfl, d', m, os, hp, hs, rfl⟩
  rw [← hd] at hp hs
  obtain ⟨p1, p2⟩ := perm_mem hp
  rw [← p1] at hs
  have q := sorted_own K.len (by decide) h m d' (by rw [p1, hd]) os
  refine ⟨rfl, d'.toList, by simp [p1, hd], fun x => by rw [p2.mem_iff], ?_, q.1, q.2⟩
  exact (sorted_pair hs).imp fun hxy => (ltOf_keyF _ _).1 hxy
end Go.Proofs.Ytmicheheibkmjaa
