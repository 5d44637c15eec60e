/- What the document reads of bytes: the mathematics. -/
import Derived.Test.YtmicheheibkmjaaZT
namespace Go.Proofs.Ytmicheheibkmjaa
set_option maxRecDepth 100000
open Go.RowKit

/-- A count that is not too great. -/
def smallV (n : Nat) : Int := if n > 100000 then -1 else (n : Int)
theorem smallV_of {n : Nat} (h : n ≤ 100000) : smallV n = (n : Int) := if_neg (by omega)
theorem smallV_le (n : Nat) : (smallV n).toNat ≤ 100000 := by unfold smallV; split <;> omega
section
variable {α : Type}
/-- Things read while all is well. -/
def loopM (R : List Nat → α × List Nat × Bool) : Nat → List Nat → Bool → List α × List Nat × Bool
  | 0, bs, bad => ([], bs, bad)
  | m + 1, bs, bad => if bad then ([], bs, bad) else ((R bs).1 :: (loopM R m (R bs).2.1 (R bs).2.2).1, (loopM R m (R bs).2.1 (R bs).2.2).2)
def listM (R : List Nat → α × List Nat × Bool) (bs : List Nat) : List α × List Nat × Bool := loopM R (smallV (rcount bs).1).toNat (rcount bs).2.1 (rcount bs).2.2
variable {R : List Nat → α × List Nat × Bool} {E : α → List Nat} {p : α → Prop}
theorem loopM_put (C : ∀ x rest, p x → R (E x ++ rest) = (x, rest, false)) : ∀ (l : List α) (rest : List Nat), (∀ x ∈ l, p x) → loopM R l.length (l.flatMap E ++ rest) false = (l, rest, false)
  | [], rest, _ => rfl
  | x :: l, rest, h => by
    have h1 := C x (l.flatMap E ++ rest) (h x (List.mem_cons_self ..))
    have h2 := loopM_put C l rest (fun y hy => h y (List.mem_cons_of_mem _ hy))
    simp only [List.length_cons, loopM, List.flatMap_cons, List.append_assoc, h1, h2]
    rfl
theorem listM_put (C : ∀ x rest, p x → R (E x ++ rest) = (x, rest, false)) (l : List α) (rest : List Nat) (h : ∀ x ∈ l, p x) (hl : l.length ≤ 100000) : listM R ((cntN l.length ++ l.flatMap E) ++ rest) = (l, rest, false) := by
  unfold listM
  rw [List.append_assoc, rcount_cntN _ (by omega)]
  simp only
  rw [smallV_of hl]
  exact loopM_put C l rest h
theorem loopM_len (m : Nat) : ∀ (bs : List Nat) (bad : Bool), (loopM R m bs bad).1.length ≤ m := by
  induction m with
  | zero => intro bs bad; exact Nat.le_refl _
  | succ m ih =>
    intro bs bad
    unfold loopM
    split
    · simp
    · simp only [List.length_cons]; have := ih (R bs).2.1 (R bs).2.2; omega
theorem listM_len (bs : List Nat) : (listM R bs).1.length ≤ 100000 := Nat.le_trans (loopM_len _ _ _) (smallV_le _)
theorem loopM_all {P : α → Prop} (hP : ∀ bs, (∀ b ∈ bs, b < 256) → P (R bs).1) (hr : ∀ bs, (∀ b ∈ bs, b < 256) → ∀ b ∈ (R bs).2.1, b < 256) (m : Nat) : ∀ (bs : List Nat) (bad : Bool), (∀ b ∈ bs, b < 256) → (∀ x ∈ (loopM R m bs bad).1, P x) ∧ ∀ b ∈ (loopM R m bs bad).2.1, b < 256 := by
  induction m with
  | zero => intro bs bad hs; exact ⟨(fun x hx => by cases hx), hs⟩
  | succ m ih =>
    intro bs bad hs
    unfold loopM
    split
    · exact ⟨(fun x hx => by cases hx), hs⟩
    · obtain ⟨h1, h2⟩ := ih (R bs).2.1 (R bs).2.2 (hr bs hs)
      refine ⟨fun x hx => ?_, h2⟩
      rcases List.mem_cons.1 hx with rfl | hx
      · exact hP bs hs
      · exact h1 x hx
theorem loopM_next (m : Nat) (bs : List Nat) (pre : List α) (all : List α × List Nat × Bool) (hm : 0 < m) (h : (pre ++ (loopM R m bs false).1, (loopM R m bs false).2) = all) :
    ((pre ++ [(R bs).1]) ++ (loopM R (m - 1) (R bs).2.1 (R bs).2.2).1, (loopM R (m - 1) (R bs).2.1 (R bs).2.2).2) = all := by
  obtain ⟨k, rfl⟩ : ∃ k, m = k + 1 := ⟨m - 1, by omega⟩
  rw [← h]
  simp [loopM]
theorem loopM_bad (m : Nat) (bs : List Nat) (pre : List α) : (pre ++ (loopM R m bs true).1, (loopM R m bs true).2) = (pre, bs, true) := by
  cases m with
  | zero => simp [loopM]
  | succ m => simp [loopM]
end
def kM (bs : List Nat) : K × List Nat × Bool := (⟨smallV (rcount bs).1, unfoldN (rcount (rcount bs).2.1).1⟩, (rcount (rcount bs).2.1).2)
def sM (bs : List Nat) : Sp × List Nat × Bool :=
  (⟨smallV (rcount bs).1, unfoldN (rcount (rcount bs).2.1).1, unfoldN (rcount (rcount (rcount bs).2.1).2.1).1⟩, (rcount (rcount (rcount bs).2.1).2.1).2)
theorem smallV_tab {t : Int} (h : tabP t) : smallV t.toNat = t := by
  unfold tabP at h
  rw [smallV_of (by omega)]
  omega
theorem kM_put (x : K) (rest : List Nat) (h : FitK x) : kM (kB x ++ rest) = (x, rest, false) := by
  obtain ⟨h1, h2⟩ := h
  have h1' := h1
  unfold tabP at h1'
  unfold kM kB
  rw [List.append_assoc, rcount_cntN _ (by omega)]
  simp only [rcount_cntN _ (foldN_lt h2), unfold_fold h2, smallV_tab h1]
theorem sM_put (x : Sp) (rest : List Nat) (h : FitX x) : sM (sB x ++ rest) = (x, rest, false) := by
  obtain ⟨h1, h2, h3⟩ := h
  have h1' := h1
  unfold tabP at h1'
  unfold sM sB
  rw [List.append_assoc, List.append_assoc, rcount_cntN _ (by omega)]
  simp only [rcount_cntN _ (foldN_lt h2), rcount_cntN _ (foldN_lt h3), unfold_fold h2, unfold_fold h3, smallV_tab h1]
/-- What the document reads of bytes. -/
def takeM (bs : List Nat) : Ft × List Nat × Bool :=
  (⟨(listM kM bs).1, (listM sM (listM kM bs).2.1).1, (listM kM (listM sM (listM kM bs).2.1).2.1).1⟩, (listM kM (listM sM (listM kM bs).2.1).2.1).2)
theorem takeM_put (f : Ft) (h : FitF f) (h1 : f.rs.length ≤ 100000) (h2 : f.sp.length ≤ 100000) (h3 : f.ws.length ≤ 100000) : takeM (putB f) = (f, [], false) := by
  have e1 := listM_put (E := kB) (p := FitK) kM_put f.rs (ssB f.sp ++ ksB f.ws) h.rs h1
  have e2 := listM_put (E := sB) (p := FitX) sM_put f.sp (ksB f.ws) h.sp h2
  have e3 := listM_put (E := kB) (p := FitK) kM_put f.ws [] h.ws h3
  rw [List.append_nil] at e3
  unfold takeM putB
  rw [show ksB f.rs = cntN f.rs.length ++ f.rs.flatMap kB from rfl, e1]
  simp only
  rw [show ssB f.sp = cntN f.sp.length ++ f.sp.flatMap sB from rfl, e2]
  simp only
  rw [show ksB f.ws = cntN f.ws.length ++ f.ws.flatMap kB from rfl, e3]
theorem listKM_all {bs : List Nat} (hs : ∀ b ∈ bs, b < 256) : (∀ x ∈ (listM kM bs).1, Fits x.k) ∧ ∀ b ∈ (listM kM bs).2.1, b < 256 :=
  loopM_all (R := kM) (P := fun x => Fits x.k) (fun _ hs => (fold_unfold (rcount_lt _ (rcount_rest hs))).2) (fun _ hs => rcount_rest (rcount_rest hs)) _ _ _ (rcount_rest hs)
theorem listSM_all {bs : List Nat} (hs : ∀ b ∈ bs, b < 256) : (∀ x ∈ (listM sM bs).1, FitS x) ∧ ∀ b ∈ (listM sM bs).2.1, b < 256 :=
  loopM_all (R := sM) (P := FitS) (fun _ hs => by
    have h1 := (fold_unfold (rcount_lt _ (rcount_rest hs))).2
    have h2 := (fold_unfold (rcount_lt _ (rcount_rest (rcount_rest hs)))).2
    exact ⟨h1.1, h1.2, h2.1, h2.2⟩) (fun _ hs => rcount_rest (rcount_rest (rcount_rest hs))) _ _ _ (rcount_rest hs)
end Go.Proofs.Ytmicheheibkmjaa
