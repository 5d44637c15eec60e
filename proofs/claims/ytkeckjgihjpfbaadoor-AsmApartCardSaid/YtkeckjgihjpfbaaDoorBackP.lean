/- Beginnings of programs' bytes, and bytes behind them, are none's; unlike programs have unlike bytes. -/
import Derived.Test.YtkeckjgihjpfbaaDoorBackC
namespace Go.Proofs.YtkeckjgihjpfbaaDoor
set_option maxRecDepth 100000
open Go.RowKit

theorem set_n (u : Ins) (k : Nat) (v : Int) (hu : Fits u.n) (hv : Fits v) : Fits (u.set k v).n := by
  unfold Ins.set
  split
  · exact hu
  split
  · exact hu
  split
  · exact hu
  split
  · exact hu
  · exact hv
theorem rest_small (bs : List Nat) (hs : ∀ b ∈ bs, b < 256) : ∀ b ∈ (rcount bs).2.1, b < 256 := by
  rcases rcount_ways bs with h | ⟨x, rest, h⟩
  · rw [h]; intro b hb; cases hb
  · rw [h]; exact small_rest hs h
theorem fold_fits : ∀ (ls : List Nat) (s : Ins × List Nat × Bool), (∀ b ∈ s.2.1, b < 256) → Fits s.1.n → Fits (ls.foldl stepL s).1.n ∧ ∀ b ∈ (ls.foldl stepL s).2.1, b < 256
  | [], _, hs, h => ⟨h, hs⟩
  | l :: ls, s, hs, h => by
    rw [List.foldl_cons]
    refine fold_fits ls _ (rest_small s.2.1 hs) ?_
    refine set_n _ _ _ h ?_
    split
    · exact unfoldN_fits _ (rcount_lt _ hs)
    · exact wrapI_fits _
theorem take_fits (bs : List Nat) (bad : Bool) (hs : ∀ b ∈ bs, b < 256) : Fits (takeI bs bad).1.n ∧ ∀ b ∈ (takeI bs bad).2.1, b < 256 :=
  fold_fits _ _ (fun b hb => hs b (List.mem_of_mem_drop hb)) (by show Fits 0; unfold Fits; decide)
theorem takeN_fits (k : Nat) (bs : List Nat) (bad : Bool) (hs : ∀ b ∈ bs, b < 256) : (∀ x ∈ (takeN k bs bad).1, Fits x.n) ∧ ∀ b ∈ (takeN k bs bad).2.1, b < 256 := by
  induction k with
  | zero => exact ⟨(fun x hx => by cases hx), hs⟩
  | succ k ih =>
    have h1 := take_fits (takeN k bs bad).2.1 (takeN k bs bad).2.2 ih.2
    rw [takeN]
    refine ⟨fun x hx => ?_, h1.2⟩
    rcases List.mem_append.1 hx with hx | hx
    · exact ih.1 x hx
    · rw [List.mem_singleton.1 hx]; exact h1.1
theorem readP_fits (xs : List Nat) (hs : ∀ b ∈ xs, b < 256) : ∀ x ∈ (readP xs).2.1, Fits x.n :=
  (takeN_fits _ _ _ (rest_small _ (rest_small xs hs))).1
theorem read_more {f : Int} {l : List Ins} (h : chk f l = -2) (hn : ∀ x ∈ l, Fits x.n) (rest : List Nat) : readP (encP f.toNat l ++ rest) = (f, l, rest, false) := by
  obtain ⟨hh, _⟩ := chk_good h
  unfold readP encP
  rw [List.append_assoc, List.append_assoc, rcount_cntN _ (by omega)]
  simp only []
  rw [rcount_cntN _ (by omega)]
  simp only []
  rw [Nat.min_eq_left (by omega : l.length ≤ 33), ← takeGN_wrap]
  have := takes_back wrapI_cv l (good_small h hn) rest l.length (Nat.le_refl _)
  rw [List.take_length, List.drop_length] at this
  rw [this, wrapI_cv _ (by omega), Int.toNat_of_nonneg (by omega)]
  rfl
/-- A true beginning of a program's bytes is none's. -/
theorem dec_cut {f : Int} {l : List Ins} (h : chk f l = -2) (hn : ∀ x ∈ l, Fits x.n) (hs : ∀ b ∈ encP f.toNat l, b < 256) (k : Nat) (hk : k < (encP f.toNat l).length) : decOk ((encP f.toNat l).take k) = false := by
  cases hd : decOk ((encP f.toNat l).take k) with
  | false => rfl
  | true =>
    have hs2 : ∀ b ∈ (encP f.toNat l).take k, b < 256 := fun b hb => hs b (List.mem_of_mem_take hb)
    obtain ⟨e, hc⟩ := dec_yes hs2 hd
    have h1 := read_more hc (readP_fits _ hs2) ((encP f.toNat l).drop k)
    rw [← e, List.take_append_drop, read_back h hn] at h1
    simp only [Prod.mk.injEq] at h1
    have h2 := congrArg List.length h1.2.2.1
    rw [List.length_drop] at h2
    simp at h2
    omega
/-- Nor is one with more behind it. -/
theorem dec_more {f : Int} {l : List Ins} (h : chk f l = -2) (hn : ∀ x ∈ l, Fits x.n) (b : Nat) : decOk (encP f.toNat l ++ [b]) = false := by
  unfold decOk
  rw [read_more h hn]
  simp
theorem enc_inj {f g : Int} {l m : List Ins} (h : chk f l = -2) (hn : ∀ x ∈ l, Fits x.n) (h2 : chk g m = -2) (hn2 : ∀ x ∈ m, Fits x.n) : decide (encP f.toNat l = encP g.toNat m) = sameP f g l m := by
  rw [Bool.eq_iff_iff]
  unfold sameP
  simp only [decide_eq_true_iff, Bool.and_eq_true]
  refine ⟨fun e => ?_, fun e => by rw [e.1, e.2]⟩
  have h3 := read_back h hn
  rw [e, read_back h2 hn2] at h3
  simp only [Prod.mk.injEq] at h3
  exact ⟨h3.1.symm, h3.2.1.symm⟩
end Go.Proofs.YtkeckjgihjpfbaaDoor
