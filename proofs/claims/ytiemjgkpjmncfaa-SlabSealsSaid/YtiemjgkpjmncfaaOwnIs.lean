/- slab.Is once more: what it hands out is the caller's own. -/
import Derived.Test.YtiemjgkpjmncfaaOwn
import Derived.Test.YtiemjgkpjmncfaaAlive
namespace Go.Proofs.Ytiemjgkpjmncfaa
set_option maxRecDepth 100000
open Go.RowKit

/-- What Is answers, owned. -/
def IsO (l : List Nat) (st kd : Int) (w : World) (e : Ending) (w' : World) : Prop :=
  (∃ (d : List Nat) (A : Option Addr) (c a k : Nat), openN l = some (a, k, d) ∧ (a : Int) = st ∧ (k : Int) = kd ∧ e = .returned (.tuple #[.slice A d.length c, .bool true]) ∧ NewO w w' A d.length c d) ∨
  ((∀ a k d, openN l = some (a, k, d) → ¬ ((a : Int) = st ∧ (k : Int) = kd)) ∧ e = .returned (.tuple #[.slice none 0 0, .bool false]))
set_option maxHeartbeats 1000000 in
theorem isSlab_own (l : List Nat) (hl : l.length = 64) (hs : ∀ x ∈ l, x < 256) (st kd : Int) (w : World) :
    Calls Try.prog 41 #[.agg (secV l), .int .i64 st, .int .i64 kd] w fun e w' => IsO l st kd w e w' ∧ Below w.heap.size w w' := by
  have HS := Lib.hid (show Sec (w.alloc (.cells (secV l) 50)) w.heap.size l from heap_alloc_new w _)
  have HB := Lib.hid ((Below.refl w.heap.size w).alloc (Nat.le_refl _) (.cells (secV l) 50))
  have HC := Lib.hid (open_own l hl hs (w.alloc (.cells (secV l) 50)))
  have HL := Lib.hid hl
  clear hl hs
  go_enter Try.func41, Try.ntmps41
  go_wp2_with (first | refine wpList_load_sec (by rfl) (.tmp 3) rfl w.heap.size rfl l HL.out HS.out ?_)
  refine Calls.mono HC.out ?_
  rintro e w1 ⟨ho, hb1⟩
  rcases ho with ⟨hn, rfl⟩ | ⟨a, k, d, A, c, hs, rfl, hna⟩
  · have HN := Lib.hid hn
    have HB1 := Lib.hid (HB.out.trans (hb1.mono HB.out.size))
    clear hn hb1
    unfold eCorrupt
    go_wp2_with fail
    go_ret2
    exact ⟨.inr ⟨fun a k d h => (by rw [HN.out] at h; cases h), rfl⟩, HB1.out.alloc HB1.out.size _⟩
  · skip
    have HNA := Lib.hid (NewO.mono (w0 := w) hna (by simp))
    have HO := Lib.hid hs
    have HB1 := Lib.hid (HB.out.trans (hb1.mono HB.out.size))
    clear hna hs hb1
    by_cases h1 : (a : Int) = st
    · subst h1
      have d1 : ((a : Int) != (a : Int)) = false := by simp
      by_cases h2 : (k : Int) = kd
      · subst h2
        have d2 : ((k : Int) != (k : Int)) = false := by simp
        go_wp2_with fail
        go_ret2
        refine ⟨.inl ⟨d, A, c, a, k, HO.out, rfl, rfl, rfl, HNA.out.later _⟩, HB1.out.alloc HB1.out.size _⟩
      · have d2 : ((k : Int) != kd) = true := by rw [bne_iff_ne]; exact h2
        have H2 := Lib.hid h2
        clear h2
        go_wp2_with fail
        go_ret2
        exact ⟨.inr ⟨fun a' k' d' h => (by rw [HO.out] at h; cases h; exact fun h => H2.out h.2), rfl⟩, HB1.out.alloc HB1.out.size _⟩
    · have d1 : ((a : Int) != st) = true := by rw [bne_iff_ne]; exact h1
      have H1 := Lib.hid h1
      clear h1
      go_wp2_with fail
      go_ret2
      exact ⟨.inr ⟨fun a' k' d' h => (by rw [HO.out] at h; cases h; exact fun h => H1.out h.1), rfl⟩, HB1.out.alloc HB1.out.size _⟩
end Go.Proofs.Ytiemjgkpjmncfaa
