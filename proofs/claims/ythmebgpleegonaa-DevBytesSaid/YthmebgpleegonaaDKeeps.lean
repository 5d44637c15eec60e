/- What is kept, as the program's: keeps. -/
import Derived.Test.YthmebgpleegonaaDGen2
namespace Go.Proofs.Ythmebgpleegonaa
set_option maxRecDepth 100000
open Go.RowKit

theorem elemKp : ElemT Try.prog 56 68 3 24 :=
  ⟨Try.underlying56, by kernel_rfl, by
    obtain ⟨i, hi, hz, h1, _⟩ := info_parts (show (Try.prog.info? 68).map (fun i => (i.zero, i.size, i.bytes)) = some (some (.agg #[.int .i64 0, .int .i64 0, .int .i64 0]), 3, 24) by kernel_rfl)
    exact ⟨i, _, hi, hz, rfl⟩, by decide⟩
set_option maxHeartbeats 4000000 in
theorem keeps_any (A : Option Addr) (c : Nat) (l : List Kp) (w : World) (h : Kps w A l) (hl : l.length ≤ 1000000) :
    Calls Try.prog 20 #[.slice A l.length c] w fun e w' => ∃ A' c', e = .returned (.slice A' l.length c') ∧ Kps w' A' l ∧ (∀ a, A' = some a → w.heap.size ≤ a.block ∧ a.block < w'.heap.size) ∧ Below w.heap.size w w' := by
  obtain ⟨n, hn⟩ : ∃ n, n = l.length := ⟨_, rfl⟩
  have HN := Lib.hid hn
  have HH := Lib.hid h
  rw [← hn] at hl ⊢
  have HB0 := Lib.hid (((Below.refl w.heap.size w).alloc (Nat.le_refl _) (.cells #[] 68)))
  have HO0 := Lib.hid (own_empty w w.heap.size 68 3 68 rfl (Nat.le_refl _))
  clear h hn
  go_enter Try.func20, Try.ntmps20
  go_wp2_with fail
  go_loopw [3, 9] (fun v i wr => ∃ q : Nat, i = .int .i64 (q : Int) ∧ q ≤ n ∧ wr.ownsRow w.heap.size 68 3 v q (rowV Kp.vals (l.take q)) ∧ Below w.heap.size w wr) (fun _ i _ => n - (intOf i).toNat)
  case atStart => exact ⟨0, rfl, by omega, HO0.out, HB0.out⟩
  case round =>
    obtain ⟨q, rfl, hq, ho, hb⟩ := hrel
    obtain ⟨Av, cv, rfl, _, _, _⟩ := rdv_own ho
    have HO := Lib.hid ho
    have HB := Lib.hid hb
    by_cases hlt : q < n
    · have hql : q < l.length := by rw [← HN.out]; exact hlt
      obtain ⟨b, off, rfl, hc⟩ := Kps.cell (RowAt.below HH.out hb) (by omega)
      obtain ⟨c0, c1, c2⟩ := hc q hql
      obtain ⟨k, hk⟩ : ∃ k, k = l[q] := ⟨_, rfl⟩
      rw [← hk] at c0 c1 c2
      have HK := Lib.hid hk
      have hs := hb.size
      clear hc hk ho hb
      have hrd : Rdv ((wr.alloc (.cells #[.int .i64 k.dev, .int .i64 k.n, .int .i64 k.tear] 54)).alloc (.cells #[.int .i64 k.dev, .int .i64 k.n, .int .i64 k.tear] 68)) (some ⟨wr.heap.size + 1, 0, none⟩) 1 3 k.vals := ⟨rfl, fun _ => ⟨wr.heap.size + 1, 0, rfl, fun r u hr => by
        have h1 := heap_alloc_new (wr.alloc (.cells #[.int .i64 k.dev, .int .i64 k.n, .int .i64 k.tear] 54)) (.cells #[.int .i64 k.dev, .int .i64 k.n, .int .i64 k.tear] 68)
        rw [World.size_alloc] at h1
        rw [Nat.zero_add, cell_of_row _ _ r _ _ (0, 0) h1]
        simpa [Kp.vals] using hr⟩⟩
      have HRD := Lib.hid hrd
      have hown : (((wr.alloc (.cells #[.int .i64 k.dev, .int .i64 k.n, .int .i64 k.tear] 54)).alloc (.cells #[.int .i64 k.dev, .int .i64 k.n, .int .i64 k.tear] 68))).ownsRow w.heap.size 68 3 (.slice Av q cv) q (rowV Kp.vals (l.take q)) := (HO.out.alloc _).alloc _
      have HOWN := Lib.hid hown
      have HBB := Lib.hid ((HB.out.alloc hs (.cells #[.int .i64 k.dev, .int .i64 k.n, .int .i64 k.tear] 54)).alloc (by simp; omega) (.cells #[.int .i64 k.dev, .int .i64 k.n, .int .i64 k.tear] 68))
      have HSZ := Lib.hid (show w.heap.size ≤ ((wr.alloc (.cells #[.int .i64 k.dev, .int .i64 k.n, .int .i64 k.tear] 54)).alloc (.cells #[.int .i64 k.dev, .int .i64 k.n, .int .i64 k.tear] 68)).heap.size by simp; omega)
      clear hrd hown
      go_wp2_with (refine wpList_append_rowv elemKp rfl (.tmp 13) (.tmp 15) rfl w.heap.size (.slice Av q cv) q (rowV Kp.vals (l.take q)) rfl HOWN.out (some ⟨wr.heap.size + 1, 0, none⟩) 1 1 k.vals rfl HRD.out (fun u hu => by unfold Kp.vals at hu; simp only [List.mem_cons, List.not_mem_nil, or_false] at hu; rcases hu with rfl | rfl | rfl <;> rfl) (fun h => by cases h) (by unfold maxLen; omega) (by omega) HSZ.out ?_; intro v6 w6 hown6 hg6 _; have HO6 := Lib.hid hown6; have HB6 := Lib.hid (own_grown_below HOWN.out hg6 HBB.out); clear hown6 hg6)
      go_roundw
      case rel =>
        refine ⟨q + 1, by go_num, by omega, ?_, HB6.out⟩
        have := HO6.out
        rw [List.take_succ_eq_append_getElem hql, rowV_append, ← HK.out]
        have e : rowV Kp.vals [k] = k.vals := by simp [rowV]
        rw [e]
        exact this
      case measure => simp [intOf]; omega
    · obtain rfl : q = n := by omega
      clear ho hb
      go_wp2_with fail
      go_ret
      refine ⟨Av, cv, rfl, ?_, fun a e => ?_, HB.out⟩
      · have h1 := HO.out
        rw [HN.out, List.take_length] at h1
        refine ⟨rfl, h1.1, fun hn => ?_⟩
        obtain ⟨b', c', e2, _⟩ := own_some h1 hn
        injection e2 with e2
        subst e2
        exact ⟨b', 0, rfl, fun r u hr => by
          have := h1.cells (g := b') rfl r u hr
          rwa [addr_plus] at this⟩
      · subst e
        rcases HO.out.2 with ⟨h1, _⟩ | ⟨gg, cap, cur, h1, h2, _⟩
        · cases h1
        · injection h1 with h1
          injection h1 with h1
          subst h1
          exact ⟨h2, (HO.out.lt _ rfl).2⟩
end Go.Proofs.Ythmebgpleegonaa
