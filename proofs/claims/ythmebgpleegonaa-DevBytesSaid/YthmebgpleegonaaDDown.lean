/- The set's Crash. -/
import Derived.Test.YthmebgpleegonaaDCrash
namespace Go.Proofs.Ythmebgpleegonaa
set_option maxRecDepth 100000
open Go.RowKit

def kfOf (l : List Kp) (j : Nat) (q : Nat) : Nat := (keptM l (j : Int) (q : Int)).toNat
theorem kfOf_le (l : List Kp) (j q : Nat) : kfOf l j q ≤ 64 := by
  have := keptM_le l (j : Int) (q : Int)
  unfold kfOf
  omega
theorem kfOf_int (l : List Kp) (j q : Nat) : keptM l (j : Int) (q : Int) = (kfOf l j q : Int) := by
  have := keptM_le l (j : Int) (q : Int)
  unfold kfOf
  omega
/-- What a crash makes of a device. -/
def crashDk (l : List Kp) (j : Nat) (d : Dk) : Dk := ⟨d.size, crashW (kfOf l j) d.sure d.waits d.waits.length, []⟩
/-- The first q devices have crashed. -/
def Crashed (l : List Kp) (L L' : List DM) (q : Nat) : Prop :=
  L'.length = L.length ∧ ∀ i (h : i < L.length) (h' : i < L'.length), (i < q → L'[i].dk = crashDk l i L[i].dk ∧ L'[i].n ≤ L[i].n + L[i].dk.waits.length) ∧ (q ≤ i → L'[i] = L[i])
theorem Crashed.start (l : List Kp) (L : List DM) : Crashed l L L 0 := ⟨rfl, fun _ _ _ => ⟨fun e => absurd e (Nat.not_lt_zero _), fun _ => rfl⟩⟩
theorem Crashed.next {l : List Kp} {L L' : List DM} {q : Nat} (h : Crashed l L L' q) (hq : q < L.length) (d : DM) (h1 : d.dk = crashDk l q L[q].dk) (h2 : d.n ≤ L[q].n + L[q].dk.waits.length) : Crashed l L (L'.set q d) (q + 1) := by
  refine ⟨by rw [List.length_set]; exact h.1, fun i hi hi' => ?_⟩
  rw [List.length_set] at hi'
  rw [List.getElem_set]
  by_cases e : q = i
  · subst e
    rw [if_pos rfl]
    exact ⟨fun _ => ⟨h1, h2⟩, fun e => by omega⟩
  · rw [if_neg e]
    have := h.2 i hi hi'
    exact ⟨fun e2 => this.1 (by omega), fun e2 => this.2 (by omega)⟩
section
variable {w : World} {F : Nat → Prop} {g : Nat} {p : Pw} {v : Value} {L : List DM}
set_option maxHeartbeats 8000000 in
theorem crash_any (h : SetM w F g p v L) (hl : L.length ≤ 1000) (hw : ∀ d ∈ L, d.n + d.dk.waits.length ≤ 1000000000) (hwf : ∀ d ∈ L, ∀ y ∈ d.dk.waits, WfI y.i)
    (A : Option Addr) (c : Nat) (l : List Kp) (hll : l.length ≤ 1000000) (hk : ∀ w', Chg w w' F F → Kps w' A l) :
    Calls Try.prog 19 #[.pointer (some ⟨g, 0, none⟩), .slice A l.length c] w fun e w' => e = .returned (.tuple #[]) ∧ ∃ L', Crashed l L L' L.length ∧ SetM w' F g ⟨p.steps, 0, false, false⟩ v L' ∧ Chg w w' F F := by
  have hba : Below w.heap.size w (w.alloc (.cells #[.slice A l.length c] 56)) := (Below.refl _ _).alloc (Nat.le_refl _) _
  have HB := Lib.hid hba
  have hk3 : (w.alloc (.cells #[.slice A l.length c] 56)).cell? ⟨w.heap.size, 0, none⟩ = some (.slice A l.length c) := (cell_of_row _ _ 0 _ _ (0, 0) (heap_alloc_new w _)).trans rfl
  have hnF : ¬ F w.heap.size := fun e => by have := h.Flt _ e; omega
  have HK := Lib.hid (show ∀ w', Chg (w.alloc (.cells #[.slice A l.length c] 56)) w' F F → Kps w' A l ∧ w'.cell? ⟨w.heap.size, 0, none⟩ = some (.slice A l.length c) from fun w' hc => ⟨hk w' ((Chg.of_below hba F).trans hc), (hc.cell' (World.block_lt_of_cell? _ _ hk3) hnF).trans hk3⟩)
  have h1 := h.below hba
  have H1 := Lib.hid h1
  have HLL := Lib.hid hll
  obtain ⟨nk, hnk⟩ : ∃ nk, nk = l.length := ⟨_, rfl⟩
  rw [← hnk] at HK HB H1 ⊢
  obtain ⟨_, _, _, _, c4⟩ := h1.c
  rw [← hnk] at c4
  have HNK := Lib.hid hnk
  obtain ⟨A', c', rfl, hle, _⟩ := h1.slice
  obtain ⟨N, hN⟩ : ∃ N, N = L.length := ⟨_, rfl⟩
  have HN := Lib.hid hN
  have HW := Lib.hid hw
  have HWF := Lib.hid hwf
  rw [← hN] at c4 hl hle H1 ⊢
  clear hba h hw hwf hk hk3 hnF h1 hnk hN hll
  go_enter Try.func19, Try.ntmps19
  go_upto_region 1 with fail
  revert HB HK H1
  generalize World.alloc w _ = W at c4 ⊢
  intro HB HK H1
  go_wp2_with fail
  go_loopw [4, 12] (fun _ i wr => ∃ (q : Nat) (L' : List DM), i = .int .i64 (q : Int) ∧ q ≤ N ∧ Crashed l L L' q ∧ SetM wr F g p (.slice A' N c') L' ∧ Chg W wr F F) (fun _ i _ => N - (intOf i).toNat)
  case atStart => exact ⟨0, L, rfl, by omega, Crashed.start l L, H1.out, Chg.refl _ _⟩
  case round =>
    obtain ⟨q, L', rfl, hq, h3, h4, h5⟩ := hrel
    have H3 := Lib.hid h3
    have H4 := Lib.hid h4
    have H5 := Lib.hid h5
    by_cases hlt : q < N
    · have hqL : q < L.length := by rw [← HN.out]; exact hlt
      have hqL' : q < L'.length := by rw [h3.1]; exact hqL
      obtain ⟨_, _, _, _, z4⟩ := h4.c
      obtain ⟨_, _, e, _, hc⟩ := h4.slice
      obtain ⟨b, rfl, _⟩ := hc q hqL'
      injection e with e e2 e3
      subst e
      clear e2 e3 h3 h4 h5 hc
      go_upto_region 5 with fail
      have hbw : Below wr.heap.size wr (wr.alloc (.cells #[.int .i64 (q : Int)] 3)) := (Below.refl _ _).alloc (Nat.le_refl _) _
      have x4 := (hbw.cell (p := ⟨g, 4, none⟩) (World.block_lt_of_cell? _ _ z4)).trans z4
      have x5 : (wr.alloc (.cells #[.int .i64 (q : Int)] 3)).cell? ⟨wr.heap.size, 0, none⟩ = some (.int .i64 (q : Int)) := (cell_of_row _ _ 0 _ _ (0, 0) (heap_alloc_new wr _)).trans rfl
      have hz5 : ¬ F wr.heap.size := fun e => by have := H4.out.Flt _ e; omega
      have HS := Lib.hid (H4.out.below hbw)
      have HC := Lib.hid (H5.out.trans (Chg.of_below hbw F))
      obtain ⟨z, hz⟩ : ∃ z, z = wr.heap.size := ⟨_, rfl⟩
      rw [← hz] at x5 hz5 ⊢
      clear hz hbw z4 H4 H5
      revert HS HC
      generalize World.alloc wr _ = wz at x4 x5 ⊢
      intro HS HC
      have HA := Lib.hid (show ∀ W2, Below wz.drew.heap.size wz.drew W2 → W2.cell? ⟨g, 4, none⟩ = some (.slice (some ⟨b, 0, none⟩) N c') ∧ W2.cell? ⟨z, 0, none⟩ = some (.int .i64 (q : Int)) from fun W2 hw => by
        have hb2 : Below wz.heap.size wz W2 := (Below.refl _ wz).drew.trans hw
        exact ⟨(hb2.cell (World.block_lt_of_cell? _ _ x4)).trans x4, (hb2.cell (World.block_lt_of_cell? _ _ x5)).trans x5⟩)
      have HX5 := Lib.hid x5
      have HZ5 := Lib.hid hz5
      clear x4 x5 hz5
      refine wp_region_noPanic ?_
      refine wp_region_abs 7 36 [
        .is (.pointer (some ⟨g, 0, none⟩)),
        .is (.pointer (some ⟨g, 0, none⟩)),
        .is (.pointer (some ⟨g, 4, none⟩)),
        .is (.slice (some ⟨b, 0, none⟩) N c'),
        .is (.int .i64 (q : Int)),
        .is (.pointer (some ⟨b, q * 3, none⟩)),
        .is (.func (.func 37) #[] #[.pointer (some ⟨w.heap.size, 0, none⟩), .pointer (some ⟨z, 0, none⟩)])]
        [15, 16, 17, 18, 19, 20, 21]
        [[], [0], [1], [2], [], [3, 4], []] (by kernel_rfl) (by rfl) rfl rfl (by kernel_rfl) (fun _ _ _ _ h => h.elim) ?_ ?_
      · refine ⟨?_, ?_, ?_, ?_, ?_, ?_, ?_, trivial⟩
        · intro W2 hw K hK
          go_simp
          exact hK _ _ rfl (Below.refl _ _)
        · intro W2 hw K hK
          go_simp
          exact hK _ _ rfl (Below.refl _ _)
        · intro W2 hw K hK
          go_simp
          exact hK _ _ rfl (Below.refl _ _)
        · intro W2 hw K hK
          obtain ⟨c0, _⟩ := HA.out W2 hw
          go_simp
          exact hK _ _ rfl (Below.refl _ _)
        · intro W2 hw K hK
          obtain ⟨_, c0⟩ := HA.out W2 hw
          go_simp
          exact hK _ _ rfl (Below.refl _ _)
        · intro W2 hw K hK
          go_simp
          exact hK _ _ rfl (Below.refl _ _)
        · intro W2 hw K hK
          go_simp
          exact hK _ _ rfl (Below.refl _ _)
      · intro W2 hw2
        simp only [Behind, List.drop, Act.put, List.setIfInBounds_toArray, List.set_cons_zero, List.set_cons_succ]
        have hb2 : Below wz.heap.size wz W2 := (Below.refl _ wz).drew.trans hw2
        have e1 : L'[q] = L[q] := (H3.out.2 q hqL hqL').2 (Nat.le_refl _)
        have hcd := crash_disk (b := b) (c := c') (w := W2) (F := F) (g := g) (p := p) (L := L') (by rw [H3.out.1, ← HN.out]; exact HS.out.below hb2) q hqL' (by rw [H3.out.1, ← HN.out]; exact hl) (by rw [e1]; exact HW.out _ (List.getElem_mem hqL)) (by rw [e1]; exact HWF.out _ (List.getElem_mem hqL)) (kfOf l q) (kfOf_le l q) w.heap.size z (fun i w' hc => by
          have h0 := HC.out.trans ((Chg.of_below hb2 F).trans hc)
          obtain ⟨a1, a2⟩ := HK.out w' h0
          have a3 := (((Chg.of_below hb2 F).trans hc).cell' (World.block_lt_of_cell? _ _ HX5.out) HZ5.out).trans HX5.out
          have := closure_any A c l (q : Int) w.heap.size z (i : Int) w' a1 HLL.out (by rw [← HNK.out]; exact a2) a3
          rw [kfOf_int] at this
          exact this)
        rw [e1] at hcd
        have HCD := Lib.hid hcd
        have HC2 := Lib.hid (HC.out.trans (Chg.of_below hb2 F))
        clear hw2 hcd HA HS HC hb2
        go_wp2_with fail
        refine Calls.mono HCD.out ?_
        rintro e w5 ⟨rfl, n', hn', h6, h7⟩
        have H6 := Lib.hid h6
        have H7 := Lib.hid (HC2.out.trans h7)
        have HNN := Lib.hid hn'
        clear h6 h7 HC2 HCD
        go_wp2_with fail
        refine NoPanic.normal ?_
        go_wp2_with fail
        go_roundw
        case rel =>
          refine ⟨q + 1, _, by go_num, by omega, H3.out.next hqL ⟨crashDk l q L[q].dk, L[q].m, n', .slice none 0 0⟩ rfl HNN.out, ?_, H7.out⟩
          have := H6.out
          rw [H3.out.1, ← HN.out] at this
          exact this
        case measure => simp [intOf]; omega
    · obtain rfl : q = N := by omega
      obtain ⟨_, y1, y2, y3, _⟩ := h4.c
      have f1 := h4.fr 1
      have f2 := h4.fr 2
      have f3 := h4.fr 3
      obtain ⟨st, ar, ia, gn⟩ := p
      have s1 := h4.pset (p' := ⟨st, ar, ia, false⟩) 3 (.bool false) rfl
      have s2 := s1.1.pset (p' := ⟨st, ar, false, false⟩) 2 (.bool false) rfl
      have s3 := s2.1.pset (p' := ⟨st, 0, false, false⟩) 1 (.int .i64 0) rfl
      have HS := Lib.hid s3.1
      have HC := Lib.hid ((Chg.of_below HB.out F).trans (H5.out.trans (s1.2.trans (s2.2.trans s3.2))))
      clear h3 h4 h5 s1 s2 s3
      go_wp2_with fail
      refine bodyPost_end (v := .tuple #[]) (by simp [results, Try.results19, go_sem]) rfl ⟨rfl, L', H3.out, HS.out, HC.out⟩
end
end Go.Proofs.Ythmebgpleegonaa
