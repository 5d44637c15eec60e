/- XDDown, XDSt, XDAlive, XDOpen, XDRefP: put together. -/
import Derived.Test.YtjmjehhmkjhalaaQb17
import Derived.Test.YtjmjehhmkjhalaaQk01
import Derived.Test.YtjmjehhmkjhalaaQb20
import Derived.Test.YtjmjehhmkjhalaaQb21
import Derived.ProofKit
import Derived.OpenShut
import Derived.Deep.Slices
import Derived.Deep.Strs
import Derived.ShutString
import Derived.ChangeOld
import Derived.Test.YtjmjehhmkjhalaaQb22
import Derived.Test.YtjmjehhmkjhalaaQb41
/- DDown: further theorems. -/
namespace Go.Proofs.Ytjmjehhmkjhalaa
set_option maxRecDepth 100000
open Go.RowKit

theorem kfOf_le (l : List Kp) (j q : Nat) : kfOf l j q ≤ 64 := by
  have := keptM_le l (j : Int) (q : Int)
  unfold kfOf
  omega
theorem kfOf_int (l : List Kp) (j q : Nat) : keptM l (j : Int) (q : Int) = (kfOf l j q : Int) := by
  have := keptM_le l (j : Int) (q : Int)
  unfold kfOf
  omega
theorem Crashed.start (l : List Kp) (L : List DM) : Crashed l L L 0 := ⟨rfl, fun _ _ _ => ⟨fun e => absurd e (Nat.not_lt_zero _), fun _ => rfl⟩⟩
section
variable {w : World} {F : Nat → Prop} {g : Nat} {p : Pw} {v : Value} {L : List DM}
set_option maxHeartbeats 8000000 in
theorem crash_any (h : SetM w F g p v L) (hl : L.length ≤ 1000) (hw : ∀ d ∈ L, d.n + d.dk.waits.length ≤ 1000000000) (hwf : ∀ d ∈ L, ∀ y ∈ d.dk.waits, WfI y.i)
    (A : Option Addr) (c : Nat) (l : List Kp) (hll : l.length ≤ 1000000) (hk : ∀ w', Chg w w' F F → Kps w' A l) :
    Calls Try.prog 42 #[.pointer (some ⟨g, 0, none⟩), .slice A l.length c] w fun e w' => e = .returned (.tuple #[]) ∧ ∃ L', Crashed l L L' L.length ∧ SetM w' F g ⟨p.steps, 0, false, false⟩ v L' ∧ Chg w w' F F := by
  have hba : Below w.heap.size w (w.alloc (.cells #[.slice A l.length c] 82)) := (Below.refl _ _).alloc (Nat.le_refl _) _
  have HB := Lib.hid hba
  have hk3 : (w.alloc (.cells #[.slice A l.length c] 82)).cell? ⟨w.heap.size, 0, none⟩ = some (.slice A l.length c) := (cell_of_row _ _ 0 _ _ (0, 0) (heap_alloc_new w _)).trans rfl
  have hnF : ¬ F w.heap.size := fun e => by have := h.Flt _ e; omega
  have HK := Lib.hid (show ∀ w', Chg (w.alloc (.cells #[.slice A l.length c] 82)) w' F F → Kps w' A l ∧ w'.cell? ⟨w.heap.size, 0, none⟩ = some (.slice A l.length c) from fun w' hc => ⟨hk w' ((Chg.of_below hba F).trans hc), (hc.cell' (World.block_lt_of_cell? _ _ hk3) hnF).trans hk3⟩)
  have h1 := h.below hba
  have H1 := Lib.hid h1
  have HLL := Lib.hid hll
  obtain ⟨nk, hnk⟩ : ∃ nk, nk = l.length := ⟨_, rfl⟩
  rw [← hnk] at HK HB H1 ⊢
  obtain ⟨_, _, _, _, c4⟩ := h1.c
  rw [← hnk] at c4
  have HNK := Lib.hid hnk
  obtain ⟨A', c', rfl, hle, _⟩ := h1.slice
  obtain ⟨N, hN⟩ : ∃ N, N = L.length := ⟨_, rfl⟩
  have HN := Lib.hid hN
  have HW := Lib.hid hw
  have HWF := Lib.hid hwf
  rw [← hN] at c4 hl hle H1 ⊢
  clear hba h hw hwf hk hk3 hnF h1 hnk hN hll
  go_enter Try.func42, Try.ntmps42
  go_upto_region 1 with fail
  revert HB HK H1
  generalize World.alloc w _ = W at c4 ⊢
  intro HB HK H1
  go_wp2_with fail
  go_loopw [4, 12] (fun _ i wr => ∃ (q : Nat) (L' : List DM), i = .int .i64 (q : Int) ∧ q ≤ N ∧ Crashed l L L' q ∧ SetM wr F g p (.slice A' N c') L' ∧ Chg W wr F F) (fun _ i _ => N - (intOf i).toNat)
  case atStart => exact ⟨0, L, rfl, by omega, Crashed.start l L, H1.out, Chg.refl _ _⟩
  case round =>
    obtain ⟨q, L', rfl, hq, h3, h4, h5⟩ := hrel
    have H3 := Lib.hid h3
    have H4 := Lib.hid h4
    have H5 := Lib.hid h5
    by_cases hlt : q < N
    · have hqL : q < L.length := by rw [← HN.out]; exact hlt
      have hqL' : q < L'.length := by rw [h3.1]; exact hqL
      obtain ⟨_, _, _, _, z4⟩ := h4.c
      obtain ⟨_, _, e, _, hc⟩ := h4.slice
      obtain ⟨b, rfl, _⟩ := hc q hqL'
      injection e with e e2 e3
      subst e
      clear e2 e3 h3 h4 h5 hc
      go_upto_region 5 with fail
      have hbw : Below wr.heap.size wr (wr.alloc (.cells #[.int .i64 (q : Int)] 3)) := (Below.refl _ _).alloc (Nat.le_refl _) _
      have x4 := (hbw.cell (p := ⟨g, 4, none⟩) (World.block_lt_of_cell? _ _ z4)).trans z4
      have x5 : (wr.alloc (.cells #[.int .i64 (q : Int)] 3)).cell? ⟨wr.heap.size, 0, none⟩ = some (.int .i64 (q : Int)) := (cell_of_row _ _ 0 _ _ (0, 0) (heap_alloc_new wr _)).trans rfl
      have hz5 : ¬ F wr.heap.size := fun e => by have := H4.out.Flt _ e; omega
      have HS := Lib.hid (H4.out.below hbw)
      have HC := Lib.hid (H5.out.trans (Chg.of_below hbw F))
      obtain ⟨z, hz⟩ : ∃ z, z = wr.heap.size := ⟨_, rfl⟩
      rw [← hz] at x5 hz5 ⊢
      clear hz hbw z4 H4 H5
      revert HS HC
      generalize World.alloc wr _ = wz at x4 x5 ⊢
      intro HS HC
      have HA := Lib.hid (show ∀ W2, Below wz.drew.heap.size wz.drew W2 → W2.cell? ⟨g, 4, none⟩ = some (.slice (some ⟨b, 0, none⟩) N c') ∧ W2.cell? ⟨z, 0, none⟩ = some (.int .i64 (q : Int)) from fun W2 hw => by
        have hb2 : Below wz.heap.size wz W2 := (Below.refl _ wz).drew.trans hw
        exact ⟨(hb2.cell (World.block_lt_of_cell? _ _ x4)).trans x4, (hb2.cell (World.block_lt_of_cell? _ _ x5)).trans x5⟩)
      have HX5 := Lib.hid x5
      have HZ5 := Lib.hid hz5
      clear x4 x5 hz5
      refine wp_region_noPanic ?_
      refine wp_region_abs 7 36 [
        .is (.pointer (some ⟨g, 0, none⟩)),
        .is (.pointer (some ⟨g, 0, none⟩)),
        .is (.pointer (some ⟨g, 4, none⟩)),
        .is (.slice (some ⟨b, 0, none⟩) N c'),
        .is (.int .i64 (q : Int)),
        .is (.pointer (some ⟨b, q * 3, none⟩)),
        .is (.func (.func 106) #[] #[.pointer (some ⟨w.heap.size, 0, none⟩), .pointer (some ⟨z, 0, none⟩)])]
        [15, 16, 17, 18, 19, 20, 21]
        [[], [0], [1], [2], [], [3, 4], []] (by kernel_rfl) (by rfl) rfl rfl (by kernel_rfl) (fun _ _ _ _ h => h.elim) ?_ ?_
      · refine ⟨?_, ?_, ?_, ?_, ?_, ?_, ?_, trivial⟩
        · intro W2 hw K hK
          go_simp
          exact hK _ _ rfl (Below.refl _ _)
        · intro W2 hw K hK
          go_simp
          exact hK _ _ rfl (Below.refl _ _)
        · intro W2 hw K hK
          go_simp
          exact hK _ _ rfl (Below.refl _ _)
        · intro W2 hw K hK
          obtain ⟨c0, _⟩ := HA.out W2 hw
          go_simp
          exact hK _ _ rfl (Below.refl _ _)
        · intro W2 hw K hK
          obtain ⟨_, c0⟩ := HA.out W2 hw
          go_simp
          exact hK _ _ rfl (Below.refl _ _)
        · intro W2 hw K hK
          go_simp
          exact hK _ _ rfl (Below.refl _ _)
        · intro W2 hw K hK
          go_simp
          exact hK _ _ rfl (Below.refl _ _)
      · intro W2 hw2
        simp only [Behind, List.drop, Act.put, List.setIfInBounds_toArray, List.set_cons_zero, List.set_cons_succ]
        have hb2 : Below wz.heap.size wz W2 := (Below.refl _ wz).drew.trans hw2
        have e1 : L'[q] = L[q] := (H3.out.2 q hqL hqL').2 (Nat.le_refl _)
        have hcd := crash_disk (b := b) (c := c') (w := W2) (F := F) (g := g) (p := p) (L := L') (by rw [H3.out.1, ← HN.out]; exact HS.out.below hb2) q hqL' (by rw [H3.out.1, ← HN.out]; exact hl) (by rw [e1]; exact HW.out _ (List.getElem_mem hqL)) (by rw [e1]; exact HWF.out _ (List.getElem_mem hqL)) (kfOf l q) (kfOf_le l q) w.heap.size z (fun i w' hc => by
          have h0 := HC.out.trans ((Chg.of_below hb2 F).trans hc)
          obtain ⟨a1, a2⟩ := HK.out w' h0
          have a3 := (((Chg.of_below hb2 F).trans hc).cell' (World.block_lt_of_cell? _ _ HX5.out) HZ5.out).trans HX5.out
          have := closure_any A c l (q : Int) w.heap.size z (i : Int) w' a1 HLL.out (by rw [← HNK.out]; exact a2) a3
          rw [kfOf_int] at this
          exact this)
        rw [e1] at hcd
        have HCD := Lib.hid hcd
        have HC2 := Lib.hid (HC.out.trans (Chg.of_below hb2 F))
        clear hw2 hcd HA HS HC hb2
        go_wp2_with fail
        refine Calls.mono HCD.out ?_
        rintro e w5 ⟨rfl, n', hn', h6, h7⟩
        have H6 := Lib.hid h6
        have H7 := Lib.hid (HC2.out.trans h7)
        have HNN := Lib.hid hn'
        clear h6 h7 HC2 HCD
        go_wp2_with fail
        refine NoPanic.normal ?_
        go_wp2_with fail
        go_roundw
        case rel =>
          refine ⟨q + 1, _, by go_num, by omega, H3.out.next hqL ⟨crashDk l q L[q].dk, L[q].m, n', .slice none 0 0⟩ rfl HNN.out, ?_, H7.out⟩
          have := H6.out
          rw [H3.out.1, ← HN.out] at this
          exact this
        case measure => simp [intOf]; omega
    · obtain rfl : q = N := by omega
      obtain ⟨_, y1, y2, y3, _⟩ := h4.c
      have f1 := h4.fr 1
      have f2 := h4.fr 2
      have f3 := h4.fr 3
      obtain ⟨st, ar, ia, gn⟩ := p
      have s1 := h4.pset (p' := ⟨st, ar, ia, false⟩) 3 (.bool false) rfl
      have s2 := s1.1.pset (p' := ⟨st, ar, false, false⟩) 2 (.bool false) rfl
      have s3 := s2.1.pset (p' := ⟨st, 0, false, false⟩) 1 (.int .i64 0) rfl
      have HS := Lib.hid s3.1
      have HC := Lib.hid ((Chg.of_below HB.out F).trans (H5.out.trans (s1.2.trans (s2.2.trans s3.2))))
      clear h3 h4 h5 s1 s2 s3
      go_wp2_with fail
      refine bodyPost_end (v := .tuple #[]) (by simp [results, Try.results42, go_sem]) rfl ⟨rfl, L', H3.out, HS.out, HC.out⟩
end
end Go.Proofs.Ytjmjehhmkjhalaa

/- DSt: further theorems. -/
namespace Go.Proofs.Ytjmjehhmkjhalaa
set_option maxRecDepth 100000
open Go.RowKit

section
variable {w : World} {F : Nat → Prop} {g : Nat} {p : Pw} {ds : List Dk} {K : Nat}
theorem st_crash (h : St w F g p ds K) (hl : ds.length ≤ 1000) (hk : K ≤ 1000000000) (A : Option Addr) (c : Nat) (l : List Kp) (hll : l.length ≤ 1000000) (hkp : ∀ w', Chg w w' F F → Kps w' A l) :
    Calls Try.prog 42 #[.pointer (some ⟨g, 0, none⟩), .slice A l.length c] w fun e w' => e = .returned (.tuple #[]) ∧ St w' F g ⟨p.steps, 0, false, false⟩ (crashM l ds) K ∧ Chg w w' F F := by
  obtain ⟨v, L, h1, h2, h3, h4⟩ := h
  have hLl : L.length = ds.length := by rw [← h2, List.length_map]
  refine Calls.mono (crash_any h1 (by omega) (fun d hd => by have := h3 d hd; omega) (fun d hd => (h4 _ (by rw [← h2]; exact List.mem_map_of_mem hd)).2) A c l hll hkp) ?_
  rintro e w' ⟨rfl, L', ⟨h5, h6⟩, h7, h8⟩
  have hds : L'.map DM.dk = crashM l ds := by
    apply List.ext_getElem
    · rw [List.length_map, h5, hLl]; simp [crashM]
    · intro i a b
      have hi : i < L.length := by rw [List.length_map, h5] at a; exact a
      have hi' : i < L'.length := by rw [h5]; exact hi
      rw [List.getElem_map, ((h6 i hi hi').1 hi).1]
      rw [crashM_get l ds i (by omega)]
      congr 1
      subst h2
      rw [List.getElem_map]
  refine ⟨rfl, ⟨v, L', h7, hds, fun d hd => ?_, fun d hd => ?_⟩, h8⟩
  · obtain ⟨i, hi', rfl⟩ := List.getElem_of_mem hd
    have hi : i < L.length := by rw [← h5]; exact hi'
    obtain ⟨e1, e2⟩ := (h6 i hi hi').1 hi
    have := h3 _ (List.getElem_mem hi)
    have e3 : L'[i].dk.waits.length = 0 := by rw [e1]; rfl
    omega
  · unfold crashM at hd
    obtain ⟨i, hi, rfl⟩ := List.getElem_of_mem hd
    rw [List.getElem_mapIdx]
    have hi2 : i < ds.length := by simpa using hi
    exact ⟨(h4 _ (List.getElem_mem hi2)).1, fun y hy => by cases hy⟩
theorem st_down (h : St w F g p ds K) : Calls Try.prog 64 #[.pointer (some ⟨g, 0, none⟩)] w fun e w' => e = .returned (.bool p.gone) ∧ w = w' := by
  obtain ⟨v, L, h1, _⟩ := h
  exact down_any h1
theorem st_arm (h : St w F g p ds K) (n : Nat) (hn : n ≤ 9223372036854775807) : Calls Try.prog 31 #[.pointer (some ⟨g, 0, none⟩), .int .i64 (n : Int)] w fun e w' => e = .returned .nilIface ∧ St w' F g { p with armed := n, ia := true } ds K ∧ Chg w w' F F := by
  obtain ⟨v, L, h1, h2⟩ := h
  refine Calls.mono (arm_any h1 n hn) ?_
  rintro e w' ⟨rfl, h5, h6⟩
  exact ⟨rfl, ⟨v, L, h5, h2⟩, h6⟩
end
end Go.Proofs.Ytjmjehhmkjhalaa

/- DAlive: further theorems. -/
namespace Go.Proofs.Ytjmjehhmkjhalaa
set_option maxRecDepth 100000
open Go.RowKit

theorem kps_keep {w w' : World} {A : Option Addr} {l : List Kp} {F F' : Nat → Prop} (h : Kps w A l) (hc : Chg w w' F F') (hA : ∀ b o, A = some ⟨b, o, none⟩ → b < w.heap.size ∧ ¬ F b) : Kps w' A l :=
  ⟨h.1, h.2.1, fun hp => by
    obtain ⟨b, off, e, hcell⟩ := h.2.2 hp
    obtain ⟨h1, h2⟩ := hA b off e
    exact ⟨b, off, e, fun j u hj => (hc.cell' (p := ⟨b, off + j, none⟩) h1 h2).trans (hcell j u hj)⟩⟩
end Go.Proofs.Ytjmjehhmkjhalaa

/- DOpen: further theorems. -/
namespace Go.Proofs.Ytjmjehhmkjhalaa
set_option maxRecDepth 100000
open Go.ChangeShapes Go.WideShapes Go.ChangeAt Go.RowKit

theorem cellsB : Try.prog.cellsOf 5 = 1 := by kernel_rfl
theorem cellsKs : Try.prog.cellsOf 52 = 1 := by kernel_rfl
section
variable {H : Type} {enc : TypeId × Value → H} {W : World} {sp : Nat → Bool}
theorem trod_struct5 {P : Program} {base : Nat} {held : Bool} {t : TypeId} {f0 f1 f2 f3 f4 : Field} {fuel : Nat} {cs : List Value} {x : DataW H × List MemPlace} (ht : P.underlying t = some (.struct #[f0, f1, f2, f3, f4])) (h : DataW.trod enc P W base sp held fuel t cs = some x) :
    ∃ y0 y1 y2 y3 y4 n, x = (.agg [y0.1, y1.1, y2.1, y3.1, y4.1], y0.2 ++ (y1.2 ++ (y2.2 ++ (y3.2 ++ y4.2)))) ∧ cs.length = P.cellsOf t ∧ DataW.trod enc P W base sp held n f0.type ((cs.drop f0.offset).take (P.cellsOf f0.type)) = some y0 ∧
      DataW.trod enc P W base sp held n f1.type ((cs.drop f1.offset).take (P.cellsOf f1.type)) = some y1 ∧ DataW.trod enc P W base sp held n f2.type ((cs.drop f2.offset).take (P.cellsOf f2.type)) = some y2 ∧
      DataW.trod enc P W base sp held n f3.type ((cs.drop f3.offset).take (P.cellsOf f3.type)) = some y3 ∧ DataW.trod enc P W base sp held n f4.type ((cs.drop f4.offset).take (P.cellsOf f4.type)) = some y4 := by
  obtain ⟨xs, n, _, rfl, hl, hlen, hf⟩ := DataW.trod_struct ht h
  match xs, hlen with
  | [y0, y1, y2, y3, y4], _ => exact ⟨y0, y1, y2, y3, y4, n, by simp, hl, by simpa using hf 0 f0 rfl, by simpa using hf 1 f1 rfl, by simpa using hf 2 f2 rfl, by simpa using hf 3 f3 rfl, by simpa using hf 4 f4 rfl⟩
end
end Go.Proofs.Ytjmjehhmkjhalaa

/- DRefP: further theorems. -/
namespace Go.Proofs.Ytjmjehhmkjhalaa
set_option maxRecDepth 100000
open Go.RowKit

theorem own_grown_below {w0 w w' : World} {e size n : Nat} {v : Value} {xs : List Value} (h : w.ownsRow w0.heap.size e size v n xs) (hg : w.grownBy w' v.ownBlock) (hb : Below w0.heap.size w0 w) : Below w0.heap.size w0 w' :=
  hb.trans ⟨hg.os, hg.tape, hg.output, hg.size, fun k hk => hg.block k (by have := hb.size; omega) (fun e2 => by have := (h.lt k e2.symm).1; omega)⟩
theorem own_some {w : World} {B e size n : Nat} {v : Value} {xs : List Value} (h : w.ownsRow B e size v n xs) (hn : 0 < n) : ∃ b c, v = .slice (some ⟨b, 0, none⟩) n c ∧ B ≤ b := by
  rcases h.2 with ⟨_, h0⟩ | ⟨g, cap, cur, rfl, h2, _⟩
  · omega
  · exact ⟨g, cap, rfl, h2⟩
end Go.Proofs.Ytjmjehhmkjhalaa
