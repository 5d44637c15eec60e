/- GraphLeans' walk. -/
import Derived.Test.YtgdkgoiagjjccaaGOrd
import Derived.Test.YtgdkgoiagjjccaaGRefN
namespace Go.Proofs.Ytgdkgoiagjjccaa
set_option maxRecDepth 100000
open Go.RowKit Go.Shelf

theorem MT.ofCL {w Wn W0 : World} {ls : List (List Int)} {ra : Nat → Option Addr} {rc : Nat → Nat} {A : Option Addr} {c n : Nat} (h : CL w ls ra rc A c n W0) (hf : ∀ j, ∀ x ∈ ls.getD j [], Fits x) (hb : Below W0.heap.size W0 Wn) : ∃ g, (0 < n → A = some ⟨g, 0, none⟩) ∧ MT w.heap.size W0.heap.size Wn ls ra rc g n Wn := by
  rcases Nat.eq_zero_or_pos n with h0 | h0
  · subst h0
    exact ⟨0, fun h => absurd h (by omega), rfl, rfl, rfl, Nat.le_refl _, fun _ _ _ => rfl, fun j hj => by omega, fun j hj => by omega⟩
  · rcases h.outer.2 with ⟨_, e⟩ | ⟨g, cap, cur, e, hB, hg, _⟩
    · omega
    · injection e with e _ _
      subst e
      have hgl := (Array.getElem?_eq_some_iff.1 hg).1
      obtain ⟨A', c', e2, hr, _, _⟩ := rdv_own h.outer
      injection e2 with e2 _ _
      subst e2
      obtain ⟨b, off, e3, hc⟩ := hr.2 h0
      injection e3 with e3
      injection e3 with e3 e4
      subst e3 e4
      refine ⟨g, fun _ => rfl, rfl, rfl, rfl, Nat.le_refl _, fun _ _ _ => rfl, fun j hj => ?_, fun j hj hL => ?_⟩
      · rw [(cell_frozen (hb.block g hgl)).1]
        have := hc j _ (by unfold rowsV; rw [List.getElem?_map, List.getElem?_range hj]; rfl)
        rwa [Nat.zero_add] at this
      · have hi := h.inner j hj
        obtain ⟨A5, c5, e5, hn5, _, _⟩ := nums_own hi (hf j)
        injection e5 with e5 _ _
        rcases hi.2 with ⟨_, e⟩ | ⟨b, cap2, cur2, e, hB2, hg2, _⟩
        · omega
        · injection e with e _ _
          have hne : b ≠ g := fun e6 => by
            subst e6
            rw [hg] at hg2
            injection hg2 with hg2
            injection hg2 with _ hg2
            exact absurd hg2 (by decide)
          have hbl := (Array.getElem?_eq_some_iff.1 hg2).1
          have k := hb.block b hbl
          obtain ⟨b6, o6, e6, hc6⟩ := hn5.2.2 hL
          rw [← e5, e] at e6
          injection e6 with e6
          injection e6 with e6 e7
          subst e6 e7
          exact ⟨b, e, hne, hB2, hbl, fun o => by rw [(cell_frozen k).2]; exact frozen_of_row _ _ _ _ _ hg2, fun u hu => ⟨_, by rw [(cell_frozen k).1]; have := hc6 u hu; rw [Nat.zero_add] at this; exact this⟩⟩
set_option maxHeartbeats 8000000 in
theorem leans_law (A : Option Addr) (n c : Nat) (fs : List Ft) (w : World) (h : Fts w A n fs) :
    Calls Try.prog 7 #[.slice A n c] w fun e w' => e = .returned (.bool true) ∧ Below w.heap.size w w' := by
  have HH := Lib.hid h
  have HL := Lib.hid h.1
  have HA := Lib.hid (galive_any w)
  clear h
  go_enter Try.func7, Try.ntmps7
  go_wp2_with fail
  refine Calls.mono HA.out ?_
  rintro e w1 ⟨rfl, hb1⟩
  have HB1 := Lib.hid hb1
  have HH1 := Lib.hid (HH.out.below hb1)
  clear hb1
  go_wp2_with fail
  go_loopw [3, 4, 13] (fun _ _ i wr => ∃ k : Nat, i = .int .i64 (k : Int) ∧ k ≤ n ∧ k ≤ 31 ∧ Below w1.heap.size w1 wr) (fun _ _ i _ => n - (intOf i).toNat)
  case atStart => exact ⟨0, rfl, by omega, by omega, Below.refl _ _⟩
  case round =>
    obtain ⟨k, rfl, hk, hk21, hbr⟩ := hrel
    rename World => wr
    have HBR := Lib.hid hbr
    have hz := hbr.size
    by_cases hlt : k < n
    · obtain ⟨b, off, rfl, hc⟩ := (HH1.out.below hbr).2.2 (by omega)
      obtain ⟨x, hx, x0, x1, x2⟩ := hc k hlt
      have hsm := hx.small
      clear hc hx hbr
      by_cases h1 : 30 < k
      · have h1' : (30 : Int) < (k : Int) := by omega
        go_wp2_with fail
        go_ret
        exact ⟨rfl, HB1.out.trans ((HBR.out.alloc hz _).mono HB1.out.size)⟩
      have h1' : ¬ (30 : Int) < (k : Int) := by omega
      by_cases h2 : 20 < x.n
      · have h2' : (20 : Int) < (x.n : Int) := by omega
        go_wp2_with fail
        go_ret
        exact ⟨rfl, HB1.out.trans ((HBR.out.alloc hz _).mono HB1.out.size)⟩
      have h2' : ¬ (20 : Int) < (x.n : Int) := by omega
      by_cases h3 : 20 < x.n2
      · have h3' : (20 : Int) < (x.n2 : Int) := by omega
        go_wp2_with fail
        go_ret
        exact ⟨rfl, HB1.out.trans ((HBR.out.alloc hz _).mono HB1.out.size)⟩
      have h3' : ¬ (20 : Int) < (x.n2 : Int) := by omega
      by_cases h4 : 20 < x.n3
      · have h4' : (20 : Int) < (x.n3 : Int) := by omega
        go_wp2_with fail
        go_ret
        exact ⟨rfl, HB1.out.trans ((HBR.out.alloc hz _).mono HB1.out.size)⟩
      have h4' : ¬ (20 : Int) < (x.n3 : Int) := by omega
      go_wp2_with fail
      go_roundw
      case rel => exact ⟨k + 1, by go_num, by omega, by omega, HBR.out.alloc hz _⟩
      case measure => simp [intOf]; omega
    · obtain rfl : k = n := by omega
      clear hbr
      have hn : k ≤ 10000 := by omega
      have hfl : fs.length ≤ 10000 := by rw [HL.out]; exact hn
      have HR1 := Lib.hid (HH1.out.below HBR.out)
      have HLE := Lib.hid (leans_any A k c fs wr HR1.out hn)
      go_wp2_with fail
      refine Calls.mono HLE.out ?_
      rintro e w2 ⟨_, rfl, ra, rc, A3, c3, rfl, hC⟩
      obtain ⟨G, hG⟩ : ∃ G, G = leansL fs := ⟨_, rfl⟩
      have HGE := Lib.hid hG
      have HGL := Lib.hid (show G.length = k by rw [hG, leansL_len, HL.out])
      have HGG := Lib.hid (show GoodL G by rw [hG]; exact leansL_good fs)
      have HGF := Lib.hid (show ∀ j, ∀ x ∈ G.getD j [], Fits x by rw [hG]; exact leansL_fits fs hfl)
      have HGS := Lib.hid (show ∀ j, (G.getD j []).length ≤ 10000 by rw [hG]; exact leansL_small fs hfl)
      rw [← hG] at hC
      have HC := Lib.hid hC
      have HR2 := Lib.hid (rows_own2 hC.outer hC.inner HGL.out (by omega) HGF.out (fun j => by have := HGS.out j; omega))
      have HRN := Lib.hid (refleans_any A k c fs w2 (HR1.out.below hC.below) hn)
      clear hC hG HLE
      go_wp2_with fail
      refine Calls.mono HRN.out ?_
      rintro e w3 ⟨_, rfl, rb, rd, A4, c4, rfl, hD⟩
      rw [← HGE.out] at hD
      have CRS := rows_same A3 k c3 A4 c4 G w3 (HR2.out.below hD.below) (rows_own2 hD.outer hD.inner HGL.out (by omega) HGF.out (fun j => by have := HGS.out j; omega))
      have HBD := Lib.hid hD.below
      clear hD HRN
      go_wp2_with fail
      refine Calls.mono CRS ?_
      rintro e w4 ⟨rfl, hb4⟩
      have HB24 := Lib.hid (HBD.out.trans (hb4.mono HBD.out.size))
      have CG := goodg_any A3 k c3 G w4 (HR2.out.below HB24.out)
      rw [decide_eq_true HGG.out] at CG
      clear hb4 CRS
      go_wp2_with fail
      refine Calls.mono CG ?_
      rintro e w5 ⟨rfl, rfl⟩
      obtain ⟨g, hg, hT0⟩ := MT.ofCL HC.out HGF.out HB24.out
      have HG := Lib.hid hg
      have HT0 := Lib.hid hT0
      have HB14 := Lib.hid (HBR.out.trans ((HC.out.below.trans (HB24.out.mono HC.out.below.size)).mono hz))
      have hwl : wr.heap.size ≤ w4.heap.size := (HC.out.below.trans (HB24.out.mono HC.out.below.size)).size
      clear CG hg hT0
      go_wp2_with fail
      go_loopw [7, 8, 53] (fun _ _ i wx => ∃ q : Nat, i = .int .i64 (q : Int) ∧ q ≤ k ∧ MT wr.heap.size w2.heap.size w4 G ra rc g k wx) (fun _ _ i _ => k - (intOf i).toNat)
      case atStart => exact ⟨0, rfl, by omega, HT0.out⟩
      case round =>
        obtain ⟨q, rfl, hq, hT⟩ := hrel
        rename World => wx
        by_cases hqk : q < k
        · have hA3 := HG.out (by omega)
          obtain ⟨l, hl⟩ : ∃ l, l = G.getD q [] := ⟨_, rfl⟩
          have ck := hT.outer q hqk
          have hll : l.length ≤ 10000 := by rw [hl]; exact HGS.out q
          rw [← hl] at ck
          have HE := Lib.hid hl
          have HT := Lib.hid hT
          obtain ⟨m, hm⟩ : ∃ m, m = l.length := ⟨_, rfl⟩
          rw [← hm] at ck hll
          have HME := Lib.hid hm
          rw [hA3]
          clear hT hl hm hA3
          go_wp2_with fail
          clear ck
          go_loopw [8, 59] (fun _ i wy => ∃ u : Nat, i = .int .i64 (u : Int) ∧ u ≤ m ∧ MT wr.heap.size w2.heap.size w4 G ra rc g k wy) (fun _ i _ => m - (intOf i).toNat)
          case atStart => exact ⟨0, rfl, by omega, HT.out⟩
          case round =>
            obtain ⟨u, rfl, hu, hX⟩ := hrel
            rename World => wy
            clear HT
            by_cases hum : u < m
            · obtain ⟨b, hb, e2, l1, l2, fr, hc⟩ := hX.inner q hqk (by rw [← HE.out, ← HME.out]; omega)
              obtain ⟨z, hz0⟩ := hc u (by rw [← HE.out, ← HME.out]; omega)
              have fu := fr u
              have HX := Lib.hid hX
              rw [hb]
              clear hX hc fr hb
              go_wp2_with fail
              go_roundw
              case rel => exact ⟨u + 1, by go_num, by omega, HX.out.store (-7) e2 l1 l2⟩
              case measure => simp [intOf]; omega
            · obtain rfl : u = m := by omega
              have HX := Lib.hid hX
              clear hX
              go_wp2_with fail
              go_roundw
              case rel => exact ⟨q + 1, by go_num, by omega, by first | exact HX.out | (rw [← HG.out (by omega)]; exact HX.out)⟩
              case measure => simp [intOf]; omega
        · obtain rfl : q = k := by omega
          have hbx := hT.below HB14.out hz HB14.out.size
          have HBX := Lib.hid hbx
          have HLS := Lib.hid (leans_any A q c fs wx (HH1.out.below hbx) hn)
          clear hT hbx
          go_wp2_with fail
          refine Calls.mono HLS.out ?_
          rintro e w7 ⟨_, rfl, ra7, rc7, A7, c7, rfl, hC7⟩
          rw [← HGE.out] at hC7
          have HR7 := Lib.hid (rows_own2 hC7.outer hC7.inner HGL.out (by omega) HGF.out (fun j => by have := HGS.out j; omega))
          have HB7 := Lib.hid (HBX.out.trans (hC7.below.mono HBX.out.size))
          have HRN := Lib.hid (refleans_any A q c fs w7 (HH1.out.below HB7.out) hn)
          clear hC7 HLS
          go_wp2_with fail
          refine Calls.mono HRN.out ?_
          rintro e w8 ⟨_, rfl, rb8, rd8, A8, c8, rfl, hD8⟩
          rw [← HGE.out] at hD8
          have CRS := rows_same A7 q c7 A8 c8 G w8 (HR7.out.below hD8.below) (rows_own2 hD8.outer hD8.inner HGL.out (by omega) HGF.out (fun j => by have := HGS.out j; omega))
          have HB8 := Lib.hid (HB7.out.trans (hD8.below.mono HB7.out.size))
          clear hD8 HRN
          go_wp2_with fail
          refine Calls.mono CRS ?_
          rintro e w9 ⟨rfl, hb9⟩
          have HB9 := Lib.hid (HB8.out.trans (hb9.mono HB8.out.size))
          clear hb9
          go_wp2_with fail
          go_ret
          exact ⟨rfl, HB1.out.trans (HB9.out.mono HB1.out.size)⟩
end Go.Proofs.Ytgdkgoiagjjccaa
