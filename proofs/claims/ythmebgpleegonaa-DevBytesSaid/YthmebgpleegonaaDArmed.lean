/- DevArmed: the law. -/
import Derived.Test.YthmebgpleegonaaDLong
namespace Go.Proofs.Ythmebgpleegonaa
set_option maxRecDepth 100000
open Go.RowKit

/-- The power, armed for s steps. -/
structure Arms (s q : Nat) (p : Pw) : Prop where
  ia : p.ia = true
  few : p.steps ≤ q
  arm : p.armed ≤ s
  live : p.gone = false → p.armed + p.steps = s
  dead : p.gone = true → p.steps = s
theorem Arms.le {s q : Nat} {p : Pw} (h : Arms s q p) : p.steps ≤ s := by
  cases hg : p.gone with
  | false => have := h.live hg; omega
  | true => have := h.dead hg; omega
theorem Arms.next {s q : Nat} {p : Pw} (h : Arms s q p) : Arms s (q + 1) p := ⟨h.ia, Nat.le_succ_of_le h.few, h.arm, h.live, h.dead⟩
theorem Arms.step {s q : Nat} {p : Pw} (h : Arms s q p) : Arms s (q + 1) (stepP p).2 ∧ (p.gone = true → (stepP p).2.steps = p.steps) := by
  obtain ⟨st, ar, ia, gn⟩ := p
  obtain ⟨h1, h2, h3, h4, h5⟩ := h
  simp only at h1 h2 h3 h4 h5
  subst h1
  unfold stepP
  cases gn with
  | true => exact ⟨⟨rfl, Nat.le_succ_of_le h2, h3, (fun h => by cases h), fun _ => h5 rfl⟩, fun _ => rfl⟩
  | false =>
    have h6 := h4 rfl
    by_cases h0 : ar = 0
    · subst h0
      simp
      exact ⟨rfl, by show st ≤ q + 1; omega, h3, (fun h => by cases h), fun _ => by show st = s; omega⟩
    · simp [h0]
      exact ⟨rfl, by show st + 1 ≤ q + 1; omega, by show ar - 1 ≤ s; omega, fun _ => by show ar - 1 + (st + 1) = s; omega, fun h => by cases h⟩
theorem setAt_size (ds : List Dk) (j : Nat) (f : Dk → Dk) (hf : ∀ d, (f d).size = d.size) : (setAt ds j f).map Dk.size = ds.map Dk.size := by
  unfold setAt
  cases h : ds[j]? with
  | none => rfl
  | some d =>
    obtain ⟨hj, rfl⟩ := List.getElem?_eq_some_iff.1 h
    simp only [List.map_set, hf]
    apply List.ext_getElem
    · simp
    · intro i a b
      rw [List.getElem_set]
      split
      · subst_vars; simp
      · rfl
theorem writeM_facts {s q : Nat} {p : Pw} {ds : List Dk} (h : Arms s q p) (d i : Int) (x : Sx) : Arms s (q + 1) (writeM p ds d i x).2.1 ∧ (p.gone = true → (writeM p ds d i x).2.1.steps = p.steps) ∧ (writeM p ds d i x).2.2.map Dk.size = ds.map Dk.size := by
  unfold writeM
  split
  · exact ⟨h.next, fun _ => rfl, rfl⟩
  · split
    · exact ⟨h.step.1, h.step.2, rfl⟩
    · exact ⟨h.step.1, h.step.2, setAt_size _ _ _ fun _ => rfl⟩
theorem flushM_facts {s q : Nat} {p : Pw} {ds : List Dk} (h : Arms s q p) (d : Int) : Arms s (q + 1) (flushM p ds d).2.1 ∧ (p.gone = true → (flushM p ds d).2.1.steps = p.steps) ∧ (flushM p ds d).2.2.map Dk.size = ds.map Dk.size := by
  unfold flushM
  split
  · exact ⟨h.next, fun _ => rfl, rfl⟩
  · split
    · exact ⟨h.step.1, h.step.2, rfl⟩
    · exact ⟨h.step.1, h.step.2, setAt_size _ _ _ fun _ => rfl⟩
theorem size_len {ds : List Dk} (h : ds.map Dk.size = [6, 3]) : ds.length = 2 := by have := congrArg List.length h; simpa using this
theorem Ops.later {w w' : World} {A : Option Addr} {l : List Opx} {F : Nat → Prop} (h : Ops w A l) (hc : Chg w w' (fun _ => False) F) : Ops w' A l := RowAt.ext h fun _ hp => hc.cell' hp fun e => e
set_option maxHeartbeats 16000000 in
theorem armed_law (s0 : Int) (A : Option Addr) (c : Nat) (l : List Opx) (w : World) (h : Ops w A l) (hl : l.length ≤ 9223372036854775807) (hs0 : s0 ≤ 9223372036854775807) (hby : ∀ o ∈ l, o.b < 256) :
    Calls Try.prog 5 #[.int .i64 s0, .slice A l.length c] w fun e w' => e = .returned (.bool true) ∧ Below w.heap.size w w' := by
  have HH := Lib.hid h
  have HBY := Lib.hid hby
  have hl' := hl
  obtain ⟨n, hn⟩ : ∃ n, n = l.length := ⟨_, rfl⟩
  have HN := Lib.hid hn
  rw [← hn] at hl' ⊢
  clear h hn hby
  go_enter Try.func5, Try.ntmps5
  go_wp2_with fail
  refine Calls.mono (alive_true w) ?_
  rintro e w1 ⟨rfl, b1⟩
  have B1 := Lib.hid b1
  have HLG := Lib.hid (long_any A c l w1 (RowAt.below HH.out b1) hl)
  rw [← HN.out] at HLG
  clear b1
  go_wp2_with fail
  refine Calls.mono HLG.out ?_
  rintro e w2 ⟨r, rfl, hr, b2⟩
  have B2 := Lib.hid (B1.out.trans (b2.mono B1.out.size))
  clear b2 HLG
  cases r with
  | true =>
    clear hr
    go_wp2_with fail
    go_ret
    exact ⟨rfl, B2.out⟩
  | false =>
    have HSH := Lib.hid (hr rfl)
    clear hr
    by_cases hneg : s0 < 0
    · have g1 : decide (s0 < 0) = true := decide_eq_true hneg
      go_wp2_with fail
      go_ret
      exact ⟨rfl, B2.out⟩
    · have g1 : decide (s0 < 0) = false := decide_eq_false hneg
      obtain ⟨s, rfl⟩ : ∃ s : Nat, s0 = (s : Int) := ⟨s0.toNat, by omega⟩
      have hsb : s ≤ 9223372036854775807 := by omega
      have hbk : Below w2.heap.size w2 (w2.alloc (.cells #[.int .i64 6, .int .i64 3] 3)) := (Below.refl _ _).alloc (Nat.le_refl _) _
      have HNW := Lib.hid (st_new _ 2 [6, 3] _ (sz_two w2 6 3) (by decide) (by decide))
      have CK := Lib.hid (Chg.of_below (B2.out.trans (hbk.mono B2.out.size)) (fun _ => False))
      clear hbk hneg hs0 B1 B2
      go_wp2_with fail
      refine Calls.mono HNW.out ?_
      rintro e w3 ⟨F3, g, rfl, s3, c3⟩
      have C3 := Lib.hid (CK.out.trans c3)
      have HAR := Lib.hid (st_arm s3 s hsb)
      clear s3 c3 CK HNW
      go_wp2_with fail
      refine Calls.mono HAR.out ?_
      rintro e w4 ⟨rfl, s4, c4⟩
      have S4 := Lib.hid s4
      have C4 := Lib.hid (C3.out.trans c4)
      clear s4 c4 C3 HAR
      go_wp2_with fail
      go_loopw [34] (fun i wr => ∃ (q : Nat) (F : Nat → Prop) (p : Pw) (ds : List Dk), i = .int .i64 (q : Int) ∧ q ≤ n ∧ St wr F g p ds q ∧ ds.map Dk.size = [6, 3] ∧ Arms s q p ∧ Chg w wr (fun _ => False) F) (fun i _ => n - (intOf i).toNat)
      case atStart => exact ⟨0, F3, ⟨0, s, true, false⟩, _, rfl, by omega, S4.out, rfl, ⟨rfl, Nat.le_refl _, Nat.le_refl _, fun _ => rfl, fun h => by cases h⟩, C4.out⟩
      case round =>
        obtain ⟨q, F, p, ds, rfl, hq, h5, h6, h7, h8⟩ := hrel
        have HZ0 := Lib.hid h6
        have HI0 := Lib.hid h7
        have hlen := size_len h6
        by_cases hlt : q < n
        · have hq81 : q ≤ 81 := by have := HSH.out.1; have := HN.out; omega
          have hql : q < l.length := by rw [← HN.out]; exact hlt
          obtain ⟨b, off, rfl, hc⟩ := Ops.cell (Ops.later HH.out h8) (by omega)
          obtain ⟨c0, c1, c2, c3, c4⟩ := hc q hql
          obtain ⟨o, ho⟩ : ∃ o, o = l[q] := ⟨_, rfl⟩
          have hob := HBY.out _ (List.getElem_mem hql)
          rw [← ho] at c0 c1 c2 c3 c4 hob
          have hba : Below wr.heap.size wr (wr.alloc (.cells #[.int .i64 o.kind, .int .i64 o.dev, .int .i64 o.n, .int .u8 (o.b : Int), .slice o.A o.m o.c] 40)) := (Below.refl _ _).alloc (Nat.le_refl _) _
          have SA := Lib.hid (h5.below hba)
          have CA := Lib.hid (h8.trans (Chg.of_below hba F))
          obtain ⟨r4, hr4⟩ : ∃ r, r = (o.kind == 4) := ⟨_, rfl⟩
          obtain ⟨r5, hr5⟩ : ∃ r, r = (o.kind == 5) := ⟨_, rfl⟩
          obtain ⟨r1, hr1⟩ : ∃ r, r = (o.kind == 1) := ⟨_, rfl⟩
          obtain ⟨r2, hr2⟩ : ∃ r, r = (o.kind == 2) := ⟨_, rfl⟩
          have g4 := hr4.symm
          have g5 := hr5.symm
          have g6 := hr1.symm
          have g7 := hr2.symm
          clear hr4 hr5 hr1 hr2 hc ho h5 h6 h7 h8 hba
          cases r4 with
          | true =>
            go_wp2_with fail
            go_roundw
            case rel => exact ⟨q + 1, F, p, ds, by go_num, by omega, SA.out.mono (by omega), HZ0.out, HI0.out.next, CA.out⟩
            case measure => simp [intOf]; omega
          | false =>
            cases r5 with
            | true =>
              go_wp2_with fail
              go_roundw
              case rel => exact ⟨q + 1, F, p, ds, by go_num, by omega, SA.out.mono (by omega), HZ0.out, HI0.out.next, CA.out⟩
              case measure => simp [intOf]; omega
            | false =>
              have HD0 := Lib.hid (st_down SA.out)
              have HS0 := Lib.hid (st_steps SA.out)
              go_wp2_with fail
              refine Calls.mono HD0.out ?_
              rintro e w5 ⟨rfl, rfl⟩
              go_wp2_with fail
              refine Calls.mono HS0.out ?_
              rintro e w5 ⟨rfl, rfl⟩
              clear HD0 HS0
              cases r1 with
              | true =>
                go_upto_region 15 with fail
                have y1 : (wr.alloc (.cells #[.int .i64 o.kind, .int .i64 o.dev, .int .i64 o.n, .int .u8 (o.b : Int), .slice o.A o.m o.c] 40)).cell? ⟨wr.heap.size, 1, none⟩ = some (.int .i64 o.dev) := (cell_of_row _ _ 1 _ _ (0, 0) (heap_alloc_new wr _)).trans rfl
                have y2 : (wr.alloc (.cells #[.int .i64 o.kind, .int .i64 o.dev, .int .i64 o.n, .int .u8 (o.b : Int), .slice o.A o.m o.c] 40)).cell? ⟨wr.heap.size, 2, none⟩ = some (.int .i64 o.n) := (cell_of_row _ _ 2 _ _ (0, 0) (heap_alloc_new wr _)).trans rfl
                have y3 : (wr.alloc (.cells #[.int .i64 o.kind, .int .i64 o.dev, .int .i64 o.n, .int .u8 (o.b : Int), .slice o.A o.m o.c] 40)).cell? ⟨wr.heap.size, 3, none⟩ = some (.int .u8 (o.b : Int)) := (cell_of_row _ _ 3 _ _ (0, 0) (heap_alloc_new wr _)).trans rfl
                obtain ⟨z, hz⟩ : ∃ z, z = wr.heap.size := ⟨_, rfl⟩
                rw [← hz] at y1 y2 y3 ⊢
                clear hz
                revert SA CA
                generalize World.alloc wr _ = wz at y1 y2 y3 ⊢
                intro SA CA
                have HA := Lib.hid (show ∀ W2, Below wz.drew.heap.size wz.drew W2 → W2.cell? ⟨z, 1, none⟩ = some (.int .i64 o.dev) ∧ W2.cell? ⟨z, 2, none⟩ = some (.int .i64 o.n) ∧ W2.cell? ⟨z, 3, none⟩ = some (.int .u8 (o.b : Int)) from fun W2 hw => by
                  have hb2 : Below wz.heap.size wz W2 := (Below.refl _ wz).drew.trans hw
                  exact ⟨(hb2.cell (World.block_lt_of_cell? _ _ y1)).trans y1, (hb2.cell (World.block_lt_of_cell? _ _ y2)).trans y2, (hb2.cell (World.block_lt_of_cell? _ _ y3)).trans y3⟩)
                clear y1 y2 y3
                refine wp_region_noPanic ?_
                refine wp_region_abs 8 103 [
                  .is (.pointer (some ⟨g, 0, none⟩)),
                  .is (.pointer (some ⟨z, 1, none⟩)),
                  .is (.int .i64 o.dev),
                  .is (.pointer (some ⟨z, 2, none⟩)),
                  .is (.int .i64 o.n),
                  .is (.pointer (some ⟨z, 3, none⟩)),
                  .is (.int .u8 (o.b : Int)),
                  .is (Sx.full o.b hob).val]
                  [54, 55, 56, 57, 58, 59, 60, 61]
                  [[], [], [1], [], [3], [], [5], [6]] (by kernel_rfl) (by rfl) rfl rfl (by kernel_rfl) (fun _ _ _ _ h => h.elim) ?_ ?_
                · refine ⟨?_, ?_, ?_, ?_, ?_, ?_, ?_, ?_, trivial⟩
                  · intro W2 hw K hK
                    go_simp
                    exact hK _ _ rfl (Below.refl _ _)
                  · intro W2 hw K hK
                    go_simp
                    exact hK _ _ rfl (Below.refl _ _)
                  · intro W2 hw K hK
                    obtain ⟨e1, _, _⟩ := HA.out W2 hw
                    go_simp
                    exact hK _ _ rfl (Below.refl _ _)
                  · intro W2 hw K hK
                    go_simp
                    exact hK _ _ rfl (Below.refl _ _)
                  · intro W2 hw K hK
                    obtain ⟨_, e1, _⟩ := HA.out W2 hw
                    go_simp
                    exact hK _ _ rfl (Below.refl _ _)
                  · intro W2 hw K hK
                    go_simp
                    exact hK _ _ rfl (Below.refl _ _)
                  · intro W2 hw K hK
                    obtain ⟨_, _, e1⟩ := HA.out W2 hw
                    go_simp
                    exact hK _ _ rfl (Below.refl _ _)
                  · intro W2 hw K hK
                    go_simp
                    refine Calls.mono (full_any o.b hob W2) ?_
                    rintro e w' ⟨rfl, hb⟩
                    exact hK _ _ rfl hb
                · intro W2 hw2
                  simp only [Behind, List.drop, Act.put, List.setIfInBounds_toArray, List.set_cons_zero, List.set_cons_succ]
                  have hb2 : Below wz.heap.size wz W2 := (Below.refl _ wz).drew.trans hw2
                  have SB := Lib.hid (SA.out.below hb2)
                  have CB := Lib.hid (CA.out.trans (Chg.of_below hb2 F))
                  clear hw2 hb2 HA SA CA
                  have HWR := Lib.hid (st_write SB.out o.dev o.n (Sx.full o.b hob) (by omega) (by omega) (by have := HI0.out.few; omega) (by have := HI0.out.arm; omega))
                  obtain ⟨f1, f2, f3⟩ := writeM_facts (ds := ds) HI0.out o.dev o.n (Sx.full o.b hob)
                  obtain ⟨u, hu⟩ : ∃ u, u = writeM p ds o.dev o.n (Sx.full o.b hob) := ⟨_, rfl⟩
                  rw [← hu] at HWR f1 f2 f3
                  obtain ⟨vv, p2, ds2⟩ := u
                  simp only [] at HWR f1 f2 f3
                  have HI := Lib.hid f1
                  have HG := Lib.hid f2
                  have HZ := Lib.hid (f3.trans HZ0.out)
                  clear hu f1 f2 f3
                  go_wp2_with fail
                  refine Calls.mono HWR.out ?_
                  rintro e w2 ⟨rfl, F2, s9, c9⟩
                  have S2 := Lib.hid s9
                  have C2 := Lib.hid (CB.out.trans c9)
                  clear s9 c9 HWR SB CB
                  go_wp2_with fail
                  refine NoPanic.normal ?_
                  have HST := Lib.hid (st_steps S2.out)
                  have HDN := Lib.hid (st_down S2.out)
                  obtain ⟨gn, hgn⟩ : ∃ x, x = p.gone := ⟨_, rfl⟩
                  obtain ⟨gn2, hgn2⟩ : ∃ x, x = p2.gone := ⟨_, rfl⟩
                  obtain ⟨st2, hst2⟩ : ∃ x, x = p2.steps := ⟨_, rfl⟩
                  obtain ⟨st1, hst1⟩ : ∃ x, x = p.steps := ⟨_, rfl⟩
                  have k1 : st2 ≤ s := by rw [hst2]; exact HI.out.le
                  have g1 : decide ((s : Int) < (st2 : Int)) = false := by rw [decide_eq_false_iff_not]; omega
                  have g1' : decide (s < st2) = false := by rw [decide_eq_false_iff_not]; omega
                  have k2 : gn = true → st2 = st1 := fun e => by rw [hst2, hst1]; exact HG.out (hgn ▸ e)
                  have k3 : gn2 = true → st2 = s := fun e => by rw [hst2]; exact HI.out.dead (hgn2 ▸ e)
                  rw [← hgn2] at HDN
                  rw [← hst2] at HST
                  rw [← hgn, ← hst1]
                  clear hgn hgn2 hst2 hst1 k1
                  have fin : ∃ (q' : Nat) (F : Nat → Prop) (p : Pw) (ds : List Dk), (Value.int .i64 ((q : Int) + 1)) = .int .i64 (q' : Int) ∧ q' ≤ n ∧ St w2 F g p ds q' ∧ ds.map Dk.size = [6, 3] ∧ Arms s q' p ∧ Chg w w2 (fun _ => False) F := ⟨q + 1, F2, p2, ds2, by go_num, by omega, S2.out, HZ.out, HI.out, C2.out⟩
                  have FIN := Lib.hid fin
                  clear fin
                  cases gn with
                  | false =>
                    cases gn2 with
                    | false =>
                      clear k2 k3
                      go_wp2_with fail
                      refine Calls.mono HST.out ?_
                      rintro e w7 ⟨rfl, rfl⟩
                      go_wp2_with fail
                      refine Calls.mono HDN.out ?_
                      rintro e w7 ⟨rfl, rfl⟩
                      go_wp2_with fail
                      go_roundw
                      case rel => exact FIN.out
                      case measure => simp [intOf]; omega
                    | true =>
                      have k4 := k3 rfl
                      have g2 : ((st2 : Int) != (s : Int)) = false := by rw [k4]; simp
                      have g2' : (st2 != s) = false := by rw [k4]; simp
                      clear k2 k3 k4
                      go_wp2_with fail
                      refine Calls.mono HST.out ?_
                      rintro e w7 ⟨rfl, rfl⟩
                      go_wp2_with fail
                      refine Calls.mono HDN.out ?_
                      rintro e w7 ⟨rfl, rfl⟩
                      go_wp2_with fail
                      refine Calls.mono HST.out ?_
                      rintro e w7 ⟨rfl, rfl⟩
                      go_wp2_with fail
                      go_roundw
                      case rel => exact FIN.out
                      case measure => simp [intOf]; omega
                  | true =>
                    have k5 := k2 rfl
                    have g3 : ((st2 : Int) != (st1 : Int)) = false := by rw [k5]; simp
                    have g3' : (st2 != st1) = false := by rw [k5]; simp
                    cases gn2 with
                    | false =>
                      clear k2 k3 k5
                      go_wp2_with fail
                      refine Calls.mono HST.out ?_
                      rintro e w7 ⟨rfl, rfl⟩
                      go_wp2_with fail
                      refine Calls.mono HST.out ?_
                      rintro e w7 ⟨rfl, rfl⟩
                      go_wp2_with fail
                      refine Calls.mono HDN.out ?_
                      rintro e w7 ⟨rfl, rfl⟩
                      go_wp2_with fail
                      go_roundw
                      case rel => exact FIN.out
                      case measure => simp [intOf]; omega
                    | true =>
                      have k4 := k3 rfl
                      have g2 : ((st2 : Int) != (s : Int)) = false := by rw [k4]; simp
                      have g2' : (st2 != s) = false := by rw [k4]; simp
                      clear k2 k3 k4 k5
                      go_wp2_with fail
                      refine Calls.mono HST.out ?_
                      rintro e w7 ⟨rfl, rfl⟩
                      go_wp2_with fail
                      refine Calls.mono HST.out ?_
                      rintro e w7 ⟨rfl, rfl⟩
                      go_wp2_with fail
                      refine Calls.mono HDN.out ?_
                      rintro e w7 ⟨rfl, rfl⟩
                      go_wp2_with fail
                      refine Calls.mono HST.out ?_
                      rintro e w7 ⟨rfl, rfl⟩
                      go_wp2_with fail
                      go_roundw
                      case rel => exact FIN.out
                      case measure => simp [intOf]; omega
              | false =>
                cases r2 with
                | true =>
                  have HFL := Lib.hid (st_flush SA.out o.dev (by omega) (by omega) (by have := HI0.out.few; omega) (by have := HI0.out.arm; omega))
                  obtain ⟨f1, f2, f3⟩ := flushM_facts (ds := ds) HI0.out o.dev
                  obtain ⟨u, hu⟩ : ∃ u, u = flushM p ds o.dev := ⟨_, rfl⟩
                  rw [← hu] at HFL f1 f2 f3
                  obtain ⟨vv, p2, ds2⟩ := u
                  simp only [] at HFL f1 f2 f3
                  have HI := Lib.hid f1
                  have HG := Lib.hid f2
                  have HZ := Lib.hid (f3.trans HZ0.out)
                  clear hu f1 f2 f3
                  go_wp2_with fail
                  refine Calls.mono HFL.out ?_
                  rintro e w2 ⟨rfl, s9, c9⟩
                  obtain ⟨F2, hF2⟩ : ∃ X, X = F := ⟨_, rfl⟩
                  have S2 := Lib.hid (show St w2 F2 g p2 ds2 (q + 1) by rw [hF2]; exact s9.mono (by omega))
                  have C2 := Lib.hid (show Chg w w2 (fun _ => False) F2 by rw [hF2]; exact CA.out.trans c9)
                  clear s9 c9 HFL SA CA hF2
                  have HST := Lib.hid (st_steps S2.out)
                  have HDN := Lib.hid (st_down S2.out)
                  obtain ⟨gn, hgn⟩ : ∃ x, x = p.gone := ⟨_, rfl⟩
                  obtain ⟨gn2, hgn2⟩ : ∃ x, x = p2.gone := ⟨_, rfl⟩
                  obtain ⟨st2, hst2⟩ : ∃ x, x = p2.steps := ⟨_, rfl⟩
                  obtain ⟨st1, hst1⟩ : ∃ x, x = p.steps := ⟨_, rfl⟩
                  have k1 : st2 ≤ s := by rw [hst2]; exact HI.out.le
                  have g1 : decide ((s : Int) < (st2 : Int)) = false := by rw [decide_eq_false_iff_not]; omega
                  have g1' : decide (s < st2) = false := by rw [decide_eq_false_iff_not]; omega
                  have k2 : gn = true → st2 = st1 := fun e => by rw [hst2, hst1]; exact HG.out (hgn ▸ e)
                  have k3 : gn2 = true → st2 = s := fun e => by rw [hst2]; exact HI.out.dead (hgn2 ▸ e)
                  rw [← hgn2] at HDN
                  rw [← hst2] at HST
                  rw [← hgn, ← hst1]
                  clear hgn hgn2 hst2 hst1 k1
                  have fin : ∃ (q' : Nat) (F : Nat → Prop) (p : Pw) (ds : List Dk), (Value.int .i64 ((q : Int) + 1)) = .int .i64 (q' : Int) ∧ q' ≤ n ∧ St w2 F g p ds q' ∧ ds.map Dk.size = [6, 3] ∧ Arms s q' p ∧ Chg w w2 (fun _ => False) F := ⟨q + 1, F2, p2, ds2, by go_num, by omega, S2.out, HZ.out, HI.out, C2.out⟩
                  have FIN := Lib.hid fin
                  clear fin
                  cases gn with
                  | false =>
                    cases gn2 with
                    | false =>
                      clear k2 k3
                      go_wp2_with fail
                      refine Calls.mono HST.out ?_
                      rintro e w7 ⟨rfl, rfl⟩
                      go_wp2_with fail
                      refine Calls.mono HDN.out ?_
                      rintro e w7 ⟨rfl, rfl⟩
                      go_wp2_with fail
                      go_roundw
                      case rel => exact FIN.out
                      case measure => simp [intOf]; omega
                    | true =>
                      have k4 := k3 rfl
                      have g2 : ((st2 : Int) != (s : Int)) = false := by rw [k4]; simp
                      have g2' : (st2 != s) = false := by rw [k4]; simp
                      clear k2 k3 k4
                      go_wp2_with fail
                      refine Calls.mono HST.out ?_
                      rintro e w7 ⟨rfl, rfl⟩
                      go_wp2_with fail
                      refine Calls.mono HDN.out ?_
                      rintro e w7 ⟨rfl, rfl⟩
                      go_wp2_with fail
                      refine Calls.mono HST.out ?_
                      rintro e w7 ⟨rfl, rfl⟩
                      go_wp2_with fail
                      go_roundw
                      case rel => exact FIN.out
                      case measure => simp [intOf]; omega
                  | true =>
                    have k5 := k2 rfl
                    have g3 : ((st2 : Int) != (st1 : Int)) = false := by rw [k5]; simp
                    have g3' : (st2 != st1) = false := by rw [k5]; simp
                    cases gn2 with
                    | false =>
                      clear k2 k3 k5
                      go_wp2_with fail
                      refine Calls.mono HST.out ?_
                      rintro e w7 ⟨rfl, rfl⟩
                      go_wp2_with fail
                      refine Calls.mono HST.out ?_
                      rintro e w7 ⟨rfl, rfl⟩
                      go_wp2_with fail
                      refine Calls.mono HDN.out ?_
                      rintro e w7 ⟨rfl, rfl⟩
                      go_wp2_with fail
                      go_roundw
                      case rel => exact FIN.out
                      case measure => simp [intOf]; omega
                    | true =>
                      have k4 := k3 rfl
                      have g2 : ((st2 : Int) != (s : Int)) = false := by rw [k4]; simp
                      have g2' : (st2 != s) = false := by rw [k4]; simp
                      clear k2 k3 k4 k5
                      go_wp2_with fail
                      refine Calls.mono HST.out ?_
                      rintro e w7 ⟨rfl, rfl⟩
                      go_wp2_with fail
                      refine Calls.mono HST.out ?_
                      rintro e w7 ⟨rfl, rfl⟩
                      go_wp2_with fail
                      refine Calls.mono HDN.out ?_
                      rintro e w7 ⟨rfl, rfl⟩
                      go_wp2_with fail
                      refine Calls.mono HST.out ?_
                      rintro e w7 ⟨rfl, rfl⟩
                      go_wp2_with fail
                      go_roundw
                      case rel => exact FIN.out
                      case measure => simp [intOf]; omega
                | false =>
                  go_upto_region 18 with fail
                  have S2' := Lib.hid (SA.out.mono (show q ≤ q + 1 by omega))
                  have HI := Lib.hid HI0.out.next
                  have HG := Lib.hid (show p.gone = true → p.steps = p.steps from fun _ => rfl)
                  have HZ := Lib.hid HZ0.out
                  obtain ⟨p2, hp2⟩ : ∃ X, X = p := ⟨_, rfl⟩
                  obtain ⟨F2, hF2⟩ : ∃ X, X = F := ⟨_, rfl⟩
                  obtain ⟨ds2, hds2⟩ : ∃ X, X = ds := ⟨_, rfl⟩
                  clear SA
                  revert S2' CA
                  generalize World.alloc wr _ = w2
                  intro CA S2'
                  have S2 := Lib.hid (show St w2 F2 g p2 ds2 (q + 1) by rw [hF2, hp2, hds2]; exact S2'.out)
                  have C2 := Lib.hid (show Chg w w2 (fun _ => False) F2 by rw [hF2]; exact CA.out)
                  have HI := Lib.hid (show Arms s (q + 1) p2 by rw [hp2]; exact HI.out)
                  have HG := Lib.hid (show p.gone = true → p2.steps = p.steps by rw [hp2]; exact HG.out)
                  have HZ := Lib.hid (show ds2.map Dk.size = [6, 3] by rw [hds2]; exact HZ.out)
                  clear hp2 hF2 hds2 S2' CA
                  have HST := Lib.hid (st_steps S2.out)
                  have HDN := Lib.hid (st_down S2.out)
                  obtain ⟨gn, hgn⟩ : ∃ x, x = p.gone := ⟨_, rfl⟩
                  obtain ⟨gn2, hgn2⟩ : ∃ x, x = p2.gone := ⟨_, rfl⟩
                  obtain ⟨st2, hst2⟩ : ∃ x, x = p2.steps := ⟨_, rfl⟩
                  obtain ⟨st1, hst1⟩ : ∃ x, x = p.steps := ⟨_, rfl⟩
                  have k1 : st2 ≤ s := by rw [hst2]; exact HI.out.le
                  have g1 : decide ((s : Int) < (st2 : Int)) = false := by rw [decide_eq_false_iff_not]; omega
                  have g1' : decide (s < st2) = false := by rw [decide_eq_false_iff_not]; omega
                  have k2 : gn = true → st2 = st1 := fun e => by rw [hst2, hst1]; exact HG.out (hgn ▸ e)
                  have k3 : gn2 = true → st2 = s := fun e => by rw [hst2]; exact HI.out.dead (hgn2 ▸ e)
                  rw [← hgn2] at HDN
                  rw [← hst2] at HST
                  rw [← hgn, ← hst1]
                  clear hgn hgn2 hst2 hst1 k1
                  have fin : ∃ (q' : Nat) (F : Nat → Prop) (p : Pw) (ds : List Dk), (Value.int .i64 ((q : Int) + 1)) = .int .i64 (q' : Int) ∧ q' ≤ n ∧ St w2 F g p ds q' ∧ ds.map Dk.size = [6, 3] ∧ Arms s q' p ∧ Chg w w2 (fun _ => False) F := ⟨q + 1, F2, p2, ds2, by go_num, by omega, S2.out, HZ.out, HI.out, C2.out⟩
                  have FIN := Lib.hid fin
                  clear fin
                  cases gn with
                  | false =>
                    cases gn2 with
                    | false =>
                      clear k2 k3
                      go_wp2_with fail
                      refine Calls.mono HST.out ?_
                      rintro e w7 ⟨rfl, rfl⟩
                      go_wp2_with fail
                      refine Calls.mono HDN.out ?_
                      rintro e w7 ⟨rfl, rfl⟩
                      go_wp2_with fail
                      go_roundw
                      case rel => exact FIN.out
                      case measure => simp [intOf]; omega
                    | true =>
                      have k4 := k3 rfl
                      have g2 : ((st2 : Int) != (s : Int)) = false := by rw [k4]; simp
                      have g2' : (st2 != s) = false := by rw [k4]; simp
                      clear k2 k3 k4
                      go_wp2_with fail
                      refine Calls.mono HST.out ?_
                      rintro e w7 ⟨rfl, rfl⟩
                      go_wp2_with fail
                      refine Calls.mono HDN.out ?_
                      rintro e w7 ⟨rfl, rfl⟩
                      go_wp2_with fail
                      refine Calls.mono HST.out ?_
                      rintro e w7 ⟨rfl, rfl⟩
                      go_wp2_with fail
                      go_roundw
                      case rel => exact FIN.out
                      case measure => simp [intOf]; omega
                  | true =>
                    have k5 := k2 rfl
                    have g3 : ((st2 : Int) != (st1 : Int)) = false := by rw [k5]; simp
                    have g3' : (st2 != st1) = false := by rw [k5]; simp
                    cases gn2 with
                    | false =>
                      clear k2 k3 k5
                      go_wp2_with fail
                      refine Calls.mono HST.out ?_
                      rintro e w7 ⟨rfl, rfl⟩
                      go_wp2_with fail
                      refine Calls.mono HST.out ?_
                      rintro e w7 ⟨rfl, rfl⟩
                      go_wp2_with fail
                      refine Calls.mono HDN.out ?_
                      rintro e w7 ⟨rfl, rfl⟩
                      go_wp2_with fail
                      go_roundw
                      case rel => exact FIN.out
                      case measure => simp [intOf]; omega
                    | true =>
                      have k4 := k3 rfl
                      have g2 : ((st2 : Int) != (s : Int)) = false := by rw [k4]; simp
                      have g2' : (st2 != s) = false := by rw [k4]; simp
                      clear k2 k3 k4 k5
                      go_wp2_with fail
                      refine Calls.mono HST.out ?_
                      rintro e w7 ⟨rfl, rfl⟩
                      go_wp2_with fail
                      refine Calls.mono HST.out ?_
                      rintro e w7 ⟨rfl, rfl⟩
                      go_wp2_with fail
                      refine Calls.mono HDN.out ?_
                      rintro e w7 ⟨rfl, rfl⟩
                      go_wp2_with fail
                      refine Calls.mono HST.out ?_
                      rintro e w7 ⟨rfl, rfl⟩
                      go_wp2_with fail
                      go_roundw
                      case rel => exact FIN.out
                      case measure => simp [intOf]; omega
        · obtain rfl : q = n := by omega
          have hq81 : q ≤ 81 := by have := HSH.out.1; have := HN.out; omega
          have HCR := Lib.hid (st_crash h5 (by omega) (by omega) none 0 [] (by simp) (fun w' _ => ⟨rfl, rfl, fun h => absurd h (by decide)⟩))
          have HF8 := Lib.hid h8
          have hfew := h7.few
          clear h5 h6 h7 h8
          go_wp2_with fail
          refine Calls.mono HCR.out ?_
          rintro e w5 ⟨rfl, s6, c6⟩
          have S6 := Lib.hid s6
          have C6 := Lib.hid (HF8.out.trans c6)
          have HD := Lib.hid (st_down s6)
          have hcl : (crashM [] ds).length = 2 := by simp [crashM, hlen]
          have HFL := Lib.hid (st_flush s6 0 (by omega) (by omega) (by show p.steps ≤ _; omega) (by show 0 ≤ _; omega))
          have hfm : (flushM ⟨p.steps, 0, false, false⟩ (crashM [] ds) 0).1 = .nilIface := by
            have hb : hasB (crashM [] ds) 0 0 = true := by
              have e0 : (crashM [] ds)[0]? = some (crashDk [] 0 ds[0]) := by rw [List.getElem?_eq_getElem (by omega), crashM_get [] ds 0 (by omega)]
              have e1 : ds[0].size = 6 := by
                have h9 := congrArg (fun x => x[0]?) HZ0.out
                simp only [List.getElem?_map, List.getElem?_eq_getElem (show 0 < ds.length by omega)] at h9
                simpa using h9
              unfold hasB
              rw [hcl]
              simp [e0, crashDk, e1]
            unfold flushM
            rw [if_neg (by rw [hb]; simp)]
            rfl
          rw [hfm] at HFL
          clear s6 c6 hfm HCR HF8
          go_wp2_with fail
          refine Calls.mono HD.out ?_
          rintro e w6 ⟨rfl, rfl⟩
          go_wp2_with fail
          refine Calls.mono HFL.out ?_
          rintro e w7 ⟨rfl, s7, c7⟩
          have C7 := Lib.hid (C6.out.trans c7)
          clear s7 c7
          go_wp2_with fail
          go_ret
          exact ⟨rfl, C7.out.below (Nat.le_refl _) (fun _ h => h.elim)⟩
end Go.Proofs.Ythmebgpleegonaa
