/- The document's Meet. -/
import Derived.Test.YtmicheheibkmjaaGFeet
import Derived.Test.YtmicheheibkmjaaReg
namespace Go.Proofs.Ytmicheheibkmjaa
set_option maxRecDepth 100000
open Go.RowKit Go.Shelf

set_option maxHeartbeats 1000000 in
theorem refhas_any (A : Option Addr) (n c : Nat) (l : List K) (x : K) (w : World) (h : Keys w A n l) (hn : n ≤ 9223372036854775807) : Calls Try.prog 32 #[.slice A n c, x.val] w fun e w' => e = .returned (.bool (decide (x ∈ l))) ∧ Below w.heap.size w w' := by
  have hbx := (Below.refl w.heap.size w).alloc (Nat.le_refl _) (.cells #[.int .i64 x.t, .int .i64 x.k] 24)
  have HI0 := Lib.hid (show HI w A n l x (w.alloc (.cells #[.int .i64 x.t, .int .i64 x.k] 24)) from ⟨hbx, h.below hbx, heap_alloc_new w _⟩)
  have HL := Lib.hid h.len
  have HX := Lib.hid (show ∀ q : Nat, q = n → (∀ j (hj : j < l.length), j < q → l[j] ≠ x) → decide (x ∈ l) = false from fun q hq hno => by
    rw [decide_eq_false_iff_not]
    intro hm
    obtain ⟨i, hi, he⟩ := List.getElem_of_mem hm
    exact hno i hi (by have := h.len; omega) he)
  have HE := Lib.hid (show ∀ j (hj : j < l.length), l[j] = x → decide (x ∈ l) = true from fun j hj he => decide_eq_true (he ▸ List.getElem_mem hj))
  obtain ⟨R, hR⟩ : ∃ R, R = decide (x ∈ l) := ⟨_, rfl⟩
  rw [← hR] at HX HE ⊢
  unfold K.val
  clear hR h hbx
  go_enter Try.func32, Try.ntmps32
  go_wp2_with fail
  go_loopw [5] (fun i wr => ∃ k : Nat, i = .int .i64 (k : Int) ∧ k ≤ n ∧ (∀ j (hj : j < l.length), j < k → l[j] ≠ x) ∧ HI w A n l x wr) (fun i _ => n - (intOf i).toNat)
  case atStart => exact ⟨0, rfl, by omega, fun j _ h => by omega, HI0.out⟩
  case round =>
    obtain ⟨k, rfl, hk, hno, hhi⟩ := hrel
    have HNO := Lib.hid hno
    have HH := Lib.hid hhi
    have x0 : wr.cell? ⟨w.heap.size, 0, none⟩ = some (.int .i64 x.t) := cell_of_row wr _ 0 _ 24 (0, 0) hhi.box
    have x1 : wr.cell? ⟨w.heap.size, 1, none⟩ = some (.int .i64 x.k) := cell_of_row wr _ 1 _ 24 (0, 0) hhi.box
    clear hno hhi
    by_cases hlt : k < n
    · have hkl : k < l.length := by rw [HL.out]; exact hlt
      obtain ⟨b, off, rfl, hc⟩ := Keys.cells HH.out.keys (by omega)
      obtain ⟨k0, k1⟩ := hc k hkl
      have heq0 := fun w => eql_key w l[k] x
      have HEK := Lib.hid (HE.out k hkl)
      have HNK := Lib.hid (show l[k] ≠ x → ∀ j (hj : j < l.length), j < k + 1 → l[j] ≠ x from fun h j hj hj2 => by
        by_cases e : j = k
        · subst e; exact h
        · exact HNO.out j hj (by omega))
      obtain ⟨y, hy⟩ : ∃ y, y = l[k] := ⟨_, rfl⟩
      rw [← hy] at k0 k1 heq0 HEK HNK
      unfold K.val at heq0
      clear hc hy
      by_cases he : y = x
      · have hR := HEK.out he
        rw [decide_eq_true he] at heq0
        clear he
        go_wp2_with fail
        go_quiet (fail)
        go_wp2_with fail
        go_ret
        exact ⟨by rw [hR]; rfl, (HH.out.drewN _).below⟩
      · rw [decide_eq_false he] at heq0
        have HN2 := Lib.hid (HNK.out he)
        clear he
        go_wp2_with fail
        go_quiet (fail)
        go_wp2_with fail
        go_roundw
        case rel => exact ⟨k + 1, by go_num, by omega, HN2.out, HH.out.drewN _⟩
        case measure => simp [intOf]; omega
    · have hR := HX.out k (by omega) HNO.out
      go_wp2_with fail
      go_ret
      exact ⟨by rw [hR]; rfl, HH.out.below⟩
set_option maxHeartbeats 400000 in
theorem refwrites_any (x : FV) (f : Ft) (k : K) (w : World) (h : FtAt w x f) : Calls Try.prog 12 #[x.val, k.val] w fun e w' => e = .returned (.bool (writesB f k)) ∧ Below w.heap.size w w' := by
  obtain ⟨h1, h2, h3⟩ := alloc2g w (.cells x.cs 30) (.cells #[.int .i64 k.t, .int .i64 k.k] 24)
  have HB := Lib.hid h3
  have HF := Lib.hid (show FBox ((w.alloc (.cells x.cs 30)).alloc (.cells #[.int .i64 k.t, .int .i64 k.k] 24)) w.heap.size x from h1)
  have HK := Lib.hid (show KBox ((w.alloc (.cells x.cs 30)).alloc (.cells #[.int .i64 k.t, .int .i64 k.k] 24)) (w.heap.size + 1) k from h2)
  have HH := Lib.hid (h.below h3)
  unfold FV.cs at HB HF HK HH
  unfold FV.val FV.cs K.val
  clear h1 h2 h3 h
  go_enter Try.func12, Try.ntmps12
  go_upto_region 1 with fail
  revert HB HF HK HH
  generalize World.alloc (World.alloc w _) _ = W
  intro HB HF HK HH
  have C := refhas_any x.A3 x.n3 x.c3 f.ws k W HH.out.ws HH.out.small.2.2
  unfold K.val at C
  have y2 := HF.out.c2
  have k0 := HK.out.c0
  have k1 := HK.out.c1
  go_wp2_with fail
  refine Calls.mono C ?_
  rintro e w1 ⟨rfl, hb1⟩
  have HB1 := Lib.hid (HB.out.trans (hb1.mono HB.out.size))
  clear hb1 y2 k0 k1 C
  go_wp2_with fail
  go_ret
  exact ⟨rfl, HB1.out⟩
set_option maxHeartbeats 2000000 in
theorem refreads_any (x : FV) (f : Ft) (k : K) (w : World) (h : FtAt w x f) : Calls Try.prog 11 #[x.val, k.val] w fun e w' => e = .returned (.bool (readsB f k)) ∧ Below w.heap.size w w' := by
  obtain ⟨h1, h2, h3⟩ := alloc2g w (.cells x.cs 30) (.cells #[.int .i64 k.t, .int .i64 k.k] 24)
  have HB := Lib.hid h3
  have HF := Lib.hid (show FBox ((w.alloc (.cells x.cs 30)).alloc (.cells #[.int .i64 k.t, .int .i64 k.k] 24)) w.heap.size x from h1)
  have HK := Lib.hid (show KBox ((w.alloc (.cells x.cs 30)).alloc (.cells #[.int .i64 k.t, .int .i64 k.k] 24)) (w.heap.size + 1) k from h2)
  have HH := Lib.hid (h.below h3)
  have HX := Lib.hid (show ∀ q : Nat, q = x.n2 → (∀ j (hj : j < f.sp.length), j < q → inSp k f.sp[j] = false) → readsB f k = decide (k ∈ f.rs) from fun q hq hno => by
    unfold readsB
    have : f.sp.any (inSp k) = false := by
      rw [List.any_eq_false]
      intro y hy
      obtain ⟨i, hi, he⟩ := List.getElem_of_mem hy
      rw [← he, hno i hi (by have := h.sp.len; omega)]
      simp
    rw [this, Bool.or_false])
  have HE := Lib.hid (show ∀ j (hj : j < f.sp.length), inSp k f.sp[j] = true → readsB f k = true from fun j hj he => by
    unfold readsB
    rw [List.any_eq_true.2 ⟨_, List.getElem_mem hj, he⟩, Bool.or_true])
  have HLS := Lib.hid h.sp.len
  have hsm := h.small.2.1
  unfold FV.cs at HB HF HK HH
  unfold FV.val FV.cs K.val
  clear h1 h2 h3 h
  go_enter Try.func11, Try.ntmps11
  go_upto_region 1 with fail
  revert HB HF HK HH
  generalize World.alloc (World.alloc w _) _ = W
  intro HB HF HK HH
  go_wp2_with fail
  go_loopw [5, 6] (fun i _ wr => ∃ q : Nat, i = .int .i64 (q : Int) ∧ q ≤ x.n2 ∧ Hid (∀ j (hj : j < f.sp.length), j < q → inSp k f.sp[j] = false) ∧ Below W.heap.size W wr) (fun i _ _ => x.n2 - (intOf i).toNat)
  case atStart => exact ⟨0, rfl, by omega, fun j _ h => by omega, Below.refl _ _⟩
  case round =>
    obtain ⟨q, rfl, hq, hno, hbr⟩ := hrel
    have HBR := Lib.hid hbr
    have hz := hbr.size
    have y1 := (HF.out.below hbr).c1
    have y0 := (HF.out.below hbr).c0
    have k0 := (HK.out.below hbr).c0
    have k1 := (HK.out.below hbr).c1
    by_cases hlt : q < x.n2
    · have hql : q < f.sp.length := by rw [HLS.out]; exact hlt
      obtain ⟨bs, off, hA, hc⟩ := Spans.cells (HH.out.sp.below hbr) (by omega)
      rw [hA] at y1
      obtain ⟨c0, c1, c2⟩ := hc q hql
      have HEK := Lib.hid (HE.out q hql)
      have HNK := Lib.hid (show inSp k f.sp[q] = false → ∀ j (hj : j < f.sp.length), j < q + 1 → inSp k f.sp[j] = false from fun h j hj hj2 => by
        by_cases e : j = q
        · subst e; exact h
        · exact hno.out j hj (by omega))
      obtain ⟨y, hy⟩ : ∃ y, y = f.sp[q] := ⟨_, rfl⟩
      rw [← hy] at c0 c1 c2 HEK HNK
      have hba := hbr.trans ((Below.refl wr.heap.size wr).alloc (Nat.le_refl _) (.cells #[.int .i64 y.t, .int .i64 y.lo, .int .i64 y.hi] 54) |>.mono hz)
      have k0a := (HK.out.below hba).c0
      have k1a := (HK.out.below hba).c1
      clear hc hy hbr hA y0 hba k0 k1
      by_cases g1 : y.t = k.t
      · have e1 : (y.t == k.t) = true := beq_iff_eq.2 g1
        by_cases g2 : y.lo ≤ k.k
        · by_cases g3 : k.k ≤ y.hi
          · have HR := Lib.hid (HEK.out (by simp [inSp, g1, g2, g3]))
            clear g1
            go_wp2_with fail
            go_ret
            exact ⟨by rw [HR.out]; rfl, HB.out.trans ((HBR.out.alloc hz _).mono HB.out.size)⟩
          · have HN2 := Lib.hid (HNK.out (by simp [inSp, g3]))
            clear g1
            go_wp2_with fail
            go_roundw
            case rel => exact ⟨q + 1, by go_num, by omega, HN2, HBR.out.alloc hz _⟩
            case measure => simp [intOf]; omega
        · have HN2 := Lib.hid (HNK.out (by simp [inSp, g2]))
          clear g1
          go_wp2_with fail
          go_roundw
          case rel => exact ⟨q + 1, by go_num, by omega, HN2, HBR.out.alloc hz _⟩
          case measure => simp [intOf]; omega
      · have e1 : (y.t == k.t) = false := beq_eq_false_iff_ne.2 g1
        have HN2 := Lib.hid (HNK.out (by simp [inSp, g1]))
        clear g1
        go_wp2_with fail
        go_roundw
        case rel => exact ⟨q + 1, by go_num, by omega, HN2, HBR.out.alloc hz _⟩
        case measure => simp [intOf]; omega
    · obtain rfl : q = x.n2 := by omega
      have HR := Lib.hid (HX.out _ rfl hno.out)
      have C := refhas_any x.A x.n x.c f.rs k wr (HH.out.rs.below hbr) HH.out.small.1
      unfold K.val at C
      have HC := Lib.hid C
      clear hbr C
      go_wp2_with fail
      refine Calls.mono HC.out ?_
      rintro e w1 ⟨rfl, hb1⟩
      have HB1 := Lib.hid (HBR.out.trans (hb1.mono HBR.out.size))
      clear hb1
      go_wp2_with fail
      go_ret
      exact ⟨by rw [HR.out]; rfl, HB.out.trans (HB1.out.mono HB.out.size)⟩
theorem meet_same {f g : Ft} (h1 : ∀ k ∈ f.ws, touchB g k = false) (h2 : ∀ k ∈ g.ws, readsB f k = false) : meetB f g = false := by
  unfold meetB hitsB
  have e1 : f.ws.any (touchB g) = false := List.any_eq_false.2 fun k hk => by rw [h1 k hk]; simp
  have e2 : g.ws.any (touchB f) = false := List.any_eq_false.2 fun k hk => by
    unfold touchB
    rw [h2 k hk]
    have : writesB f k = false := by
      unfold writesB
      rw [decide_eq_false_iff_not]
      intro hf
      have h3 := h1 k hf
      unfold touchB writesB at h3
      rw [decide_eq_true hk, Bool.or_true] at h3
      cases h3
    simp [this]
  rw [e1, e2]
  rfl
set_option maxHeartbeats 4000000 in
theorem refmeet_any (x y : FV) (f g : Ft) (w : World) (h : FtAt w x f) (h0 : FtAt w y g) : Calls Try.prog 19 #[x.val, y.val] w fun e w' => e = .returned (.bool (meetB f g)) ∧ Below w.heap.size w w' := by
  obtain ⟨h1, h2, h3⟩ := alloc2g w (.cells x.cs 30) (.cells y.cs 30)
  have HB := Lib.hid h3
  have HF := Lib.hid (show FBox ((w.alloc (.cells x.cs 30)).alloc (.cells y.cs 30)) w.heap.size x from h1)
  have HG := Lib.hid (show FBox ((w.alloc (.cells x.cs 30)).alloc (.cells y.cs 30)) (w.heap.size + 1) y from h2)
  have HH := Lib.hid (h.below h3)
  have HI := Lib.hid (h0.below h3)
  have HE := Lib.hid (show ∀ j (hj : j < f.ws.length), touchB g f.ws[j] = true → meetB f g = true from fun j hj he => by
    unfold meetB hitsB
    rw [List.any_eq_true.2 ⟨_, List.getElem_mem hj, he⟩, Bool.true_or])
  have HE2 := Lib.hid (show ∀ j (hj : j < g.ws.length), readsB f g.ws[j] = true → meetB f g = true from fun j hj he => by
    unfold meetB hitsB
    rw [show g.ws.any (touchB f) = true from List.any_eq_true.2 ⟨_, List.getElem_mem hj, by unfold touchB; rw [he, Bool.true_or]⟩, Bool.or_true])
  have HX := Lib.hid (show (∀ j (hj : j < f.ws.length), j < x.n3 → touchB g f.ws[j] = false) → (∀ j (hj : j < g.ws.length), j < y.n3 → readsB f g.ws[j] = false) → meetB f g = false from fun k1 k2 => meet_same (fun k hk => by
      obtain ⟨i, hi, he⟩ := List.getElem_of_mem hk
      rw [← he]; exact k1 i hi (by have := h.ws.len; omega)) fun k hk => by
      obtain ⟨i, hi, he⟩ := List.getElem_of_mem hk
      rw [← he]; exact k2 i hi (by have := h0.ws.len; omega))
  have HL1 := Lib.hid h.ws.len
  have HL2 := Lib.hid h0.ws.len
  have hsm := h.small.2.2
  have hsm2 := h0.small.2.2
  obtain ⟨R, hR⟩ : ∃ R, R = meetB f g := ⟨_, rfl⟩
  rw [← hR] at HE HE2 HX ⊢
  unfold FV.cs at HB HF HG HH HI
  unfold FV.val FV.cs
  clear h1 h2 h3 h h0 hR
  go_enter Try.func19, Try.ntmps19
  go_upto_region 1 with fail
  revert HB HF HG HH HI
  generalize World.alloc (World.alloc w _) _ = W
  intro HB HF HG HH HI
  go_wp2_with fail
  go_loopw [5] (fun i wr => ∃ q : Nat, i = .int .i64 (q : Int) ∧ q ≤ x.n3 ∧ Hid (∀ j (hj : j < f.ws.length), j < q → touchB g f.ws[j] = false) ∧ Below W.heap.size W wr) (fun i _ => x.n3 - (intOf i).toNat)
  case atStart => exact ⟨0, rfl, by omega, fun j _ h => by omega, Below.refl _ _⟩
  case round =>
    obtain ⟨q, rfl, hq, hno, hbr⟩ := hrel
    have HBR := Lib.hid hbr
    have hz := hbr.size
    have y2 := (HF.out.below hbr).c2
    by_cases hlt : q < x.n3
    · have hql : q < f.ws.length := by rw [HL1.out]; exact hlt
      obtain ⟨bs, off, hA, hc⟩ := Keys.cells (HH.out.ws.below hbr) (by omega)
      rw [hA] at y2
      obtain ⟨c0, c1⟩ := hc q hql
      have HEK := Lib.hid (HE.out q hql)
      have HNK := Lib.hid (show touchB g f.ws[q] = false → Hid (∀ j (hj : j < f.ws.length), j < q + 1 → touchB g f.ws[j] = false) from fun h => Lib.hid fun j hj hj2 => by
        by_cases e : j = q
        · subst e; exact h
        · exact hno.out j hj (by omega))
      obtain ⟨k, hk⟩ : ∃ k, k = f.ws[q] := ⟨_, rfl⟩
      rw [← hk] at c0 c1 HEK HNK
      have hb0 := (HG.out.below hbr).c0
      have hb1 := (HG.out.below hbr).c1
      have hb2 := (HG.out.below hbr).c2
      have HX0 := Lib.hid (show ∀ W2, Below wr.drew.heap.size wr.drew W2 → W2.cell? ⟨w.heap.size + 1, 0, none⟩ = some (.slice y.A y.n y.c) ∧ W2.cell? ⟨w.heap.size + 1, 1, none⟩ = some (.slice y.A2 y.n2 y.c2) ∧ W2.cell? ⟨w.heap.size + 1, 2, none⟩ = some (.slice y.A3 y.n3 y.c3) ∧ W2.cell? ⟨w.heap.size, 2, none⟩ = some (.slice (some ⟨bs, off, none⟩) x.n3 x.c3) ∧ W2.cell? ⟨bs, off + q * 2, none⟩ = some (.int .i64 k.t) ∧ W2.cell? ⟨bs, off + q * 2 + 1, none⟩ = some (.int .i64 k.k) from fun W2 hw =>
        ⟨(stays_w hw _ (World.block_lt_of_cell? _ _ hb0)).trans hb0, (stays_w hw _ (World.block_lt_of_cell? _ _ hb1)).trans hb1, (stays_w hw _ (World.block_lt_of_cell? _ _ hb2)).trans hb2, (stays_w hw _ (World.block_lt_of_cell? _ _ y2)).trans y2, (stays_w hw _ (World.block_lt_of_cell? _ _ c0)).trans c0, (stays_w hw _ (World.block_lt_of_cell? _ _ c1)).trans c1⟩)
      have HC1 := Lib.hid (show ∀ W2, Below wr.drew.heap.size wr.drew W2 → Calls Try.prog 11 #[y.val, k.val] W2 fun e w'' => e = .returned (.bool (readsB g k)) ∧ Below W2.heap.size W2 w'' from fun W2 hw => refreads_any y g k W2 ((HI.out.below hbr).below (((Below.refl _ wr).drew).trans hw)))
      have HC2 := Lib.hid (show ∀ W2, Below wr.drew.heap.size wr.drew W2 → Calls Try.prog 12 #[y.val, k.val] W2 fun e w'' => e = .returned (.bool (writesB g k)) ∧ Below W2.heap.size W2 w'' from fun W2 hw => refwrites_any y g k W2 ((HI.out.below hbr).below (((Below.refl _ wr).drew).trans hw)))
      have htk : touchB g k = (readsB g k || writesB g k) := rfl
      rw [htk] at HEK HNK
      obtain ⟨rd, hrd⟩ : ∃ rd, rd = readsB g k := ⟨_, rfl⟩
      obtain ⟨wt, hwt⟩ : ∃ wt, wt = writesB g k := ⟨_, rfl⟩
      rw [← hrd, ← hwt] at HEK HNK
      rw [← hrd] at HC1
      rw [← hwt] at HC2
      unfold FV.val FV.cs K.val at HC1 HC2
      clear hc hk hbr hA c0 c1 hb0 hb1 hb2 htk hrd hwt
      cases rd with
      | true =>
        go_wp2_with fail
        clear y2
        refine wp_region_noPanic ?_
        refine wp_region_abs 15 44 [
          .is (.agg #[.slice y.A y.n y.c, .slice y.A2 y.n2 y.c2, .slice y.A3 y.n3 y.c3]),
          .is (.pointer (some ⟨w.heap.size, 2, none⟩)),
          .is (.slice (some ⟨bs, off, none⟩) x.n3 x.c3),
          .is (.int .i64 (q : Int)),
          .is (.pointer (some ⟨bs, off + q * 2, none⟩)),
          .is (.agg #[.int .i64 k.t, .int .i64 k.k]),
          .tells fun _ v wb wa => v = .bool true ∧ Below wb.heap.size wb wa,
          .is (.bool true),
          .is undef,
          .is undef,
          .is undef,
          .is undef,
          .is undef,
          .is undef,
          .is undef]
          [14, 15, 16, 17, 18, 19, 20, 21, 22, 23, 24, 25, 26, 27, 28]
          [[], [], [1], [], [2, 3], [4], [0, 5], [6], [7], [7], [9, 7], [7], [10, 11, 7], [12, 7], [8, 13, 7]] (by kernel_rfl) (by rfl) rfl rfl (by kernel_rfl) (fun _ _ _ _ h => h.elim) ?_ ?_
        · refine ⟨?_, ?_, ?_, ?_, ?_, ?_, ?_, ?_, ?_, ?_, ?_, ?_, ?_, ?_, ?_, trivial⟩
          · intro W2 hw K hK
            obtain ⟨b0, b1, b2, a2, k0, k1⟩ := HX0.out W2 hw
            go_simp
            exact hK _ _ rfl (Below.refl _ _)
          · intro W2 hw K hK
            go_simp
            exact hK _ _ rfl (Below.refl _ _)
          · intro W2 hw K hK
            obtain ⟨b0, b1, b2, a2, k0, k1⟩ := HX0.out W2 hw
            go_simp
            exact hK _ _ rfl (Below.refl _ _)
          · intro W2 hw K hK
            go_simp
            exact hK _ _ rfl (Below.refl _ _)
          · intro W2 hw K hK
            go_simp
            exact hK _ _ rfl (Below.refl _ _)
          · intro W2 hw K hK
            obtain ⟨b0, b1, b2, a2, k0, k1⟩ := HX0.out W2 hw
            go_simp
            exact hK _ _ rfl (Below.refl _ _)
          · intro W2 hw K hK
            have hc := HC1.out W2 hw
            go_simp
            refine Calls.mono hc ?_
            rintro e w5 ⟨rfl, hb5⟩
            exact hK _ _ ⟨rfl, hb5⟩ hb5
          · intro W2 hw v wb wa hF hx K hK
            obtain ⟨_, hv, _⟩ := hF
            subst hv
            go_simp
            exact hK _ _ rfl (Below.refl _ _)
          · intro W2 hw K hK
            go_simp
            exact hK _ _ rfl (Below.refl _ _)
          · intro W2 hw K hK
            go_simp
            exact hK _ _ rfl (Below.refl _ _)
          · intro W2 hw K hK
            go_simp
            exact hK _ _ rfl (Below.refl _ _)
          · intro W2 hw K hK
            go_simp
            exact hK _ _ rfl (Below.refl _ _)
          · intro W2 hw K hK
            go_simp
            exact hK _ _ rfl (Below.refl _ _)
          · intro W2 hw K hK
            go_simp
            exact hK _ _ rfl (Below.refl _ _)
          · intro W2 hw K hK
            go_simp
            exact hK _ _ rfl (Below.refl _ _)
        · intro W2 hw2
          simp only [Behind]
          intro v6 wb6 wa6 h6 x6 y6 r6
          obtain ⟨h6, _⟩ := h6
          subst h6
          have HWX := Lib.hid (show Below wr.heap.size wr W2 from (Below.refl _ wr).drew.trans hw2)
          clear hw2 x6 y6 r6
          simp only [List.drop, Act.put, List.setIfInBounds_toArray, List.set_cons_zero, List.set_cons_succ]
          go_wp2_with fail
          refine NoPanic.normal ?_
          go_wp2_with fail
          go_ret
          exact ⟨by rw [HEK.out (by first | rfl | trivial)]; rfl, HB.out.trans ((HBR.out.trans (HWX.out.mono hz)).mono HB.out.size)⟩
      | false =>
        cases wt with
        | true =>
          go_wp2_with fail
          clear y2
          refine wp_region_noPanic ?_
          refine wp_region_abs 15 44 [
            .is (.agg #[.slice y.A y.n y.c, .slice y.A2 y.n2 y.c2, .slice y.A3 y.n3 y.c3]),
            .is (.pointer (some ⟨w.heap.size, 2, none⟩)),
            .is (.slice (some ⟨bs, off, none⟩) x.n3 x.c3),
            .is (.int .i64 (q : Int)),
            .is (.pointer (some ⟨bs, off + q * 2, none⟩)),
            .is (.agg #[.int .i64 k.t, .int .i64 k.k]),
            .tells fun _ v wb wa => v = .bool false ∧ Below wb.heap.size wb wa,
            .is (.bool false),
            .is (.agg #[.slice y.A y.n y.c, .slice y.A2 y.n2 y.c2, .slice y.A3 y.n3 y.c3]),
            .is (.pointer (some ⟨w.heap.size, 2, none⟩)),
            .is (.slice (some ⟨bs, off, none⟩) x.n3 x.c3),
            .is (.int .i64 (q : Int)),
            .is (.pointer (some ⟨bs, off + q * 2, none⟩)),
            .is (.agg #[.int .i64 k.t, .int .i64 k.k]),
            .tells fun _ v wb wa => v = .bool true ∧ Below wb.heap.size wb wa]
            [14, 15, 16, 17, 18, 19, 20, 21, 22, 23, 24, 25, 26, 27, 28]
            [[], [], [1], [], [2, 3], [4], [0, 5], [6], [7], [7], [9, 7], [7], [10, 11, 7], [12, 7], [8, 13, 7]] (by kernel_rfl) (by rfl) rfl rfl (by kernel_rfl) (fun _ _ _ _ h => h.elim) ?_ ?_
          · refine ⟨?_, ?_, ?_, ?_, ?_, ?_, ?_, ?_, ?_, ?_, ?_, ?_, ?_, ?_, ?_, trivial⟩
            · intro W2 hw K hK
              obtain ⟨b0, b1, b2, a2, k0, k1⟩ := HX0.out W2 hw
              go_simp
              exact hK _ _ rfl (Below.refl _ _)
            · intro W2 hw K hK
              go_simp
              exact hK _ _ rfl (Below.refl _ _)
            · intro W2 hw K hK
              obtain ⟨b0, b1, b2, a2, k0, k1⟩ := HX0.out W2 hw
              go_simp
              exact hK _ _ rfl (Below.refl _ _)
            · intro W2 hw K hK
              go_simp
              exact hK _ _ rfl (Below.refl _ _)
            · intro W2 hw K hK
              go_simp
              exact hK _ _ rfl (Below.refl _ _)
            · intro W2 hw K hK
              obtain ⟨b0, b1, b2, a2, k0, k1⟩ := HX0.out W2 hw
              go_simp
              exact hK _ _ rfl (Below.refl _ _)
            · intro W2 hw K hK
              have hc := HC1.out W2 hw
              go_simp
              refine Calls.mono hc ?_
              rintro e w5 ⟨rfl, hb5⟩
              exact hK _ _ ⟨rfl, hb5⟩ hb5
            · intro W2 hw v wb wa hF hx K hK
              obtain ⟨_, hv, _⟩ := hF
              subst hv
              go_simp
              exact hK _ _ rfl (Below.refl _ _)
            · intro W2 hw K hK
              obtain ⟨b0, b1, b2, a2, k0, k1⟩ := HX0.out W2 hw
              go_simp
              exact hK _ _ rfl (Below.refl _ _)
            · intro W2 hw K hK
              go_simp
              exact hK _ _ rfl (Below.refl _ _)
            · intro W2 hw K hK
              obtain ⟨b0, b1, b2, a2, k0, k1⟩ := HX0.out W2 hw
              go_simp
              exact hK _ _ rfl (Below.refl _ _)
            · intro W2 hw K hK
              go_simp
              exact hK _ _ rfl (Below.refl _ _)
            · intro W2 hw K hK
              go_simp
              exact hK _ _ rfl (Below.refl _ _)
            · intro W2 hw K hK
              obtain ⟨b0, b1, b2, a2, k0, k1⟩ := HX0.out W2 hw
              go_simp
              exact hK _ _ rfl (Below.refl _ _)
            · intro W2 hw K hK
              have hc := HC2.out W2 hw
              go_simp
              refine Calls.mono hc ?_
              rintro e w5 ⟨rfl, hb5⟩
              exact hK _ _ ⟨rfl, hb5⟩ hb5
          · intro W2 hw2
            simp only [Behind]
            intro v6 wb6 wa6 h6 x6 y6 r6
            intro v14 wb14 wa14 h14 x14 y14 r14
            obtain ⟨h14, _⟩ := h14
            subst h14
            obtain ⟨h6, _⟩ := h6
            subst h6
            have HWX := Lib.hid (show Below wr.heap.size wr W2 from (Below.refl _ wr).drew.trans hw2)
            clear hw2 x6 y6 r6 x14 y14 r14
            simp only [List.drop, Act.put, List.setIfInBounds_toArray, List.set_cons_zero, List.set_cons_succ]
            go_wp2_with fail
            refine NoPanic.normal ?_
            go_wp2_with fail
            go_ret
            exact ⟨by rw [HEK.out (by first | rfl | trivial)]; rfl, HB.out.trans ((HBR.out.trans (HWX.out.mono hz)).mono HB.out.size)⟩
        | false =>
          go_wp2_with fail
          clear y2
          refine wp_region_noPanic ?_
          refine wp_region_abs 15 44 [
            .is (.agg #[.slice y.A y.n y.c, .slice y.A2 y.n2 y.c2, .slice y.A3 y.n3 y.c3]),
            .is (.pointer (some ⟨w.heap.size, 2, none⟩)),
            .is (.slice (some ⟨bs, off, none⟩) x.n3 x.c3),
            .is (.int .i64 (q : Int)),
            .is (.pointer (some ⟨bs, off + q * 2, none⟩)),
            .is (.agg #[.int .i64 k.t, .int .i64 k.k]),
            .tells fun _ v wb wa => v = .bool false ∧ Below wb.heap.size wb wa,
            .is (.bool false),
            .is (.agg #[.slice y.A y.n y.c, .slice y.A2 y.n2 y.c2, .slice y.A3 y.n3 y.c3]),
            .is (.pointer (some ⟨w.heap.size, 2, none⟩)),
            .is (.slice (some ⟨bs, off, none⟩) x.n3 x.c3),
            .is (.int .i64 (q : Int)),
            .is (.pointer (some ⟨bs, off + q * 2, none⟩)),
            .is (.agg #[.int .i64 k.t, .int .i64 k.k]),
            .tells fun _ v wb wa => v = .bool false ∧ Below wb.heap.size wb wa]
            [14, 15, 16, 17, 18, 19, 20, 21, 22, 23, 24, 25, 26, 27, 28]
            [[], [], [1], [], [2, 3], [4], [0, 5], [6], [7], [7], [9, 7], [7], [10, 11, 7], [12, 7], [8, 13, 7]] (by kernel_rfl) (by rfl) rfl rfl (by kernel_rfl) (fun _ _ _ _ h => h.elim) ?_ ?_
          · refine ⟨?_, ?_, ?_, ?_, ?_, ?_, ?_, ?_, ?_, ?_, ?_, ?_, ?_, ?_, ?_, trivial⟩
            · intro W2 hw K hK
              obtain ⟨b0, b1, b2, a2, k0, k1⟩ := HX0.out W2 hw
              go_simp
              exact hK _ _ rfl (Below.refl _ _)
            · intro W2 hw K hK
              go_simp
              exact hK _ _ rfl (Below.refl _ _)
            · intro W2 hw K hK
              obtain ⟨b0, b1, b2, a2, k0, k1⟩ := HX0.out W2 hw
              go_simp
              exact hK _ _ rfl (Below.refl _ _)
            · intro W2 hw K hK
              go_simp
              exact hK _ _ rfl (Below.refl _ _)
            · intro W2 hw K hK
              go_simp
              exact hK _ _ rfl (Below.refl _ _)
            · intro W2 hw K hK
              obtain ⟨b0, b1, b2, a2, k0, k1⟩ := HX0.out W2 hw
              go_simp
              exact hK _ _ rfl (Below.refl _ _)
            · intro W2 hw K hK
              have hc := HC1.out W2 hw
              go_simp
              refine Calls.mono hc ?_
              rintro e w5 ⟨rfl, hb5⟩
              exact hK _ _ ⟨rfl, hb5⟩ hb5
            · intro W2 hw v wb wa hF hx K hK
              obtain ⟨_, hv, _⟩ := hF
              subst hv
              go_simp
              exact hK _ _ rfl (Below.refl _ _)
            · intro W2 hw K hK
              obtain ⟨b0, b1, b2, a2, k0, k1⟩ := HX0.out W2 hw
              go_simp
              exact hK _ _ rfl (Below.refl _ _)
            · intro W2 hw K hK
              go_simp
              exact hK _ _ rfl (Below.refl _ _)
            · intro W2 hw K hK
              obtain ⟨b0, b1, b2, a2, k0, k1⟩ := HX0.out W2 hw
              go_simp
              exact hK _ _ rfl (Below.refl _ _)
            · intro W2 hw K hK
              go_simp
              exact hK _ _ rfl (Below.refl _ _)
            · intro W2 hw K hK
              go_simp
              exact hK _ _ rfl (Below.refl _ _)
            · intro W2 hw K hK
              obtain ⟨b0, b1, b2, a2, k0, k1⟩ := HX0.out W2 hw
              go_simp
              exact hK _ _ rfl (Below.refl _ _)
            · intro W2 hw K hK
              have hc := HC2.out W2 hw
              go_simp
              refine Calls.mono hc ?_
              rintro e w5 ⟨rfl, hb5⟩
              exact hK _ _ ⟨rfl, hb5⟩ hb5
          · intro W2 hw2
            simp only [Behind]
            intro v6 wb6 wa6 h6 x6 y6 r6
            intro v14 wb14 wa14 h14 x14 y14 r14
            obtain ⟨h14, _⟩ := h14
            subst h14
            obtain ⟨h6, _⟩ := h6
            subst h6
            have HWX := Lib.hid (show Below wr.heap.size wr W2 from (Below.refl _ wr).drew.trans hw2)
            clear hw2 x6 y6 r6 x14 y14 r14
            simp only [List.drop, Act.put, List.setIfInBounds_toArray, List.set_cons_zero, List.set_cons_succ]
            go_wp2_with fail
            refine NoPanic.normal ?_
            go_wp2_with fail
            go_roundw
            case rel => exact ⟨q + 1, by go_num, by omega, HNK.out (by first | rfl | trivial), HBR.out.trans (HWX.out.mono hz)⟩
            case measure => simp [intOf]; omega
    · obtain rfl : q = x.n3 := by omega
      have HNO := hno
      clear hbr hno
      go_wp2_with fail
      clear y2
      go_loopw [6] (fun i wx => ∃ q : Nat, i = .int .i64 (q : Int) ∧ q ≤ y.n3 ∧ Hid (∀ j (hj : j < g.ws.length), j < q → readsB f g.ws[j] = false) ∧ Below W.heap.size W wx) (fun i _ => y.n3 - (intOf i).toNat)
      case atStart => exact ⟨0, rfl, by omega, fun j _ h => by omega, HBR.out⟩
      case round =>
        obtain ⟨q, rfl, hq, hno, hbx⟩ := hrel
        rename World => wx
        have HBX := Lib.hid hbx
        have hzx := hbx.size
        have y2 := (HG.out.below hbx).c2
        by_cases hlt2 : q < y.n3
        · have hql : q < g.ws.length := by rw [HL2.out]; exact hlt2
          obtain ⟨bs, off, hA, hc⟩ := Keys.cells (HI.out.ws.below hbx) (by omega)
          rw [hA] at y2
          obtain ⟨c0, c1⟩ := hc q hql
          have HEK := Lib.hid (HE2.out q hql)
          have HNK := Lib.hid (show readsB f g.ws[q] = false → Hid (∀ j (hj : j < g.ws.length), j < q + 1 → readsB f g.ws[j] = false) from fun h => Lib.hid fun j hj hj2 => by
            by_cases e : j = q
            · subst e; exact h
            · exact hno.out j hj (by omega))
          obtain ⟨k, hk⟩ : ∃ k, k = g.ws[q] := ⟨_, rfl⟩
          rw [← hk] at c0 c1 HEK HNK
          have hb0 := (HF.out.below hbx).c0
          have hb1 := (HF.out.below hbx).c1
          have hb2 := (HF.out.below hbx).c2
          have HX0 := Lib.hid (show ∀ W2, Below wx.drew.heap.size wx.drew W2 → W2.cell? ⟨w.heap.size, 0, none⟩ = some (.slice x.A x.n x.c) ∧ W2.cell? ⟨w.heap.size, 1, none⟩ = some (.slice x.A2 x.n2 x.c2) ∧ W2.cell? ⟨w.heap.size, 2, none⟩ = some (.slice x.A3 x.n3 x.c3) ∧ W2.cell? ⟨w.heap.size + 1, 2, none⟩ = some (.slice (some ⟨bs, off, none⟩) y.n3 y.c3) ∧ W2.cell? ⟨bs, off + q * 2, none⟩ = some (.int .i64 k.t) ∧ W2.cell? ⟨bs, off + q * 2 + 1, none⟩ = some (.int .i64 k.k) from fun W2 hw =>
            ⟨(stays_w hw _ (World.block_lt_of_cell? _ _ hb0)).trans hb0, (stays_w hw _ (World.block_lt_of_cell? _ _ hb1)).trans hb1, (stays_w hw _ (World.block_lt_of_cell? _ _ hb2)).trans hb2, (stays_w hw _ (World.block_lt_of_cell? _ _ y2)).trans y2, (stays_w hw _ (World.block_lt_of_cell? _ _ c0)).trans c0, (stays_w hw _ (World.block_lt_of_cell? _ _ c1)).trans c1⟩)
          have HC1 := Lib.hid (show ∀ W2, Below wx.heap.size wx W2 → Calls Try.prog 11 #[x.val, k.val] W2 fun e w'' => e = .returned (.bool (readsB f k)) ∧ Below W2.heap.size W2 w'' from fun W2 hw => refreads_any x f k W2 ((HH.out.below hbx).below hw))
          obtain ⟨rd, hrd⟩ : ∃ rd, rd = readsB f k := ⟨_, rfl⟩
          rw [← hrd] at HEK HNK HC1
          unfold FV.val FV.cs K.val at HC1
          clear hc hk hbx hA c0 c1 hb0 hb1 hb2 hrd
          go_wp2_with fail
          clear y2
          refine wp_region_noPanic ?_
          refine wp_region_abs 6 44 [
            .is (.agg #[.slice x.A x.n x.c, .slice x.A2 x.n2 x.c2, .slice x.A3 x.n3 x.c3]),
            .is (.pointer (some ⟨w.heap.size + 1, 2, none⟩)),
            .is (.slice (some ⟨bs, off, none⟩) y.n3 y.c3),
            .is (.int .i64 (q : Int)),
            .is (.pointer (some ⟨bs, off + q * 2, none⟩)),
            .is (.agg #[.int .i64 k.t, .int .i64 k.k])]
            [37, 38, 39, 40, 41, 42]
            [[], [], [1], [], [2, 3], [4]] (by kernel_rfl) (by rfl) rfl rfl (by kernel_rfl) (fun _ _ _ _ h => h.elim) ?_ ?_
          · refine ⟨?_, ?_, ?_, ?_, ?_, ?_, trivial⟩
            · intro W2 hw K hK
              obtain ⟨b0, b1, b2, a2, k0, k1⟩ := HX0.out W2 hw
              go_simp
              exact hK _ _ rfl (Below.refl _ _)
            · intro W2 hw K hK
              go_simp
              exact hK _ _ rfl (Below.refl _ _)
            · intro W2 hw K hK
              obtain ⟨b0, b1, b2, a2, k0, k1⟩ := HX0.out W2 hw
              go_simp
              exact hK _ _ rfl (Below.refl _ _)
            · intro W2 hw K hK
              go_simp
              exact hK _ _ rfl (Below.refl _ _)
            · intro W2 hw K hK
              go_simp
              exact hK _ _ rfl (Below.refl _ _)
            · intro W2 hw K hK
              obtain ⟨b0, b1, b2, a2, k0, k1⟩ := HX0.out W2 hw
              go_simp
              exact hK _ _ rfl (Below.refl _ _)
          · intro W2 hw2
            simp only [Behind]
            have HWX := Lib.hid (show Below wx.heap.size wx W2 from (Below.refl _ wx).drew.trans hw2)
            have HC := Lib.hid (HC1.out W2 HWX.out)
            clear hw2
            simp only [List.drop, Act.put, List.setIfInBounds_toArray, List.set_cons_zero, List.set_cons_succ]
            cases rd with
            | true =>
              go_wp2_with fail
              refine Calls.mono HC.out ?_
              rintro e w5 ⟨rfl, hb5⟩
              have HB5 := Lib.hid (HWX.out.trans (hb5.mono HWX.out.size))
              clear hb5
              go_wp2_with fail
              refine NoPanic.normal ?_
              go_wp2_with fail
              go_ret
              exact ⟨by rw [HEK.out (by first | rfl | trivial)]; rfl, HB.out.trans ((HBX.out.trans (HB5.out.mono hzx)).mono HB.out.size)⟩
            | false =>
              go_wp2_with fail
              refine Calls.mono HC.out ?_
              rintro e w5 ⟨rfl, hb5⟩
              have HB5 := Lib.hid (HWX.out.trans (hb5.mono HWX.out.size))
              clear hb5
              go_wp2_with fail
              refine NoPanic.normal ?_
              go_wp2_with fail
              go_roundw
              case rel => exact ⟨q + 1, by go_num, by omega, HNK.out (by first | rfl | trivial), HBX.out.trans (HB5.out.mono hzx)⟩
              case measure => simp [intOf]; omega
        · obtain rfl : q = y.n3 := by omega
          have HR := Lib.hid (HX.out HNO.out hno.out)
          clear hbx
          go_wp2_with fail
          go_ret
          exact ⟨by rw [HR.out]; rfl, HB.out.trans (HBX.out.mono HB.out.size)⟩
end Go.Proofs.Ytmicheheibkmjaa
