/- The document's Join. -/
import Derived.Test.YtmicheheibkmjaaFIns
import Derived.Test.YtmicheheibkmjaaFAdd
import Derived.Test.YtmicheheibkmjaaFJoinsM
namespace Go.Proofs.Ytmicheheibkmjaa
set_option maxRecDepth 100000
open Go.RowKit Go.Shelf

theorem near_fit : ∀ (l : List Sp) (x : Sp), (∀ e ∈ l, FitS e) → FitS x → FitS (near l x)
  | [], _, _, hx => hx
  | y :: l, x, hl, hx => by
    unfold near
    split
    · exact near_fit l _ (fun e he => hl e (List.mem_cons_of_mem _ he)) (hull_fit hx (hl y (by simp)))
    · exact near_fit l _ (fun e he => hl e (List.mem_cons_of_mem _ he)) hx
theorem far_fit : ∀ (l : List Sp) (x : Sp), (∀ e ∈ l, FitS e) → ∀ e ∈ far l x, FitS e
  | [], _, _ => fun e he => by simp [far] at he
  | y :: l, x, hl => by
    unfold far
    split
    · exact far_fit l _ (fun e he => hl e (List.mem_cons_of_mem _ he))
    · intro e he
      rcases List.mem_cons.1 he with r | r
      · exact r ▸ hl y (by simp)
      · exact far_fit l _ (fun e he => hl e (List.mem_cons_of_mem _ he)) e r
theorem putA_fit (x : Sp) (hx : FitS x) : ∀ (l : List Sp) (d : Bool), (∀ e ∈ l, FitS e) → ∀ e ∈ putA x l d, FitS e
  | [], d, _ => fun e he => by
    cases d
    · simp [putA] at he; exact he ▸ hx
    · simp [putA] at he
  | y :: l, d, hl => by
    intro e he
    unfold putA at he
    rcases List.mem_append.1 he with r | r
    · rcases List.mem_append.1 r with r | r
      · split at r
        · simp at r; exact r ▸ hx
        · simp at r
      · simp at r; exact r ▸ hl y (by simp)
    · exact putA_fit x hx l _ (fun e he => hl e (List.mem_cons_of_mem _ he)) e r
theorem add_fit {l : List Sp} {x : Sp} (hl : ∀ e ∈ l, FitS e) (hx : FitS x) : ∀ e ∈ add l x, FitS e := by
  unfold add
  split
  · exact hl
  · exact putA_fit _ (near_fit l x hl hx) _ _ (far_fit l x hl)
theorem addAll_fit : ∀ (m l : List Sp), (∀ e ∈ l, FitS e) → (∀ e ∈ m, FitS e) → ∀ e ∈ addAll l m, FitS e
  | [], _, hl, _ => hl
  | x :: m, l, hl, hm => addAll_fit m (add l x) (add_fit hl (hm x (by simp))) (fun e he => hm e (List.mem_cons_of_mem _ he))
theorem add_empty (A : Option Addr) (n c : Nat) (s : Sp) (w : World) (hne : s.lo > s.hi) : Calls Try.prog 37 #[.slice A n c, s.val] w fun e w' => e = .returned (.slice A n c) ∧ Below w.heap.size w w' := by
  have HB := Lib.hid (show Below w.heap.size w (w.alloc (.cells #[.int .i64 s.t, .int .i64 s.lo, .int .i64 s.hi] 54)) from (Below.refl w.heap.size w).alloc (Nat.le_refl _) _)
  have e0 : decide (s.hi < s.lo) = true := decide_eq_true hne
  unfold Sp.val
  clear hne
  go_enter Try.func37, Try.ntmps37
  go_wp2_with fail
  go_ret
  exact ⟨rfl, HB.out⟩
theorem addx_any (A : Option Addr) (n c : Nat) (l : List Sp) (s : Sp) (w : World) {B : Nat} (ho : w.ownsRow B 54 3 (.slice A n c) n (rowV Sp.vals l)) (hl : l.length = n) (hn : n ≤ 100000) (hfl : ∀ e ∈ l, FitS e) (hfs : FitS s) :
    Calls Try.prog 37 #[.slice A n c, s.val] w fun e w' => ∃ v, e = .returned v ∧ w'.ownsRow (min B (w.heap.size + 1)) 54 3 v (add l s).length (rowV Sp.vals (add l s)) ∧ Below w.heap.size w w' := by
  by_cases hne : s.lo > s.hi
  · refine (add_empty A n c s w hne).mono ?_
    rintro e w' ⟨rfl, hb⟩
    have e1 : add l s = l := by unfold add; rw [if_pos hne]
    rw [e1, hl]
    exact ⟨_, rfl, own_low (ownv_below ho hb) (Nat.min_le_left _ _), hb⟩
  · refine (add_any A n c l s w (row_of ho hl).1 hn hfl hfs hne).mono ?_
    rintro e w' ⟨v, rfl, h1, h2⟩
    exact ⟨v, rfl, own_low h1 (Nat.min_le_right _ _), h2⟩
set_option maxHeartbeats 16000000 in
theorem refjoin_any (A : Option Addr) (n c : Nat) (fs : List Ft) (w : World) (h : FtsG w A n fs) (hn : n ≤ 100) (hf : Few fs 100) :
    Calls Try.prog 15 #[.slice A n c] w fun e w' => ∃ x : FV, e = .returned x.val ∧ FtG w' x (joinF fs) ∧ Below w.heap.size w w' := by
  have HH := Lib.hid h
  have HL := Lib.hid h.1
  have HF := Lib.hid hf
  have HJ0 := Lib.hid (ji_start w)
  have HSF := Lib.hid (fts_fit h)
  clear h hf
  go_enter Try.func15, Try.ntmps15
  go_upto_region 2 with fail
  revert HJ0
  generalize World.alloc (World.alloc w _) _ = W0
  intro HJ0
  go_wp2_with fail
  go_loopw [4, 5, 6, 7] (fun i _ _ _ wr => ∃ (q : Nat) (v1 v2 v3 : Value), i = .int .i64 (q : Int) ∧ q ≤ n ∧ JI w wr v1 v2 v3 (insAll [] (rsOf (fs.take q))) (addAll [] (spOf (fs.take q))) (insAll [] (wsOf (fs.take q)))) (fun i _ _ _ _ => n - (intOf i).toNat)
  case atStart => exact ⟨0, _, _, _, rfl, by omega, HJ0.out⟩
  case round =>
    obtain ⟨q, v1, v2, v3, rfl, hq, hji⟩ := hrel
    by_cases hlt : q < n
    · have hqf : q < fs.length := by rw [HL.out]; exact hlt
      obtain ⟨b, off, rfl, hc⟩ := HH.out.2 (by omega)
      obtain ⟨x, hx, x0, x1, x2⟩ := hc q hlt
      obtain ⟨t1, t2, t3⟩ := take_of fs q hqf
      have hfew := few_len (fs.take q) 100 (fun f hf => HF.out f (List.mem_of_mem_take hf))
      have htl : (fs.take q).length ≤ q := by rw [List.length_take]; omega
      have hfq := HF.out (fs.getD q noFt) (by rw [getD_at fs q hqf]; exact List.getElem_mem hqf)
      obtain ⟨f, hfe⟩ : ∃ f, f = fs.getD q noFt := ⟨_, rfl⟩
      rw [← hfe] at hx hfq t1 t2 t3
      have g1 := insAll_length (rsOf (fs.take q)) []
      have g2 := addAll_length (spOf (fs.take q)) []
      have g3 := insAll_length (wsOf (fs.take q)) []
      simp only [List.length_nil] at g1 g2 g3
      have HR2F := Lib.hid (show ∀ e ∈ addAll [] (spOf (fs.take q)), FitS e from addAll_fit _ _ (by simp) (fun e he => HSF.out e (by
        unfold spOf at he ⊢
        rw [List.mem_flatMap] at he ⊢
        obtain ⟨f, hf, he⟩ := he
        exact ⟨f, List.mem_of_mem_take hf, he⟩)))
      have HT := Lib.hid (show insAll [] (rsOf (fs.take (q + 1))) = insAll (insAll [] (rsOf (fs.take q))) f.rs ∧ addAll [] (spOf (fs.take (q + 1))) = addAll (addAll [] (spOf (fs.take q))) f.sp ∧ insAll [] (wsOf (fs.take (q + 1))) = insAll (insAll [] (wsOf (fs.take q))) f.ws by
        rw [t1, t2, t3, insAll_app, addAll_app, insAll_app]; exact ⟨rfl, rfl, rfl⟩)
      obtain ⟨R1, hR1⟩ : ∃ R, R = insAll [] (rsOf (fs.take q)) := ⟨_, rfl⟩
      obtain ⟨R2, hR2⟩ : ∃ R, R = addAll [] (spOf (fs.take q)) := ⟨_, rfl⟩
      obtain ⟨R3, hR3⟩ : ∃ R, R = insAll [] (wsOf (fs.take q)) := ⟨_, rfl⟩
      rw [← hR1] at hji HT g1
      rw [← hR2] at hji HT g2 HR2F
      rw [← hR3] at hji HT g3
      have HX := Lib.hid hx
      have HJS := Lib.hid hji
      have l1 := hx.at_.rs.len
      have l2 := hx.at_.sp.len
      have l3 := hx.at_.ws.len
      have hF1 : R1.length ≤ 10000 := by omega
      have hF2 : R2.length ≤ 10000 := by omega
      have hF3 : R3.length ≤ 10000 := by omega
      have hm1 : x.n ≤ 100 := by omega
      have hm2 : x.n2 ≤ 100 := by omega
      have hm3 : x.n3 ≤ 100 := by omega
      clear hc hji hx t1 t2 t3 hfe hR1 hR2 hR3 l1 l2 l3 hfew hfq htl g1 g2 g3
      go_wp2_with fail
      go_loopw [5] (fun j wy => ∃ (i : Nat) (v1 v2 v3 : Value), j = .int .i64 (i : Int) ∧ i ≤ x.n ∧ JI w wy v1 v2 v3 (insAll R1 (f.rs.take i)) (R2) (R3)) (fun j _ => x.n - (intOf j).toNat)
      case atStart => exact ⟨0, _, _, _, rfl, by omega, HJS.out⟩
      case round =>
        obtain ⟨j, v1, v2, v3, rfl, hj, hji⟩ := hrel
        rename World => wy
        have HJI := Lib.hid hji
        have x0' := (stays_w hji.below _ (World.block_lt_of_cell? _ _ x0)).trans x0
        by_cases hlj : j < x.n
        · obtain ⟨b2, off2, hA, hc⟩ := Keys.cells (HX.out.below hji.below).at_.rs (by omega)
          have hjl : j < f.rs.length := by rw [HX.out.at_.rs.len]; exact hlj
          obtain ⟨c0, c1⟩ := hc j hjl
          rw [hA] at x0'
          have htk : f.rs.take (j + 1) = f.rs.take j ++ [f.rs[j]] := List.take_succ_eq_append_getElem hjl
          obtain ⟨y, hy⟩ : ∃ y, y = f.rs[j] := ⟨_, rfl⟩
          rw [← hy] at c0 c1 htk
          have HTK := Lib.hid htk
          obtain ⟨V1, e1, hV, _, _, _⟩ := rdv_own hji.o1
          obtain ⟨d1, hd1⟩ : ∃ d, d = (insAll R1 (f.rs.take j)).length := ⟨_, rfl⟩
          rw [← hd1] at hV
          subst hV
          have HD1 := Lib.hid hd1
          have hz := hji.c.1
          have HC := Lib.hid (show ∀ W2, Below wy.drew.heap.size wy.drew W2 → W2.cell? ⟨w.heap.size + 1, 0, none⟩ = some (.slice V1 d1 e1) ∧ W2.cell? ⟨b, off + q * 3, none⟩ = some (.slice (some ⟨b2, off2, none⟩) x.n x.c) ∧ W2.cell? ⟨b2, off2 + j * 2, none⟩ = some (.int .i64 y.t) ∧ W2.cell? ⟨b2, off2 + j * 2 + 1, none⟩ = some (.int .i64 y.k) from fun W2 hw => by
            have hw3 : Below wy.heap.size wy W2 := (Below.refl _ wy).drew.trans hw
            exact ⟨(stays_w hw3 _ (World.block_lt_of_cell? _ _ hz)).trans hz, (stays_w hw3 _ (World.block_lt_of_cell? _ _ x0')).trans x0', (stays_w hw3 _ (World.block_lt_of_cell? _ _ c0)).trans c0, (stays_w hw3 _ (World.block_lt_of_cell? _ _ c1)).trans c1⟩)
          have hqi : (q : Int) < n := by omega
          have hji2 : (j : Int) < x.n := by omega
          clear hc hy htk hd1 hji hz c0 c1
          skip
          go_wp2_with fail
          refine wp_region_noPanic ?_
          refine wp_region_abs 10 82 [.is (.pointer (some ⟨w.heap.size + 1, 0, none⟩)), .is (.slice V1 d1 e1), .is (.slice (some ⟨b, off, none⟩) n c), .is (.int .i64 (q : Int)), .is (.pointer (some ⟨b, off + q * 3, none⟩)), .is (.pointer (some ⟨b, off + q * 3, none⟩)), .is (.slice (some ⟨b2, off2, none⟩) x.n x.c), .is (.int .i64 (j : Int)), .is (.pointer (some ⟨b2, off2 + j * 2, none⟩)), .is (.agg #[.int .i64 y.t, .int .i64 y.k])]
            [25, 26, 27, 28, 29, 30, 31, 32, 33, 34]
            [[], [0], [], [], [2, 3], [4], [5], [], [6, 7], [8]] (by kernel_rfl) (by rfl) rfl rfl (by kernel_rfl) (fun _ _ _ _ h => h.elim) ?_ ?_
          · refine ⟨?_, ?_, ?_, ?_, ?_, ?_, ?_, ?_, ?_, ?_, trivial⟩
            · intro W2 hw K hK
              obtain ⟨z0, p0, y0, y1⟩ := HC.out W2 hw
              go_simp
              exact hK _ _ rfl (Below.refl _ _)
            · intro W2 hw K hK
              obtain ⟨z0, p0, y0, y1⟩ := HC.out W2 hw
              go_simp
              exact hK _ _ rfl (Below.refl _ _)
            · intro W2 hw K hK
              obtain ⟨z0, p0, y0, y1⟩ := HC.out W2 hw
              go_simp
              exact hK _ _ rfl (Below.refl _ _)
            · intro W2 hw K hK
              obtain ⟨z0, p0, y0, y1⟩ := HC.out W2 hw
              go_simp
              exact hK _ _ rfl (Below.refl _ _)
            · intro W2 hw K hK
              obtain ⟨z0, p0, y0, y1⟩ := HC.out W2 hw
              go_simp
              exact hK _ _ rfl (Below.refl _ _)
            · intro W2 hw K hK
              obtain ⟨z0, p0, y0, y1⟩ := HC.out W2 hw
              go_simp
              exact hK _ _ rfl (Below.refl _ _)
            · intro W2 hw K hK
              obtain ⟨z0, p0, y0, y1⟩ := HC.out W2 hw
              go_simp
              exact hK _ _ rfl (Below.refl _ _)
            · intro W2 hw K hK
              obtain ⟨z0, p0, y0, y1⟩ := HC.out W2 hw
              go_simp
              exact hK _ _ rfl (Below.refl _ _)
            · intro W2 hw K hK
              obtain ⟨z0, p0, y0, y1⟩ := HC.out W2 hw
              go_simp
              exact hK _ _ rfl (Below.refl _ _)
            · intro W2 hw K hK
              obtain ⟨z0, p0, y0, y1⟩ := HC.out W2 hw
              go_simp
              exact hK _ _ rfl (Below.refl _ _)
          · intro W2 hw2
            simp only [Behind]
            have hw3 : Below wy.heap.size wy W2 := (Below.refl _ _).drew.trans hw2
            have HJX := Lib.hid (HJI.out.keep hw3)
            clear hw2 hw3
            simp only [List.drop, Act.put, List.setIfInBounds_toArray, List.set_cons_zero, List.set_cons_succ]
            have ho := HJX.out.o1
            rw [← HD1.out] at ho
            obtain ⟨hrow, _⟩ := row_of ho HD1.out.symm
            have HIN := Lib.hid (insert_any V1 d1 e1 _ y W2 hrow (by rw [HD1.out]; have := insAll_length (f.rs.take j) R1; rw [List.length_take] at this; omega))
            have hlow := HJX.out.low
            have d0 := HJX.out.c.1
            have fr := frozen_box HJX.out.box 0
            clear ho hrow
            unfold K.val at HIN
            go_wp2_with fail
            refine Calls.mono HIN.out ?_
            rintro e9 W3 ⟨v9, rfl, ho9, hb9⟩
            obtain ⟨A9, c9, rfl, _, _, _⟩ := rdv_own ho9
            have HJ9 := Lib.hid (HJX.out.app1 (own_low ho9 (by omega)) rfl (grown_below hb9 _) (fun q hq => .inr (by have := (ho9.lt q hq).1; omega)))
            have d9 := (stays_w hb9 _ (World.block_lt_of_cell? _ _ d0)).trans d0
            have fr9 : W3.frozen? ⟨w.heap.size + 1, 0, none⟩ = false := frozen_box ((hb9.block _ (Array.getElem?_eq_some_iff.1 HJX.out.box).1).trans HJX.out.box) 0
            clear ho9 hb9 d0 fr
            go_wp2_with fail
            refine NoPanic.normal ?_
            go_wp2_with fail
            go_roundw
            case rel => exact ⟨j + 1, _, _, _, by go_num, by omega, by rw [HTK.out, insAll_one]; exact HJ9.out⟩
            case measure => simp [intOf]; omega
        · have hje : j = x.n := by omega
          have htk : f.rs.take j = f.rs := by rw [hje, ← HX.out.at_.rs.len, List.take_length]
          rw [htk] at HJI
          clear htk hji
          subst hje
          go_wp2_with fail
          go_loopw [6] (fun j wy => ∃ (i : Nat) (v1 v2 v3 : Value), j = .int .i64 (i : Int) ∧ i ≤ x.n2 ∧ JI w wy v1 v2 v3 (insAll R1 f.rs) (addAll R2 (f.sp.take i)) (R3)) (fun j _ => x.n2 - (intOf j).toNat)
          case atStart => exact ⟨0, _, _, _, rfl, by omega, HJI.out⟩
          case round =>
            obtain ⟨j, v1, v2, v3, rfl, hj, hji⟩ := hrel
            rename World => wy
            have HJI := Lib.hid hji
            have x1' := (stays_w hji.below _ (World.block_lt_of_cell? _ _ x1)).trans x1
            by_cases hlj : j < x.n2
            · obtain ⟨b2, off2, hA, hc⟩ := Spans.cells (HX.out.below hji.below).at_.sp (by omega)
              have hjl : j < f.sp.length := by rw [HX.out.at_.sp.len]; exact hlj
              obtain ⟨c0, c1, c2⟩ := hc j hjl
              rw [hA] at x1'
              have htk : f.sp.take (j + 1) = f.sp.take j ++ [f.sp[j]] := List.take_succ_eq_append_getElem hjl
              have HFY := Lib.hid (HX.out.fit _ (List.getElem_mem hjl))
              obtain ⟨y, hy⟩ : ∃ y, y = f.sp[j] := ⟨_, rfl⟩
              rw [← hy] at c0 c1 c2 htk HFY
              have HTK := Lib.hid htk
              obtain ⟨V1, e1, hV, _, _, _⟩ := rdv_own hji.o2
              obtain ⟨d1, hd1⟩ : ∃ d, d = (addAll R2 (f.sp.take j)).length := ⟨_, rfl⟩
              rw [← hd1] at hV
              subst hV
              have HD1 := Lib.hid hd1
              have hz := hji.c.2.1
              have HC := Lib.hid (show ∀ W2, Below wy.drew.heap.size wy.drew W2 → W2.cell? ⟨w.heap.size + 1, 1, none⟩ = some (.slice V1 d1 e1) ∧ W2.cell? ⟨b, off + q * 3 + 1, none⟩ = some (.slice (some ⟨b2, off2, none⟩) x.n2 x.c2) ∧ W2.cell? ⟨b2, off2 + j * 3, none⟩ = some (.int .i64 y.t) ∧ W2.cell? ⟨b2, off2 + j * 3 + 1, none⟩ = some (.int .i64 y.lo) ∧ W2.cell? ⟨b2, off2 + j * 3 + 2, none⟩ = some (.int .i64 y.hi) from fun W2 hw => by
                have hw3 : Below wy.heap.size wy W2 := (Below.refl _ wy).drew.trans hw
                exact ⟨(stays_w hw3 _ (World.block_lt_of_cell? _ _ hz)).trans hz, (stays_w hw3 _ (World.block_lt_of_cell? _ _ x1')).trans x1', (stays_w hw3 _ (World.block_lt_of_cell? _ _ c0)).trans c0, (stays_w hw3 _ (World.block_lt_of_cell? _ _ c1)).trans c1, (stays_w hw3 _ (World.block_lt_of_cell? _ _ c2)).trans c2⟩)
              have hqi : (q : Int) < n := by omega
              have hji2 : (j : Int) < x.n2 := by omega
              clear hc hy htk hd1 hji hz c0 c1 c2
              skip
              go_wp2_with fail
              refine wp_region_noPanic ?_
              refine wp_region_abs 10 82 [.is (.pointer (some ⟨w.heap.size + 1, 1, none⟩)), .is (.slice V1 d1 e1), .is (.slice (some ⟨b, off, none⟩) n c), .is (.int .i64 (q : Int)), .is (.pointer (some ⟨b, off + q * 3, none⟩)), .is (.pointer (some ⟨b, off + q * 3 + 1, none⟩)), .is (.slice (some ⟨b2, off2, none⟩) x.n2 x.c2), .is (.int .i64 (j : Int)), .is (.pointer (some ⟨b2, off2 + j * 3, none⟩)), .is (.agg #[.int .i64 y.t, .int .i64 y.lo, .int .i64 y.hi])]
                [47, 48, 49, 50, 51, 52, 53, 54, 55, 56]
                [[], [0], [], [], [2, 3], [4], [5], [], [6, 7], [8]] (by kernel_rfl) (by rfl) rfl rfl (by kernel_rfl) (fun _ _ _ _ h => h.elim) ?_ ?_
              · refine ⟨?_, ?_, ?_, ?_, ?_, ?_, ?_, ?_, ?_, ?_, trivial⟩
                · intro W2 hw K hK
                  obtain ⟨z0, p0, y0, y1, y2⟩ := HC.out W2 hw
                  go_simp
                  exact hK _ _ rfl (Below.refl _ _)
                · intro W2 hw K hK
                  obtain ⟨z0, p0, y0, y1, y2⟩ := HC.out W2 hw
                  go_simp
                  exact hK _ _ rfl (Below.refl _ _)
                · intro W2 hw K hK
                  obtain ⟨z0, p0, y0, y1, y2⟩ := HC.out W2 hw
                  go_simp
                  exact hK _ _ rfl (Below.refl _ _)
                · intro W2 hw K hK
                  obtain ⟨z0, p0, y0, y1, y2⟩ := HC.out W2 hw
                  go_simp
                  exact hK _ _ rfl (Below.refl _ _)
                · intro W2 hw K hK
                  obtain ⟨z0, p0, y0, y1, y2⟩ := HC.out W2 hw
                  go_simp
                  exact hK _ _ rfl (Below.refl _ _)
                · intro W2 hw K hK
                  obtain ⟨z0, p0, y0, y1, y2⟩ := HC.out W2 hw
                  go_simp
                  exact hK _ _ rfl (Below.refl _ _)
                · intro W2 hw K hK
                  obtain ⟨z0, p0, y0, y1, y2⟩ := HC.out W2 hw
                  go_simp
                  exact hK _ _ rfl (Below.refl _ _)
                · intro W2 hw K hK
                  obtain ⟨z0, p0, y0, y1, y2⟩ := HC.out W2 hw
                  go_simp
                  exact hK _ _ rfl (Below.refl _ _)
                · intro W2 hw K hK
                  obtain ⟨z0, p0, y0, y1, y2⟩ := HC.out W2 hw
                  go_simp
                  exact hK _ _ rfl (Below.refl _ _)
                · intro W2 hw K hK
                  obtain ⟨z0, p0, y0, y1, y2⟩ := HC.out W2 hw
                  go_simp
                  exact hK _ _ rfl (Below.refl _ _)
              · intro W2 hw2
                simp only [Behind]
                have hw3 : Below wy.heap.size wy W2 := (Below.refl _ _).drew.trans hw2
                have HJX := Lib.hid (HJI.out.keep hw3)
                clear hw2 hw3
                simp only [List.drop, Act.put, List.setIfInBounds_toArray, List.set_cons_zero, List.set_cons_succ]
                have ho := HJX.out.o2
                rw [← HD1.out] at ho
                have HIN := Lib.hid (addx_any V1 d1 e1 _ y W2 ho HD1.out.symm (by rw [HD1.out]; have := addAll_length (f.sp.take j) R2; rw [List.length_take] at this; omega) (addAll_fit _ _ HR2F.out (fun e he => HX.out.fit e (List.mem_of_mem_take he))) HFY.out)
                have hlow := HJX.out.low
                have d0 := HJX.out.c.2.1
                have fr := frozen_box HJX.out.box 1
                clear ho
                unfold Sp.val at HIN
                go_wp2_with fail
                refine Calls.mono HIN.out ?_
                rintro e9 W3 ⟨v9, rfl, ho9, hb9⟩
                obtain ⟨A9, c9, rfl, _, _, _⟩ := rdv_own ho9
                have HJ9 := Lib.hid (HJX.out.app2 (own_low ho9 (by omega)) rfl (grown_below hb9 _))
                have d9 := (stays_w hb9 _ (World.block_lt_of_cell? _ _ d0)).trans d0
                have fr9 : W3.frozen? ⟨w.heap.size + 1, 1, none⟩ = false := frozen_box ((hb9.block _ (Array.getElem?_eq_some_iff.1 HJX.out.box).1).trans HJX.out.box) 1
                clear ho9 hb9 d0 fr
                go_wp2_with fail
                refine NoPanic.normal ?_
                go_wp2_with fail
                go_roundw
                case rel => exact ⟨j + 1, _, _, _, by go_num, by omega, by rw [HTK.out, addAll_one]; exact HJ9.out⟩
                case measure => simp [intOf]; omega
            · have hje : j = x.n2 := by omega
              have htk : f.sp.take j = f.sp := by rw [hje, ← HX.out.at_.sp.len, List.take_length]
              rw [htk] at HJI
              clear htk hji
              subst hje
              go_wp2_with fail
              go_loopw [7] (fun j wy => ∃ (i : Nat) (v1 v2 v3 : Value), j = .int .i64 (i : Int) ∧ i ≤ x.n3 ∧ JI w wy v1 v2 v3 (insAll R1 f.rs) (addAll R2 f.sp) (insAll R3 (f.ws.take i))) (fun j _ => x.n3 - (intOf j).toNat)
              case atStart => exact ⟨0, _, _, _, rfl, by omega, HJI.out⟩
              case round =>
                obtain ⟨j, v1, v2, v3, rfl, hj, hji⟩ := hrel
                rename World => wy
                have HJI := Lib.hid hji
                have x2' := (stays_w hji.below _ (World.block_lt_of_cell? _ _ x2)).trans x2
                by_cases hlj : j < x.n3
                · obtain ⟨b2, off2, hA, hc⟩ := Keys.cells (HX.out.below hji.below).at_.ws (by omega)
                  have hjl : j < f.ws.length := by rw [HX.out.at_.ws.len]; exact hlj
                  obtain ⟨c0, c1⟩ := hc j hjl
                  rw [hA] at x2'
                  have htk : f.ws.take (j + 1) = f.ws.take j ++ [f.ws[j]] := List.take_succ_eq_append_getElem hjl
                  obtain ⟨y, hy⟩ : ∃ y, y = f.ws[j] := ⟨_, rfl⟩
                  rw [← hy] at c0 c1 htk
                  have HTK := Lib.hid htk
                  obtain ⟨V1, e1, hV, _, _, _⟩ := rdv_own hji.o3
                  obtain ⟨d1, hd1⟩ : ∃ d, d = (insAll R3 (f.ws.take j)).length := ⟨_, rfl⟩
                  rw [← hd1] at hV
                  subst hV
                  have HD1 := Lib.hid hd1
                  have hz := hji.c.2.2
                  have HC := Lib.hid (show ∀ W2, Below wy.drew.heap.size wy.drew W2 → W2.cell? ⟨w.heap.size + 1, 2, none⟩ = some (.slice V1 d1 e1) ∧ W2.cell? ⟨b, off + q * 3 + 2, none⟩ = some (.slice (some ⟨b2, off2, none⟩) x.n3 x.c3) ∧ W2.cell? ⟨b2, off2 + j * 2, none⟩ = some (.int .i64 y.t) ∧ W2.cell? ⟨b2, off2 + j * 2 + 1, none⟩ = some (.int .i64 y.k) from fun W2 hw => by
                    have hw3 : Below wy.heap.size wy W2 := (Below.refl _ wy).drew.trans hw
                    exact ⟨(stays_w hw3 _ (World.block_lt_of_cell? _ _ hz)).trans hz, (stays_w hw3 _ (World.block_lt_of_cell? _ _ x2')).trans x2', (stays_w hw3 _ (World.block_lt_of_cell? _ _ c0)).trans c0, (stays_w hw3 _ (World.block_lt_of_cell? _ _ c1)).trans c1⟩)
                  have hqi : (q : Int) < n := by omega
                  have hji2 : (j : Int) < x.n3 := by omega
                  clear hc hy htk hd1 hji hz c0 c1
                  skip
                  go_wp2_with fail
                  refine wp_region_noPanic ?_
                  refine wp_region_abs 10 82 [.is (.pointer (some ⟨w.heap.size + 1, 2, none⟩)), .is (.slice V1 d1 e1), .is (.slice (some ⟨b, off, none⟩) n c), .is (.int .i64 (q : Int)), .is (.pointer (some ⟨b, off + q * 3, none⟩)), .is (.pointer (some ⟨b, off + q * 3 + 2, none⟩)), .is (.slice (some ⟨b2, off2, none⟩) x.n3 x.c3), .is (.int .i64 (j : Int)), .is (.pointer (some ⟨b2, off2 + j * 2, none⟩)), .is (.agg #[.int .i64 y.t, .int .i64 y.k])]
                    [69, 70, 71, 72, 73, 74, 75, 76, 77, 78]
                    [[], [0], [], [], [2, 3], [4], [5], [], [6, 7], [8]] (by kernel_rfl) (by rfl) rfl rfl (by kernel_rfl) (fun _ _ _ _ h => h.elim) ?_ ?_
                  · refine ⟨?_, ?_, ?_, ?_, ?_, ?_, ?_, ?_, ?_, ?_, trivial⟩
                    · intro W2 hw K hK
                      obtain ⟨z0, p0, y0, y1⟩ := HC.out W2 hw
                      go_simp
                      exact hK _ _ rfl (Below.refl _ _)
                    · intro W2 hw K hK
                      obtain ⟨z0, p0, y0, y1⟩ := HC.out W2 hw
                      go_simp
                      exact hK _ _ rfl (Below.refl _ _)
                    · intro W2 hw K hK
                      obtain ⟨z0, p0, y0, y1⟩ := HC.out W2 hw
                      go_simp
                      exact hK _ _ rfl (Below.refl _ _)
                    · intro W2 hw K hK
                      obtain ⟨z0, p0, y0, y1⟩ := HC.out W2 hw
                      go_simp
                      exact hK _ _ rfl (Below.refl _ _)
                    · intro W2 hw K hK
                      obtain ⟨z0, p0, y0, y1⟩ := HC.out W2 hw
                      go_simp
                      exact hK _ _ rfl (Below.refl _ _)
                    · intro W2 hw K hK
                      obtain ⟨z0, p0, y0, y1⟩ := HC.out W2 hw
                      go_simp
                      exact hK _ _ rfl (Below.refl _ _)
                    · intro W2 hw K hK
                      obtain ⟨z0, p0, y0, y1⟩ := HC.out W2 hw
                      go_simp
                      exact hK _ _ rfl (Below.refl _ _)
                    · intro W2 hw K hK
                      obtain ⟨z0, p0, y0, y1⟩ := HC.out W2 hw
                      go_simp
                      exact hK _ _ rfl (Below.refl _ _)
                    · intro W2 hw K hK
                      obtain ⟨z0, p0, y0, y1⟩ := HC.out W2 hw
                      go_simp
                      exact hK _ _ rfl (Below.refl _ _)
                    · intro W2 hw K hK
                      obtain ⟨z0, p0, y0, y1⟩ := HC.out W2 hw
                      go_simp
                      exact hK _ _ rfl (Below.refl _ _)
                  · intro W2 hw2
                    simp only [Behind]
                    have hw3 : Below wy.heap.size wy W2 := (Below.refl _ _).drew.trans hw2
                    have HJX := Lib.hid (HJI.out.keep hw3)
                    clear hw2 hw3
                    simp only [List.drop, Act.put, List.setIfInBounds_toArray, List.set_cons_zero, List.set_cons_succ]
                    have ho := HJX.out.o3
                    rw [← HD1.out] at ho
                    obtain ⟨hrow, _⟩ := row_of ho HD1.out.symm
                    have HIN := Lib.hid (insert_any V1 d1 e1 _ y W2 hrow (by rw [HD1.out]; have := insAll_length (f.ws.take j) R3; rw [List.length_take] at this; omega))
                    have hlow := HJX.out.low
                    have d0 := HJX.out.c.2.2
                    have fr := frozen_box HJX.out.box 2
                    clear ho hrow
                    unfold K.val at HIN
                    go_wp2_with fail
                    refine Calls.mono HIN.out ?_
                    rintro e9 W3 ⟨v9, rfl, ho9, hb9⟩
                    obtain ⟨A9, c9, rfl, _, _, _⟩ := rdv_own ho9
                    have HJ9 := Lib.hid (HJX.out.app3 (own_low ho9 (by omega)) rfl (grown_below hb9 _) (fun q hq => .inr (by have := (ho9.lt q hq).1; omega)))
                    have d9 := (stays_w hb9 _ (World.block_lt_of_cell? _ _ d0)).trans d0
                    have fr9 : W3.frozen? ⟨w.heap.size + 1, 2, none⟩ = false := frozen_box ((hb9.block _ (Array.getElem?_eq_some_iff.1 HJX.out.box).1).trans HJX.out.box) 2
                    clear ho9 hb9 d0 fr
                    go_wp2_with fail
                    refine NoPanic.normal ?_
                    go_wp2_with fail
                    go_roundw
                    case rel => exact ⟨j + 1, _, _, _, by go_num, by omega, by rw [HTK.out, insAll_one]; exact HJ9.out⟩
                    case measure => simp [intOf]; omega
                · have hje : j = x.n3 := by omega
                  have htk : f.ws.take j = f.ws := by rw [hje, ← HX.out.at_.ws.len, List.take_length]
                  rw [htk] at HJI
                  clear htk hji
                  subst hje
                  go_wp2_with fail
                  go_roundw
                  case rel => exact ⟨q + 1, _, _, _, by go_num, by omega, by rw [HT.out.1, HT.out.2.1, HT.out.2.2]; exact HJI.out⟩
                  case measure => simp [intOf]; omega
    · obtain rfl : q = n := by omega
      have ht : fs.take q = fs := by rw [← HL.out, List.take_length]
      rw [ht] at hji
      have HR2F := Lib.hid (show ∀ e ∈ addAll [] (spOf fs), FitS e from addAll_fit _ _ (by simp) HSF.out)
      obtain ⟨A1', c1', hv1, _, _, _⟩ := rdv_own hji.o1
      obtain ⟨A2', c2', hv2, _, _, _⟩ := rdv_own hji.o2
      obtain ⟨A3', c3', hv3, _, _, _⟩ := rdv_own hji.o3
      obtain ⟨m1, hm1⟩ : ∃ m, m = (insAll [] (rsOf fs)).length := ⟨_, rfl⟩
      obtain ⟨m2, hm2⟩ : ∃ m, m = (addAll [] (spOf fs)).length := ⟨_, rfl⟩
      obtain ⟨m3, hm3⟩ : ∃ m, m = (insAll [] (wsOf fs)).length := ⟨_, rfl⟩
      rw [← hm1] at hv1
      rw [← hm2] at hv2
      rw [← hm3] at hv3
      subst hv1 hv2 hv3
      have HJ3 := Lib.hid hji
      clear hji ht hm1 hm2 hm3
      obtain ⟨z1, z2, z3⟩ := HJ3.out.c
      have r0 : wr.cell? ⟨w.heap.size, 0, none⟩ = some (.slice none 0 0) := (cell_of_row wr _ 0 _ 30 (0, 0) HJ3.out.ret).trans rfl
      have r1 : wr.cell? ⟨w.heap.size, 1, none⟩ = some (.slice none 0 0) := (cell_of_row wr _ 1 _ 30 (0, 0) HJ3.out.ret).trans rfl
      have r2 : wr.cell? ⟨w.heap.size, 2, none⟩ = some (.slice none 0 0) := (cell_of_row wr _ 2 _ 30 (0, 0) HJ3.out.ret).trans rfl
      have f0 := frozen_box HJ3.out.ret 0
      have f1 := frozen_box HJ3.out.ret 1
      have f2 := frozen_box HJ3.out.ret 2
      have HE := Lib.hid (ji_end HJ3.out)
      have H9 := Lib.hid (ji_done HJ3.out HR2F.out)
      go_wp2_with fail
      exact bodyPost_ret (v := .agg #[.slice A1' m1 c1', .slice A2' m2 c2', .slice A3' m3 c3']) (results_cell_row rfl _ _ w.heap.size 30 _ (0, 0) _ rfl HE.out Try.underlying30 rfl info30) rfl ⟨⟨A1', m1, c1', A2', m2, c2', A3', m3, c3'⟩, rfl, H9.out.1, H9.out.2⟩
end Go.Proofs.Ytmicheheibkmjaa
