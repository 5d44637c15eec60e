/- SRanges: put together. -/
import Derived.Test.YtejpjbmbcdgomaaPd16
/- StoreRanges: what any store tells of any span. Written by gen_sranges.py. -/
namespace Go.Proofs.Ytejpjbmbcdgomaa
set_option maxRecDepth 100000
open Go.RowKit

theorem Ens.keepB {w w1 : World} {A : Option Addr} {l : List En} (h : Ens w A l) (hk : ∀ b o, A = some ⟨b, o, none⟩ → b < w.heap.size → w1.heap[b]? = w.heap[b]?) : Ens w1 A l := Ens.same h fun hl b o e => by
  obtain ⟨b', o', e', hc⟩ := Ens.cell h hl
  rw [e] at e'
  have e1 : b = b' := by simpa using congrArg (fun x => x.map (·.block)) e'
  exact hk b o e (by rw [e1]; exact World.block_lt_of_cell? _ _ (hc 0 hl).1)
theorem Ens.blk {w : World} {A : Option Addr} {l : List En} {b o : Nat} (h : Ens w A l) (hl : 0 < l.length) (e : A = some ⟨b, o, none⟩) : b < w.heap.size := by
  obtain ⟨b', o', e', hc⟩ := Ens.cell h hl
  rw [e] at e'
  have e1 : b = b' := by simpa using congrArg (fun x => x.map (·.block)) e'
  rw [e1]
  exact World.block_lt_of_cell? _ _ (hc 0 hl).1
set_option maxHeartbeats 64000000 in
theorem ranges_law {w : World} {A : Option Addr} {c : Nat} {os : List Oq} (t lo hi nm : Int) (h : Acts w A os) : Calls Try.prog 3 #[.slice A os.length c, .agg #[.int .i64 t, .int .i64 lo, .int .i64 hi], .int .i64 nm] w fun e w' => e = .returned (.bool true) ∧ Below w.heap.size w w' := by
  refine (callsIn_wide (n := 11)).1 ?_
  have H := Lib.hid h
  have HLG := Lib.hid (fun w1 (hb : Below w.heap.size w w1) => long_any (c := c) (h.below hb))
  obtain ⟨n, hn⟩ : ∃ n, n = os.length := ⟨_, rfl⟩
  have HN := Lib.hid hn
  have hnb : n ≤ 9223372036854775807 := by rw [hn]; exact h.big
  have HNB := Lib.hid hnb
  rw [← hn] at HLG ⊢
  obtain ⟨p4, hp4⟩ : ∃ p4, p4 = w.heap.size := ⟨_, rfl⟩
  obtain ⟨p6, hp6⟩ : ∃ p6, p6 = p4 + 1 := ⟨_, rfl⟩
  obtain ⟨W1, hW1⟩ : ∃ W1, W1 = (w.alloc (.cells #[.int .i64 t, .int .i64 lo, .int .i64 hi] 24)).alloc (.cells #[.bool false] 4) := ⟨_, rfl⟩
  have h3 := blocks2 w (.cells #[.int .i64 t, .int .i64 lo, .int .i64 hi] 24) (.cells #[.bool false] 4)
  rw [← hW1, ← hp4, ← hp6] at h3
  obtain ⟨g4, g6, gs, gb⟩ := h3
  rw [hp4] at gb
  have HB := Lib.hid (And.intro g4 (And.intro g6 gb))
  have HP := Lib.hid (And.intro hp4 hp6)
  have HW := Lib.hid hW1
  clear h hn hnb hp4 hp6 hW1 g4 g6 gs gb
  refine callsIn_of_wp_marks Try.func3 rfl trivial ?_ rfl
  refine wpIn_wide.2 ?_
  simp only [Try.ntmps3, List.size_toArray, List.length_cons, List.length_nil, Nat.reduceAdd, Nat.reduceSub, Array.replicate_succ, Array.replicate_zero, List.push_toArray, List.append_toArray, List.nil_append, List.cons_append]
  go_upto_region 1 with fail
  rw [← HW.out, ← HP.out.1, ← HP.out.2]
  go_wp2_with fail
  refine Calls.mono (alive_any W1) ?_
  rintro e w1 ⟨rfl, hb1⟩
  have HB1 := Lib.hid (HB.out.2.2.trans (hb1.mono HB.out.2.2.size))
  have HX1 : Hid (w1.heap[p4]? = some (.cells #[.int .i64 t, .int .i64 lo, .int .i64 hi] 24 (0, 0)) ∧ w1.heap[p6]? = some (.cells #[.bool false] 4 (0, 0))) := Lib.hid ⟨(hb1.block _ (Array.getElem?_eq_some_iff.1 HB.out.1).1).trans HB.out.1, (hb1.block _ (Array.getElem?_eq_some_iff.1 HB.out.2.1).1).trans HB.out.2.1⟩
  clear hb1
  go_wp2_with fail
  refine Calls.mono (HLG.out w1 HB1.out) ?_
  rintro e w2 ⟨⟨bl, rfl, hlg⟩, hb2⟩
  have HB2 := Lib.hid (HB1.out.trans (hb2.mono HB1.out.size))
  have HX2 : Hid (w2.heap[p4]? = some (.cells #[.int .i64 t, .int .i64 lo, .int .i64 hi] 24 (0, 0)) ∧ w2.heap[p6]? = some (.cells #[.bool false] 4 (0, 0))) := Lib.hid ⟨(hb2.block _ (Array.getElem?_eq_some_iff.1 HX1.out.1).1).trans HX1.out.1, (hb2.block _ (Array.getElem?_eq_some_iff.1 HX1.out.2).1).trans HX1.out.2⟩
  have HLB := Lib.hid hlg
  have hlo6 : w.heap.size ≤ p6 := by have := HP.out; omega
  have HL6 := Lib.hid hlo6
  clear hb2 hlg hlo6
  cases bl with
  | true =>
    have y6 : w2.cell? ⟨p6, 0, none⟩ = some (.bool false) := by rw [cell_of_row _ _ 0 _ _ _ HX2.out.2]; rfl
    have yf := frozen_of HX2.out.2
    have HF : Hid ((w2.setCell ⟨p6, 0, none⟩ (.bool true)).heap[p6]? = some (.cells #[.bool true] 4 (0, 0)) ∧ Below w.heap.size w (w2.setCell ⟨p6, 0, none⟩ (.bool true))) := Lib.hid ⟨(heap_set w2 p6 0 _ HX2.out.2).trans rfl, HB2.out.setCell (p := ⟨p6, 0, none⟩) HL6.out _⟩
    go_wp2_with fail
    refine leaves_marks (v := .bool true) [] _ (fun d hd => by cases hd) List.Pairwise.nil fun v1 e1 e2 e3 e4 e5 => ?_
    have f1 := (e5 p6 (fun d hd => by cases hd)).trans HF.out.1
    have f2 : v1.cell? ⟨p6, 0, none⟩ = some (.bool true) := by rw [cell_of_row _ _ 0 _ _ _ f1]; rfl
    refine ⟨by simp [results, Try.results3, go_sem, f2], rfl, ?_⟩
    have hb := HF.out.2
    exact ⟨e2.trans hb.os, e3.trans hb.tape, e4.trans hb.output, by rw [e1]; exact hb.size, fun q hq => (e5 q fun d hd => by cases hd).trans (hb.block q hq)⟩
  | false =>
    obtain ⟨hl61, hl30⟩ := HLB.out rfl
    have hn61 : n ≤ 61 := by rw [HN.out]; exact hl61
    have HL30 := Lib.hid hl30
    have HN61 := Lib.hid hn61
    clear hl61 hl30 hn61
    go_wp2_with fail
    refine Calls.mono (snew_any w2) ?_
    rintro e w3 ⟨rfl, ⟨G, hM, hG⟩, hb3⟩
    obtain ⟨sb, hsb⟩ : ∃ sb, sb = w2.heap.size := ⟨_, rfl⟩
    obtain ⟨p8, hp8⟩ : ∃ p8, p8 = w3.heap.size := ⟨_, rfl⟩
    obtain ⟨W4, hW4⟩ : ∃ W4, W4 = w3.alloc (.cells #[.slice none 0 0, .int .i64 0] 31) := ⟨_, rfl⟩
    have hb4 : Below w3.heap.size w3 W4 := by rw [hW4]; exact (Below.refl _ _).alloc (Nat.le_refl _) _
    have hx8 : W4.heap[p8]? = some (.cells #[.slice none 0 0, .int .i64 0] 31 (0, 0)) := by rw [hW4, hp8]; exact heap_alloc_new w3 _
    have hR0 : Run w w2 W4 os sb p8 0 (fun _ => []) 0 G none 0 := Run.start HB2.out (by rw [hsb]; exact hM) (fun q e => ⟨hG q e, by have := hM.lt e; omega⟩) hb3 (Ch.of_below hb4 _) (by have := HB2.out.size; have := hb3.size; omega) hx8
    have HR0 := Lib.hid hR0
    have HW4 := Lib.hid (And.intro hW4 (And.intro hsb hp8))
    have HP8 : Hid (w2.heap.size ≤ p8) := Lib.hid (by have := hb3.size; omega)
    clear hM hG hb3 hb4 hx8 hR0 hW4 hp8 hsb
    go_wp2_with fail
    rw [← HW4.out.1, ← HW4.out.2.2, ← HW4.out.2.1]
    go_loopw [10, 29, 30, 31, 32, 33, 34, 35, 36, 37, 38, 39, 40] (fun _ ix _ _ _ _ _ _ _ _ _ _ _ wr => ∃ (z : Nat) (ts : Tb) (last : Int) (G : Nat → Prop) (A1 : Option Addr) (c1 : Nat), ix = .int .i64 (z : Int) ∧ z ≤ n ∧ Run w w2 wr os sb p8 z ts last G A1 c1) (fun _ ix _ _ _ _ _ _ _ _ _ _ _ wr => n - (intOf ix).toNat)
    case atStart => exact ⟨0, _, _, _, _, _, rfl, Nat.zero_le _, HR0.out⟩
    case round =>
      obtain ⟨z, ts, last, G1, A1, c1, rfl, hz, hR⟩ := hrel
      have HR := Lib.hid hR
      have HZ := Lib.hid hz
      clear hR hz
      by_cases hlt : z < n
      · have hzl : z < os.length := by rw [← HN.out]; exact hlt
        obtain ⟨b, off, rfl, hcl⟩ := Acts.cell (H.out.below HR.out.b) (by omega)
        obtain ⟨x0, x1, x2⟩ := hcl z hzl
        obtain ⟨o, ho⟩ : ∃ o, o = os[z] := ⟨_, rfl⟩
        have hoq := H.out.ok _ (List.getElem_mem hzl)
        have hw30 := HL30.out _ (List.getElem_mem hzl)
        have hbx : Below wr.heap.size wr (wr.alloc (.cells #[.int .i64 o.q, .slice o.A o.ws.length o.c, .bool o.pg] 34)) := (Below.refl _ _).alloc (Nat.le_refl _) _
        have HRB := Lib.hid (HR.out.below hbx)
        have HDO := Lib.hid (HRB.out.act hzl (hoq.below HRB.out.b) hoq hw30 (by have := HN61.out; omega))
        rw [← ho] at x0 x1 x2 HDO
        obtain ⟨k, hk⟩ : ∃ k, k = o.ws.length := ⟨_, rfl⟩
        obtain ⟨m, hm⟩ : ∃ m, m = (ents ts).length := ⟨_, rfl⟩
        rw [← hk] at x1 HDO
        rw [← hm] at HDO
        obtain ⟨W5, hW5⟩ : ∃ W5, W5 = wr.alloc (.cells #[.int .i64 o.q, .slice o.A k o.c, .bool o.pg] 34) := ⟨_, rfl⟩
        obtain ⟨p10, hp10⟩ : ∃ p10, p10 = wr.heap.size := ⟨_, rfl⟩
        have hx10 : W5.heap[p10]? = some (.cells #[.int .i64 o.q, .slice o.A k o.c, .bool o.pg] 34 (0, 0)) := by rw [hW5, hp10]; exact heap_alloc_new wr _
        rw [← hk, ← hW5] at HRB
        rw [← hW5] at HDO
        have HX10 := Lib.hid hx10
        have HW5 := Lib.hid (And.intro hW5 hp10)
        have HOK := Lib.hid (And.intro ho (And.intro hk hm))
        clear hcl hoq hw30 hbx ho hk hW5 hp10 hx10
        go_upto_region 9 with fail
        rw [← HW5.out.1, ← HW5.out.2]
        clear x0 x1 x2
        obtain ⟨q0, q1, _⟩ := HRB.out.at
        rw [← hm] at q0
        have x0 : W5.cell? ⟨p10, 0, none⟩ = some (.int .i64 o.q) := by rw [cell_of_row _ _ 0 _ _ _ HX10.out]; rfl
        have x1 : W5.cell? ⟨p10, 1, none⟩ = some (.slice o.A k o.c) := by rw [cell_of_row _ _ 1 _ _ _ HX10.out]; rfl
        have x2 : W5.cell? ⟨p10, 2, none⟩ = some (.bool o.pg) := by rw [cell_of_row _ _ 2 _ _ _ HX10.out]; rfl
        clear hm
        go_wp2_with fail
        refine Calls.mono HDO.out ?_
        rintro e w6 ⟨A', n', c', l', rfl, hf, ⟨v0, v1, y0, y1⟩, ts', G', hR'⟩
        have hf0 := hf 0
        have hf1 := hf 1
        have HR' := Lib.hid hR'
        clear hR' hf q0 q1 x0 x1 x2
        have hb61 := HN61.out
        go_wp2_with fail
        go_roundw
        case rel => exact ⟨z + 1, _, _, _, _, _, by go_num, by omega, HR'.out⟩
        case measure => simp [intOf]; omega
      · obtain rfl : z = n := by have := HZ.out; omega
        rename World => wa
        clear hlt
        have hlen : ∀ i, i < 4 → (ts i).length ≤ 1830 := fun i hi => by have := HR.out.len i hi; have := HN61.out; omega
        have hEL : (ents ts).length ≤ 100000 := by have := ents_len (n := 1830) hlen; omega
        obtain ⟨i, hi4, hE⟩ := want_eq ts t lo hi
        obtain ⟨L, hL⟩ : ∃ L, L = spanT t lo hi ts := ⟨_, rfl⟩
        have hLn : L.length ≤ 1830 := by rw [hL]; exact want_len hlen t lo hi
        have hxn : ∀ x ∈ liveX L, -9223372036854775808 ≤ x.k ∧ x.k ≤ 9223372036854775807 := fun x hx => by
          rw [hL] at hx
          obtain ⟨j, hj, hm⟩ := want_mem hx
          exact (HR.out.num j hj x hm).1
        have HRG := r9range_any (c := c1) (last := last) HR.out.e hEL t lo hi
        rw [hE, ← hL] at HRG
        have HSR := fun (W9 : World) (hb : Below wa.heap.size wa W9) => srange_any (HR.out.m.below hb) (fun i hi => Nat.le_trans (hlen i hi) (by decide)) t lo hi
        rw [← hL] at HSR
        have hLL : (liveX L).length ≤ 1830 := Nat.le_trans (List.length_filter_le _ _) hLn
        obtain ⟨N, hNN⟩ : ∃ N, N = (liveX L).length := ⟨_, rfl⟩
        obtain ⟨m, hm⟩ : ∃ m, m = (ents ts).length := ⟨_, rfl⟩
        rw [← hm] at HRG
        have HRG := Lib.hid HRG
        have HSR := Lib.hid HSR
        have HLL : Hid (L.length ≤ 1830 ∧ N ≤ 1830 ∧ N = (liveX L).length ∧ ∀ x ∈ liveX L, -9223372036854775808 ≤ x.k ∧ x.k ≤ 9223372036854775807) := Lib.hid ⟨hLn, by rw [hNN]; exact hLL, hNN, hxn⟩
        have HXA : Hid (wa.heap[p4]? = some (.cells #[.int .i64 t, .int .i64 lo, .int .i64 hi] 24 (0, 0)) ∧ wa.heap[p6]? = some (.cells #[.bool false] 4 (0, 0)) ∧ p4 < w2.heap.size ∧ p6 < w2.heap.size) := Lib.hid (by
          have l4 := (Array.getElem?_eq_some_iff.1 HX2.out.1).1
          have l6 := (Array.getElem?_eq_some_iff.1 HX2.out.2).1
          have h8 := HP8.out
          exact ⟨(HR.out.b0.block p4 l4 (by omega)).trans HX2.out.1, (HR.out.b0.block p6 l6 (by omega)).trans HX2.out.2, l4, l6⟩)
        have hNT : (tag i (liveX L)).length = N := by rw [tag_len, hNN]
        obtain ⟨q0, q1, _⟩ := HR.out.at
        rw [← hm] at q0
        have s0 : wa.cell? ⟨p4, 0, none⟩ = some (.int .i64 t) := by rw [cell_of_row _ _ 0 _ _ _ HXA.out.1]; rfl
        have s1 : wa.cell? ⟨p4, 1, none⟩ = some (.int .i64 lo) := by rw [cell_of_row _ _ 1 _ _ _ HXA.out.1]; rfl
        have s2 : wa.cell? ⟨p4, 2, none⟩ = some (.int .i64 hi) := by rw [cell_of_row _ _ 2 _ _ _ HXA.out.1]; rfl
        have HNT := Lib.hid hNT
        have HMM := Lib.hid hm
        clear hlen hEL hE hL hLn hxn hLL hNN hm hNT
        go_wp2_with fail
        refine Calls.mono HRG.out ?_
        rintro e w7 ⟨v, rfl, hE7, hb7⟩
        obtain ⟨Aw, cw, hv, hrd, _, _⟩ := rdv_own hE7
        have hAw : ∀ b o, Aw = some ⟨b, o, none⟩ → wa.heap.size ≤ b := fun b o e => own_ge hE7 (by rw [hv, e]; rfl)
        have hEw : Ens w7 Aw (tag i (liveX L)) := ⟨rfl, hrd⟩
        subst hv
        rw [HNT.out]
        obtain ⟨p11, hp11⟩ : ∃ p11, p11 = w7.heap.size := ⟨_, rfl⟩
        obtain ⟨p12, hp12⟩ : ∃ p12, p12 = p11 + 1 := ⟨_, rfl⟩
        obtain ⟨W9, hW9⟩ : ∃ W9, W9 = (w7.alloc (.cells #[.slice Aw N cw] 29)).alloc (.cells #[.int .i64 0] 3) := ⟨_, rfl⟩
        have h3 := blocks2 w7 (.cells #[.slice Aw N cw] 29) (.cells #[.int .i64 0] 3)
        rw [← hW9, ← hp11, ← hp12] at h3
        obtain ⟨g11, g12, gs, gb⟩ := h3
        rw [hp11] at gb
        have hb9 : Below wa.heap.size wa W9 := hb7.trans (gb.mono hb7.size)
        have HW9 := Lib.hid (And.intro hW9 (And.intro hp11 hp12))
        have HX9 : Hid (W9.heap[p11]? = some (.cells #[.slice Aw N cw] 29 (0, 0)) ∧ W9.heap[p12]? = some (.cells #[.int .i64 0] 3 (0, 0)) ∧ Below wa.heap.size wa W9 ∧ Ens W9 Aw (tag i (liveX L)) ∧ (∀ b o, Aw = some ⟨b, o, none⟩ → wa.heap.size ≤ b) ∧ wa.heap.size ≤ p11 ∧ p12 = p11 + 1) := Lib.hid ⟨g11, g12, hb9, RowAt.below hEw gb, hAw, by rw [hp11]; exact hb7.size, hp12⟩
        have HXW : Hid (Ens w7 Aw (tag i (liveX L)) ∧ p11 = w7.heap.size) := Lib.hid ⟨hEw, hp11⟩
        clear q0 q1 s0 s1 s2 hE7 hb7 hrd hAw hEw hp11 hp12 hW9 g11 g12 gs gb hb9
        go_upto_region 13 with fail
        rw [← HW9.out.1, ← HW9.out.2.1, ← HW9.out.2.2]
        have hs4 := (HX9.out.2.2.1.block p4 (Array.getElem?_eq_some_iff.1 HXA.out.1).1).trans HXA.out.1
        have s0 : W9.cell? ⟨p4, 0, none⟩ = some (.int .i64 t) := by rw [cell_of_row _ _ 0 _ _ _ hs4]; rfl
        have s1 : W9.cell? ⟨p4, 1, none⟩ = some (.int .i64 lo) := by rw [cell_of_row _ _ 1 _ _ _ hs4]; rfl
        have s2 : W9.cell? ⟨p4, 2, none⟩ = some (.int .i64 hi) := by rw [cell_of_row _ _ 2 _ _ _ hs4]; rfl
        clear hs4
        go_wp2_with fail
        refine Calls.mono (HSR.out W9 HX9.out.2.2.1) ?_
        rintro e w10 ⟨q5, zb, v2, rfl, hRg, hge, hb10⟩
        have g11 := (hb10.block p11 (Array.getElem?_eq_some_iff.1 HX9.out.1).1).trans HX9.out.1
        have g12 := (hb10.block p12 (Array.getElem?_eq_some_iff.1 HX9.out.2.1).1).trans HX9.out.2.1
        have HY : Hid (w10.heap[p11]? = some (.cells #[.slice Aw N cw] 29 (0, 0)) ∧ w10.heap[p12]? = some (.cells #[.int .i64 0] 3 (0, 0)) ∧ Below wa.heap.size wa w10 ∧ Ens w10 Aw (tag i (liveX L)) ∧ RgB w10 q5 zb v2 L ∧ (∀ q, RgO q5 zb v2 q → W9.heap.size ≤ q)) := Lib.hid ⟨g11, g12, HX9.out.2.2.1.trans (hb10.mono HX9.out.2.2.1.size), RowAt.below HX9.out.2.2.2.1 hb10, hRg, hge⟩
        have HG1 : Hid (∀ q, G1 q → q < wa.heap.size) := Lib.hid fun q e => HR.out.m.lt e
        have HW0 : Hid (Wts w10 w10 sb G1 (30 * z)) := Lib.hid ⟨ts, last, G1, HR.out.m.below HY.out.2.2.1, Cg.refl _ _, HR.out.len⟩
        have HOLD : Hid (∀ wr n, Wts w10 wr sb G1 n → ∀ q, q < w10.heap.size → ¬ G1 q → wr.heap[q]? = w10.heap[q]?) := Lib.hid fun wr n ⟨_, _, _, _, h, _⟩ q hq hn => (h.out hq hn).2
        have e11 : w10.cell? ⟨p11, 0, none⟩ = some (.slice Aw N cw) := by rw [cell_of_row _ _ 0 _ _ _ g11]; rfl
        clear s0 s1 s2 g11 g12 hRg hge hb10
        go_wp2_with fail
        go_loopw [15, 49, 50, 51, 52, 53, 54, 55, 56, 57, 58, 59] (fun _ ix _ _ _ _ _ _ _ _ _ _ wr => ∃ j : Nat, ix = .int .i64 (j : Int) ∧ j ≤ N ∧ Wts w10 wr sb G1 (30 * z + j)) (fun _ ix _ _ _ _ _ _ _ _ _ _ wr => N - (intOf ix).toNat)
        case atStart => exact ⟨0, rfl, Nat.zero_le _, HW0.out⟩
        case round =>
          obtain ⟨j, rfl, hj, hWt⟩ := hrel
          have HJ := Lib.hid (And.intro hj hWt)
          clear hj hWt e11
          by_cases hlt : j < N
          · have hEr : Ens wr Aw (tag i (liveX L)) := Ens.keepB HY.out.2.2.2.1 fun b o e hbl => HOLD.out wr _ HJ.out.2 b hbl fun cc => by have := HG1.out b cc; have := HX9.out.2.2.2.2.1 b o e; omega
            have hjl : j < (liveX L).length := by rw [← HLL.out.2.2.1]; exact hlt
            obtain ⟨b, off, x, rfl, hx, x0, x1, x2, x3, x4⟩ := want_cell hEr hjl
            obtain ⟨p15, hp15⟩ : ∃ p15, p15 = wr.heap.size := ⟨_, rfl⟩
            obtain ⟨W12, hW12⟩ : ∃ W12, W12 = (wr.alloc (.cells #[.int .i64 (i : Int), .int .i64 x.k, .int .i64 x.c.v, .int .i64 x.c.s, .bool x.c.dead] 46)).alloc (.cells #[.int .i64 (i : Int), .int .i64 x.k, .int .i64 77, .bool false] 51) := ⟨_, rfl⟩
            have h3 := blocks2 wr (.cells #[.int .i64 (i : Int), .int .i64 x.k, .int .i64 x.c.v, .int .i64 x.c.s, .bool x.c.dead] 46) (.cells #[.int .i64 (i : Int), .int .i64 x.k, .int .i64 77, .bool false] 51)
            rw [← hW12] at h3
            obtain ⟨_, g15, _, gb⟩ := h3
            have hxm : x ∈ liveX L := List.mem_of_getElem? hx
            have HNX := Lib.hid (Wts.next (i := (i : Int)) (k := x.k) 1152921504606846976 HJ.out.2 gb g15 (HLL.out.2.2.2 x hxm) (by have := HLL.out.2.1; have := HN61.out; omega))
            have HW12 := Lib.hid (And.intro hW12 hp15)
            rw [← hp15] at HNX
            clear hEr hjl hx hxm g15 gb hW12 hp15
            have hN18 := HLL.out.2.1
            go_wp2_with fail
            rw [← HW12.out.1, ← HW12.out.2]
            refine Calls.mono HNX.out ?_
            rintro e w13 ⟨⟨v9, rfl⟩, hWt'⟩
            have HW' := Lib.hid hWt'
            clear hWt' x0 x1 x2 x3 x4
            go_wp2_with fail
            go_roundw
            case rel => exact ⟨j + 1, by go_num, by omega, HW'.out⟩
            case measure => simp [intOf]; omega
          · obtain rfl : j = N := by have := HJ.out.1; omega
            rename World => wb
            clear hlt
            have hk : ∀ q, q < w10.heap.size → ¬ G1 q → wb.heap[q]? = w10.heap[q]? := HOLD.out wb _ HJ.out.2
            have h11 := (Array.getElem?_eq_some_iff.1 HY.out.1).1
            have h12 := (Array.getElem?_eq_some_iff.1 HY.out.2.1).1
            have hn1 : ∀ q, wa.heap.size ≤ q → ¬ G1 q := fun q hq e => by have := HG1.out q e; omega
            have hW9s := HX9.out.2.2.1.size
            have h9p : p11 < W9.heap.size ∧ p12 < W9.heap.size := ⟨(Array.getElem?_eq_some_iff.1 HX9.out.1).1, (Array.getElem?_eq_some_iff.1 HX9.out.2.1).1⟩
            have HZ : Hid (wb.heap[p11]? = some (.cells #[.slice Aw j cw] 29 (0, 0)) ∧ wb.heap[p12]? = some (.cells #[.int .i64 ((0 : Nat) : Int)] 3 (0, 0)) ∧ Ens wb Aw (tag i (liveX L)) ∧ RgB wb q5 zb v2 L ∧ ¬ RgO q5 zb v2 p11 ∧ ¬ RgO q5 zb v2 p12) := Lib.hid
              ⟨(hk p11 h11 (hn1 _ HX9.out.2.2.2.2.2.1)).trans HY.out.1, (hk p12 h12 (hn1 _ (by have := HX9.out.2.2.2.2.2; omega))).trans HY.out.2.1, Ens.keepB HY.out.2.2.2.1 fun b o e hbl => hk b hbl (hn1 b (HX9.out.2.2.2.2.1 b o e)), HY.out.2.2.2.2.1.keep fun q hq => hk q (HY.out.2.2.2.2.1.lt hq) (hn1 q (Nat.le_trans hW9s (HY.out.2.2.2.2.2 q hq))), fun e => by have := HY.out.2.2.2.2.2 _ e; omega, fun e => by have := HY.out.2.2.2.2.2 _ e; omega⟩
            have HEQ : Hid (∀ k O W, JI wb p12 (RgO q5 zb v2) k O W → Ens W Aw (tag i (liveX L)) ∧ W.heap[p11]? = some (.cells #[.slice Aw j cw] 29 (0, 0))) := Lib.hid fun k O W h => by
              have l9 := (Array.getElem?_eq_some_iff.1 HX9.out.1).1
              refine ⟨Ens.same HZ.out.2.2.1 fun hl b o e => ?_, (h.at (Array.getElem?_eq_some_iff.1 HZ.out.1).1 (by have := HX9.out.2.2.2.2.2.2; omega) HZ.out.2.2.2.2.1).trans HZ.out.1⟩
              have l1 := HXW.out.1.blk hl e
              have l2 := HXW.out.2
              have l3 := HX9.out.2.2.2.2.2.2
              exact h.at (HZ.out.2.2.1.blk hl e) (by omega) fun e => by have := HY.out.2.2.2.2.2 _ e; omega
            have HHH := Lib.hid (range1_hands (O0 := RgO q5 zb v2) HZ.out.2.2.2.1 (Nat.le_trans HLL.out.1 (by decide)) fun _ h => h)
            have HS0 : Hid (JI wb p12 (RgO q5 zb v2) 0 (RgO q5 zb v2) wb) := Lib.hid ⟨Ch.refl _ _, fun q e => .inl e, HZ.out.2.1, HZ.out.2.2.2.2.2, (Array.getElem?_eq_some_iff.1 HZ.out.2.1).1⟩
            clear hk h11 h12 hn1 hW9s h9p
            go_wp2_with fail
            refine (wpIn_wide (n := 11)).1 ?_
            refine wp_range2 (w0 := wb) (O0 := RgO q5 zb v2) (O := RgO q5 zb v2) (N := (liveX L).length) (enc := encK (liveX L)) (Rq := fun _ _ => True) (gf := 53) (lb := #[.pointer (some ⟨q5, 0, none⟩)]) rfl (enters_of Try.func53 (by kernel_rfl) rfl) HHH.out (Kps.refl _ _) (fun _ => rfl)
              (fun k O W => JI wb p12 (RgO q5 zb v2) k O W) (fun _ _ _ _ => False) (fun k => JI.st _ _ _ _) (fun _ _ _ _ _ _ h => h.elim) (fun _ _ _ _ _ => trivial) HS0.out (fun _ h => h) (fun q e => HZ.out.2.2.2.1.lt e) ?round ?done ?stop
            case stop =>
              intro D k c O1 W _ h
              exact h.elim
            case round =>
              intro l2 lp k ob Oq Wq hk hI hsub2 hlt2 hlp hlpg K hK
              have hput := (JI.st wb p12 (RgO q5 zb v2) k).put ob hI hlp
              obtain ⟨W0, hW0⟩ : ∃ W0, W0 = Wq.putObj lp ob := ⟨_, rfl⟩
              rw [← hW0] at hput
              obtain ⟨hE0, g11⟩ := HEQ.out k Oq W0 hput
              obtain ⟨b, off, x, rfl, hx, x0, x1, x2, x3, x4⟩ := want_cell hE0 hk
              have hkj : k < j := by rw [HLL.out.2.2.1]; exact hk
              rw [encK_at hx]
              have HPT := Lib.hid hput
              have HW0 := Lib.hid hW0
              have c11 : W0.cell? ⟨p11, 0, none⟩ = some (.slice (some ⟨b, off, none⟩) j cw) := by rw [cell_of_row _ _ 0 _ _ _ g11]; rfl
              have c12 : W0.cell? ⟨p12, 0, none⟩ = some (.int .i64 (k : Int)) := by rw [cell_of_row _ _ 0 _ _ _ hput.box.1]; rfl
              have f12 := frozen_of hput.box.1 0
              have hj18 := HLL.out.2.1
              have HKJ := Lib.hid hkj
              clear hW0 hput hE0 hx g11 hk hI hsub2 hlt2 hlp hlpg hkj
              simp only [List.zip_toArray, List.zip_cons_cons, List.zip_nil_right, List.foldl_toArray, List.foldl_cons, List.foldl_nil, List.setIfInBounds_toArray, List.set_cons_succ, List.set_cons_zero]
              gi_wp2_with (rw [Oper.semAt_eq _ _ _ (fun c h => by cases h)]; go_simp)
              refine hK _ _ (Below.refl _ _) ?_
              clear hK K
              rw [← HW0.out]
              have hkj := HKJ.out
              have hnk : ¬ (j : Int) ≤ (k : Int) := by omega
              gi_wp2_with (rw [Oper.semAt_eq _ _ _ (fun c h => by cases h)]; go_simp)
              have e9 : IntKind.i64.wrap ((k : Int) + 1) = ((k + 1 : Nat) : Int) := by rw [IntKind.wrap_i64]; omega
              rw [e9]
              exact ⟨HPT.out.set.2, HPT.out.set.1⟩
            case done =>
              intro D Oq WD hI _ hOD _ hDge hD
              have hI : JI wb p12 (RgO q5 zb v2) j Oq WD := by rw [HLL.out.2.2.1]; exact hI
              obtain ⟨_, _, Gb, _, hcg, _⟩ := HJ.out.2
              have hsz10 := HY.out.2.2.1.size
              have hbb := hcg.low (B := w.heap.size) (Nat.le_trans HR.out.b.size hsz10) fun q e => Nat.le_trans HR.out.lo0 (HR.out.low q e).1
              have hb10 : Below w.heap.size w w10 := HR.out.b.trans (HY.out.2.2.1.mono HR.out.b.size)
              have h9s := HX9.out.2.2.1.size
              have hws := HR.out.b.size
              have hbD : Below w.heap.size w WD := (hb10.trans hbb.1).trans (hI.ch.below (Nat.le_trans hb10.size hbb.1.size) fun q e => by
                rcases e with e | e
                · have := HX9.out.2.2.2.2.2; omega
                · rcases hI.low q e with e | e
                  · have := HY.out.2.2.2.2.2 q e; omega
                  · have := hb10.size; have := hbb.1.size; omega)
              have hO : ∀ q, q < wa.heap.size → ¬ G1 q → WD.heap[q]? = wa.heap[q]? := fun q hq hn => (hI.at (by have := hbb.1.size; omega) (by have := HX9.out.2.2.2.2.2; omega) fun e => by have := HY.out.2.2.2.2.2 q e; omega).trans ((HOLD.out wb _ HJ.out.2 q (by omega) hn).trans (HY.out.2.2.1.block q hq))
              have hlt4 := (Array.getElem?_eq_some_iff.1 HXA.out.1).1
              have hlt6 := (Array.getElem?_eq_some_iff.1 HXA.out.2.1).1
              have hlt8 := (Array.getElem?_eq_some_iff.1 HR.out.box).1
              have HD4 : Hid (WD.heap[p4]? = some (.cells #[.int .i64 t, .int .i64 lo, .int .i64 hi] 24 (0, 0)) ∧ WD.heap[p6]? = some (.cells #[.bool false] 4 (0, 0)) ∧ WD.heap[p11]? = some (.cells #[.slice Aw j cw] 29 (0, 0)) ∧ WD.heap[p12]? = some (.cells #[.int .i64 (j : Int)] 3 (0, 0)) ∧ WD.heap[D]? = some (.deferred (some []))) := Lib.hid
                ⟨(hO p4 hlt4 fun e => by have := (HR.out.low p4 e).1; have := HXA.out.2.2.1; omega).trans HXA.out.1, (hO p6 hlt6 fun e => by have := (HR.out.low p6 e).1; have := HXA.out.2.2.2; omega).trans HXA.out.2.1, (HEQ.out j Oq WD hI).2, hI.box.1, hD⟩
              have h8D := (hO p8 hlt8 fun e => (HR.out.low p8 e).2 rfl).trans HR.out.box
              have HLD : Hid (p4 < WD.heap.size ∧ p6 < WD.heap.size ∧ p11 < WD.heap.size ∧ p12 < WD.heap.size ∧ p8 < WD.heap.size ∧ D < WD.heap.size ∧ p4 ≠ p8 ∧ p6 ≠ p8 ∧ p11 ≠ p8 ∧ p12 ≠ p8 ∧ D ≠ p8 ∧ w.heap.size ≤ D) := Lib.hid
                ⟨(Array.getElem?_eq_some_iff.1 HD4.out.1).1, (Array.getElem?_eq_some_iff.1 HD4.out.2.1).1, (Array.getElem?_eq_some_iff.1 HD4.out.2.2.1).1, (Array.getElem?_eq_some_iff.1 HD4.out.2.2.2.1).1, (Array.getElem?_eq_some_iff.1 h8D).1, (Array.getElem?_eq_some_iff.1 hD).1, by have := HXA.out.2.2.1; have := HP8.out; omega, by have := HXA.out.2.2.2; have := HP8.out; omega, by have := HX9.out.2.2.2.2.2; omega, by have := HX9.out.2.2.2.2.2; omega, by have := hbb.1.size; omega, by have := hbb.1.size; omega⟩
              have HBD := Lib.hid hbD
              have H8D := Lib.hid h8D
              clear hI hOD hDge hD hcg hsz10 hbb hb10 h9s hws hbD hO hlt4 hlt6 hlt8 h8D
              go_wp2_with fail
              refine Calls.mono (snew_any WD) ?_
              rintro e v3 ⟨rfl, ⟨G2, hM2, hG2⟩, hb13⟩
              obtain ⟨sb2, hsb2⟩ : ∃ sb2, sb2 = WD.heap.size := ⟨_, rfl⟩
              have h8 := (hb13.block p8 HLD.out.2.2.2.2.1).trans H8D.out
              have k1 := heap_set v3 p8 0 (.slice none 0 0) h8
              have k2 := heap_set _ p8 1 (.int .i64 0) k1
              obtain ⟨V4, hV4⟩ : ∃ V4, V4 = (v3.setCell ⟨p8, 0, none⟩ (.slice none 0 0)).setCell ⟨p8, 1, none⟩ (.int .i64 0) := ⟨_, rfl⟩
              have hch : Ch v3 V4 (fun q => q = p8) := by
                rw [hV4]
                exact ⟨rfl, rfl, rfl, by rw [World.size_setCell, World.size_setCell]; exact Nat.le_refl _, fun q _ hn => (heap_ne _ _ _ _ hn).trans (heap_ne _ _ _ _ hn)⟩
              have hR2 : Run w WD V4 os sb2 p8 0 (fun _ => []) 0 G2 none 0 := Run.start HBD.out (by rw [hsb2]; exact hM2) (fun q e => ⟨hG2 q e, by have := hG2 q e; have := HLD.out.2.2.2.2.1; omega⟩) hb13 hch HR.out.lo8 (by rw [hV4]; exact k2.trans rfl)
              have HR2 := Lib.hid hR2
              have HV4 := Lib.hid (And.intro hV4 hsb2)
              have y0 : v3.cell? ⟨p8, 0, none⟩ = some (.slice A1 (ents ts).length c1) := by rw [cell_of_row _ _ 0 _ _ _ h8]; rfl
              have y1 : v3.cell? ⟨p8, 1, none⟩ = some (.int .i64 last) := by rw [cell_of_row _ _ 1 _ _ _ h8]; rfl
              have yf := frozen_of h8
              clear hM2 hG2 hb13 hsb2 h8 k1 k2 hV4 hch hR2
              go_wp2_with fail
              rw [← HV4.out.1, ← HV4.out.2]
              clear y0 y1 yf
              go_loopw [19, 93, 94, 95, 96, 97, 98, 99, 100, 101, 102, 103, 104] (fun _ ix _ _ _ _ _ _ _ _ _ _ _ wr => ∃ (z2 : Nat) (ts : Tb) (last : Int) (G : Nat → Prop) (A1 : Option Addr) (c1 : Nat), ix = .int .i64 (z2 : Int) ∧ z2 ≤ z ∧ Run w WD wr os sb2 p8 z2 ts last G A1 c1) (fun _ ix _ _ _ _ _ _ _ _ _ _ _ wr => z - (intOf ix).toNat)
              case atStart => exact ⟨0, _, _, _, _, _, rfl, Nat.zero_le _, HR2.out⟩
              case round =>
                obtain ⟨z2, ts3, last3, G3, A3, c3, rfl, hz, hR⟩ := hrel
                have HR3 := Lib.hid hR
                have HZ3 := Lib.hid hz
                clear hR hz
                by_cases hlt : z2 < z
                · have hzl : z2 < os.length := by rw [← HN.out]; exact hlt
                  obtain ⟨b, off, rfl, hcl⟩ := Acts.cell (H.out.below HR3.out.b) (by omega)
                  obtain ⟨x0, x1, x2⟩ := hcl z2 hzl
                  obtain ⟨o, ho⟩ : ∃ o, o = os[z2] := ⟨_, rfl⟩
                  have hoq := H.out.ok _ (List.getElem_mem hzl)
                  have hw30 := HL30.out _ (List.getElem_mem hzl)
                  have hbx : Below wr.heap.size wr (wr.alloc (.cells #[.int .i64 o.q, .slice o.A o.ws.length o.c, .bool o.pg] 34)) := (Below.refl _ _).alloc (Nat.le_refl _) _
                  have HRB := Lib.hid (HR3.out.below hbx)
                  have HDO := Lib.hid (HRB.out.act hzl (hoq.below HRB.out.b) hoq hw30 (by have := HN61.out; omega))
                  rw [← ho] at x0 x1 x2 HDO
                  obtain ⟨k, hk⟩ : ∃ k, k = o.ws.length := ⟨_, rfl⟩
                  obtain ⟨m, hm⟩ : ∃ m, m = (ents ts3).length := ⟨_, rfl⟩
                  rw [← hk] at x1 HDO
                  rw [← hm] at HDO
                  obtain ⟨W5, hW5⟩ : ∃ W5, W5 = wr.alloc (.cells #[.int .i64 o.q, .slice o.A k o.c, .bool o.pg] 34) := ⟨_, rfl⟩
                  obtain ⟨p10, hp10⟩ : ∃ p10, p10 = wr.heap.size := ⟨_, rfl⟩
                  have hx10 : W5.heap[p10]? = some (.cells #[.int .i64 o.q, .slice o.A k o.c, .bool o.pg] 34 (0, 0)) := by rw [hW5, hp10]; exact heap_alloc_new wr _
                  rw [← hk, ← hW5] at HRB
                  rw [← hW5] at HDO
                  have HX10 := Lib.hid hx10
                  have HW5 := Lib.hid (And.intro hW5 hp10)
                  have HOK := Lib.hid (And.intro ho (And.intro hk hm))
                  clear hcl hoq hw30 hbx ho hk hW5 hp10 hx10
                  go_upto_region 29 with fail
                  rw [← HW5.out.1, ← HW5.out.2]
                  clear x0 x1 x2
                  obtain ⟨q0, q1, _⟩ := HRB.out.at
                  rw [← hm] at q0
                  have x0 : W5.cell? ⟨p10, 0, none⟩ = some (.int .i64 o.q) := by rw [cell_of_row _ _ 0 _ _ _ HX10.out]; rfl
                  have x1 : W5.cell? ⟨p10, 1, none⟩ = some (.slice o.A k o.c) := by rw [cell_of_row _ _ 1 _ _ _ HX10.out]; rfl
                  have x2 : W5.cell? ⟨p10, 2, none⟩ = some (.bool o.pg) := by rw [cell_of_row _ _ 2 _ _ _ HX10.out]; rfl
                  clear hm
                  go_wp2_with fail
                  refine Calls.mono HDO.out ?_
                  rintro e w6 ⟨A', n', c', l', rfl, hf, ⟨v0, v1, y0, y1⟩, ts', G', hR'⟩
                  have hf0 := hf 0
                  have hf1 := hf 1
                  have HR' := Lib.hid hR'
                  clear hR' hf q0 q1 x0 x1 x2
                  have hb61 := HN61.out
                  go_wp2_with fail
                  go_roundw
                  case rel => exact ⟨z2 + 1, _, _, _, _, _, by go_num, by omega, HR'.out⟩
                  case measure => simp [intOf]; omega
                · obtain rfl : z2 = z := by have := HZ3.out; omega
                  rename World => wf
                  clear hlt
                  obtain ⟨rfl, rfl⟩ := HR3.out.rn.same HR.out.rn
                  have hlen : ∀ i, i < 4 → (ts3 i).length ≤ 1830 := fun i hi => by have := HR3.out.len i hi; have := HN61.out; omega
                  have hEL : (ents ts3).length ≤ 100000 := by have := ents_len (n := 1830) hlen; omega
                  obtain ⟨LF, hLF⟩ : ∃ LF, LF = takeE t lo nm (ents ts3) := ⟨_, rfl⟩
                  have hLFl : LF.length ≤ 100000 := by
                    rw [hLF]
                    unfold takeE
                    rw [List.length_take]
                    exact Nat.le_trans (Nat.min_le_right _ _) (Nat.le_trans (List.length_filter_le _ _) hEL)
                  obtain ⟨p20, hp20⟩ : ∃ p20, p20 = wf.heap.size := ⟨_, rfl⟩
                  obtain ⟨W31, hW31⟩ : ∃ W31, W31 = wf.alloc (.cells #[.int .i64 t, .int .i64 lo] 42) := ⟨_, rfl⟩
                  have hb31 : Below wf.heap.size wf W31 := by rw [hW31]; exact (Below.refl _ _).alloc (Nat.le_refl _) _
                  have hx20 : W31.heap[p20]? = some (.cells #[.int .i64 t, .int .i64 lo] 42 (0, 0)) := by rw [hW31, hp20]; exact heap_alloc_new wf _
                  have hRB := HR3.out.below hb31
                  obtain ⟨m3, hm3⟩ : ∃ m3, m3 = (ents ts3).length := ⟨_, rfl⟩
                  have hx4 := (HR3.out.b0.block p4 HLD.out.1 HLD.out.2.2.2.2.2.2.1).trans HD4.out.1
                  have hk : ∀ q, q < WD.heap.size → q ≠ p8 → W31.heap[q]? = WD.heap[q]? := hRB.b0.block
                  have hw2 : ∀ W2, Below W31.drew.heap.size W31.drew W2 → Below W31.heap.size W31 W2 := fun W2 hw => (Below.refl _ _).drew.trans hw
                  have hx11 := (hk p11 HLD.out.2.2.1 HLD.out.2.2.2.2.2.2.2.2.1).trans HD4.out.2.2.1
                  have hx12 := (hk p12 HLD.out.2.2.2.1 HLD.out.2.2.2.2.2.2.2.2.2.1).trans HD4.out.2.2.2.1
                  have hx6 := (hk p6 HLD.out.2.1 HLD.out.2.2.2.2.2.2.2.1).trans HD4.out.2.1
                  have hxD := (hk D HLD.out.2.2.2.2.2.1 HLD.out.2.2.2.2.2.2.2.2.2.2.1).trans HD4.out.2.2.2.2
                  have hx8 : W31.heap[p8]? = some (.cells #[.slice A3 m3 c3, .int .i64 last3] 31 (0, 0)) := by rw [hm3]; exact hRB.box
                  have HCE : Hid (∀ W2, Below W31.drew.heap.size W31.drew W2 → W2.cell? ⟨p12, 0, none⟩ = some (.int .i64 (j : Int)) ∧ W2.cell? ⟨p11, 0, none⟩ = some (.slice Aw j cw) ∧ W2.cell? ⟨p20, 0, none⟩ = some (.int .i64 t) ∧ W2.cell? ⟨p20, 1, none⟩ = some (.int .i64 lo) ∧ W2.cell? ⟨p8, 0, none⟩ = some (.slice A3 m3 c3) ∧ W2.cell? ⟨p8, 1, none⟩ = some (.int .i64 last3)) := Lib.hid fun W2 hw => by
                    have e12 := ((hw2 W2 hw).block p12 (Array.getElem?_eq_some_iff.1 hx12).1).trans hx12
                    have e11 := ((hw2 W2 hw).block p11 (Array.getElem?_eq_some_iff.1 hx11).1).trans hx11
                    have e20 := ((hw2 W2 hw).block p20 (Array.getElem?_eq_some_iff.1 hx20).1).trans hx20
                    have e8 := ((hw2 W2 hw).block p8 (Array.getElem?_eq_some_iff.1 hx8).1).trans hx8
                    exact ⟨by rw [cell_of_row _ _ 0 _ _ _ e12]; rfl, by rw [cell_of_row _ _ 0 _ _ _ e11]; rfl, by rw [cell_of_row _ _ 0 _ _ _ e20]; rfl, by rw [cell_of_row _ _ 1 _ _ _ e20]; rfl, by rw [cell_of_row _ _ 0 _ _ _ e8]; rfl, by rw [cell_of_row _ _ 1 _ _ _ e8]; rfl⟩
                  have HSF : Hid (∀ W2, Below W31.drew.heap.size W31.drew W2 → Calls Try.prog 18 #[.pointer (some ⟨sb2, 0, none⟩), .agg #[.int .i64 t, .int .i64 lo], .int .i64 nm] W2 fun e w' => ∃ v, e = .returned v ∧ (∃ A9 c9, v = .slice A9 LF.length c9 ∧ Ens w' A9 LF) ∧ Below W2.heap.size W2 w') := Lib.hid fun W2 hw => by
                    refine Calls.mono (sfrom_any (hRB.m.below (hw2 W2 hw)) (fun i hi => Nat.le_trans (hlen i hi) (by decide)) t lo nm) ?_
                    rintro e w' ⟨v, rfl, ho, hb⟩
                    rw [← takeE_ents hRB.num.numL t lo nm, ← hLF] at ho
                    obtain ⟨A9, c9, e9, hr, _, _⟩ := rdv_own ho
                    exact ⟨v, rfl, ⟨A9, c9, e9, rfl, hr⟩, hb⟩
                  have HRF : Hid (∀ W2, Below W31.drew.heap.size W31.drew W2 → Calls Try.prog 19 #[.agg #[.slice A3 m3 c3, .int .i64 last3], .agg #[.int .i64 t, .int .i64 lo], .int .i64 nm] W2 fun e w' => ∃ v, e = .returned v ∧ (∃ A9 c9, v = .slice A9 LF.length c9 ∧ Ens w' A9 LF) ∧ Below W2.heap.size W2 w') := Lib.hid fun W2 hw => by
                    rw [hm3]
                    refine Calls.mono (r9from_any (RowAt.below hRB.e (hw2 W2 hw)) hEL t lo nm) ?_
                    rintro e w' ⟨v, rfl, ho, hb⟩
                    rw [← hLF] at ho
                    obtain ⟨A9, c9, e9, hr, _, _⟩ := rdv_own ho
                    exact ⟨v, rfl, ⟨A9, c9, e9, rfl, hr⟩, hb⟩
                  have HLF := Lib.hid hLFl
                  have HW31 := Lib.hid (And.intro hW31 hp20)
                  have HFX : Hid (W31.heap[p6]? = some (.cells #[.bool false] 4 (0, 0)) ∧ W31.heap[D]? = some (.deferred (some [])) ∧ Below w.heap.size w W31) := Lib.hid ⟨hx6, hxD, hRB.b⟩
                  have HER : Hid (((j : Int) == (j : Int)) = true) := Lib.hid (by simp)
                  have s0 : wf.cell? ⟨p4, 0, none⟩ = some (.int .i64 t) := by rw [cell_of_row _ _ 0 _ _ _ hx4]; rfl
                  have s1 : wf.cell? ⟨p4, 1, none⟩ = some (.int .i64 lo) := by rw [cell_of_row _ _ 1 _ _ _ hx4]; rfl
                  clear hlen hEL hLF hLFl hp20 hW31 hb31 hx20 hRB hm3 hx4 hk hw2 hx11 hx12 hx6 hxD hx8
                  go_upto_region 32 with fail
                  rw [← HW31.out.1, ← HW31.out.2]
                  clear s0 s1
                  refine wp_region_noPanic ?_
                  refine wp_region_abs 15 125 [
                    .is (.int .i64 (j : Int)),
                    .is (.slice Aw j cw),
                    .is (.int .i64 (j : Int)),
                    .is (.bool true),
                    .is (.bool true),
                    .is (.pointer (some ⟨sb2, 0, none⟩)),
                    .is (.agg #[.int .i64 t, .int .i64 lo]),
                    .is (.int .i64 nm),
                    .tells (fun _ v _ wa => ∃ A9 c9, v = .slice A9 LF.length c9 ∧ Ens wa A9 LF),
                    .is (.agg #[.slice A3 m3 c3, .int .i64 last3]),
                    .is (.agg #[.int .i64 t, .int .i64 lo]),
                    .is (.int .i64 nm),
                    .tells (fun _ v _ wa => ∃ A9 c9, v = .slice A9 LF.length c9 ∧ Ens wa A9 LF),
                    .is (.bool true),
                    .is (.bool true)]
                    [110, 111, 112, 113, 114, 115, 116, 117, 118, 119, 120, 121, 122, 123, 124]
                    [[], [], [1], [0, 2], [3], [4], [4], [4], [5, 6, 7, 4], [4], [4], [4], [9, 10, 11, 4], [8, 12, 4], [4, 13]] (by kernel_rfl) (by rfl) rfl rfl (by kernel_rfl) (fun _ _ _ _ h => h.elim) ?_ ?_
                  · refine ⟨?_, ?_, ?_, ?_, ?_, ?_, ?_, ?_, ?_, ?_, ?_, ?_, ?_, ?_, ?_, trivial⟩
                    · intro W2 hw K hK
                      obtain ⟨s0, s1, s2, s3, s4, s5⟩ := HCE.out W2 hw
                      go_simp
                      exact hK _ _ rfl (Below.refl _ _)
                    · intro W2 hw K hK
                      obtain ⟨s0, s1, s2, s3, s4, s5⟩ := HCE.out W2 hw
                      go_simp
                      exact hK _ _ rfl (Below.refl _ _)
                    · intro W2 hw K hK
                      go_simp
                      exact hK _ _ rfl (Below.refl _ _)
                    · intro W2 hw K hK
                      have er := HER.out
                      go_simp
                      exact hK _ _ rfl (Below.refl _ _)
                    · intro W2 hw K hK
                      go_simp
                      exact hK _ _ rfl (Below.refl _ _)
                    · intro W2 hw K hK
                      go_simp
                      exact hK _ _ rfl (Below.refl _ _)
                    · intro W2 hw K hK
                      obtain ⟨s0, s1, s2, s3, s4, s5⟩ := HCE.out W2 hw
                      go_simp
                      exact hK _ _ rfl (Below.refl _ _)
                    · intro W2 hw K hK
                      go_simp
                      exact hK _ _ rfl (Below.refl _ _)
                    · intro W2 hw K hK
                      go_simp
                      refine Calls.mono (HSF.out W2 hw) ?_
                      rintro e9 w9 ⟨v9, rfl, h9, hb9⟩
                      exact hK _ _ h9 hb9
                    · intro W2 hw K hK
                      obtain ⟨s0, s1, s2, s3, s4, s5⟩ := HCE.out W2 hw
                      go_simp
                      exact hK _ _ rfl (Below.refl _ _)
                    · intro W2 hw K hK
                      obtain ⟨s0, s1, s2, s3, s4, s5⟩ := HCE.out W2 hw
                      go_simp
                      exact hK _ _ rfl (Below.refl _ _)
                    · intro W2 hw K hK
                      go_simp
                      exact hK _ _ rfl (Below.refl _ _)
                    · intro W2 hw K hK
                      go_simp
                      refine Calls.mono (HRF.out W2 hw) ?_
                      rintro e9 w9 ⟨v9, rfl, h9, hb9⟩
                      exact hK _ _ h9 hb9
                    · intro W2 hw v8 wb8 wa8 hF8 hx8 v12 wb12 wa12 hF12 hx12 K hK
                      obtain ⟨A8, c8, rfl, r8⟩ := hF8.choose_spec
                      obtain ⟨A12, c12, rfl, r12⟩ := hF12.choose_spec
                      have s8 := r8.below hx8
                      have s12 := r12.below hx12
                      go_simp
                      refine Calls.mono (entriesL_any (c := c8) (c2 := c12) s8 s12 HLF.out) ?_
                      rintro e9 w9 ⟨rfl, hb9⟩
                      exact hK _ _ rfl hb9
                    · intro W2 hw K hK
                      go_simp
                      exact hK _ _ rfl (Below.refl _ _)
                  · intro W2 hw2
                    simp only [Behind]
                    intro v8 wb8 wa8 _ _ _ _ v12 wb12 wa12 _ _ _ _
                    have hB2 := (Below.refl _ W31).drew.trans hw2
                    have g6 := (hB2.block p6 (Array.getElem?_eq_some_iff.1 HFX.out.1).1).trans HFX.out.1
                    have gD := (hB2.block D (Array.getElem?_eq_some_iff.1 HFX.out.2.1).1).trans HFX.out.2.1
                    have hne : D ≠ p6 := fun e => by rw [e, g6] at gD; simp at gD
                    have HF : Hid ((W2.setCell ⟨p6, 0, none⟩ (.bool true)).heap[p6]? = some (.cells #[.bool true] 4 (0, 0)) ∧ (W2.setCell ⟨p6, 0, none⟩ (.bool true)).heap[D]? = some (.deferred (some [])) ∧ D ≠ p6 ∧ Below w.heap.size w (W2.setCell ⟨p6, 0, none⟩ (.bool true))) := Lib.hid ⟨(heap_set W2 p6 0 _ g6).trans rfl, (heap_ne _ _ _ _ hne).trans gD, hne, (HFX.out.2.2.trans (hB2.mono HFX.out.2.2.size)).setCell (p := ⟨p6, 0, none⟩) HL6.out _⟩
                    have y6 : W2.cell? ⟨p6, 0, none⟩ = some (.bool false) := by rw [cell_of_row _ _ 0 _ _ _ g6]; rfl
                    have yf := frozen_of g6
                    clear hw2 hB2 g6 gD hne
                    simp only [List.drop, Act.put, List.setIfInBounds_toArray, List.set_cons_zero, List.set_cons_succ]
                    go_wp2_with fail
                    refine NoPanic.normal ?_
                    go_wp2_with fail
                    refine leaves_marks (v := .bool true) _ _ (fun d hd => ⟨D, by rw [List.mem_singleton.1 hd], HF.out.2.1⟩) (List.pairwise_singleton _ _) fun u1 e1 e2 e3 e4 e5 => ?_
                    have f1 := (e5 p6 (fun d hd c => HF.out.2.2.1 (by rw [List.mem_singleton.1 hd] at c; simpa using c))).trans HF.out.1
                    have f2 : u1.cell? ⟨p6, 0, none⟩ = some (.bool true) := by rw [cell_of_row _ _ 0 _ _ _ f1]; rfl
                    refine ⟨by simp [results, Try.results3, go_sem, f2], rfl, ?_⟩
                    have hb := HF.out.2.2.2
                    refine ⟨e2.trans hb.os, e3.trans hb.tape, e4.trans hb.output, by rw [e1]; exact hb.size, fun q hq => (e5 q fun d hd c => ?_).trans (hb.block q hq)⟩
                    have e6 : D = q := by rw [List.mem_singleton.1 hd] at c; simpa using c
                    have := HLD.out.2.2.2.2.2.2.2.2.2.2.2
                    omega
end Go.Proofs.Ytejpjbmbcdgomaa
