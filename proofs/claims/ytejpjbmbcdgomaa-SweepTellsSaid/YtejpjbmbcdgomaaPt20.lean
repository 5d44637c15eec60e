/- SForce, SApply, SNew: put together. -/
import Derived.Test.YtejpjbmbcdgomaaPt18
import Derived.Test.YtejpjbmbcdgomaaPt19
/- Force: a transaction's writes are put. -/
namespace Go.Proofs.Ytejpjbmbcdgomaa
set_option maxRecDepth 100000
open Go.RowKit

theorem tl_cells {w : World} {F : Nat → Prop} {tb d : Nat} {l : List Ix} (h : TL w F tb l d) {q : Nat} (hq : F q) : ∃ cs t, w.heap[q]? = some (.cells cs t (0, 0)) := by
  obtain ⟨T, m, _, rfl, hT⟩ := h
  rcases (hT.F q).1 hq with ⟨n, hn, e⟩ | e
  · have hm := hT.all.m n hn
    rcases e with e | e | e
    · rw [e]; exact ⟨_, _, hm.block⟩
    · obtain ⟨cs, e2⟩ := own_at hm.own e
      exact ⟨cs, _, e2⟩
    · obtain ⟨cs, e2⟩ := own_at hm.kids e
      exact ⟨cs, _, e2⟩
  · rw [e]; exact ⟨_, _, hT.block⟩
theorem SM.cells {w : World} {G : Nat → Prop} {sb : Nat} {ts : Tb} {live last : Int} (h : SM w G sb ts live last) {q : Nat} (hq : G q) : ∃ cs t, w.heap[q]? = some (.cells cs t (0, 0)) := by
  obtain ⟨tb, F, d, h⟩ := h
  rcases (h.set q).1 hq with rfl | ⟨i, hi, hf⟩
  · exact ⟨_, _, h.block⟩
  · exact tl_cells (h.tree i hi) hf
/-- What holds no cells is none of a store's blocks. -/
theorem KR.out {α : Type} {enc : α → Value} {w : World} {b r n : Nat} {g : Int → Int → Option α} {left : Int → Int → Bool} {cnt : Nat} (h : KR enc w b r n g left cnt) {G : Nat → Prop} {sb : Nat} {ts : Tb} {live last : Int} (hM : SM w G sb ts live last) : ¬ G b ∧ ¬ G r := by
  obtain ⟨⟨es, c, e1⟩, a, s, c2, d, e2⟩ := h.types
  constructor
  · intro e
    obtain ⟨cs, t, e3⟩ := hM.cells e
    rw [e1] at e3
    cases e3
  · intro e
    obtain ⟨cs, t, e3⟩ := hM.cells e
    rw [e2] at e3
    cases e3
/-- The same, the store turned as it goes. -/
structure FO (w wr : World) (G : Nat → Prop) (sb : Nat) (last : Int) (B r n : Nat) (q : Int) (ts : Tb) (ws : List Wr) (left : Int → Int → Bool) (cnt : Nat) (ts' : Tb) (N : Nat) : Prop where
  rg : KR Wr.val wr B r n (gat q ts ws) left cnt
  part : Part q ts ws left ts'
  len : ∀ i, i < 4 → (ts' i).length + cnt ≤ N
  st : ∃ G', SM wr G' sb ts' (liveT ts' : Int) last ∧ Cg w wr G G'
  low : w.heap.size ≤ B ∧ w.heap.size ≤ r
theorem FO.next {w w4 W7 w8 : World} {G G1 G2 : Nat → Prop} {sb : Nat} {last : Int} {B r n : Nat} {q : Int} {ts : Tb} {ws : List Wr} {left : Int → Int → Bool} {cnt : Nat} {ts' ts2 : Tb} {N : Nat} (hK : KR Wr.val w4 B r n (gat q ts ws) left cnt) (hM : SM w4 G1 sb ts' (liveT ts' : Int) last) (hC : Cg w w4 G G1)
    (hb : Below w4.heap.size w4 W7) (h1 : SM w8 G2 sb ts2 (liveT ts2 : Int) last) (h2 : Cg W7 w8 G1 G2) (hP : Part q ts ws left ts2) (hl : ∀ i, i < 4 → (ts2 i).length + cnt ≤ N) (low : w.heap.size ≤ B ∧ w.heap.size ≤ r) : FO w w8 G sb last B r n q ts ws left cnt ts2 N := by
  obtain ⟨n1, n2⟩ := hK.out hM
  have hlt := hK.lt
  exact ⟨hK.kept ((h2.ch.block _ (Nat.lt_of_lt_of_le hlt.1 hb.size) n1).trans (hb.block _ hlt.1)) ((h2.ch.block _ (Nat.lt_of_lt_of_le hlt.2 hb.size) n2).trans (hb.block _ hlt.2)), hP, hl, ⟨G2, h1, (hC.trans (Cg.of_below hb G1)).trans h2⟩, low⟩
def errRange : Value := .iface 64 (.int .i64 1)
def errFull : Value := .iface 64 (.int .i64 4)
set_option maxHeartbeats 4000000 in
theorem force_bad {w : World} {sb : Nat} {A : Option Addr} {c : Nat} {ws : List Wr} (q : Int) (h : Wrs w A ws) (hl : ws.length ≤ 50000) (hb : takB q ws = false) :
    Calls Try.prog 33 #[.pointer (some ⟨sb, 0, none⟩), .int .i64 q, .slice A ws.length c] w fun e w' => e = .returned errRange ∧ Below w.heap.size w w' := by
  have HT := Lib.hid (takes_any (sb := sb) (c := c) q h (by omega))
  rw [hb] at HT
  obtain ⟨n, hn⟩ : ∃ n, n = ws.length := ⟨_, rfl⟩
  rw [← hn] at HT ⊢
  clear h hl hb hn
  unfold errRange
  go_enter Try.func33, Try.ntmps33
  go_wp2_with fail
  refine Calls.mono HT.out ?_
  rintro e w1 ⟨rfl, hb1⟩
  have HB1 := Lib.hid hb1
  clear hb1
  go_wp2_with fail
  go_ret
  exact ⟨rfl, HB1.out⟩
set_option maxHeartbeats 8000000 in
theorem force_any {w : World} {G : Nat → Prop} {sb : Nat} {ts : Tb} {last : Int} {A : Option Addr} {c : Nat} {ws : List Wr} (q : Int) (hM : SM w G sb ts (liveT ts : Int) last) (h : Wrs w A ws) (hK : NumW ws) (hl : ws.length ≤ 50000) (hN : ∀ i, i < 4 → (ts i).length ≤ 50000) (hb : takB q ws = true) :
    Calls Try.prog 33 #[.pointer (some ⟨sb, 0, none⟩), .int .i64 q, .slice A ws.length c] w fun e w' => e = .returned .nilIface ∧ ∃ G', SM w' G' sb (forceT q ts ws) (liveT (forceT q ts ws) : Int) (max last q) ∧ Cg w w' G G' := by
  have HT := Lib.hid (takes_any (sb := sb) (c := c) q h (by omega))
  rw [hb] at HT
  have HIN := Lib.hid (takB_in hb).2
  have HM := Lib.hid hM
  have HK := Lib.hid hK
  have HN := Lib.hid hN
  have HL := Lib.hid hl
  have HU := Lib.hid hM.up
  obtain ⟨n, hn⟩ : ∃ n, n = ws.length := ⟨_, rfl⟩
  have HLN := Lib.hid hn
  have HG := Lib.hid (fun (w1 : World) (hb : Below w.heap.size w w1) => gather_any (c := c) q (hM.below hb) (RowAt.below h hb) HIN.out hK (by omega))
  rw [← hn] at HT HG ⊢
  obtain ⟨lm, hlm⟩ : ∃ lm, lm = max last q := ⟨_, rfl⟩
  rw [← hlm]
  have HLM := Lib.hid hlm
  clear hM h hK hl hN hn hb hlm
  go_enter Try.func33, Try.ntmps33
  go_wp2_with fail
  refine Calls.mono HT.out ?_
  rintro e w1 ⟨rfl, hb1⟩
  have HB1 := Lib.hid hb1
  clear hb1
  go_wp2_with fail
  refine Calls.mono (HG.out _ HB1.out) ?_
  rintro e w2 ⟨rfl, ⟨m, hm, hKM⟩, hb2⟩
  obtain ⟨w3, left, cnt, hrun, hKR, hcnt, hleft, hg3, hs3⟩ := hKM.range (mt := 138) Try.underlying138
  have hbw2 := HB1.out.trans (hb2.mono HB1.out.size)
  have hbw3 : Below w.heap.size w w3 := hbw2.grown hg3 hbw2.size (fun j e => by cases e)
  have HF0 : Hid (FO w w3 G sb last w1.heap.size w2.heap.size m q ts ws left cnt ts 100000) := Lib.hid ⟨hKR, Part.start HU.out (fun t k x hx => by
      have hm2 := gat_mem hx
      rw [hleft t k (by rw [← hm2.2.1]; exact inT_wf (HIN.out x hm2.1)) (by rw [← hm2.2.2.1]; exact wfK (HK.out x hm2.1)), hx]; rfl), fun i hi => by have := HN.out i hi; have := HL.out; have := HLN.out; omega,
    ⟨G, HM.out.below hbw3, Cg.of_below hbw3 G⟩, ⟨HB1.out.size, hbw2.size⟩⟩
  clear hKR hcnt hleft hg3 hs3 hKM hb2 hm hbw2 hbw3
  obtain ⟨B, hB⟩ : ∃ B, B = w1.heap.size := ⟨_, rfl⟩
  obtain ⟨r, hr⟩ : ∃ r, r = w2.heap.size := ⟨_, rfl⟩
  rw [← hB, ← hr] at HF0
  go_wp2_with fail
  rw [← hr]
  clear hrun hB hr
  go_loopw [7, 8, 9, 21, 22, 23, 24, 25, 26, 27, 28, 29, 30, 31, 32, 33, 34, 35, 36, 37, 38] (fun _ _ _ _ _ _ _ _ _ _ _ _ _ _ _ _ _ _ _ _ _ wr => ∃ left cnt ts', FO w wr G sb last B r m q ts ws left cnt ts' 100000) (fun _ _ _ _ _ _ _ _ _ _ _ _ _ _ _ _ _ _ _ _ _ wr => wr.rangeLeft B r)
  case atStart => exact ⟨left, cnt, ts, HF0.out⟩
  case round =>
    clear HF0
    obtain ⟨left, cnt, ts', hF⟩ := hrel
    have HF := Lib.hid hF
    rcases hF.rg.next Wr.val_inj 0 with ⟨_, hl0, hnx⟩ | ⟨t, k, x, w4, cnt4, ht, hk, hlk, hgx, hnx, hKR4, hlt4, hg4, hs4, hen⟩
    · obtain ⟨G', hM', hC'⟩ := hF.st
      have hts := hF.part.done HU.out HIN.out hl0
      have HMF : Hid (SM wr G' sb (forceT q ts ws) (liveT (forceT q ts ws) : Int) last) := Lib.hid (by rw [← liveT_congr hts]; exact hM'.congr fun i hi => (hts i hi).symm)
      have HCF := Lib.hid hC'
      have c5 := hM'.last5
      have f5 := hM'.frozen
      clear hF hM' hC' hts
      go_wp2_with fail
      go_ret
      exact ⟨rfl, G', by rw [HLM.out]; exact (HMF.out.put5 _).1, HCF.out.trans (HMF.out.put5 _).2⟩
    · have hm2 := gat_mem hgx
      obtain ⟨hxw, rfl, rfl, hst⟩ := hm2
      have htin : InT x.t := HIN.out x hxw
      obtain ⟨hP, hsame⟩ := HF.out.part.step (left' := fun u j => left u j && !(decide (u = x.t ∧ j = x.k))) hgx htin hlk (fun _ _ => rfl)
      obtain ⟨ts2, hts2⟩ : ∃ ts2, ts2 = ts'.upd x.t.toNat (ins ⟨x.k, x.cl q⟩ (ts' x.t.toNat)) := ⟨_, rfl⟩
      rw [← hts2] at hP
      have hlen2 : ∀ i, i < 4 → (ts2 i).length + cnt4 ≤ 100000 := fun i hi => by
        have h1 := HF.out.len i hi
        have h2 : (ts2 i).length ≤ (ts' i).length + 1 := by
          rw [hts2]
          unfold Tb.upd
          split
          · rename_i e; rw [e]; exact ins_le _ _
          · omega
        omega
      have hlen1 : ∀ i, i < 4 → (ts' i).length ≤ 99999 := fun i hi => by have := HF.out.len i hi; omega
      obtain ⟨G1, hM1, hC1⟩ := HF.out.st
      obtain ⟨no1, no2⟩ := HF.out.rg.out hM1
      have hM4 : SM w4 G1 sb ts' (liveT ts' : Int) last := hM1.keep fun q hq => hg4.block q (hM1.lt hq) (fun e => by cases e; exact no2 hq)
      have hC4 : Cg w w4 G G1 := ⟨hC1.ch.trans (⟨hg4.os, hg4.tape, hg4.output, hg4.size, fun q hq hn => hg4.block q hq (fun e => hn (Option.some.inj e))⟩ : Ch wr w4 (fun q => q = r)) (fun q e => .inr (by rw [e]; exact HF.out.low.2)), hC1.fr⟩
      obtain ⟨W5, hW5⟩ : ∃ W5, W5 = (w4.alloc (.cells #[.int .i64 x.t, .int .i64 x.k] 42)).alloc (.cells #[.int .i64 x.t, .int .i64 x.k, .int .i64 x.v, .bool x.dead] 51) := ⟨_, rfl⟩
      have hb45 : Below w4.heap.size w4 W5 := by rw [hW5]; exact ((Below.refl _ _).alloc (Nat.le_refl _) _).alloc (by simp) _
      have hs5 : W5.heap.size = w4.heap.size + 2 := by rw [hW5]; simp
      have hk5 : W5.heap[w4.heap.size]? = some (.cells #[.int .i64 x.t, .int .i64 x.k] 42 (0, 0)) := by
        rw [hW5, ((Below.refl _ (w4.alloc (.cells #[.int .i64 x.t, .int .i64 x.k] 42))).alloc (Nat.le_refl _) _).block _ (by simp)]
        exact heap_alloc_new w4 _
      have hw5 : W5.heap[w4.heap.size + 1]? = some (.cells #[.int .i64 x.t, .int .i64 x.k, .int .i64 x.v, .bool x.dead] 51 (0, 0)) := by
        have := heap_alloc_new (w4.alloc (.cells #[.int .i64 x.t, .int .i64 x.k] 42)) (.cells #[.int .i64 x.t, .int .i64 x.k, .int .i64 x.v, .bool x.dead] 51)
        have e : (w4.alloc (.cells #[.int .i64 x.t, .int .i64 x.k] 42)).heap.size = w4.heap.size + 1 := by simp
        rw [e, ← hW5] at this
        exact this
      obtain ⟨s4, hs4'⟩ : ∃ s4, s4 = w4.heap.size := ⟨_, rfl⟩
      rw [← hs4'] at hk5 hw5 hs5
      have y0 : W5.cell? ⟨s4, 0, none⟩ = some (.int .i64 x.t) := by rw [cell_of_row _ _ 0 _ _ _ hk5]; rfl
      have y1 : W5.cell? ⟨s4, 1, none⟩ = some (.int .i64 x.k) := by rw [cell_of_row _ _ 1 _ _ _ hk5]; rfl
      have z2 : W5.cell? ⟨s4 + 1, 2, none⟩ = some (.int .i64 x.v) := by rw [cell_of_row _ _ 2 _ _ _ hw5]; rfl
      have z3 : W5.cell? ⟨s4 + 1, 3, none⟩ = some (.bool x.dead) := by rw [cell_of_row _ _ 3 _ _ _ hw5]; rfl
      have HX := Lib.hid (And.intro hP (And.intro hlen2 (And.intro hlen1 (And.intro hM4 (And.intro hC4 (And.intro hb45 (And.intro hKR4 (And.intro htin hts2))))))))
      have HKC := Lib.hid (And.intro hk5 hs5)
      have HLT := Lib.hid (And.intro hlt4 (hF.rg.left_eq))
      have HW5 := Lib.hid hW5
      have HS4 := Lib.hid hs4'
      simp only [keyV, Wr.val] at hnx hen
      clear hF hxw hst htin hP hsame hts2 hlen2 hlen1 hM1 hC1 no1 no2 hM4 hC4 hW5 hb45 hk5 hw5 hs4' hs5 hKR4 hlt4 hg4 hs4 hgx hlk ht hk
      go_upto_region 6 with fail
      rw [← HS4.out, ← HW5.out]
      obtain ⟨W6, hW6⟩ : ∃ W6, W6 = W5.alloc (.cells #[.int .i64 x.v, .int .i64 q, .bool x.dead] 44) := ⟨_, rfl⟩
      have hb56 : Below W5.heap.size W5 W6 := by rw [hW6]; exact (Below.refl _ _).alloc (Nat.le_refl _) _
      have hc6 : W6.heap[W5.heap.size]? = some (.cells #[.int .i64 x.v, .int .i64 q, .bool x.dead] 44 (0, 0)) := by rw [hW6]; exact heap_alloc_new W5 _
      have hb46 : Below w4.heap.size w4 W6 := HX.out.2.2.2.2.2.1.trans (hb56.mono HX.out.2.2.2.2.2.1.size)
      obtain ⟨s9, hs9⟩ : ∃ s9, s9 = W5.heap.size := ⟨_, rfl⟩
      rw [← hs9] at hc6
      have hk6 := (hb56.block _ (Array.getElem?_eq_some_iff.1 HKC.out.1).1).trans HKC.out.1
      have u0 : W6.cell? ⟨s4, 0, none⟩ = some (.int .i64 x.t) := by rw [cell_of_row _ _ 0 _ _ _ hk6]; rfl
      have u1 : W6.cell? ⟨s4, 1, none⟩ = some (.int .i64 x.k) := by rw [cell_of_row _ _ 1 _ _ _ hk6]; rfl
      have v0 : W6.cell? ⟨s9, 0, none⟩ = some (.int .i64 x.v) := by rw [cell_of_row _ _ 0 _ _ _ hc6]; rfl
      have v1 : W6.cell? ⟨s9, 1, none⟩ = some (.int .i64 q) := by rw [cell_of_row _ _ 1 _ _ _ hc6]; rfl
      have v2 : W6.cell? ⟨s9, 2, none⟩ = some (.bool x.dead) := by rw [cell_of_row _ _ 2 _ _ _ hc6]; rfl
      have vf := frozen_of hc6
      have hne9 : s4 ≠ s9 := by rw [hs9, HKC.out.2]; omega
      have HW6 := Lib.hid hW6
      have HS9 := Lib.hid hs9
      have HB46 := Lib.hid hb46
      have HS94 : Hid (w4.heap.size ≤ s9) := Lib.hid (by rw [hs9, HKC.out.2, HS4.out]; omega)
      clear hW6 hb56 hc6 hb46 hs9 hk6 hnx hen y0 y1
      go_upto_region 7 with fail
      rw [← HS9.out, ← HW6.out]
      obtain ⟨hP, hlen2, hlen1, hM4, hC4, hb45, hKR4, htin, hts2⟩ := HX.out
      cases hdx : x.dead with
      | false =>
        have hcl : x.cl q = ⟨x.v, q, false⟩ := by unfold Wr.cl; rw [hdx]; rfl
        have HSET := Lib.hid (sset_any (k := x.k) (hM4.below HB46.out) (x.cl q) htin hlen1)
        rw [← hts2, hcl] at HSET
        have HFN := Lib.hid (fun (w8 : World) (G2 : Nat → Prop) (h1 : SM w8 G2 sb ts2 (liveT ts2 : Int) last) (h2 : Cg W6 w8 G1 G2) => FO.next hKR4 hM4 hC4 HB46.out h1 h2 hP hlen2 HF.out.low)
        rw [hdx] at v2
        clear hP hlen2 hlen1 hM4 hC4 hb45 hKR4 htin hts2 hdx hcl
        go_wp2_with fail
        refine Calls.mono HSET.out ?_
        rintro e w8 ⟨rfl, G2, h1, h2⟩
        have HFF := Lib.hid (HFN.out w8 G2 h1 h2)
        clear h1 h2
        go_wp2_with fail
        go_roundw
        case rel => exact ⟨_, _, ts2, HFF.out⟩
        case measure => rw [HFF.out.rg.left_eq, HLT.out.2]; exact HLT.out.1
      | true =>
        have hcl : x.cl q = ⟨0, q, true⟩ := by unfold Wr.cl; rw [hdx]; rfl
        have HB47 : Hid (Below w4.heap.size w4 (W6.setCell ⟨s9, 0, none⟩ (.int .i64 0))) := Lib.hid (HB46.out.setCell (p := ⟨s9, 0, none⟩) HS94.out _)
        have HSET := Lib.hid (sset_any (k := x.k) (hM4.below HB47.out) (x.cl q) htin hlen1)
        rw [← hts2, hcl] at HSET
        have HFN := Lib.hid (fun (w8 : World) (G2 : Nat → Prop) (h1 : SM w8 G2 sb ts2 (liveT ts2 : Int) last) (h2 : Cg (W6.setCell ⟨s9, 0, none⟩ (.int .i64 0)) w8 G1 G2) => FO.next hKR4 hM4 hC4 HB47.out h1 h2 hP hlen2 HF.out.low)
        rw [hdx] at v2
        clear hP hlen2 hlen1 hM4 hC4 hb45 hKR4 htin hts2 hdx hcl
        go_wp2_with fail
        refine Calls.mono HSET.out ?_
        rintro e w8 ⟨rfl, G2, h1, h2⟩
        have HFF := Lib.hid (HFN.out w8 G2 h1 h2)
        clear h1 h2
        go_wp2_with fail
        go_roundw
        case rel => exact ⟨_, _, ts2, HFF.out⟩
        case measure => rw [HFF.out.rg.left_eq, HLT.out.2]; exact HLT.out.1
end Go.Proofs.Ytejpjbmbcdgomaa

/- Apply: a transaction's writes are put, or refused; Live, Last. -/
namespace Go.Proofs.Ytejpjbmbcdgomaa
set_option maxRecDepth 100000
open Go.RowKit

/-- What Apply answers: 0: nil, 1: ErrRange, 4: ErrFull. -/
def apN (q : Int) (ts : Tb) (ws : List Wr) : Nat := if takB q ws then (if liveT (forceT q ts ws) ≤ 4096 then 0 else 4) else 1
structure ApOut (q : Int) (ts : Tb) (ws : List Wr) (r : Nat) (last : Int) (ts' : Tb) (last' : Int) : Prop where
  out : (r = 0 ∧ ts' = forceT q ts ws ∧ last' = max last q) ∨ (r ≠ 0 ∧ ts' = ts ∧ last' = last)
def errV (n : Nat) : Value := if n = 0 then .nilIface else .iface 64 (.int .i64 (n : Int))
set_option maxHeartbeats 4000000 in
theorem apply_any {w : World} {G : Nat → Prop} {sb : Nat} {ts : Tb} {last : Int} {A : Option Addr} {c : Nat} {ws : List Wr} (q : Int) (hM : SM w G sb ts (liveT ts : Int) last) (h : Wrs w A ws) (hK : NumW ws) (hl : ws.length ≤ 50000) (hN : ∀ i, i < 4 → (ts i).length ≤ 50000) :
    Calls Try.prog 16 #[.pointer (some ⟨sb, 0, none⟩), .int .i64 q, .slice A ws.length c] w fun e w' => e = .returned (errV (apN q ts ws)) ∧ ∃ G' ts' last', SM w' G' sb ts' (liveT ts' : Int) last' ∧ Cg w w' G G' ∧
      ApOut q ts ws (apN q ts ws) last ts' last' := by
  have HT := Lib.hid (takes_any (sb := sb) (c := c) q h (by omega))
  have HM := Lib.hid hM
  obtain ⟨n, hn⟩ : ∃ n, n = ws.length := ⟨_, rfl⟩
  have HFT := Lib.hid (fun (w1 : World) (hb : Below w.heap.size w w1) => fits_any (c := c) q (hM.below hb) (RowAt.below h hb) hK hl hN)
  have HFO := Lib.hid (fun (w1 : World) (hb : Below w.heap.size w w1) (ht : takB q ws = true) => force_any (c := c) q (hM.below hb) (RowAt.below h hb) hK hl hN ht)
  obtain ⟨r, hr⟩ : ∃ r, r = apN q ts ws := ⟨_, rfl⟩
  have HR := Lib.hid hr
  rw [← hr]
  rw [← hn] at HT HFT HFO ⊢
  obtain ⟨tk, htk⟩ : ∃ tk, tk = takB q ws := ⟨_, rfl⟩
  obtain ⟨fi, hfi⟩ : ∃ fi, fi = decide (liveT (forceT q ts ws) ≤ 4096) := ⟨_, rfl⟩
  have HTK := Lib.hid htk
  have HFI := Lib.hid hfi
  rw [← htk] at HT
  rw [← htk, ← hfi] at HFT
  clear hM h hK hl hN hn hr htk hfi
  obtain ⟨rv, hrv⟩ : ∃ rv, rv = errV r := ⟨_, rfl⟩
  have HRV := Lib.hid hrv
  rw [← hrv]
  clear hrv
  go_enter Try.func16, Try.ntmps16
  go_wp2_with fail
  refine Calls.mono HT.out ?_
  rintro e w1 ⟨rfl, hb1⟩
  have HB1 := Lib.hid hb1
  clear hb1
  cases tk with
  | false =>
    obtain rfl : r = 1 := by rw [HR.out]; unfold apN; rw [← HTK.out]; rfl
    obtain rfl : rv = .iface 64 (.int .i64 1) := HRV.out
    go_wp2_with fail
    go_ret
    exact ⟨rfl, G, ts, last, HM.out.below HB1.out, Cg.of_below HB1.out G, ⟨.inr ⟨by decide, rfl, rfl⟩⟩⟩
  | true =>
    go_wp2_with fail
    refine Calls.mono (HFT.out _ HB1.out) ?_
    rintro e w2 ⟨rfl, hb2⟩
    have HB2 := Lib.hid (HB1.out.trans (hb2.mono HB1.out.size))
    clear hb2
    cases fi with
    | false =>
      obtain rfl : r = 4 := by
        rw [HR.out]; unfold apN; rw [← HTK.out]
        have := of_decide_eq_false HFI.out.symm
        simp [this]
      obtain rfl : rv = .iface 64 (.int .i64 4) := HRV.out
      go_wp2_with fail
      go_ret
      exact ⟨rfl, G, ts, last, HM.out.below HB2.out, Cg.of_below HB2.out G, ⟨.inr ⟨by decide, rfl, rfl⟩⟩⟩
    | true =>
      obtain rfl : r = 0 := by
        rw [HR.out]; unfold apN; rw [← HTK.out]
        have := of_decide_eq_true HFI.out.symm
        simp [this]
      obtain rfl : rv = .nilIface := HRV.out
      go_wp2_with fail
      refine Calls.mono (HFO.out _ HB2.out HTK.out.symm) ?_
      rintro e w3 ⟨rfl, G', h1, h2⟩
      have HE := Lib.hid (And.intro h1 h2)
      clear h1 h2
      go_wp2_with fail
      go_ret
      exact ⟨rfl, G', _, _, HE.out.1, (Cg.of_below HB2.out G).trans HE.out.2, ⟨.inl ⟨rfl, rfl, rfl⟩⟩⟩
theorem slive_any {w : World} {G : Nat → Prop} {sb : Nat} {ts : Tb} {live last : Int} (hM : SM w G sb ts live last) : Calls Try.prog 29 #[.pointer (some ⟨sb, 0, none⟩)] w fun e w' => e = .returned (.int .i64 live) ∧ w = w' := by
  have c4 := hM.live4
  clear hM
  go_enter Try.func29, Try.ntmps29
  go_wp2_with fail
  go_ret
  exact ⟨rfl, rfl⟩
theorem slast_any {w : World} {G : Nat → Prop} {sb : Nat} {ts : Tb} {live last : Int} (hM : SM w G sb ts live last) : Calls Try.prog 30 #[.pointer (some ⟨sb, 0, none⟩)] w fun e w' => e = .returned (.int .i64 last) ∧ w = w' := by
  have c5 := hM.last5
  clear hM
  go_enter Try.func30, Try.ntmps30
  go_wp2_with fail
  go_ret
  exact ⟨rfl, rfl⟩
end Go.Proofs.Ytejpjbmbcdgomaa

/- New: a store without cells. -/
namespace Go.Proofs.Ytejpjbmbcdgomaa
set_option maxRecDepth 100000
open Go.RowKit

def pvN (tb : Nat → Nat) (i j : Nat) : Value := if j < i then .pointer (some ⟨tb j, 0, none⟩) else .pointer none
def stN (tb : Nat → Nat) (i : Nat) : Array Value := #[pvN tb i 0, pvN tb i 1, pvN tb i 2, pvN tb i 3, .int .i64 0, .int .i64 0]
theorem pvN_ne {tb : Nat → Nat} {i b j : Nat} (h : j ≠ i) : pvN (fun q => if q = i then b else tb q) (i + 1) j = pvN tb i j := by
  unfold pvN
  by_cases e : j < i
  · rw [if_pos e, if_pos (by omega)]
    show Value.pointer (some ⟨if j = i then b else tb j, 0, none⟩) = _
    rw [if_neg h]
  · rw [if_neg e, if_neg (by omega)]
theorem pvN_eq {tb : Nat → Nat} {i b : Nat} : pvN (fun q => if q = i then b else tb q) (i + 1) i = .pointer (some ⟨b, 0, none⟩) := by
  unfold pvN
  rw [if_pos (by omega)]
  show Value.pointer (some ⟨if i = i then b else tb i, 0, none⟩) = _
  rw [if_pos rfl]
theorem stN_set (tb : Nat → Nat) {i : Nat} (hi : i < 4) (b : Nat) : (stN tb i).setIfInBounds i (.pointer (some ⟨b, 0, none⟩)) = stN (fun j => if j = i then b else tb j) (i + 1) := by
  have : i = 0 ∨ i = 1 ∨ i = 2 ∨ i = 3 := by omega
  rcases this with rfl | rfl | rfl | rfl
  · show #[_, _, _, _, _, _] = stN _ _
    unfold stN
    rw [pvN_eq, pvN_ne (by decide), pvN_ne (by decide), pvN_ne (by decide)]
  · show #[_, _, _, _, _, _] = stN _ _
    unfold stN
    rw [pvN_eq, pvN_ne (by decide), pvN_ne (by decide), pvN_ne (by decide)]
  · show #[_, _, _, _, _, _] = stN _ _
    unfold stN
    rw [pvN_eq, pvN_ne (by decide), pvN_ne (by decide), pvN_ne (by decide)]
  · show #[_, _, _, _, _, _] = stN _ _
    unfold stN
    rw [pvN_eq, pvN_ne (by decide), pvN_ne (by decide), pvN_ne (by decide)]
/-- The first i trees are laid. -/
structure NI (w wr : World) (i : Nat) (tb : Nat → Nat) (F : Nat → Nat → Prop) : Prop where
  block : wr.heap[w.heap.size]? = some (.cells (stN tb i) 101 (0, 0))
  tree : ∀ j, j < i → TL wr (F j) (tb j) [] 0
  new : ∀ j, j < i → ∀ q, F j q → w.heap.size < q
  apart : ∀ a b, a < i → b < i → a ≠ b → ∀ q, F a q → ¬ F b q
  b : Below w.heap.size w wr
theorem NI.next {w wr w1 : World} {i b : Nat} {tb : Nat → Nat} {F : Nat → Nat → Prop} {F1 : Nat → Prop} (h : NI w wr i tb F) (hi : i < 4) (hT : TL w1 F1 b [] 0) (hF : ∀ k, F1 k → wr.heap.size ≤ k) (hb : Below wr.heap.size wr w1) :
    NI w (w1.setCell ⟨w.heap.size, i, none⟩ (.pointer (some ⟨b, 0, none⟩))) (i + 1) (fun j => if j = i then b else tb j) (fun j => if j = i then F1 else F j) := by
  have hsb := (Array.getElem?_eq_some_iff.1 h.block).1
  have h1 := (hb.block _ hsb).trans h.block
  have hk : ∀ q, q ≠ w.heap.size → (w1.setCell ⟨w.heap.size, i, none⟩ (.pointer (some ⟨b, 0, none⟩))).heap[q]? = w1.heap[q]? := fun q e => heap_ne _ _ _ _ e
  refine ⟨(heap_set w1 _ i _ h1).trans (by rw [stN_set tb hi]), fun j hj => ?_, fun j hj q e => ?_, fun x y hx hy hxy q e1 e2 => ?_, ⟨h.b.os ▸ hb.os, h.b.tape ▸ hb.tape, h.b.output ▸ hb.output, by rw [World.size_setCell]; exact Nat.le_trans h.b.size hb.size, fun k hkl => ?_⟩⟩
  · by_cases e : j = i
    · rw [if_pos e, if_pos e]
      exact hT.keep fun q hq => hk q (by have := hF q hq; omega)
    · rw [if_neg e, if_neg e]
      have hj2 : j < i := by omega
      exact ((h.tree j hj2).below hb).keep fun q hq => hk q (by have := h.new j hj2 q hq; omega)
  · by_cases e3 : j = i
    · rw [if_pos e3] at e
      have := hF q e
      omega
    · rw [if_neg e3] at e
      exact h.new j (by omega) q e
  · by_cases ex : x = i
    · have ey : y ≠ i := fun c => hxy (ex.trans c.symm)
      rw [if_pos ex] at e1
      rw [if_neg ey] at e2
      have a1 := hF q e1
      have a2 := (h.tree y (by omega)).lt e2
      omega
    · rw [if_neg ex] at e1
      by_cases ey : y = i
      · rw [if_pos ey] at e2
        have a1 := hF q e2
        have a2 := (h.tree x (by omega)).lt e1
        omega
      · rw [if_neg ey] at e2
        exact h.apart x y (by omega) (by omega) hxy q e1 e2
  · rw [hk k (by omega), hb.block k (by have := h.b.size; omega)]
    exact h.b.block k hkl
theorem NI.store {w wr : World} {tb : Nat → Nat} {F : Nat → Nat → Prop} (h : NI w wr 4 tb F) : ∃ G, SM wr G w.heap.size (fun _ => []) (liveT (fun _ => []) : Int) 0 ∧ ∀ q, G q → w.heap.size ≤ q :=
  ⟨fun q => q = w.heap.size ∨ ∃ i, i < 4 ∧ F i q, ⟨tb, F, fun _ => 0, h.block, fun i hi => h.tree i hi, fun i j hi hj => h.apart i j hi hj, fun i hi e => by have := h.new i hi _ e; omega, fun _ => Iff.rfl⟩, fun q e => by
    rcases e with e | ⟨i, hi, e⟩
    · omega
    · have := h.new i hi q e; omega⟩
set_option maxHeartbeats 4000000 in
theorem snew_any (w : World) : Calls Try.prog 12 #[] w fun e w' => e = .returned (.pointer (some ⟨w.heap.size, 0, none⟩)) ∧ (∃ G, SM w' G w.heap.size (fun _ => []) (liveT (fun _ => []) : Int) 0 ∧ ∀ q, G q → w.heap.size ≤ q) ∧ Below w.heap.size w w' := by
  have HN := Lib.hid fun w1 => new_any w1
  have HS0 : Hid (NI w (w.alloc (.cells #[.pointer none, .pointer none, .pointer none, .pointer none, .int .i64 0, .int .i64 0] 101)) 0 (fun _ => 0) (fun _ _ => False)) := Lib.hid ⟨heap_alloc_new w _, fun j hj => by omega, fun j hj => by omega, fun a b ha => by omega, (Below.refl _ _).alloc (Nat.le_refl _) _⟩
  obtain ⟨s, hs⟩ : ∃ s, s = w.heap.size := ⟨_, rfl⟩
  have HS := Lib.hid hs
  go_enter Try.func12, Try.ntmps12
  go_wp2_with fail
  rw [← hs]
  clear hs
  go_loopw [2, 5, 6, 7, 8, 9, 10, 11, 12, 13, 14] (fun _ ix _ _ _ _ _ _ _ _ _ wr => ∃ (i : Nat) (tb : Nat → Nat) (F : Nat → Nat → Prop), ix = .int .i64 (i : Int) ∧ i ≤ 4 ∧ NI w wr i tb F) (fun _ ix _ _ _ _ _ _ _ _ _ wr => 4 - (intOf ix).toNat)
  case atStart => exact ⟨0, _, _, rfl, by omega, HS0.out⟩
  case round =>
    obtain ⟨i, tb, F, rfl, hi, hI⟩ := hrel
    have HI := Lib.hid hI
    by_cases hlt : i < 4
    · have hi4 : (i : Int) < 4 := by omega
      have HCF : Hid (∀ w1, Below wr.heap.size wr w1 → (∃ v, w1.cell? ⟨s, i, none⟩ = some v) ∧ w1.frozen? ⟨s, i, none⟩ = false) := Lib.hid fun w1 hb => by
        rw [HS.out]
        have h1 := (hb.block _ (Array.getElem?_eq_some_iff.1 HI.out.block).1).trans HI.out.block
        refine ⟨⟨(stN tb i)[i]'(by show i < 6; omega), ?_⟩, frozen_of h1 i⟩
        rw [cell_of_row _ _ i _ _ _ h1]
        exact Array.getElem?_eq_getElem _
      clear hI
      go_upto_region 5 with fail
      go_region_law (go_simp; go_at_call 47; refine Calls.mono (HN.out _) ?_; rintro e1 w1 ⟨F1, b, rfl, h1, h2, h3⟩; have hb1 := undrewB h3; obtain ⟨⟨v, hv⟩, hf⟩ := HCF.out w1 hb1; have HNX := Lib.hid (HI.out.next hlt h1 h2 hb1); clear h1 h2 h3 hb1)
      all_goals
        go_wp2_with fail
        go_roundw
        case rel => exact ⟨i + 1, _, _, by go_num, by omega, by rw [HS.out]; exact HNX.out⟩
        case measure => simp [intOf]; omega
    · obtain rfl : i = 4 := by omega
      have HST := Lib.hid hI.store
      clear hI
      go_wp2_with fail
      go_ret
      exact ⟨by rw [HS.out]; rfl, HST.out, HI.out.b⟩
end Go.Proofs.Ytejpjbmbcdgomaa
