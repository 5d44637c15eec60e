/- SDo: put together. -/
import Derived.Test.YtejpjbmbcdgomaaPd11
import Derived.Test.YtejpjbmbcdgomaaPc22
import Derived.Test.YtejpjbmbcdgomaaPc21
import Derived.Test.YtejpjbmbcdgomaaPc20
/- An act by both. Written by gen_sdo.py. -/
namespace Go.Proofs.Ytejpjbmbcdgomaa
set_option maxRecDepth 100000
open Go.RowKit

theorem num_errV (r : Nat) (hb : r ≤ 1000) (w : World) : Calls Try.prog 50 #[errV r] w fun e w' => e = .returned (.int .i64 (r : Int)) ∧ w = w' := by
  by_cases h : r = 0
  · subst h; exact num_nil w
  · have h9 := num_err r h hb w
    unfold errN at h9
    unfold errV
    rw [if_neg h]
    exact h9
theorem Cg.out {w w1 : World} {G G1 : Nat → Prop} (h : Cg w w1 G G1) {q : Nat} (hq : q < w.heap.size) (hn : ¬ G q) : ¬ G1 q ∧ w1.heap[q]? = w.heap[q]? :=
  ⟨fun c => by
    rcases h.fr q c with c | c
    · exact hn c
    · omega, h.ch.block q hq hn⟩
/-- A row stands where nothing but a set's blocks is turned. -/
theorem Ens.cg {w w1 : World} {G G1 : Nat → Prop} {A : Option Addr} {l : List En} (h : Ens w A l) (hc : Cg w w1 G G1) (hn : 0 < l.length → ∀ b o, A = some ⟨b, o, none⟩ → ¬ G b) : Ens w1 A l := Ens.same h fun hl b o e => by
  obtain ⟨b', o', e', hcl⟩ := Ens.cell h hl
  rw [e] at e'
  have e1 : b = b' := by simpa using congrArg (fun x => x.map (·.block)) e'
  have hb := World.block_lt_of_cell? _ _ (hcl 0 hl).1
  exact (hc.out (by rw [e1]; exact hb) (hn hl b o e)).2
theorem Wrs.cg {w w1 : World} {G G1 : Nat → Prop} {A : Option Addr} {l : List Wr} (h : Wrs w A l) (hc : Cg w w1 G G1) (hn : 0 < l.length → ∀ b o, A = some ⟨b, o, none⟩ → ¬ G b) : Wrs w1 A l := by
  refine ⟨h.len, h.row.1, fun hp => ?_⟩
  obtain ⟨b, o, e, hcl⟩ := h.row.2 hp
  refine ⟨b, o, e, fun j u hj => ?_⟩
  have h9 := hcl j u hj
  exact (World.cell?_of_block (hc.out (World.block_lt_of_cell? _ _ h9) (hn hp b o e)).2).trans h9
theorem Cg.box {w w1 : World} {G G1 : Nat → Prop} {p j : Nat} {u : Value} (h : Cg w w1 G G1) (hp : w.heap.size ≤ p) : Cg w (w1.setCell ⟨p, j, none⟩ u) G G1 :=
  ⟨⟨h.ch.os, h.ch.tape, h.ch.output, by rw [World.size_setCell]; exact h.ch.size, fun q hq hn => (heap_ne _ _ _ _ (by omega)).trans (h.ch.block q hq hn)⟩, h.fr⟩
theorem SM.box {w : World} {G : Nat → Prop} {sb p j : Nat} {ts : Tb} {live last : Int} {u : Value} (h : SM w G sb ts live last) (hp : ¬ G p) : SM (w.setCell ⟨p, j, none⟩ u) G sb ts live last := h.keep fun _ hq => heap_ne _ _ _ _ fun e => hp (e ▸ hq)
theorem Ens.box {w : World} {A : Option Addr} {l : List En} {p j : Nat} {u : Value} (h : Ens w A l) (hp : ∀ b o, A = some ⟨b, o, none⟩ → b ≠ p) : Ens (w.setCell ⟨p, j, none⟩ u) A l := Ens.same h fun _ b o e => heap_ne _ _ _ _ (hp b o e)
/-- A row of entries and a store's box lie apart. -/
theorem Ens.notBox {w : World} {A : Option Addr} {l : List En} {p : Nat} {a b : Value} {T : TypeId} (h : Ens w A l) (hp : w.heap[p]? = some (.cells #[a, b] T (0, 0))) (hl : 0 < l.length) : ∀ bk o, A = some ⟨bk, o, none⟩ → bk ≠ p := Ens.away h hp hl
theorem Ens.boxAway {w : World} {A : Option Addr} {l : List En} {p j : Nat} {u a b : Value} {T : TypeId} (h : Ens w A l) (hp : w.heap[p]? = some (.cells #[a, b] T (0, 0))) : Ens (w.setCell ⟨p, j, none⟩ u) A l := Ens.same h fun hl bk o e => heap_ne _ _ _ _ (Ens.away h hp hl bk o e)
/-- What an act comes to. -/
def DoOut (o : Oq) (ts : Tb) (last : Int) (ts' : Tb) (last' : Int) : Prop := if o.pg then ts' = purT ts ∧ last' = last else ApOut o.q ts o.ws (apN o.q ts o.ws) last ts' last'
theorem ApOut.same0 {q : Int} {ts ts' : Tb} {ws : List Wr} {r : Nat} {last last' : Int} (h : ApOut q ts ws r last ts' last') (hr : r = apN q ts ws) (hu : ∀ i, i < 4 → Up (ts i)) : apL q (ents ts) ws = ents ts' ∧ apQ q (ents ts) last ws = last' ∧ apR q (ents ts) ws = r := by
  subst hr
  exact h.same hu
/-- What do answers. -/
def DoE (w : World) (G : Nat → Prop) (sb : Nat) (o : Oq) (ts : Tb) (last : Int) (_ : Option Addr) (e : Ending) (w' : World) : Prop :=
  ∃ A' c' ts' last' G', e = .returned (.tuple #[.agg #[.slice A' (ents ts').length c', .int .i64 last'], .bool true]) ∧ SM w' G' sb ts' (liveT ts' : Int) last' ∧ Cg w w' G G' ∧ Ens w' A' (ents ts') ∧ (0 < (ents ts').length → ∀ b o, A' = some ⟨b, o, none⟩ → ¬ G' b) ∧ DoOut o ts last ts' last'
set_option maxHeartbeats 16000000 in
theorem do_any {w : World} {G : Nat → Prop} {sb : Nat} {ts : Tb} {last : Int} {A : Option Addr} {c : Nat} {o : Oq} (hM : SM w G sb ts (liveT ts : Int) last) (hE : Ens w A (ents ts)) (hS : 0 < (ents ts).length → ∀ b o, A = some ⟨b, o, none⟩ → ¬ G b)
    (hO : OqOk w o) (hOS : 0 < o.ws.length → ∀ b f, o.A = some ⟨b, f, none⟩ → ¬ G b) (hl : o.ws.length ≤ 100) (hN : ∀ i, i < 4 → (ts i).length ≤ 10000) (hnum : NumT ts) :
    Calls Try.prog 13 #[.pointer (some ⟨sb, 0, none⟩), .agg #[.slice A (ents ts).length c, .int .i64 last], .agg #[.int .i64 o.q, .slice o.A o.ws.length o.c, .bool o.pg]] w fun e w' => DoE w G sb o ts last A e w' := by
  obtain ⟨n, hn⟩ : ∃ n, n = (ents ts).length := ⟨_, rfl⟩
  obtain ⟨k, hk⟩ : ∃ k, k = o.ws.length := ⟨_, rfl⟩
  obtain ⟨pg, hpg⟩ : ∃ pg, pg = o.pg := ⟨_, rfl⟩
  rw [← hn, ← hk, ← hpg]
  obtain ⟨p4, hp4⟩ : ∃ p4, p4 = w.heap.size := ⟨_, rfl⟩
  obtain ⟨p5, hp5⟩ : ∃ p5, p5 = p4 + 1 := ⟨_, rfl⟩
  obtain ⟨p6, hp6⟩ : ∃ p6, p6 = p5 + 1 := ⟨_, rfl⟩
  obtain ⟨W1, hW1⟩ : ∃ W1, W1 = ((w.alloc (.cells #[.slice A n c, .int .i64 last] 31)).alloc (.cells #[.int .i64 o.q, .slice o.A k o.c, .bool pg] 34)).alloc (.cells #[.slice none 0 0, .int .i64 0] 31) := ⟨_, rfl⟩
  have h3 := blocks3 w (.cells #[.slice A n c, .int .i64 last] 31) (.cells #[.int .i64 o.q, .slice o.A k o.c, .bool pg] 34) (.cells #[.slice none 0 0, .int .i64 0] 31)
  rw [← hW1, ← hp4, ← hp5, ← hp6] at h3
  obtain ⟨g4, g5, g6, gs, gb⟩ := h3
  rw [hp4] at gb
  have hGl : ∀ q, G q → q < w.heap.size := fun q hq => hM.lt hq
  have hEl : (ents ts).length ≤ 40000 := by have := ents_len hN; omega
  have HB := Lib.hid (And.intro g4 (And.intro g5 (And.intro g6 (And.intro gb (And.intro (hM.below gb) (And.intro (RowAt.below hE gb) hGl))))))
  have HIN := Lib.hid (And.intro hS (And.intro (hO.below gb) (And.intro hOS (And.intro hl (And.intro hN (And.intro hnum hM.up))))))
  have HNN := Lib.hid (And.intro hn (And.intro hk (And.intro hpg hEl)))
  have HP := Lib.hid (And.intro hp4 (And.intro hp5 hp6))
  have HW := Lib.hid hW1
  have c0 : W1.cell? ⟨p5, 2, none⟩ = some (.bool pg) := by rw [cell_of_row _ _ 2 _ _ _ g5]; rfl
  clear hn hk hpg hp4 hp5 hp6 hW1 g4 g5 g6 gs gb hM hE hS hO hOS hl hN hnum hGl hEl
  go_enter Try.func13, Try.ntmps13
  go_upto_region 1 with fail
  rw [← HW.out, ← HP.out.1, ← HP.out.2.1, ← HP.out.2.2]
  have HNG : Hid (∀ q, G q → q < p4) := Lib.hid (by rw [HP.out.1]; exact HB.out.2.2.2.2.2.2)
  have hsz : p6 < W1.heap.size := (Array.getElem?_eq_some_iff.1 HB.out.2.2.1).1
  have HSZ := Lib.hid hsz
  clear hsz
  cases pg with
  | true =>
    have HPU := Lib.hid (spurge_any HB.out.2.2.2.2.1 (fun i hi => Nat.le_trans (HIN.out.2.2.2.2.1 i hi) (by decide)) HIN.out.2.2.2.2.2.1.numL)
    go_wp2_with fail
    refine Calls.mono HPU.out ?_
    rintro e w2 ⟨rfl, G2, hM2, hC2⟩
    clear c0
    have hp := HP.out
    have hsz := HSZ.out
    have o4 := hC2.out (q := p4) (by omega) (fun e => by have := HNG.out _ e; omega)
    have o6 := hC2.out (q := p6) (by omega) (fun e => by have := HNG.out _ e; omega)
    have g4 := o4.2.trans HB.out.1
    have g6 := o6.2.trans HB.out.2.2.1
    have hE2 := Ens.cg HB.out.2.2.2.2.2.1 hC2 HIN.out.1
    have HRP := Lib.hid (r9purge_any (c := c) (last := last) hE2 (Nat.le_trans HNN.out.2.2.2 (by decide)))
    rw [← HNN.out.1, live_purT] at HRP
    have c0 : w2.cell? ⟨p4, 0, none⟩ = some (.slice A n c) := by rw [cell_of_row _ _ 0 _ _ _ g4]; rfl
    have c1 : w2.cell? ⟨p4, 1, none⟩ = some (.int .i64 last) := by rw [cell_of_row _ _ 1 _ _ _ g4]; rfl
    have HB2 := Lib.hid (And.intro g6 (And.intro o6.1 (And.intro hM2 hC2)))
    clear hp hsz o4 o6 g4 g6 hE2 hM2 hC2
    go_wp2_with fail
    refine Calls.mono HRP.out ?_
    rintro e w3 ⟨A3, c3, rfl, hE3, hb3, hf3⟩
    have g6 := (hb3.block p6 (Array.getElem?_eq_some_iff.1 HB2.out.1).1).trans HB2.out.1
    obtain ⟨m3, hm3⟩ : ∃ m3, m3 = (ents (purT ts)).length := ⟨_, rfl⟩
    have HM3 := Lib.hid hm3
    rw [← hm3]
    have d0 : w3.cell? ⟨p6, 0, none⟩ = some (.slice none 0 0) := by rw [cell_of_row _ _ 0 _ _ _ g6]; rfl
    have d1 : w3.cell? ⟨p6, 1, none⟩ = some (.int .i64 0) := by rw [cell_of_row _ _ 1 _ _ _ g6]; rfl
    have df := frozen_of g6
    have k1 := heap_set w3 p6 0 (.slice A3 m3 c3) g6
    have k2 := heap_set _ p6 1 (.int .i64 last) k1
    have e0 : ((w3.setCell ⟨p6, 0, none⟩ (.slice A3 m3 c3)).setCell ⟨p6, 1, none⟩ (.int .i64 last)).cell? ⟨p6, 0, none⟩ = some (.slice A3 m3 c3) := by rw [cell_of_row _ _ 0 _ _ _ k2]; rfl
    have e1 : ((w3.setCell ⟨p6, 0, none⟩ (.slice A3 m3 c3)).setCell ⟨p6, 1, none⟩ (.int .i64 last)).cell? ⟨p6, 1, none⟩ = some (.int .i64 last) := by rw [cell_of_row _ _ 1 _ _ _ k2]; rfl
    have HF := Lib.hid (And.intro e0 e1)
    have HD : Hid (SM ((w3.setCell ⟨p6, 0, none⟩ (.slice A3 m3 c3)).setCell ⟨p6, 1, none⟩ (.int .i64 last)) G2 sb (purT ts) (liveT (purT ts) : Int) last ∧ Cg w ((w3.setCell ⟨p6, 0, none⟩ (.slice A3 m3 c3)).setCell ⟨p6, 1, none⟩ (.int .i64 last)) G G2 ∧ Ens ((w3.setCell ⟨p6, 0, none⟩ (.slice A3 m3 c3)).setCell ⟨p6, 1, none⟩ (.int .i64 last)) A3 (ents (purT ts)) ∧ (0 < (ents (purT ts)).length → ∀ b o, A3 = some ⟨b, o, none⟩ → ¬ G2 b)) := Lib.hid (by
      have hM3 := HB2.out.2.2.1
      rw [← purT_live ts] at hM3
      have hlo : w.heap.size ≤ p6 := by have := HP.out; omega
      have hcg : Cg w w3 G G2 := ((Cg.of_below HB.out.2.2.2.1 G).trans HB2.out.2.2.2).trans (Cg.of_below hb3 G2)
      refine ⟨((hM3.below hb3).box HB2.out.2.1).box HB2.out.2.1, (hcg.box hlo).box hlo, Ens.boxAway (Ens.boxAway hE3 g6) k1, fun _ b o e c => ?_⟩
      have := hf3 b o e
      have := HB2.out.2.2.1.lt c
      omega)
    clear g6 hE3 hb3 hf3 hm3 c0 c1 k1 k2 e0 e1
    go_wp2_with fail
    refine bodyPost_ret (v := .tuple #[.agg #[.slice A3 m3 c3, .int .i64 last], .bool true]) (by simp [results, Try.results13, go_sem, HF.out.1, HF.out.2]) rfl ?_
    refine ⟨A3, c3, purT ts, last, G2, by rw [HM3.out], HD.out.1, HD.out.2.1, HD.out.2.2.1, HD.out.2.2.2, ?_⟩
    unfold DoOut
    rw [← HNN.out.2.2.1, if_pos rfl]
    exact ⟨rfl, rfl⟩
  | false =>
    obtain ⟨W2, hW2⟩ : ∃ W2, W2 = W1.alloc (.cells #[] 51) := ⟨_, rfl⟩
    have hb2 : Below W1.heap.size W1 W2 := by rw [hW2]; exact (Below.refl _ _).alloc (Nat.le_refl _) _
    have H2 : Hid (W2.ownsRow W1.heap.size 51 4 (.slice (some ⟨W1.heap.size, 0, none⟩) 0 0) 0 [] ∧ Rdv W2 o.A k 4 (rowV Wr.vals o.ws) ∧ Below W1.heap.size W1 W2) := Lib.hid ⟨by rw [hW2]; exact own_empty W1 W1.heap.size 51 4 51 rfl (Nat.le_refl _), by rw [HNN.out.2.1]; exact HIN.out.2.1.row.row.ext fun _ hp => hb2.cell hp, hb2⟩
    have HW2 := Lib.hid hW2
    have c1 : (W1.alloc (.cells #[] 51)).cell? ⟨p5, 1, none⟩ = some (.slice o.A k o.c) := by rw [cell_of_row _ _ 1 _ _ _ (old_alloc HB.out.2.1 _)]; rfl
    have HK := Lib.hid (show k ≤ 100 by rw [HNN.out.2.1]; exact HIN.out.2.2.2.1)
    have HOC : Hid (∀ u ∈ rowV Wr.vals o.ws, u.oneCell' = true) := Lib.hid fun u hu => by
      unfold rowV at hu
      obtain ⟨x, _, hx⟩ := List.mem_flatMap.1 hu
      exact wr1 x u hx
    clear hb2 hW2
    go_upto_region 5 with (at_builtin; rw [← HW2.out]; refine wpList_append_rowg elemWr rfl (.tmp 19) (.tmp 21) rfl W1.heap.size (.slice (some ⟨W1.heap.size, 0, none⟩) 0 0) 0 [] rfl H2.out.1 o.A k o.c (rowV Wr.vals o.ws) rfl H2.out.2.1 HOC.out HIN.out.2.1.nil (by have := HK.out; unfold maxLen; omega) (by have := HK.out; omega) H2.out.2.2.size ?_; intro v3 W3 ho hg hq; rw [Nat.zero_add, List.nil_append] at ho; obtain ⟨A3, c3, rfl⟩ := own_form ho; have HO3 := Lib.hid (And.intro ho (And.intro hg hq)); clear ho hg hq)
    clear c0 c1
    have H3 : Hid (Below W1.heap.size W1 W3 ∧ Wrs W3 A3 o.ws ∧ (∀ b f, A3 = some ⟨b, f, none⟩ → W1.heap.size ≤ b)) := Lib.hid (by
      obtain ⟨ho, hg, hq⟩ := HO3.out
      have hb3 : Below W1.heap.size W1 W3 := by
        have h1 := H2.out.2.2
        exact ⟨hg.os.trans h1.os, hg.tape.trans h1.tape, hg.output.trans h1.output, Nat.le_trans h1.size hg.size, fun q hq => (hg.block q (Nat.lt_of_lt_of_le hq h1.size) (fun e => by simp [Value.ownBlock] at e; omega)).trans (h1.block q hq)⟩
      obtain ⟨A', c', e, hr, _⟩ := rdv_own ho
      injection e with e1 _ _
      subst e1
      rw [HNN.out.2.1] at hr
      exact ⟨hb3, ⟨rfl, hr⟩, fun b f e => by subst e; exact own_ge ho (q := b) rfl⟩)
    have HGE : Hid (∀ q, G q → q < W1.heap.size) := Lib.hid fun q hq => by have := HB.out.2.2.2.2.2.2 q hq; have := HB.out.2.2.2.1.size; omega
    have HWL : Hid (o.ws.length ≤ 50000) := Lib.hid (by have := HIN.out.2.2.2.1; omega)
    have HTL : Hid (∀ i, i < 4 → (ts i).length ≤ 50000) := Lib.hid fun i hi => Nat.le_trans (HIN.out.2.2.2.2.1 i hi) (by decide)
    obtain ⟨r, hr⟩ : ∃ r, r = apN o.q ts o.ws := ⟨_, rfl⟩
    obtain ⟨fz, hfz⟩ : ∃ fz, fz = decide (r = 0) := ⟨_, rfl⟩
    have hfits : (takB o.q o.ws && decide (liveT (forceT o.q ts o.ws) ≤ 4096)) = fz := by
      rw [hfz, hr]
      unfold apN
      cases takB o.q o.ws
      · rfl
      · by_cases h9 : liveT (forceT o.q ts o.ws) ≤ 4096
        · simp [h9]
        · simp [h9]
    have HR1 : Hid (r = 0 ∨ r = 1 ∨ r = 4) := Lib.hid (by
      rw [hr]; unfold apN
      split
      · split
        · exact .inl rfl
        · exact .inr (.inr rfl)
      · exact .inr (.inl rfl))
    have HEZ : Hid (((r : Int) == 0) = fz) := Lib.hid (by
      rw [hfz]
      by_cases h9 : r = 0
      · simp [h9]
      · have : ¬ (r : Int) = 0 := by omega
        simp [h9])
    have HEF : Hid ((fz == fz) = true) := Lib.hid (by cases fz <;> rfl)
    have HFT := Lib.hid (fits_any (c := c3) o.q (HB.out.2.2.2.2.1.below H3.out.1) H3.out.2.1 HIN.out.2.1.numW HWL.out HTL.out)
    rw [hfits, ← HNN.out.2.1] at HFT
    have HRR := Lib.hid hr
    have x0 : W3.cell? ⟨p5, 0, none⟩ = some (.int .i64 o.q) := by rw [cell_of_row _ _ 0 _ _ _ ((H3.out.1.block p5 (Array.getElem?_eq_some_iff.1 HB.out.2.1).1).trans HB.out.2.1)]; rfl
    clear hr hfz hfits
    go_wp2_with fail
    refine Calls.mono HFT.out ?_
    rintro e w4 ⟨rfl, hb4⟩
    clear x0
    have HB4 : Hid (Below W1.heap.size W1 w4 ∧ Wrs w4 A3 o.ws) := Lib.hid ⟨H3.out.1.trans (hb4.mono H3.out.1.size), RowAt.below H3.out.2.1 hb4⟩
    have HAP := Lib.hid (apply_any (c := c3) o.q (HB.out.2.2.2.2.1.below HB4.out.1) HB4.out.2 HIN.out.2.1.numW HWL.out HTL.out)
    rw [← HRR.out, ← HNN.out.2.1] at HAP
    have x0 : w4.cell? ⟨p5, 0, none⟩ = some (.int .i64 o.q) := by rw [cell_of_row _ _ 0 _ _ _ ((HB4.out.1.block p5 (Array.getElem?_eq_some_iff.1 HB.out.2.1).1).trans HB.out.2.1)]; rfl
    clear hb4
    go_wp2_with fail
    refine Calls.mono HAP.out ?_
    rintro e w5 ⟨rfl, G5, ts5, last5, hM5, hC5, hout⟩
    clear x0
    have HC5 : Hid (Cg W1 w5 G G5) := Lib.hid ((Cg.of_below HB4.out.1 G).trans hC5)
    have hS5 : SM w5 G5 sb ts5 (liveT ts5 : Int) last5 := hM5
    have hp := HP.out
    have hsz := HSZ.out
    have hs4 := HB4.out.1.size
    have o4 := HC5.out.out (q := p4) (by omega) (fun e => by have := HNG.out _ e; omega)
    have o5 := HC5.out.out (q := p5) (by omega) (fun e => by have := HNG.out _ e; omega)
    have o6 := HC5.out.out (q := p6) (by omega) (fun e => by have := HNG.out _ e; omega)
    have H5 : Hid (w5.heap[p4]? = some (.cells #[.slice A n c, .int .i64 last] 31 (0, 0)) ∧ w5.heap[p5]? = some (.cells #[.int .i64 o.q, .slice o.A k o.c, .bool false] 34 (0, 0)) ∧ w5.heap[p6]? = some (.cells #[.slice none 0 0, .int .i64 0] 31 (0, 0)) ∧ ¬ G5 p4 ∧ ¬ G5 p6 ∧ SM w5 G5 sb ts5 (liveT ts5 : Int) last5 ∧ Ens w5 A (ents ts) ∧ Wrs w5 o.A o.ws ∧ Wrs w5 A3 o.ws ∧ ApOut o.q ts o.ws r last ts5 last5 ∧ (0 < (ents ts).length → ∀ b f, A = some ⟨b, f, none⟩ → ¬ G5 b)) := Lib.hid (by
      refine ⟨o4.2.trans HB.out.1, o5.2.trans HB.out.2.1, o6.2.trans HB.out.2.2.1, o4.1, o6.1, hS5, Ens.cg HB.out.2.2.2.2.2.1 HC5.out HIN.out.1, Wrs.cg HIN.out.2.1.row HC5.out HIN.out.2.2.1, Wrs.cg HB4.out.2 hC5 (fun _ b f e c => by have := H3.out.2.2 b f e; have := HGE.out b c; omega), hout, fun hl b f e c => ?_⟩
      rcases HC5.out.fr b c with c2 | c2
      · exact HIN.out.1 hl b f e c2
      · obtain ⟨b', o', e', hcl⟩ := Ens.cell HB.out.2.2.2.2.2.1 hl
        rw [e] at e'
        have e1 : b = b' := by simpa using congrArg (fun x => x.map (·.block)) e'
        have hb := World.block_lt_of_cell? _ _ (hcl 0 hl).1
        have hb' : b' < W1.heap.size := hb
        omega)
    clear hM5 hC5 hout hS5 hp hsz hs4 o4 o5 o6
    have HWR := Lib.hid (writes_any (c := c3) (c2 := o.c) H5.out.2.2.2.2.2.2.2.2.1 H5.out.2.2.2.2.2.2.2.1 (by have := HWL.out; omega))
    rw [← HNN.out.2.1] at HWR
    have x1 : w5.cell? ⟨p5, 1, none⟩ = some (.slice o.A k o.c) := by rw [cell_of_row _ _ 1 _ _ _ H5.out.2.1]; rfl
    go_wp2_with fail
    refine Calls.mono HWR.out ?_
    rintro e w6 ⟨rfl, hb6⟩
    clear x1
    have HB6 := Lib.hid hb6
    clear hb6
    have HRA := Lib.hid (r9apply_any (c := c) (d := o.c) (last := last) (RowAt.below H5.out.2.2.2.2.2.2.1 HB6.out) (Nat.le_trans HNN.out.2.2.2 (by decide)) (RowAt.below H5.out.2.2.2.2.2.2.2.1 HB6.out) HWL.out o.q)
    have HSA := Lib.hid (H5.out.2.2.2.2.2.2.2.2.2.1.same0 HRR.out HIN.out.2.2.2.2.2.2)
    rw [HSA.out.1, HSA.out.2.1, HSA.out.2.2, ← HNN.out.1, ← HNN.out.2.1] at HRA
    have y0 : w6.cell? ⟨p4, 0, none⟩ = some (.slice A n c) := by rw [cell_of_row _ _ 0 _ _ _ ((HB6.out.block p4 (Array.getElem?_eq_some_iff.1 H5.out.1).1).trans H5.out.1)]; rfl
    have y1 : w6.cell? ⟨p4, 1, none⟩ = some (.int .i64 last) := by rw [cell_of_row _ _ 1 _ _ _ ((HB6.out.block p4 (Array.getElem?_eq_some_iff.1 H5.out.1).1).trans H5.out.1)]; rfl
    have y2 : w6.cell? ⟨p5, 0, none⟩ = some (.int .i64 o.q) := by rw [cell_of_row _ _ 0 _ _ _ ((HB6.out.block p5 (Array.getElem?_eq_some_iff.1 H5.out.2.1).1).trans H5.out.2.1)]; rfl
    have y3 : w6.cell? ⟨p5, 1, none⟩ = some (.slice o.A k o.c) := by rw [cell_of_row _ _ 1 _ _ _ ((HB6.out.block p5 (Array.getElem?_eq_some_iff.1 H5.out.2.1).1).trans H5.out.2.1)]; rfl
    go_wp2_with fail
    refine Calls.mono HRA.out ?_
    rintro e w7 ⟨A8, c8, rfl, hE7, hb7, hN7⟩
    obtain ⟨m8, hm8⟩ : ∃ m8, m8 = (ents ts5).length := ⟨_, rfl⟩
    obtain ⟨l8, hl8⟩ : ∃ l8, l8 = last5 := ⟨_, rfl⟩
    rw [← hm8, ← hl8]
    have HM8 := Lib.hid (And.intro hm8 hl8)
    have g4 := (hb7.block p4 (Nat.lt_of_lt_of_le (Array.getElem?_eq_some_iff.1 H5.out.1).1 HB6.out.size)).trans ((HB6.out.block p4 (Array.getElem?_eq_some_iff.1 H5.out.1).1).trans H5.out.1)
    have z0 : w7.cell? ⟨p4, 0, none⟩ = some (.slice A n c) := by rw [cell_of_row _ _ 0 _ _ _ g4]; rfl
    have z1 : w7.cell? ⟨p4, 1, none⟩ = some (.int .i64 last) := by rw [cell_of_row _ _ 1 _ _ _ g4]; rfl
    have zf := frozen_of g4
    have k1 := heap_set w7 p4 0 (.slice A8 m8 c8) g4
    have k2 := heap_set _ p4 1 (.int .i64 l8) k1
    obtain ⟨w8, hw8⟩ : ∃ w8, w8 = (w7.setCell ⟨p4, 0, none⟩ (.slice A8 m8 c8)).setCell ⟨p4, 1, none⟩ (.int .i64 l8) := ⟨_, rfl⟩
    have hM8 : SM w8 G5 sb ts5 (liveT ts5 : Int) last5 := by
      rw [hw8]
      exact (((H5.out.2.2.2.2.2.1.below HB6.out).below hb7).box H5.out.2.2.2.1).box H5.out.2.2.2.1
    have hlo4 : w.heap.size ≤ p4 := by rw [HP.out.1]; exact Nat.le_refl _
    have hcg : Cg w w8 G G5 := by
      rw [hw8]
      exact (((((Cg.of_below HB.out.2.2.2.1 G).trans HC5.out).trans (Cg.of_below HB6.out G5)).trans (Cg.of_below hb7 G5)).box hlo4).box hlo4
    have hE8 : Ens w8 A8 (ents ts5) := by rw [hw8]; exact Ens.boxAway (Ens.boxAway hE7 g4) k1
    have hsep : 0 < (ents ts5).length → ∀ b f, A8 = some ⟨b, f, none⟩ → ¬ G5 b := fun hl b f e cc => by
      rcases hN7 with ⟨e1, e2⟩ | hN7
      · rw [e2] at hl
        exact H5.out.2.2.2.2.2.2.2.2.2.2 hl b f (e1 ▸ e) cc
      · have h1 := hN7 b f e
        have h2 := H5.out.2.2.2.2.2.1.lt cc
        have h3 := HB6.out.size
        omega
    have g8 : w8.heap[p4]? = some (.cells #[.slice A8 m8 c8, .int .i64 l8] 31 (0, 0)) := by rw [hw8]; exact k2.trans rfl
    have hp6 := H5.out.2.2.1
    have g6 : w8.heap[p6]? = some (.cells #[.slice none 0 0, .int .i64 0] 31 (0, 0)) := by
      have hne : p6 ≠ p4 := by have := HP.out; omega
      rw [hw8, heap_ne _ _ _ _ hne, heap_ne _ _ _ _ hne]
      have h6 := (Array.getElem?_eq_some_iff.1 hp6).1
      exact (hb7.block p6 (Nat.lt_of_lt_of_le h6 HB6.out.size)).trans ((HB6.out.block p6 h6).trans hp6)
    have H8 := Lib.hid (And.intro hM8 (And.intro hcg (And.intro hE8 (And.intro hsep (And.intro g8 g6)))))
    have HW8 := Lib.hid hw8
    have HCE : Hid (∀ W2, Below w8.drew.heap.size w8.drew W2 → W2.cell? ⟨p4, 0, none⟩ = some (.slice A8 m8 c8) ∧ W2.cell? ⟨p4, 1, none⟩ = some (.int .i64 l8)) := Lib.hid fun W2 hw => by
      have e1 := (((Below.refl _ w8).drew.trans hw).block p4 (Array.getElem?_eq_some_iff.1 g8).1).trans g8
      exact ⟨by rw [cell_of_row _ _ 0 _ _ _ e1]; rfl, by rw [cell_of_row _ _ 1 _ _ _ e1]; rfl⟩
    clear hm8 hl8 g4 k1 k2 hM8 hlo4 hcg hE8 hsep g8 hp6 g6 hw8 hE7 hb7 hN7 y0 y1 y2 y3
    go_upto_region 9 with fail
    rw [← HW8.out]
    clear z0 z1 zf
    have q0 : w8.cell? ⟨p4, 0, none⟩ = some (.slice A8 m8 c8) := by rw [cell_of_row _ _ 0 _ _ _ H8.out.2.2.2.2.1]; rfl
    have q1 : w8.cell? ⟨p4, 1, none⟩ = some (.int .i64 l8) := by rw [cell_of_row _ _ 1 _ _ _ H8.out.2.2.2.2.1]; rfl
    have d0 : w8.cell? ⟨p6, 0, none⟩ = some (.slice none 0 0) := by rw [cell_of_row _ _ 0 _ _ _ H8.out.2.2.2.2.2]; rfl
    have d1 : w8.cell? ⟨p6, 1, none⟩ = some (.int .i64 0) := by rw [cell_of_row _ _ 1 _ _ _ H8.out.2.2.2.2.2]; rfl
    have df := frozen_of H8.out.2.2.2.2.2
    have ez := HEZ.out
    have ef := HEF.out
    have er : ((r : Int) == (r : Int)) = true := by simp
    have k1 := heap_set w8 p6 0 (.slice A8 m8 c8) H8.out.2.2.2.2.2
    have k2 := heap_set _ p6 1 (.int .i64 l8) k1
    obtain ⟨Wf, hWf⟩ : ∃ Wf, Wf = ((w8.setCell ⟨p6, 0, none⟩ (.slice A8 m8 c8)).setCell ⟨p6, 1, none⟩ (.int .i64 l8)).drew := ⟨_, rfl⟩
    have hlo6 : w.heap.size ≤ p6 := by have := HP.out; omega
    have hwf : Below ((w8.setCell ⟨p6, 0, none⟩ (.slice A8 m8 c8)).setCell ⟨p6, 1, none⟩ (.int .i64 l8)).heap.size ((w8.setCell ⟨p6, 0, none⟩ (.slice A8 m8 c8)).setCell ⟨p6, 1, none⟩ (.int .i64 l8)) Wf := by rw [hWf]; exact (Below.refl _ _).drew
    have hf6 : Wf.heap[p6]? = some (.cells #[.slice A8 m8 c8, .int .i64 l8] 31 (0, 0)) := (hwf.block p6 (Array.getElem?_eq_some_iff.1 k2).1).trans (k2.trans rfl)
    have HF : Hid (Wf.cell? ⟨p6, 0, none⟩ = some (.slice A8 m8 c8) ∧ Wf.cell? ⟨p6, 1, none⟩ = some (.int .i64 l8)) := Lib.hid ⟨by rw [cell_of_row _ _ 0 _ _ _ hf6]; rfl, by rw [cell_of_row _ _ 1 _ _ _ hf6]; rfl⟩
    have HD : Hid (SM Wf G5 sb ts5 (liveT ts5 : Int) last5 ∧ Cg w Wf G G5 ∧ Ens Wf A8 (ents ts5)) := Lib.hid ⟨((H8.out.1.box H5.out.2.2.2.2.1).box H5.out.2.2.2.2.1).below hwf, ((H8.out.2.1.box hlo6).box hlo6).trans (Cg.of_below hwf G5), RowAt.below (Ens.boxAway (Ens.boxAway H8.out.2.2.1 H8.out.2.2.2.2.2) k1) hwf⟩
    have HWf := Lib.hid hWf
    clear k1 k2 hlo6 hwf hf6 hWf
    go_region_law (go_simp; go_at_call 50; refine Calls.mono (num_errV r (by have := HR1.out; omega) _) ?_; rintro e1 w9 ⟨rfl, rfl⟩)
    all_goals (rw [← HWf.out]; go_wp2_with fail; refine bodyPost_ret (v := .tuple #[.agg #[.slice A8 m8 c8, .int .i64 l8], .bool true]) (by simp [results, Try.results13, go_sem, HF.out.1, HF.out.2]) rfl ?_; refine ⟨A8, c8, ts5, last5, G5, by rw [HM8.out.1, HM8.out.2], HD.out.1, HD.out.2.1, HD.out.2.2, H8.out.2.2.2.1, ?_⟩; unfold DoOut; rw [← HNN.out.2.2.1, if_neg (by decide), ← HRR.out]; exact H5.out.2.2.2.2.2.2.2.2.2.1)
end Go.Proofs.Ytejpjbmbcdgomaa
