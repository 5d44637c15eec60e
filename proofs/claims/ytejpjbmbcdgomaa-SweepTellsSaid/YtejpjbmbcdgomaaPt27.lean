/- SFullP: put together. -/
import Derived.Test.YtejpjbmbcdgomaaPt21
import Derived.Test.YtejpjbmbcdgomaaPt26
/- As many cells as there may be: the list of StoreFull; errors as numbers; two stores beside a text. -/
namespace Go.Proofs.Ytejpjbmbcdgomaa
set_option maxRecDepth 100000
open Go.RowKit

def wrF (f i : Nat) : Wr := ⟨((i % 4 : Nat) : Int), ((f + i : Nat) : Int), (i : Int), false⟩
def fullL (f n : Nat) : List Wr := (List.range n).map (wrF f)
/-- Rows of writes. -/
theorem elemWr : ElemT Try.prog 32 51 4 32 :=
  ⟨Try.underlying32, by kernel_rfl, by
    obtain ⟨i, hi, hz, h1, _⟩ := info_parts (show (Try.prog.info? 51).map (fun i => (i.zero, i.size, i.bytes)) = some (some (.agg #[.int .i64 0, .int .i64 0, .int .i64 0, .bool false]), 4, 32) by kernel_rfl)
    exact ⟨i, _, hi, hz, rfl⟩, by decide⟩
theorem wr1 (x : Wr) : ∀ u ∈ x.vals, u.oneCell' = true := by
  intro u hu
  unfold Wr.vals at hu
  simp at hu
  rcases hu with rfl | rfl | rfl | rfl <;> rfl
abbrev Wro (w : World) (B : Nat) (v : Value) (l : List Wr) : Prop := w.ownsRow B 51 4 v l.length (rowV Wr.vals l)
theorem Wro.below {w w' : World} {B : Nat} {v : Value} {l : List Wr} (h : Wro w B v l) (hb : Below w.heap.size w w') : Wro w' B v l := own_same h fun q hq => by
  obtain ⟨_, e⟩ := own_at h hq
  exact hb.block q (Array.getElem?_eq_some_iff.1 e).1
/-- Errors as numbers. -/
def errN (r : Nat) : Value := .iface 64 (.int .i64 (r : Int))
theorem asErr (v : Value) (w : World) : (Instr.typeAssert (.iface 64 v) 48 64 true).run Try.prog w = .ok (.tuple #[v, .bool true]) w := by kernel_rfl
set_option maxHeartbeats 1000000 in
theorem num_err (r : Nat) (hr : r ≠ 0) (_hb : r ≤ 1000) (w : World) : Calls Try.prog 50 #[errN r] w fun e w' => e = .returned (.int .i64 (r : Int)) ∧ w = w' := by
  have h1 := asErr
  have h2 : ((r : Int) != 0) = true := by simpa using hr
  unfold errN
  go_enter Try.func50, Try.ntmps50
  go_wp2
  refine wp_loop_rounds 1 ?_
  rw [rounds_succ]
  go_wp2
  go_ret
  exact ⟨rfl, rfl⟩
set_option maxHeartbeats 1000000 in
theorem num_nil (w : World) : Calls Try.prog 50 #[.nilIface] w fun e w' => e = .returned (.int .i64 0) ∧ w = w' := by
  go_enter Try.func50, Try.ntmps50
  go_wp2
  refine wp_loop_rounds 1 ?_
  rw [rounds_succ]
  go_wp2
  go_ret
  exact ⟨rfl, rfl⟩
set_option maxHeartbeats 400000 in
theorem is_errV (r k : Nat) (hb : r ≤ 1000) (w : World) : Calls Try.prog 24 #[errV r, .int .i64 (k : Int)] w fun e w' => e = .returned (.bool (decide (r = k))) ∧ w = w' := by
  have HC : Hid (∀ w, Calls Try.prog 50 #[errV r] w fun e w' => e = .returned (.int .i64 (r : Int)) ∧ w = w') := Lib.hid fun w => by
    by_cases h : r = 0
    · subst h; exact num_nil w
    · rw [errV_not h]; exact num_err r h hb w
  have hd : ((r : Int) == (k : Int)) = decide (r = k) := by
    by_cases h : r = k
    · subst h; simp
    · have : (r : Int) ≠ (k : Int) := by omega
      simp [h, this]
  obtain ⟨v, hv⟩ : ∃ v, v = errV r := ⟨_, rfl⟩
  rw [← hv] at HC ⊢
  clear hv
  go_enter Try.func24, Try.ntmps24
  go_wp2_with fail
  refine Calls.mono (HC.out _) ?_
  rintro e w' ⟨rfl, rfl⟩
  go_wp2_with fail
  go_ret
  exact ⟨rfl, rfl⟩
theorem Rdv.same {w w' : World} {A : Option Addr} {n size : Nat} {ys : List Value} (h : Rdv w A n size ys) (hb : ∀ b off, A = some ⟨b, off, none⟩ → w'.heap[b]? = w.heap[b]?) : Rdv w' A n size ys :=
  ⟨h.1, fun hn => by
    obtain ⟨b, off, e, hc⟩ := h.2 hn
    exact ⟨b, off, e, fun j u hj => (World.cell?_of_block (a := ⟨b, off + j, none⟩) (hb b off e)).trans (hc j u hj)⟩⟩
theorem Rdv.blockLt {w : World} {b o n size : Nat} {ys : List Value} (h : Rdv w (some ⟨b, o, none⟩) n size ys) (hn : 0 < n) (hs : 0 < size) : b < w.heap.size := by
  obtain ⟨b', off, e2, hc⟩ := h.2 hn
  injection e2 with e2
  injection e2 with e2 _ _
  have hp : 0 < ys.length := by rw [h.1]; exact Nat.mul_pos hn hs
  have := World.block_lt_of_cell? _ _ (hc 0 _ (List.getElem?_eq_getElem hp))
  rw [e2]
  exact this
/-- Two stores, apart, and a text beside them. -/
structure TwoT (w wr : World) (sa sb : Nat) (ta tb : Tb) (la lb : Int) (A : Option Addr) (m : Nat) (xs : List Nat) : Prop where
  ex : ∃ Ga Gb, SM wr Ga sa ta (liveT ta : Int) la ∧ SM wr Gb sb tb (liveT tb : Int) lb ∧ (∀ q, Ga q → ¬ Gb q) ∧ (∀ q, Ga q → w.heap.size ≤ q) ∧ (∀ q, Gb q → w.heap.size ≤ q) ∧ (∀ b o, A = some ⟨b, o, none⟩ → b < wr.heap.size ∧ ¬ Ga b ∧ ¬ Gb b)
  b : Below w.heap.size w wr
  row : Rdv wr A m 1 (valsB xs)
section
variable {w wr w1 : World} {sa sb : Nat} {ta tb : Tb} {la lb : Int} {A : Option Addr} {m : Nat} {xs : List Nat}
theorem TwoT.below (h : TwoT w wr sa sb ta tb la lb A m xs) (hb : Below wr.heap.size wr w1) : TwoT w w1 sa sb ta tb la lb A m xs := by
  obtain ⟨Ga, Gb, h1, h2, h3, h4, h5, h6⟩ := h.ex
  exact ⟨⟨Ga, Gb, h1.below hb, h2.below hb, h3, h4, h5, fun b o e => ⟨Nat.lt_of_lt_of_le (h6 b o e).1 hb.size, (h6 b o e).2⟩⟩, h.b.trans (hb.mono h.b.size), h.row.ext fun _ hp => hb.cell hp⟩
theorem TwoT.turn (h : TwoT w wr sa sb ta tb la lb A m xs) {Ga : Nat → Prop} (h1 : ∃ Gb, SM wr Gb sb tb (liveT tb : Int) lb ∧ (∀ q, Ga q → ¬ Gb q) ∧ (∀ q, Ga q → w.heap.size ≤ q) ∧ (∀ q, Gb q → w.heap.size ≤ q) ∧ (∀ b o, A = some ⟨b, o, none⟩ → b < wr.heap.size ∧ ¬ Ga b ∧ ¬ Gb b)) {Ga' : Nat → Prop} {ta' : Tb} {la' : Int}
    (hM : SM w1 Ga' sa ta' (liveT ta' : Int) la') (hC : Cg wr w1 Ga Ga') : TwoT w w1 sa sb ta' tb la' lb A m xs := by
  obtain ⟨Gb, g2, g3, g4, g5, g6⟩ := h1
  have hl := hC.low h.b.size g4
  refine ⟨⟨Ga', Gb, hM, g2.keep fun q hq => hC.ch.block q (g2.lt hq) (fun e => g3 q e hq), fun q e1 e2 => ?_, hl.2, g5, fun b o e => ?_⟩, h.b.trans hl.1, h.row.same fun b o e => hC.ch.block b (g6 b o e).1 (g6 b o e).2.1⟩
  · rcases hC.fr q e1 with e | e
    · exact g3 q e e2
    · have := g2.lt e2; omega
  · obtain ⟨k1, k2, k3⟩ := g6 b o e
    refine ⟨Nat.lt_of_lt_of_le k1 hC.ch.size, fun e1 => ?_, k3⟩
    rcases hC.fr b e1 with e2 | e2
    · exact k2 e2
    · omega
theorem TwoT.apply (h : TwoT w wr sa sb ta tb la lb A m xs) (q : Int) {B : Option Addr} {c : Nat} {ws : List Wr} (hr : Wrs wr B ws) (hK : NumW ws) (hl : ws.length ≤ 50000) (hN : ∀ i, i < 4 → (ta i).length ≤ 50000) :
    Calls Try.prog 16 #[.pointer (some ⟨sa, 0, none⟩), .int .i64 q, .slice B ws.length c] wr fun e w' => e = .returned (errV (apN q ta ws)) ∧ ∃ ta' la', TwoT w w' sa sb ta' tb la' lb A m xs ∧ ApOut q ta ws (apN q ta ws) la ta' la' := by
  obtain ⟨Ga, Gb, h1, h2, h3, h4, h5, h6⟩ := h.ex
  refine Calls.mono (apply_any q h1 hr hK hl hN) ?_
  rintro e w' ⟨rfl, G', ta', la', g1, g2, g3⟩
  exact ⟨rfl, ta', la', h.turn ⟨Gb, h2, h3, h4, h5, h6⟩ g1 g2, g3⟩
theorem TwoT.force (h : TwoT w wr sa sb ta tb la lb A m xs) (q : Int) {B : Option Addr} {c : Nat} {ws : List Wr} (hr : Wrs wr B ws) (hK : NumW ws) (hl : ws.length ≤ 50000) (hN : ∀ i, i < 4 → (ta i).length ≤ 50000) :
    Calls Try.prog 33 #[.pointer (some ⟨sa, 0, none⟩), .int .i64 q, .slice B ws.length c] wr fun e w' => e = .returned (errV (if takB q ws then 0 else 1)) ∧ ∃ ta' la', TwoT w w' sa sb ta' tb la' lb A m xs ∧ (takB q ws = true → ta' = forceT q ta ws ∧ la' = max la q) ∧ (takB q ws = false → ta' = ta ∧ la' = la) := by
  obtain ⟨Ga, Gb, h1, h2, h3, h4, h5, h6⟩ := h.ex
  cases ht : takB q ws
  · refine Calls.mono (force_bad q hr hl ht) ?_
    rintro e w' ⟨rfl, hb⟩
    exact ⟨rfl, ta, la, h.below hb, (fun h => by cases h), fun _ => ⟨rfl, rfl⟩⟩
  · refine Calls.mono (force_any q h1 hr hK hl hN ht) ?_
    rintro e w' ⟨rfl, G', g1, g2⟩
    exact ⟨rfl, _, _, h.turn ⟨Gb, h2, h3, h4, h5, h6⟩ g1 g2, fun _ => ⟨rfl, rfl⟩, (fun h => by cases h)⟩
theorem TwoT.live (h : TwoT w wr sa sb ta tb la lb A m xs) : Calls Try.prog 29 #[.pointer (some ⟨sa, 0, none⟩)] wr fun e w' => e = .returned (.int .i64 (liveT ta : Int)) ∧ wr = w' := by
  obtain ⟨Ga, Gb, h1, _⟩ := h.ex
  exact slive_any h1
theorem TwoT.last (h : TwoT w wr sa sb ta tb la lb A m xs) : Calls Try.prog 30 #[.pointer (some ⟨sa, 0, none⟩)] wr fun e w' => e = .returned (.int .i64 la) ∧ wr = w' := by
  obtain ⟨Ga, Gb, h1, _⟩ := h.ex
  exact slast_any h1
theorem TwoT.put (h : TwoT w wr sa sb ta tb la lb A m xs) (hN : ∀ i, i < 4 → (ta i).length ≤ 100000) (hnum : NumT ta) : Calls Try.prog 28 #[.pointer (some ⟨sa, 0, none⟩)] wr fun e w' => ∃ A c, e = .returned (.slice A (putB ta).length c) ∧ Rdv w' A (putB ta).length 1 (valsB (putB ta)) ∧ Below wr.heap.size wr w' := by
  obtain ⟨Ga, Gb, h1, _⟩ := h.ex
  refine Calls.mono (sput_any h1 hN hnum) ?_
  rintro e w' ⟨A, c, e1, e2, _, e3⟩
  exact ⟨A, c, e1, e2, e3⟩
theorem TwoT.start {w w3 w4 w5 : World} {G3 Gc : Nat → Prop} {ts : Tb} {la : Int} (hw : Below w.heap.size w w3) (h1 : SM w3 G3 sa ts (liveT ts : Int) la) (g1 : ∀ q, G3 q → w.heap.size ≤ q) (hr : Rdv w4 A m 1 (valsB xs)) (hm : 0 < m) (hA : ∀ b o, A = some ⟨b, o, none⟩ → w3.heap.size ≤ b) (b4 : Below w3.heap.size w3 w4)
    (h2 : SM w5 Gc sb ts (liveT ts : Int) la) (g2 : ∀ q, Gc q → w4.heap.size ≤ q) (b5 : Below w4.heap.size w4 w5) : TwoT w w5 sa sb ts ts la la A m xs := by
  refine ⟨⟨G3, Gc, (h1.below b4).below b5, h2, fun q e1 e2 => ?_, g1, fun q e => ?_, fun b o e => ?_⟩, hw.trans ((b4.trans (b5.mono b4.size)).mono hw.size), hr.ext fun _ hp => b5.cell hp⟩
  · have := h1.lt e1; have := g2 q e2; have := b4.size; omega
  · have := g2 q e; have := b4.size; have := hw.size; omega
  · have k1 := hA b o e
    subst e
    have k2 := hr.blockLt hm (by decide)
    exact ⟨Nat.lt_of_lt_of_le k2 b5.size, fun e1 => by have := h1.lt e1; omega, fun e1 => by have := g2 b e1; omega⟩
theorem putB_pos (ts : Tb) : 0 < (putB ts).length := by
  unfold putB
  rw [List.length_append, List.length_append]
  simp only [List.length_cons, List.length_nil]
  omega
end
end Go.Proofs.Ytejpjbmbcdgomaa
