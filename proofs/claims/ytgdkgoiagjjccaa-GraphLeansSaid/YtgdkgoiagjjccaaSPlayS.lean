/- Rows of rows copied; a copy turned; a plan beside the document's. -/
import Derived.Test.YtgdkgoiagjjccaaSRefN
import Derived.Test.YtgdkgoiagjjccaaSStand
import Derived.Test.YtgdkgoiagjjccaaSOnce
namespace Go.Proofs.Ytgdkgoiagjjccaa
set_option maxRecDepth 100000
open Go.RowKit

/-- A nil row has no room. -/
def Nok (W : World) (A : Option Addr) (n : Nat) : Prop := ∀ b off, A = some ⟨b, off, none⟩ → ∀ j, j < n → ∀ A' L c', W.cell? ⟨b, off + j, none⟩ = some (.slice A' L c') → A' = none → c' = 0
def rowsV (ra : Nat → Option Addr) (rc : Nat → Nat) (ls : List (List Int)) (k : Nat) : List Value := (List.range k).map fun j => .slice (ra j) (ls.getD j []).length (rc j)
theorem rowsV_succ (ra : Nat → Option Addr) (rc : Nat → Nat) (ls : List (List Int)) (k : Nat) : rowsV ra rc ls (k + 1) = rowsV ra rc ls k ++ [.slice (ra k) (ls.getD k []).length (rc k)] := by
  unfold rowsV
  rw [List.range_succ, List.map_append]
  rfl
theorem rowsV_upd (ra : Nat → Option Addr) (rc : Nat → Nat) (ls : List (List Int)) (k : Nat) (a : Option Addr) (c : Nat) : rowsV (upd ra k a) (upd rc k c) ls k = rowsV ra rc ls k := by
  unfold rowsV
  refine List.map_congr_left fun j hj => ?_
  have : j ≠ k := by have := List.mem_range.1 hj; omega
  rw [upd_other _ _ this, upd_other _ _ this]
/-- A copy of rows, as far as made. -/
structure CL (W0 : World) (ls : List (List Int)) (ra : Nat → Option Addr) (rc : Nat → Nat) (A : Option Addr) (c k : Nat) (W : World) : Prop where
  below : Below W0.heap.size W0 W
  outer : W.ownsRow W0.heap.size 38 1 (.slice A k c) k (rowsV ra rc ls k)
  inner : ∀ j, j < k → W.ownsRow W0.heap.size 3 1 (.slice (ra j) (ls.getD j []).length (rc j)) (ls.getD j []).length (valsZ (ls.getD j []))
section
variable {W0 : World} {ls : List (List Int)} {ra : Nat → Option Addr} {rc : Nat → Nat} {A : Option Addr} {c k : Nat} {W : World}
theorem CL.ext (h : CL W0 ls ra rc A c k W) {W' : World} (hb : Below W.heap.size W W') : CL W0 ls ra rc A c k W' :=
  ⟨h.below.trans (hb.mono h.below.size), ownsRow_ext h.outer hb, fun j hj => ownsRow_ext (h.inner j hj) hb⟩
/-- A row more: made at w1, appended at w3. -/
theorem CL.push (h : CL W0 ls ra rc A c k W) {A1 : Option Addr} {c1 : Nat} {A3 : Option Addr} {c3 : Nat} {w1 w2 w3 : World} (hb1 : Below W.heap.size W w1) (ho1 : w1.ownsRow W0.heap.size 3 1 (.slice A1 (ls.getD k []).length c1) (ls.getD k []).length (valsZ (ls.getD k [])))
    (hb2 : Below w1.heap.size w1 w2) (ho3 : w3.ownsRow W0.heap.size 38 1 (.slice A3 (k + 1) c3) (k + 1) (rowsV ra rc ls k ++ [.slice A1 (ls.getD k []).length c1])) (hb3 : Below W0.heap.size w2 w3) (hk : ∀ q, q < w2.heap.size → some q ≠ (Value.slice A k c).ownBlock → w3.heap[q]? = w2.heap[q]?) :
    CL W0 ls (upd ra k A1) (upd rc k c1) A3 c3 (k + 1) w3 := by
  have h2 := (h.ext hb1).ext hb2
  have ho2 := ownsRow_ext ho1 hb2
  refine ⟨h2.below.trans hb3, ?_, fun j hj => ?_⟩
  · rw [rowsV_succ, rowsV_upd, upd_same, upd_same]; exact ho3
  · by_cases e : j = k
    · subst e
      rw [upd_same, upd_same]
      exact own_stays ho2 fun q hq => hk q (ho2.lt q hq).2 (own_apart ho2 h2.outer (by decide) q hq)
    · rw [upd_other _ _ e, upd_other _ _ e]
      have hj2 := h2.inner j (by omega)
      exact own_stays hj2 fun q hq => hk q (hj2.lt q hq).2 (own_apart hj2 h2.outer (by decide) q hq)
theorem rows_own {n : Nat} (h : CL W0 ls ra rc A c n W) (hl : ls.length = n) (hn : n ≤ 9223372036854775807) (hf : ∀ j, ∀ x ∈ ls.getD j [], Fits x) (hL : ∀ j, (ls.getD j []).length ≤ 9223372036854775807) : Rws W A n ls := by
  obtain ⟨A', c', e, hr, _, _⟩ := rdv_own h.outer
  injection e with e _ e2
  subst e e2
  refine ⟨hl, hn, fun hn0 => ?_⟩
  obtain ⟨b, off, eA, hc⟩ := hr.2 hn0
  refine ⟨b, off, eA, fun j hj => ?_⟩
  have h1 := hc j _ (by unfold rowsV; rw [List.getElem?_map, List.getElem?_range hj]; rfl)
  obtain ⟨A5, c5, e5, hn5, _, _⟩ := nums_own (h.inner j hj) (hf j)
  injection e5 with e5 _ e6
  subst e5 e6
  exact ⟨_, _, h1, hn5, hL j⟩
end
theorem elem56 : ElemT Try.prog 56 38 1 24 :=
  ⟨Try.underlying56, by kernel_rfl, by
    obtain ⟨i, hi, hz, h1, _⟩ := info_parts (show (Try.prog.info? 38).map (fun i => (i.zero, i.size, i.bytes)) = some (some (.slice none 0 0), 1, 24) by kernel_rfl)
    exact ⟨i, _, hi, hz, rfl⟩, by decide⟩

/-- Copies that are turned: nothing else is touched. -/
structure MI (lo hi : Nat) (Wn : World) (ls : List (List Int)) (ra : Nat → Option Addr) (rc : Nat → Nat) (A : Option Addr) (n : Nat) (Ai : Option Addr) (W : World) : Prop where
  os : W.os = Wn.os
  tape : W.tape = Wn.tape
  output : W.output = Wn.output
  size : Wn.heap.size ≤ W.heap.size
  block : ∀ q, q < Wn.heap.size → q < lo ∨ hi ≤ q → W.heap[q]? = Wn.heap[q]?
  outer : 0 < n → ∃ bo, A = some ⟨bo, 0, none⟩ ∧ (∀ j, j < n → W.cell? ⟨bo, j, none⟩ = some (.slice (ra j) (ls.getD j []).length (rc j))) ∧ (∀ j, j < n → ∀ b, ra j = some b → b.block ≠ bo) ∧ ∀ a, Ai = some a → a.block ≠ bo
  inner : ∀ j, j < n → 0 < (ls.getD j []).length → ∃ b, ra j = some ⟨b, 0, none⟩ ∧ lo ≤ b ∧ b < hi ∧ (∀ o, W.frozen? ⟨b, o, none⟩ = false) ∧ (∀ a, Ai = some a → a.block ≠ b) ∧ ∀ u, u < (ls.getD j []).length → ∃ z : Int, W.cell? ⟨b, u, none⟩ = some (.int .i64 z)
  idle : 0 < n → ∃ b, Ai = some ⟨b, 0, none⟩ ∧ lo ≤ b ∧ b < hi ∧ (∀ o, W.frozen? ⟨b, o, none⟩ = false) ∧ ∀ u, u < n → ∃ z : Bool, W.cell? ⟨b, u, none⟩ = some (.bool z)
section
variable {lo hi : Nat} {Wn : World} {ls : List (List Int)} {ra : Nat → Option Addr} {rc : Nat → Nat} {A : Option Addr} {n : Nat} {Ai : Option Addr} {W : World}
theorem MI.store (h : MI lo hi Wn ls ra rc A n Ai W) {b u : Nat} {v : Value} (hb : lo ≤ b ∧ b < hi) (ho : 0 < n → ∀ bo, A = some ⟨bo, 0, none⟩ → b ≠ bo)
    (hi1 : (∃ z, v = .int .i64 z) ∧ (∀ a, Ai = some a → a.block ≠ b) ∨ (∃ z, v = .bool z) ∧ ∀ j, j < n → ∀ a, ra j = some a → 0 < (ls.getD j []).length → a.block ≠ b) : MI lo hi Wn ls ra rc A n Ai (W.setCell ⟨b, u, none⟩ v) := by
  refine ⟨h.os, h.tape, h.output, by rw [World.size_setCell]; exact h.size, fun q hq hlh => (Below.heap_setCell _ _ _ _ (by show q ≠ b; omega)).trans (h.block q hq hlh), fun hn => ?_, fun j hj hL => ?_, fun hn => ?_⟩
  · obtain ⟨bo, e, h1, h2, h3⟩ := h.outer hn
    refine ⟨bo, e, fun j hj => ?_, h2, h3⟩
    rw [set_blk (ho hn bo e)]; exact h1 j hj
  · obtain ⟨bj, e, l1, l2, fr, h3, h4⟩ := h.inner j hj hL
    refine ⟨bj, e, l1, l2, fun o => by rw [World.frozen?_setCell]; exact fr o, h3, fun x hx => ?_⟩
    obtain ⟨z, hz⟩ := h4 x hx
    by_cases e2 : b = bj
    · subst e2
      rcases hi1 with ⟨⟨y, rfl⟩, _⟩ | ⟨_, h5⟩
      · by_cases e3 : x = u
        · subst e3; exact ⟨y, set_same hz⟩
        · exact ⟨z, by rw [set_off e3]; exact hz⟩
      · exact absurd rfl (h5 j hj _ e hL)
    · exact ⟨z, by rw [set_blk e2]; exact hz⟩
  · obtain ⟨bi, e, l1, l2, fr, h4⟩ := h.idle hn
    refine ⟨bi, e, l1, l2, fun o => by rw [World.frozen?_setCell]; exact fr o, fun x hx => ?_⟩
    obtain ⟨z, hz⟩ := h4 x hx
    by_cases e2 : b = bi
    · subst e2
      rcases hi1 with ⟨_, h5⟩ | ⟨⟨y, rfl⟩, _⟩
      · exact absurd rfl (h5 _ e)
      · by_cases e3 : x = u
        · subst e3; exact ⟨y, set_same hz⟩
        · exact ⟨z, by rw [set_off e3]; exact hz⟩
    · exact ⟨z, by rw [set_blk e2]; exact hz⟩
theorem MI.below (h : MI lo hi Wn ls ra rc A n Ai W) {B : Nat} {w : World} (hb : Below B w Wn) (hl : B ≤ lo) (hz : B ≤ Wn.heap.size) : Below B w W :=
  ⟨h.os.trans hb.os, h.tape.trans hb.tape, h.output.trans hb.output, Nat.le_trans hb.size h.size, fun k hk => (h.block k (by omega) (.inl (by omega))).trans (hb.block k hk)⟩
theorem MI.plan (h : MI lo hi Wn ls ra rc A n Ai W) {bp bt bw : Nat} {s : PS} {sa : Nat → Option Addr} {sc : Nat → Nat} (hp : PlanAt hi Wn bp bt bw s sa sc) : PlanAt hi W bp bt bw s sa sc :=
  hp.ext (fun k h1 h2 => h.block k h2 (.inr h1)) h.size
end
/-- The document's plan stands where its blocks stay. -/
theorem RefR.stays {W W' : World} {A A2 A3 A4 : Option Addr} {ls : List (List Int)} {s : PS} (h : RefR W A A2 A3 A4 ls s) (hl : Rws W' A s.n ls) (hs : ∀ a, (A2 = some a ∧ 0 < s.n) ∨ A3 = some a ∨ A4 = some a → W'.heap[a.block]? = W.heap[a.block]?) : RefR W' A A2 A3 A4 ls s := by
  refine ⟨hl, bls_block h.ended fun a ha hn => hs a (.inl ⟨ha, hn⟩), ⟨h.has.1, h.has.2.1, fun hn => ?_⟩, bls_block h.ran fun a ha hn => hs a (.inr (.inr ha))⟩
  obtain ⟨b, off, e, hc⟩ := h.has.2.2 hn
  have hb : W'.heap[b]? = W.heap[b]? := hs _ (.inr (.inl e))
  exact ⟨b, off, e, fun j hj => (World.cell?_of_block (a := ⟨b, off + j, none⟩) hb).trans (hc j hj)⟩
theorem RefR.lt {W : World} {A A2 A3 A4 : Option Addr} {ls : List (List Int)} {s : PS} (h : RefR W A A2 A3 A4 ls s) (hm : 0 < s.m) : ∀ a : Addr, (A2 = some a ∧ 0 < s.n) ∨ A3 = some a ∨ A4 = some a → a.block < W.heap.size := by
  intro a ha
  have go : ∀ {b off o : Nat} {v : Value}, a = ⟨b, off, none⟩ → W.cell? ⟨b, o, none⟩ = some v → a.block < W.heap.size := fun {b off o v} e hc => by
    have h5 : (⟨b, o, none⟩ : Addr).block < W.heap.size := World.block_lt_of_cell? _ _ hc
    rw [e]; exact h5
  rcases ha with ⟨h3, h4⟩ | h3 | h3
  · obtain ⟨b, off, e, hc⟩ := h.ended.2.2 h4
    rw [h3] at e
    injection e with e
    exact go e (hc 0 h4)
  · obtain ⟨b, off, e, hc⟩ := h.has.2.2 hm
    rw [h3] at e
    injection e with e
    exact go e (hc 0 hm)
  · obtain ⟨b, off, e, hc⟩ := h.ran.2.2 hm
    rw [h3] at e
    injection e with e
    exact go e (hc 0 hm)
/-- A plan beside the document's. -/
structure PI (w : World) (hi E g : Nat) (A : Option Addr) (n c m : Nat) (ls : List (List Int)) (bp bt bw : Nat) (sa : Nat → Option Addr) (sc : Nat → Nat) (s : PS) (A2 : Option Addr) (c2 : Nat) (A3 : Option Addr) (c3 : Nat) (A4 : Option Addr) (c4 : Nat) (W : World) : Prop where
  below : Below w.heap.size w W
  plan : PlanAt hi W bp bt bw s sa sc
  ref : RefR W A A2 A3 A4 ls s
  inv : Inv ls s
  hn : s.n = n
  hm : s.m = m
  nil : (A2 = none → c2 = 0) ∧ (A3 = none → c3 = 0) ∧ (A4 = none → c4 = 0)
  box : W.heap[g]? = some (.cells #[.slice A n c, .slice A2 n c2, .slice A3 m c3, .slice A4 m c4, .int .i64 s.picks] 74 (0, 0))
  low : w.heap.size ≤ hi ∧ bp < E ∧ bt < E ∧ bw < E ∧ E ≤ g ∧ g < W.heap.size
  away : ∀ a, (A2 = some a ∧ 0 < n) ∨ A3 = some a ∨ A4 = some a → E ≤ a.block ∧ a.block ≠ g
  rows : ∀ i, i < n → ∀ a, sa i = some a → a.block < E
section
variable {w : World} {hi E g : Nat} {A : Option Addr} {n c m : Nat} {ls : List (List Int)} {bp bt bw : Nat} {sa : Nat → Option Addr} {sc : Nat → Nat} {s : PS} {A2 : Option Addr} {c2 : Nat} {A3 : Option Addr} {c3 : Nat} {A4 : Option Addr} {c4 : Nat} {W : World}
/-- Behind a pick the document's plan is as it was. -/
theorem PI.picked (h : PI w hi E g A n c m ls bp bt bw sa sc s A2 c2 A3 c3 A4 c4 W) (hL : Rws w A n ls) {W1 : World} (hf : Fr [bp, bt, bw] W W1) :
    Below w.heap.size w W1 ∧ RefR W1 A A2 A3 A4 ls s ∧ W1.heap[g]? = some (.cells #[.slice A n c, .slice A2 n c2, .slice A3 m c3, .slice A4 m c4, .int .i64 s.picks] 74 (0, 0)) := by
  obtain ⟨l1, l2, l3, l4, l5, l6⟩ := h.low
  have hlo := h.plan.lo
  have hB : Below w.heap.size w W1 := Fr.below h.below hf h.below.size (by intro b hb; simp at hb; omega)
  have keep : ∀ q, q < W.heap.size → E ≤ q → W1.heap[q]? = W.heap[q]? := fun q hq he => hf.block q hq (by simp; omega)
  refine ⟨hB, h.ref.stays (by rw [h.hn]; exact hL.below hB) fun a ha => ?_, (keep g l6 l5).trans h.box⟩
  rw [h.hn] at ha
  have h1 := (h.away a ha).1
  rcases Nat.lt_or_ge a.block W.heap.size with h2 | h2
  · exact keep _ h2 h1
  · -- a row whose block isn't there has no cells: it can't be
    exfalso
    have no : ∀ (o : Nat) (v : Value), W.cell? ⟨a.block, o, none⟩ = some v → False := fun o v hc => by
      have h5 : (⟨a.block, o, none⟩ : Addr).block < W.heap.size := World.block_lt_of_cell? _ _ hc
      change a.block < _ at h5
      omega
    rcases ha with ⟨h3, h4⟩ | h3 | h3
    · obtain ⟨b, off, e, hc⟩ := h.ref.ended.2.2 (by rw [h.hn]; exact h4)
      rw [h3] at e
      injection e with e
      have hc0 := hc 0 (by rw [h.hn]; exact h4)
      rw [e] at no
      exact no _ _ hc0
    · obtain ⟨b, off, e, hc⟩ := h.ref.has.2.2 (by have := h.inv.pos; omega)
      rw [h3] at e
      injection e with e
      have hc0 := hc 0 (by have := h.inv.pos; omega)
      rw [e] at no
      exact no _ _ hc0
    · obtain ⟨b, off, e, hc⟩ := h.ref.ran.2.2 (by have := h.inv.pos; omega)
      rw [h3] at e
      injection e with e
      have hc0 := hc 0 (by have := h.inv.pos; omega)
      rw [e] at no
      exact no _ _ hc0
/-- Behind both picks, and the store of the document's plan. -/
theorem PI.next (h : PI w hi E g A n c m ls bp bt bw sa sc s A2 c2 A3 c3 A4 c4 W) (hL : Rws w A n ls) {s' : PS} {W1 W2 W3 W4 : World} (hp : PlanAt hi W1 bp bt bw s' sa sc) (hf : Fr [bp, bt, bw] W W1) (hI : Inv ls s') (hn : s'.n = n) (hm : s'.m = m) (hb2 : Below W1.heap.size W1 W2)
    {A5 : Option Addr} {c5 : Nat} {A6 : Option Addr} {c6 : Nat} {A7 : Option Addr} {c7 : Nat} (hr : RefR W3 A A5 A6 A7 ls s') (hnil : (A5 = none → c5 = 0) ∧ (A6 = none → c6 = 0) ∧ (A7 = none → c7 = 0)) (hb3 : Below W2.heap.size W2 W3) (hfr : (A5 = A2 ∧ A6 = A3 ∧ A7 = A4) ∨ ∀ a, A5 = some a ∨ A6 = some a ∨ A7 = some a → W2.heap.size ≤ a.block) (hb4 : Below W3.heap.size W3 W4) :
    PI w hi E g A n c m ls bp bt bw sa sc s' A5 c5 A6 c6 A7 c7 (((((W4.setCell ⟨g, 0, none⟩ (.slice A n c)).setCell ⟨g, 1, none⟩ (.slice A5 n c5)).setCell ⟨g, 2, none⟩ (.slice A6 m c6)).setCell ⟨g, 3, none⟩ (.slice A7 m c7)).setCell ⟨g, 4, none⟩ (.int .i64 s'.picks)) := by
  obtain ⟨l1, l2, l3, l4, l5, l6⟩ := h.low
  obtain ⟨k1, k2, k3⟩ := h.picked hL hf
  have z1 := hf.size
  have z2 := hb2.size
  have z3 := hb3.size
  have z4 := hb4.size
  have h24 : Below W1.heap.size W1 W4 := (hb2.trans (hb3.mono z2)).trans (hb4.mono (by omega))
  have hB4 : Below w.heap.size w W4 := k1.trans (h24.mono k1.size)
  have hlo := h.plan.lo
  have hg : w.heap.size ≤ g := by omega
  have hB5 := set5_below hB4 hg (.slice A n c) (.slice A5 n c5) (.slice A6 m c6) (.slice A7 m c7) (.int .i64 s'.picks)
  have hP4 := hp.below h24
  have hrow : ∀ i, i < s'.n → ∀ a, sa i = some a → a.block ≠ g := fun i hi a ha => by have := h.rows i (by omega) a ha; omega
  have gn : g ≠ bp ∧ g ≠ bt ∧ g ≠ bw := ⟨by omega, by omega, by omega⟩
  have away : ∀ a, (A5 = some a ∧ 0 < n) ∨ A6 = some a ∨ A7 = some a → E ≤ a.block ∧ a.block ≠ g := fun a ha => by
    rcases hfr with ⟨rfl, rfl, rfl⟩ | hfr
    · exact h.away a ha
    · have := hfr a (by rcases ha with ⟨h1, _⟩ | h1 | h1 <;> simp [h1])
      exact ⟨by omega, by omega⟩
  refine ⟨hB5, ((((hP4.setFar gn hrow 0 _).setFar gn hrow 1 _).setFar gn hrow 2 _).setFar gn hrow 3 _).setFar gn hrow 4 _, (hr.below hb4).stays (by rw [hn]; exact hL.below hB5) fun a ha => ?_, hI, hn, hm, hnil, q_set ((h24.block g (by omega)).trans k3), ⟨l1, l2, l3, l4, l5, by simp only [World.size_setCell]; omega⟩, away, h.rows⟩
  have hne := (away a (by rw [← hn]; exact ha)).2
  exact (Below.heap_setCell _ _ _ _ hne).trans ((Below.heap_setCell _ _ _ _ hne).trans ((Below.heap_setCell _ _ _ _ hne).trans ((Below.heap_setCell _ _ _ _ hne).trans (Below.heap_setCell _ _ _ _ hne))))
theorem PI.ext (h : PI w hi E g A n c m ls bp bt bw sa sc s A2 c2 A3 c3 A4 c4 W) {W' : World} (hb : Below W.heap.size W W') : PI w hi E g A n c m ls bp bt bw sa sc s A2 c2 A3 c3 A4 c4 W' :=
  ⟨h.below.trans (hb.mono h.below.size), h.plan.below hb, h.ref.below hb, h.inv, h.hn, h.hm, h.nil, (hb.block g h.low.2.2.2.2.2).trans h.box, ⟨h.low.1, h.low.2.1, h.low.2.2.1, h.low.2.2.2.1, h.low.2.2.2.2.1, Nat.lt_of_lt_of_le h.low.2.2.2.2.2 hb.size⟩, h.away, h.rows⟩
end
theorem pi_start {w W5 W6 W7 W8 : World} {lo : Nat} {ls : List (List Int)} {ra : Nat → Option Addr} {rc : Nat → Nat} {A A1 Ai : Option Addr} {n c m : Nat} {bp bt bw : Nat} {sa : Nat → Option Addr} {sc : Nat → Nat} {s : PS} {A2 : Option Addr} {c2 : Nat} {A3 : Option Addr} {c3 : Nat} {A4 : Option Addr} {c4 : Nat}
    (hL : Rws w A n ls) (h5 : Below w.heap.size w W5) (hp : PlanAt W5.heap.size W6 bp bt bw s sa sc) (h6 : Below W5.heap.size W5 W6) (hr : RefR W7 A A2 A3 A4 ls s) (h7 : Below W6.heap.size W6 W7) (h8 : Below W7.heap.size W7 W8)
    (hfr : ∀ a, (A2 = some a ∧ 0 < n) ∨ A3 = some a ∨ A4 = some a → W6.heap.size ≤ a.block) (hI : Inv ls s) (hn : s.n = n) (hm : s.m = m) (hnil : (A2 = none → c2 = 0) ∧ (A3 = none → c3 = 0) ∧ (A4 = none → c4 = 0)) (hbox : W8.heap[W7.heap.size]? = some (.cells #[.slice A n c, .slice A2 n c2, .slice A3 m c3, .slice A4 m c4, .int .i64 s.picks] 74 (0, 0)))
    (hlo : w.heap.size ≤ lo) {W9 : World} (M : MI lo W5.heap.size W8 ls ra rc A1 n Ai W9) : PI w W5.heap.size W6.heap.size W7.heap.size A n c m ls bp bt bw sa sc s A2 c2 A3 c3 A4 c4 W9 := by
  have z5 := h5.size
  have z6 := h6.size
  have z7 := h7.size
  have z8 := h8.size
  have hlt := hr.lt (by have := hI.pos; omega)
  rw [hn] at hlt
  have g8 := (Array.getElem?_eq_some_iff.1 hbox).1
  have h68 := h7.trans (h8.mono z7)
  have h58 := h6.trans (h68.mono z6)
  have h08 : Below w.heap.size w W8 := h5.trans (h58.mono z5)
  have hB := M.below h08 hlo (by omega)
  refine ⟨hB, M.plan (hp.below h68), (hr.below h8).stays (by rw [hn]; exact hL.below hB) fun a ha => ?_, hI, hn, hm, hnil, (M.block _ g8 (.inr (by omega))).trans hbox, ⟨z5, hp.hi.1, hp.hi.2.1, hp.hi.2.2, z7, Nat.lt_of_lt_of_le g8 M.size⟩, fun a ha => ⟨hfr a ha, by have := hlt a ha; omega⟩, fun i hi a ha => ?_⟩
  · rw [hn] at ha
    have h1 := hfr a ha
    have h2 := hlt a ha
    exact M.block _ (by omega) (.inr (by omega))
  · exact ((hp.own i (by omega)).lt a.block (by rw [ha]; rfl)).2
theorem fields81 : (Try.prog.fieldsOf 81).toList = [{ name := "Kind", type := 3, offset := 0, embedded := false, tag := "", pkgPath := "", byteOffset := 0 }, { name := "Task", type := 3, offset := 1, embedded := false, tag := "", pkgPath := "", byteOffset := 8 }, { name := "Worker", type := 3, offset := 2, embedded := false, tag := "", pkgPath := "", byteOffset := 16 }] := by kernel_rfl
theorem neq_ev81 (w : World) (a b c : Int) : (binOp .neq 81 (.agg #[.int .i64 a, .int .i64 b, .int .i64 c]) (.agg #[.int .i64 a, .int .i64 b, .int .i64 c])).run Try.prog w = .ok (.bool false) w := by
  have h : (Op.equalIn (9998 + 2) 81 (.agg #[.int .i64 a, .int .i64 b, .int .i64 c]) (.agg #[.int .i64 a, .int .i64 b, .int .i64 c])).run Try.prog w = .ok true w := by
    rw [run_equalIn_struct w (9998 + 1) 81 _ _ Try.underlying81 (by kernel_rfl), fields81]
    have e : (true : Bool) = (decide (a = a) && (decide (b = b) && (decide (c = c) && true))) := by simp
    rw [e]
    refine eq_step3 _ w _ _ _ _ _ _ _ rfl (by decide) (part_int3 w _ _ _ rfl) (part_int3 w _ _ _ rfl) ?_
    refine eq_step3 _ w _ _ _ _ _ _ _ rfl (by decide) (part_int3 w _ _ _ rfl) (part_int3 w _ _ _ rfl) ?_
    refine eq_step3 _ w _ _ _ _ _ _ _ rfl (by decide) (part_int3 w _ _ _ rfl) (part_int3 w _ _ _ rfl) ?_
    simp [Op.eqFields]
  rw [run_neq_struct, show (10000 : Nat) = 9998 + 2 from rfl, h]
  rfl
end Go.Proofs.Ytgdkgoiagjjccaa
