/- A number more in a task's row. -/
import Derived.Test.YtgdkgoiagjjccaaSGood
import Derived.Deep.AppendLies
namespace Go.Proofs.Ytgdkgoiagjjccaa
set_option maxRecDepth 100000
open Go.RowKit

/-- A task's row has been appended to, but isn't stored yet. -/
structure Push (B : Nat) (W : World) (bp bt bw : Nat) (s : PS) (sa : Nat → Option Addr) (j g cap : Nat) (k : Int) (w1 : World) : Prop where
  size : W.heap.size ≤ w1.heap.size
  below : Below B W w1
  p : w1.heap[bp]? = W.heap[bp]?
  t : w1.heap[bt]? = W.heap[bt]?
  w : w1.heap[bw]? = W.heap[bw]?
  own : w1.ownsRow B 3 1 (.slice (some ⟨g, 0, none⟩) ((s.ln j).length + 1) cap) ((s.ln j).length + 1) (valsZ (s.ln j ++ [k]))
  rows : ∀ i, i < s.n → i ≠ j → ∀ a, sa i = some a → w1.heap[a.block]? = W.heap[a.block]?
  away : g ≠ bp ∧ g ≠ bt ∧ g ≠ bw
  apart : ∀ i, i < s.n → i ≠ j → ∀ a, sa i = some a → a.block ≠ g
theorem Push.cells {B : Nat} {W : World} {bp bt bw : Nat} {s : PS} {sa : Nat → Option Addr} {sc : Nat → Nat} {j g cap : Nat} {k : Int} {w1 : World} (h : PlanAt B W bp bt bw s sa sc) (hp : Push B W bp bt bw s sa j g cap k w1) (hj : j < s.n) :
    w1.cell? ⟨bp, 0, none⟩ = some (.slice (some ⟨bt, 0, none⟩) s.n s.n) ∧ w1.cell? ⟨bt, j * 4 + 3, none⟩ = some (.slice (sa j) (s.ln j).length (sc j)) ∧ w1.frozen? ⟨bt, j * 4 + 3, none⟩ = false :=
  ⟨((cell_frozen hp.p).1 0).trans h.pl.1, ((cell_frozen hp.t).1 _).trans (h.tk j hj).2.2.2, ((cell_frozen hp.t).2 _).trans (h.tf _)⟩
def PS.push (s : PS) (j : Nat) (k : Int) : PS := { s with ln := upd s.ln j (s.ln j ++ [k]) }
/-- It is stored. -/
theorem Push.stored {B : Nat} {W : World} {bp bt bw : Nat} {s : PS} {sa : Nat → Option Addr} {sc : Nat → Nat} {j g cap : Nat} {k : Int} {w1 : World} (h : PlanAt B W bp bt bw s sa sc) (hp : Push B W bp bt bw s sa j g cap k w1) (hj : j < s.n) :
    PlanAt B (w1.setCell ⟨bt, j * 4 + 3, none⟩ (.slice (some ⟨g, 0, none⟩) ((s.ln j).length + 1) cap)) bp bt bw (s.push j k) (upd sa j (some ⟨g, 0, none⟩)) (upd sc j cap) := by
  obtain ⟨p1, p2⟩ := cell_frozen hp.p
  obtain ⟨t1, t2⟩ := cell_frozen hp.t
  obtain ⟨w1', w2⟩ := cell_frozen hp.w
  have hz := hp.size
  refine ⟨h.lo, h.ap, ⟨by rw [World.size_setCell]; have := h.hi.1; omega, by rw [World.size_setCell]; have := h.hi.2.1; omega, by rw [World.size_setCell]; have := h.hi.2.2; omega⟩, h.big, ?_, fun q => by rw [World.frozen?_setCell, p2]; exact h.pf q, fun i hi => ?_, fun q => by rw [World.frozen?_setCell, t2]; exact h.tf q, fun i hi => ?_,
    fun q => by rw [World.frozen?_setCell, w2]; exact h.wf q, fun i hi => ?_, fun i hi a ha => ?_, fun x y hx hy hxy a b ha hb => ?_⟩
  · rw [set_blk h.ap.1.symm, set_blk h.ap.1.symm, set_blk h.ap.1.symm, set_blk h.ap.1.symm, p1, p1, p1, p1]; exact h.pl
  · obtain ⟨a, b, c, d⟩ := h.tk i hi
    refine ⟨by rw [set_off (by omega), t1]; exact a, by rw [set_off (by omega), t1]; exact b, by rw [set_off (by omega), t1]; exact c, ?_⟩
    show _ = some (Value.slice (upd sa j (some ⟨g, 0, none⟩) i) (upd s.ln j (s.ln j ++ [k]) i).length (upd sc j cap i))
    by_cases e : i = j
    · subst e
      rw [upd_same, upd_same, upd_same, List.length_append]
      exact set_same ((t1 _).trans d)
    · rw [upd_other _ _ e, upd_other _ _ e, upd_other _ _ e, set_off (by omega), t1]; exact d
  · rw [set_blk h.ap.2.2, w1']; exact h.wr i hi
  · show World.ownsRow _ B 3 1 (.slice (upd sa j (some ⟨g, 0, none⟩) i) (upd s.ln j (s.ln j ++ [k]) i).length (upd sc j cap i)) (upd s.ln j (s.ln j ++ [k]) i).length (valsZ (upd s.ln j (s.ln j ++ [k]) i))
    by_cases e : i = j
    · subst e
      rw [upd_same, upd_same, upd_same, List.length_append]
      exact own_kept hp.own fun a ha => Below.heap_setCell _ _ _ _ (by injection ha with ha; subst ha; exact hp.away.2.1)
    · rw [upd_other _ _ e, upd_other _ _ e, upd_other _ _ e]
      exact own_kept (h.own i hi) fun a ha => (Below.heap_setCell _ _ _ _ (h.away i hi a ha).2.1).trans (hp.rows i hi e a ha)
  · by_cases e : i = j
    · subst e
      rw [upd_same] at ha
      injection ha with ha
      subst ha
      exact hp.away
    · rw [upd_other _ _ e] at ha
      exact h.away i hi a ha
  · by_cases e : x = j
    · subst e
      rw [upd_same] at ha
      rw [upd_other _ _ (fun e => hxy e.symm)] at hb
      injection ha with ha
      subst ha
      exact fun e => hp.apart y hy (fun e => hxy e.symm) b hb e.symm
    · rw [upd_other _ _ e] at ha
      by_cases e2 : y = j
      · subst e2
        rw [upd_same] at hb
        injection hb with hb
        subst hb
        exact hp.apart x hx e a ha
      · rw [upd_other _ _ e2] at hb
        exact h.apart x y hx hy hxy a b ha hb
theorem Push.ext {B : Nat} {W : World} {bp bt bw : Nat} {s : PS} {sa : Nat → Option Addr} {j g cap : Nat} {k : Int} {w1 w2 : World} (hp : Push B W bp bt bw s sa j g cap k w1) (hs : w2.heap = w1.heap) (ho : w2.os = w1.os) (ht : w2.tape = w1.tape) (hu : w2.output = w1.output) : Push B W bp bt bw s sa j g cap k w2 :=
  ⟨by rw [hs]; exact hp.size, ⟨ho.trans hp.below.os, ht.trans hp.below.tape, hu.trans hp.below.output, by rw [hs]; exact hp.below.size, fun k hk => by rw [hs]; exact hp.below.block k hk⟩, by rw [hs]; exact hp.p, by rw [hs]; exact hp.t, by rw [hs]; exact hp.w, own_kept hp.own (fun a _ => by rw [hs]), fun i hi hn a ha => by rw [hs]; exact hp.rows i hi hn a ha, hp.away, hp.apart⟩
theorem Push.drew {B : Nat} {W : World} {bp bt bw : Nat} {s : PS} {sa : Nat → Option Addr} {j g cap : Nat} {k : Int} {w1 : World} (hp : Push B W bp bt bw s sa j g cap k w1) : Push B W bp bt bw s sa j g cap k w1.drew := hp.ext rfl rfl rfl rfl
theorem Push.next {B : Nat} {W : World} {bp bt bw : Nat} {s s' : PS} {sa : Nat → Option Addr} {sc : Nat → Nat} {j g cap : Nat} {k : Int} {w0 w1 : World} (h : PlanAt B W bp bt bw s sa sc) (hp : Push B W bp bt bw s sa j g cap k w1) (hj : j < s.n) (hs : s.push j k = s') {M : Nat} (hM : M = (s.ln j).length) (hb : Below B w0 W) :
    ∃ sa' sc', PlanAt B (w1.setCell ⟨bt, j * 4 + 3, none⟩ (.slice (some ⟨g, 0, none⟩) (M + 1) cap)) bp bt bw s' sa' sc' ∧ Below B w0 (w1.setCell ⟨bt, j * 4 + 3, none⟩ (.slice (some ⟨g, 0, none⟩) (M + 1) cap)) := by
  subst hs hM
  exact ⟨_, _, hp.stored h hj, (hb.trans hp.below).setCell (p := ⟨bt, j * 4 + 3, none⟩) h.lo.2.1 _⟩
theorem info3 : (Try.prog.info? 3).map (fun i => (i.zero, i.size, i.bytes)) = some (some (.int .i64 0), 1, 8) := by kernel_rfl
/-- The append of one number to a task's row, as a step of a region that draws. -/
theorem step_push {B : Nat} {W : World} {bp bt bw : Nat} {s : PS} {sa : Nat → Option Addr} {sc : Nat → Nat} (h : PlanAt B W bp bt bw s sa sc) {j : Nat} (hj : j < s.n) (hll : (s.ln j).length ≤ 1000000) (hB : B ≤ W.heap.size)
    {ops : Array Oper} {o : Oper} {a : Act} {w : World} {K : Act → World → Prop} {Q : Exit → Act → World → Prop} {E : Prop} (hgd : o.guard = none) (sv x : Operand)
    (ho : o.op = .call { callee := .builtin .append, args := #[sv, x], argTypes := #[38, 38] }) (hb : Below W.heap.size W w) (hs : a.eval sv = .slice (sa j) (s.ln j).length (sc j))
    (hg : Nat) (c : Nat) (k : Int) (hx : a.eval x = .slice (some ⟨hg, 0, none⟩) 1 c) (hc : w.cell? ⟨hg, 0, none⟩ = some (.int .i64 k))
    (hK : ∀ g cap w1, Push B W bp bt bw s sa j g cap k w1 → K (a.put o.dst (.slice (some ⟨g, 0, none⟩) ((s.ln j).length + 1) cap)) w1) :
    if Region.wanted o (yielded ops a.tmps) = true then Oper.wp Try.prog o a w K Q else E := by
  obtain ⟨i0, hi, hz0, hz1, hz2⟩ := info_parts info3
  have hP := h.below hb
  refine step_append_lies w hgd sv x 38 ho B 3 i0 (.int .i64 0) 1 8 Try.underlying38 hi hz0 hz1 hz2 rfl (by decide) _ (s.ln j).length _ hs (hP.own j hj) ⟨hg, 0, none⟩ 1 c [.int .i64 k] hx rfl ?_ (by intro u hu; simp at hu; subst hu; rfl) (by decide) (by unfold maxLen; omega) (by omega) (by have := hb.size; omega) w.heap.size rfl ?_
  · intro q u hq
    rcases q with _ | q
    · simp at hq
      subst hq
      rw [addr_plus]; exact hc
    · simp at hq
  · intro g cap w1 hown hgrow hat hlt
    refine hK g cap w1 ?_
    have hrow : ∀ b, Value.ownBlock (.slice (sa j) (s.ln j).length (sc j)) = some b → ∃ ad, sa j = some ad ∧ ad.block = b := by
      intro b hb
      cases hsa : sa j with
      | none => rw [hsa] at hb; cases hb
      | some ad => rw [hsa] at hb; injection hb with hb; exact ⟨ad, rfl, hb⟩
    have hne : ∀ q, (∀ ad, sa j = some ad → ad.block ≠ q) → some q ≠ Value.ownBlock (.slice (sa j) (s.ln j).length (sc j)) := fun q hq e => by
      obtain ⟨ad, h1, h2⟩ := hrow q e.symm
      exact hq ad h1 h2
    have hzw := hb.size
    have keep : ∀ q, q < W.heap.size → (∀ ad, sa j = some ad → ad.block ≠ q) → w1.heap[q]? = W.heap[q]? := fun q hq hn =>
      (hgrow.block q (by omega) (hne q hn)).trans (hb.block q hq)
    have hlo := h.lo
    have hhi := h.hi
    have hgne : ∀ q, q < W.heap.size → (∀ ad, sa j = some ad → ad.block ≠ q) → g ≠ q := fun q hq hn e => by
      rcases hat with h1 | h1
      · obtain ⟨ad, h2, h3⟩ := hrow g h1
        exact hn ad h2 (h3.trans e)
      · omega
    refine ⟨by have := hgrow.size; omega, ?_, keep bp hhi.1 (fun ad ha => (h.away j hj ad ha).1), keep bt hhi.2.1 (fun ad ha => (h.away j hj ad ha).2.1), keep bw hhi.2.2 (fun ad ha => (h.away j hj ad ha).2.2), ?_, fun i hin hij ad ha => ?_, ⟨hgne bp hhi.1 (fun ad ha => (h.away j hj ad ha).1), hgne bt hhi.2.1 (fun ad ha => (h.away j hj ad ha).2.1), hgne bw hhi.2.2 (fun ad ha => (h.away j hj ad ha).2.2)⟩, fun i hin hij ad ha => ?_⟩
    · refine (hb.mono hB).grown hgrow (by omega) fun q hq => ?_
      obtain ⟨ad, h1, h2⟩ := hrow q hq
      have := (h.own j hj).lt q hq
      exact this.1
    · have e : valsZ (s.ln j) ++ [Value.int .i64 k] = valsZ (s.ln j ++ [k]) := by simp [valsZ]
      rw [← e]; exact hown
    · exact keep _ ((h.own i hin).lt ad.block (by rw [ha]; rfl)).2 fun ad2 h2 => h.apart j i hj hin (fun e => hij e.symm) ad2 ad h2 ha
    · exact fun e => hgne ad.block ((h.own i hin).lt ad.block (by rw [ha]; rfl)).2 (fun ad2 h2 => h.apart j i hj hin (fun e => hij e.symm) ad2 ad h2 ha) e.symm
end Go.Proofs.Ytgdkgoiagjjccaa
