/- A plan in memory; what a store into it comes to. -/
import Derived.Test.YtgdkgoiagjjccaaSFst
namespace Go.Proofs.Ytgdkgoiagjjccaa
set_option maxRecDepth 100000
open Go.RowKit

/-- All blocks but some are as they were. -/
structure Fr (bs : List Nat) (w w' : World) : Prop where
  os : w'.os = w.os
  tape : w'.tape = w.tape
  output : w'.output = w.output
  size : w.heap.size ≤ w'.heap.size
  block : ∀ k, k < w.heap.size → k ∉ bs → w'.heap[k]? = w.heap[k]?
theorem Fr.refl (bs : List Nat) (w : World) : Fr bs w w := ⟨rfl, rfl, rfl, Nat.le_refl _, fun _ _ _ => rfl⟩
theorem Fr.trans {bs : List Nat} {a b c : World} (h : Fr bs a b) (k : Fr bs b c) : Fr bs a c :=
  ⟨k.os.trans h.os, k.tape.trans h.tape, k.output.trans h.output, Nat.le_trans h.size k.size, fun i hi hn => (k.block i (Nat.lt_of_lt_of_le hi h.size) hn).trans (h.block i hi hn)⟩
theorem Fr.of {bs : List Nat} {w w' : World} (h : Below w.heap.size w w') : Fr bs w w' := ⟨h.os, h.tape, h.output, h.size, fun k hk _ => h.block k hk⟩
theorem Fr.set {bs : List Nat} {a w : World} (h : Fr bs a w) (p : Addr) (u : Value) (hp : p.block ∈ bs) : Fr bs a (w.setCell p u) :=
  h.trans ⟨rfl, rfl, rfl, by simp [World.setCell], fun k _ hn => Below.heap_setCell _ _ _ _ (fun e => hn (e ▸ hp))⟩
theorem Fr.alloc {bs : List Nat} {a w : World} (h : Fr bs a w) (o : Obj) : Fr bs a (w.alloc o) := h.trans (Fr.of ((Below.refl _ w).alloc (Nat.le_refl _) o))
theorem Fr.drew {bs : List Nat} {a w : World} (h : Fr bs a w) : Fr bs a w.drew := ⟨h.os, h.tape, h.output, h.size, h.block⟩
theorem Fr.drewN {bs : List Nat} {a w : World} (h : Fr bs a w) (n : Nat) : Fr bs a (w.drewN n) := ⟨h.os, h.tape, h.output, h.size, h.block⟩
theorem Fr.new {bs : List Nat} {a w : World} (h : Fr bs a w) (p : Addr) (u : Value) (hp : a.heap.size ≤ p.block) : Fr bs a (w.setCell p u) :=
  ⟨h.os, h.tape, h.output, by simpa [World.setCell] using h.size, fun k hk hn => (Below.heap_setCell _ _ _ _ (by omega)).trans (h.block k hk hn)⟩
theorem Fr.below {bs : List Nat} {B : Nat} {w0 w w' : World} (hb : Below B w0 w) (h : Fr bs w w') (hB : B ≤ w.heap.size) (hs : ∀ b ∈ bs, B ≤ b) : Below B w0 w' :=
  hb.trans ⟨h.os, h.tape, h.output, h.size, fun k hk => h.block k (by omega) (fun hm => by have := hs k hm; omega)⟩
theorem Fr.cell {bs : List Nat} {w w' : World} (h : Fr bs w w') {p : Addr} {v : Value} (hp : w.cell? p = some v) (hn : p.block ∉ bs) : w'.cell? p = some v :=
  (World.cell?_of_block (h.block p.block (World.block_lt_of_cell? _ _ hp) hn)).trans hp

structure PlanAt (B : Nat) (W : World) (bp bt bw : Nat) (s : PS) (sa : Nat → Option Addr) (sc : Nat → Nat) : Prop where
  lo : B ≤ bp ∧ B ≤ bt ∧ B ≤ bw
  ap : bp ≠ bt ∧ bp ≠ bw ∧ bt ≠ bw
  hi : bp < W.heap.size ∧ bt < W.heap.size ∧ bw < W.heap.size
  big : s.n ≤ 1000000 ∧ s.m ≤ 1000000
  pl : W.cell? ⟨bp, 0, none⟩ = some (.slice (some ⟨bt, 0, none⟩) s.n s.n) ∧ W.cell? ⟨bp, 1, none⟩ = some (.slice (some ⟨bw, 0, none⟩) s.m s.m) ∧ W.cell? ⟨bp, 2, none⟩ = some (.int .i64 s.picks) ∧ W.cell? ⟨bp, 3, none⟩ = some (.int .i64 s.left)
  pf : ∀ o, W.frozen? ⟨bp, o, none⟩ = false
  tk : Tks W bt s.n s.kd s.wk s.wt sa (fun i => (s.ln i).length) sc
  tf : ∀ o, W.frozen? ⟨bt, o, none⟩ = false
  wr : ∀ i, i < s.m → W.cell? ⟨bw, i, none⟩ = some (.int .i64 (s.ws i))
  wf : ∀ o, W.frozen? ⟨bw, o, none⟩ = false
  own : ∀ i, i < s.n → W.ownsRow B 3 1 (.slice (sa i) (s.ln i).length (sc i)) (s.ln i).length (valsZ (s.ln i))
  away : ∀ i, i < s.n → ∀ a, sa i = some a → a.block ≠ bp ∧ a.block ≠ bt ∧ a.block ≠ bw
  apart : ∀ i j, i < s.n → j < s.n → i ≠ j → ∀ a b, sa i = some a → sa j = some b → a.block ≠ b.block

theorem own_kept {w w' : World} {B e size n c m : Nat} {A : Option Addr} {xs : List Value} (h : w.ownsRow B e size (.slice A m c) n xs) (hs : ∀ a, A = some a → w'.heap[a.block]? = w.heap[a.block]?) : w'.ownsRow B e size (.slice A m c) n xs := by
  refine ⟨h.1, ?_⟩
  rcases h.2 with h0 | ⟨g, cap, cur, hv, hB, hg, hrest⟩
  · exact .inl h0
  · injection hv with hv
    subst hv
    exact .inr ⟨g, cap, cur, by simp_all, hB, (hs _ rfl).trans hg, hrest⟩
theorem cell_frozen {w w' : World} {b : Nat} (h : w'.heap[b]? = w.heap[b]?) : (∀ o, w'.cell? ⟨b, o, none⟩ = w.cell? ⟨b, o, none⟩) ∧ ∀ o, w'.frozen? ⟨b, o, none⟩ = w.frozen? ⟨b, o, none⟩ :=
  ⟨fun _ => World.cell?_of_block h, fun _ => World.frozen?_of_block h⟩
/-- A plan stands in each world that keeps its blocks. -/
theorem PlanAt.ext {B : Nat} {W W' : World} {bp bt bw : Nat} {s : PS} {sa : Nat → Option Addr} {sc : Nat → Nat} (h : PlanAt B W bp bt bw s sa sc) (hb : ∀ k, B ≤ k → k < W.heap.size → W'.heap[k]? = W.heap[k]?) (hz : W.heap.size ≤ W'.heap.size) : PlanAt B W' bp bt bw s sa sc := by
  obtain ⟨p1, p2⟩ := cell_frozen (hb bp h.lo.1 h.hi.1)
  obtain ⟨t1, t2⟩ := cell_frozen (hb bt h.lo.2.1 h.hi.2.1)
  obtain ⟨w1, w2⟩ := cell_frozen (hb bw h.lo.2.2 h.hi.2.2)
  refine ⟨h.lo, h.ap, ⟨Nat.lt_of_lt_of_le h.hi.1 hz, Nat.lt_of_lt_of_le h.hi.2.1 hz, Nat.lt_of_lt_of_le h.hi.2.2 hz⟩, h.big, ?_, fun o => (p2 o).trans (h.pf o), fun i hi => ?_, fun o => (t2 o).trans (h.tf o), fun i hi => (w1 i).trans (h.wr i hi), fun o => (w2 o).trans (h.wf o), fun i hi => ?_, h.away, h.apart⟩
  · rw [p1, p1, p1, p1]; exact h.pl
  · rw [t1, t1, t1, t1]; exact h.tk i hi
  · refine own_kept (h.own i hi) fun a ha => hb _ ?_ ?_
    · have := (h.own i hi).lt a.block (by rw [ha]; rfl); exact this.1
    · have := (h.own i hi).lt a.block (by rw [ha]; rfl); exact this.2
theorem PlanAt.below {B : Nat} {W W' : World} {bp bt bw : Nat} {s : PS} {sa : Nat → Option Addr} {sc : Nat → Nat} (h : PlanAt B W bp bt bw s sa sc) (hb : Below W.heap.size W W') : PlanAt B W' bp bt bw s sa sc :=
  h.ext (fun k _ hk => hb.block k hk) hb.size
theorem PlanAt.drew {B : Nat} {W : World} {bp bt bw : Nat} {s : PS} {sa : Nat → Option Addr} {sc : Nat → Nat} (h : PlanAt B W bp bt bw s sa sc) : PlanAt B W.drew bp bt bw s sa sc := h.ext (fun _ _ _ => rfl) (Nat.le_refl _)
theorem PlanAt.drewN {B : Nat} {W : World} {bp bt bw : Nat} {s : PS} {sa : Nat → Option Addr} {sc : Nat → Nat} (h : PlanAt B W bp bt bw s sa sc) (q : Nat) : PlanAt B (W.drewN q) bp bt bw s sa sc := h.ext (fun _ _ _ => rfl) (Nat.le_refl _)
theorem PlanAt.alloc {B : Nat} {W : World} {bp bt bw : Nat} {s : PS} {sa : Nat → Option Addr} {sc : Nat → Nat} (h : PlanAt B W bp bt bw s sa sc) (o : Obj) : PlanAt B (W.alloc o) bp bt bw s sa sc := h.below ((Below.refl _ W).alloc (Nat.le_refl _) o)
theorem set_same {W : World} {b o : Nat} {u v : Value} (h : W.cell? ⟨b, o, none⟩ = some u) : (W.setCell ⟨b, o, none⟩ v).cell? ⟨b, o, none⟩ = some v := World.cell?_setCell_same _ _ _ h
theorem set_off {W : World} {b o q : Nat} {v : Value} (h : q ≠ o) : (W.setCell ⟨b, o, none⟩ v).cell? ⟨b, q, none⟩ = W.cell? ⟨b, q, none⟩ := World.cell?_setCell_other _ _ _ _ (fun e => h (by injection e with _ e2; exact e2.symm))
theorem set_blk {W : World} {b o c q : Nat} {v : Value} (h : b ≠ c) : (W.setCell ⟨b, o, none⟩ v).cell? ⟨c, q, none⟩ = W.cell? ⟨c, q, none⟩ := World.cell?_setCell_other _ _ _ _ (fun e => h (by injection e))
/-- What a store into one of a plan's blocks leaves. -/
theorem PlanAt.store {B : Nat} {W : World} {bp bt bw : Nat} {s s' : PS} {sa : Nat → Option Addr} {sc : Nat → Nat} (h : PlanAt B W bp bt bw s sa sc) {g o : Nat} {v : Value} (hg : g = bp ∨ g = bt ∨ g = bw) (hn : s'.n = s.n) (hm : s'.m = s.m) (hl : s'.ln = s.ln)
    (pl : (W.setCell ⟨g, o, none⟩ v).cell? ⟨bp, 0, none⟩ = some (.slice (some ⟨bt, 0, none⟩) s.n s.n) ∧ (W.setCell ⟨g, o, none⟩ v).cell? ⟨bp, 1, none⟩ = some (.slice (some ⟨bw, 0, none⟩) s.m s.m) ∧ (W.setCell ⟨g, o, none⟩ v).cell? ⟨bp, 2, none⟩ = some (.int .i64 s'.picks) ∧ (W.setCell ⟨g, o, none⟩ v).cell? ⟨bp, 3, none⟩ = some (.int .i64 s'.left))
    (tk : Tks (W.setCell ⟨g, o, none⟩ v) bt s.n s'.kd s'.wk s'.wt sa (fun i => (s.ln i).length) sc) (wr : ∀ i, i < s.m → (W.setCell ⟨g, o, none⟩ v).cell? ⟨bw, i, none⟩ = some (.int .i64 (s'.ws i))) : PlanAt B (W.setCell ⟨g, o, none⟩ v) bp bt bw s' sa sc := by
  refine ⟨h.lo, h.ap, ⟨by rw [World.size_setCell]; exact h.hi.1, by rw [World.size_setCell]; exact h.hi.2.1, by rw [World.size_setCell]; exact h.hi.2.2⟩, by rw [hn, hm]; exact h.big, by rw [hn, hm]; exact pl, fun q => by rw [World.frozen?_setCell]; exact h.pf q, by rw [hn, hl]; exact tk, fun q => by rw [World.frozen?_setCell]; exact h.tf q, by rw [hm]; exact wr,
    fun q => by rw [World.frozen?_setCell]; exact h.wf q, fun i hi => ?_, by rw [hn]; exact h.away, by rw [hn]; exact h.apart⟩
  rw [hn] at hi
  rw [hl]
  refine own_kept (h.own i hi) fun a ha => Below.heap_setCell _ _ _ _ ?_
  have := h.away i hi a ha
  rcases hg with rfl | rfl | rfl
  · exact this.1
  · exact this.2.1
  · exact this.2.2
theorem PlanAt.setPicks {B : Nat} {W : World} {bp bt bw : Nat} {s : PS} {sa : Nat → Option Addr} {sc : Nat → Nat} (h : PlanAt B W bp bt bw s sa sc) (z : Int) : PlanAt B (W.setCell ⟨bp, 2, none⟩ (.int .i64 z)) bp bt bw { s with picks := z } sa sc := by
  refine h.store (.inl rfl) rfl rfl rfl ⟨?_, ?_, ?_, ?_⟩ (fun i hi => ?_) (fun i hi => ?_)
  · rw [set_off (by decide)]; exact h.pl.1
  · rw [set_off (by decide)]; exact h.pl.2.1
  · exact set_same h.pl.2.2.1
  · rw [set_off (by decide)]; exact h.pl.2.2.2
  · rw [set_blk h.ap.1, set_blk h.ap.1, set_blk h.ap.1, set_blk h.ap.1]; exact h.tk i hi
  · rw [set_blk h.ap.2.1]; exact h.wr i hi
theorem PlanAt.setLeft {B : Nat} {W : World} {bp bt bw : Nat} {s : PS} {sa : Nat → Option Addr} {sc : Nat → Nat} (h : PlanAt B W bp bt bw s sa sc) (z : Int) : PlanAt B (W.setCell ⟨bp, 3, none⟩ (.int .i64 z)) bp bt bw { s with left := z } sa sc := by
  refine h.store (.inl rfl) rfl rfl rfl ⟨?_, ?_, ?_, ?_⟩ (fun i hi => ?_) (fun i hi => ?_)
  · rw [set_off (by decide)]; exact h.pl.1
  · rw [set_off (by decide)]; exact h.pl.2.1
  · rw [set_off (by decide)]; exact h.pl.2.2.1
  · exact set_same h.pl.2.2.2
  · rw [set_blk h.ap.1, set_blk h.ap.1, set_blk h.ap.1, set_blk h.ap.1]; exact h.tk i hi
  · rw [set_blk h.ap.2.1]; exact h.wr i hi
theorem PlanAt.setWs {B : Nat} {W : World} {bp bt bw : Nat} {s : PS} {sa : Nat → Option Addr} {sc : Nat → Nat} (h : PlanAt B W bp bt bw s sa sc) (k : Nat) (hk : k < s.m) (z : Int) : PlanAt B (W.setCell ⟨bw, k, none⟩ (.int .i64 z)) bp bt bw { s with ws := upd s.ws k z } sa sc := by
  refine h.store (.inr (.inr rfl)) rfl rfl rfl ⟨?_, ?_, ?_, ?_⟩ (fun i hi => ?_) (fun i hi => ?_)
  · rw [set_blk h.ap.2.1.symm]; exact h.pl.1
  · rw [set_blk h.ap.2.1.symm]; exact h.pl.2.1
  · rw [set_blk h.ap.2.1.symm]; exact h.pl.2.2.1
  · rw [set_blk h.ap.2.1.symm]; exact h.pl.2.2.2
  · rw [set_blk h.ap.2.2.symm, set_blk h.ap.2.2.symm, set_blk h.ap.2.2.symm, set_blk h.ap.2.2.symm]; exact h.tk i hi
  · show _ = some (Value.int .i64 (upd s.ws k z i))
    by_cases e : i = k
    · subst e; rw [upd_same]; exact set_same (h.wr i hi)
    · rw [upd_other _ _ e, set_off e]; exact h.wr i hi
theorem PlanAt.setKd {B : Nat} {W : World} {bp bt bw : Nat} {s : PS} {sa : Nat → Option Addr} {sc : Nat → Nat} (h : PlanAt B W bp bt bw s sa sc) (k : Nat) (hk : k < s.n) (z : Int) : PlanAt B (W.setCell ⟨bt, k * 4, none⟩ (.int .i64 z)) bp bt bw { s with kd := upd s.kd k z } sa sc := by
  refine h.store (.inr (.inl rfl)) rfl rfl rfl ⟨?_, ?_, ?_, ?_⟩ (fun i hi => ?_) (fun i hi => ?_)
  · rw [set_blk h.ap.1.symm]; exact h.pl.1
  · rw [set_blk h.ap.1.symm]; exact h.pl.2.1
  · rw [set_blk h.ap.1.symm]; exact h.pl.2.2.1
  · rw [set_blk h.ap.1.symm]; exact h.pl.2.2.2
  · obtain ⟨a, b, c, d⟩ := h.tk i hi
    refine ⟨?_, by rw [set_off (by omega)]; exact b, by rw [set_off (by omega)]; exact c, by rw [set_off (by omega)]; exact d⟩
    show _ = some (Value.int .i64 (upd s.kd k z i))
    by_cases e : i = k
    · subst e; rw [upd_same]; exact set_same a
    · rw [upd_other _ _ e, set_off (by omega)]; exact a
  · rw [set_blk h.ap.2.2]; exact h.wr i hi
theorem PlanAt.setWk {B : Nat} {W : World} {bp bt bw : Nat} {s : PS} {sa : Nat → Option Addr} {sc : Nat → Nat} (h : PlanAt B W bp bt bw s sa sc) (k : Nat) (hk : k < s.n) (z : Int) : PlanAt B (W.setCell ⟨bt, k * 4 + 1, none⟩ (.int .i64 z)) bp bt bw { s with wk := upd s.wk k z } sa sc := by
  refine h.store (.inr (.inl rfl)) rfl rfl rfl ⟨?_, ?_, ?_, ?_⟩ (fun i hi => ?_) (fun i hi => ?_)
  · rw [set_blk h.ap.1.symm]; exact h.pl.1
  · rw [set_blk h.ap.1.symm]; exact h.pl.2.1
  · rw [set_blk h.ap.1.symm]; exact h.pl.2.2.1
  · rw [set_blk h.ap.1.symm]; exact h.pl.2.2.2
  · obtain ⟨a, b, c, d⟩ := h.tk i hi
    refine ⟨by rw [set_off (by omega)]; exact a, ?_, by rw [set_off (by omega)]; exact c, by rw [set_off (by omega)]; exact d⟩
    show _ = some (Value.int .i64 (upd s.wk k z i))
    by_cases e : i = k
    · subst e; rw [upd_same]; exact set_same b
    · rw [upd_other _ _ e, set_off (by omega)]; exact b
  · rw [set_blk h.ap.2.2]; exact h.wr i hi
theorem PlanAt.setWt {B : Nat} {W : World} {bp bt bw : Nat} {s : PS} {sa : Nat → Option Addr} {sc : Nat → Nat} (h : PlanAt B W bp bt bw s sa sc) (k : Nat) (hk : k < s.n) (z : Int) : PlanAt B (W.setCell ⟨bt, k * 4 + 2, none⟩ (.int .i64 z)) bp bt bw { s with wt := upd s.wt k z } sa sc := by
  refine h.store (.inr (.inl rfl)) rfl rfl rfl ⟨?_, ?_, ?_, ?_⟩ (fun i hi => ?_) (fun i hi => ?_)
  · rw [set_blk h.ap.1.symm]; exact h.pl.1
  · rw [set_blk h.ap.1.symm]; exact h.pl.2.1
  · rw [set_blk h.ap.1.symm]; exact h.pl.2.2.1
  · rw [set_blk h.ap.1.symm]; exact h.pl.2.2.2
  · obtain ⟨a, b, c, d⟩ := h.tk i hi
    refine ⟨by rw [set_off (by omega)]; exact a, by rw [set_off (by omega)]; exact b, ?_, by rw [set_off (by omega)]; exact d⟩
    show _ = some (Value.int .i64 (upd s.wt k z i))
    by_cases e : i = k
    · subst e; rw [upd_same]; exact set_same c
    · rw [upd_other _ _ e, set_off (by omega)]; exact c
  · rw [set_blk h.ap.2.2]; exact h.wr i hi
/-- A store elsewhere. -/
theorem PlanAt.setOut {B : Nat} {W : World} {bp bt bw : Nat} {s : PS} {sa : Nat → Option Addr} {sc : Nat → Nat} (h : PlanAt B W bp bt bw s sa sc) {g : Nat} {cs : Array Value} {T : TypeId} {fr : Nat × Nat} (hg : W.heap[g]? = some (.cells cs T fr)) (hT : T ≠ 3)
    (hn : g ≠ bp ∧ g ≠ bt ∧ g ≠ bw) (o : Nat) (v : Value) : PlanAt B (W.setCell ⟨g, o, none⟩ v) bp bt bw s sa sc := by
  refine ⟨h.lo, h.ap, ⟨by rw [World.size_setCell]; exact h.hi.1, by rw [World.size_setCell]; exact h.hi.2.1, by rw [World.size_setCell]; exact h.hi.2.2⟩, h.big, ?_, fun q => by rw [World.frozen?_setCell]; exact h.pf q, fun i hi => ?_, fun q => by rw [World.frozen?_setCell]; exact h.tf q, fun i hi => ?_,
    fun q => by rw [World.frozen?_setCell]; exact h.wf q, fun i hi => ?_, h.away, h.apart⟩
  · rw [set_blk hn.1, set_blk hn.1, set_blk hn.1, set_blk hn.1]; exact h.pl
  · rw [set_blk hn.2.1, set_blk hn.2.1, set_blk hn.2.1, set_blk hn.2.1]; exact h.tk i hi
  · rw [set_blk hn.2.2]; exact h.wr i hi
  · refine own_kept (h.own i hi) fun a ha => Below.heap_setCell _ _ _ _ fun e => ?_
    rcases (h.own i hi).2 with h0 | ⟨g', cap, cur, hv, hB, hg', hrest⟩
    · rw [ha] at h0; simp at h0
    · injection hv with hv
      rw [ha] at hv
      injection hv with hv
      rw [hv] at e
      change g' = g at e
      rw [e, hg] at hg'
      injection hg' with hg'
      injection hg' with _ hg'
      exact hT hg'
theorem ev_set {W : World} {g : Nat} {x y z a b c : Value} (h : W.heap[g]? = some (.cells #[x, y, z] 78 (0, 0))) :
    (((W.setCell ⟨g, 0, none⟩ a).setCell ⟨g, 1, none⟩ b).setCell ⟨g, 2, none⟩ c).heap[g]? = some (.cells #[a, b, c] 78 (0, 0)) :=
  Go.heap_setCell_same _ g 2 _ 78 c (Go.heap_setCell_same _ g 1 _ 78 b (Go.heap_setCell_same _ g 0 _ 78 a h))
theorem PlanAt.setEv {B : Nat} {W : World} {bp bt bw : Nat} {s : PS} {sa : Nat → Option Addr} {sc : Nat → Nat} (h : PlanAt B W bp bt bw s sa sc) {g : Nat} {x y z : Value} (hg : W.heap[g]? = some (.cells #[x, y, z] 78 (0, 0)))
    (hn : g ≠ bp ∧ g ≠ bt ∧ g ≠ bw) (a b c : Value) : PlanAt B (((W.setCell ⟨g, 0, none⟩ a).setCell ⟨g, 1, none⟩ b).setCell ⟨g, 2, none⟩ c) bp bt bw s sa sc :=
  ((h.setOut hg (by decide) hn 0 a).setOut (Go.heap_setCell_same _ g 0 _ 78 a hg) (by decide) hn 1 b).setOut (Go.heap_setCell_same _ g 1 _ 78 b (Go.heap_setCell_same _ g 0 _ 78 a hg)) (by decide) hn 2 c
theorem PlanAt.leaner {B : Nat} {W : World} {bp bt bw : Nat} {s : PS} {sa : Nat → Option Addr} {sc : Nat → Nat} (h : PlanAt B W bp bt bw s sa sc) {i k : Nat} (hi : i < s.n) (hk : k < (s.ln i).length) :
    ∃ g, sa i = some ⟨g, 0, none⟩ ∧ W.cell? ⟨g, k, none⟩ = some (.int .i64 (s.ln i)[k]) := by
  have ho := h.own i hi
  rcases ho.2 with ⟨_, h0⟩ | ⟨g, cap, cur, hv, _, _, _, _⟩
  · omega
  · injection hv with hv
    refine ⟨g, hv, ?_⟩
    have hc := ho.cells (g := g) (by rw [hv]; rfl) k (.int .i64 (s.ln i)[k]) (by simp [valsZ, hk])
    rw [addr_plus, Nat.zero_add] at hc
    exact hc
theorem info78 : (Try.prog.info? 78).map (·.size) = some 3 := by kernel_rfl
end Go.Proofs.Ytgdkgoiagjjccaa
