/- SRnM: put together. -/
import Derived.Test.YtejpjbmbcdgomaaPd12
import Derived.Test.YtejpjbmbcdgomaaPc25
import Derived.Test.YtejpjbmbcdgomaaPc26
import Derived.Test.YtejpjbmbcdgomaaPd08
import Derived.Test.YtejpjbmbcdgomaaPd14
import Derived.Test.YtejpjbmbcdgomaaPd15
import Derived.Test.YtejpjbmbcdgomaaPd06
/- Two runs of a script, and a run in memory. -/
namespace Go.Proofs.Ytejpjbmbcdgomaa
set_option maxRecDepth 100000
open Go.RowKit

theorem DoOut.same {o : Oq} {ts a c : Tb} {last b d : Int} (h : DoOut o ts last a b) (k : DoOut o ts last c d) : a = c ∧ b = d := by
  unfold DoOut at h k
  by_cases hp : o.pg = true
  · rw [if_pos hp] at h k
    exact ⟨h.1.trans k.1.symm, h.2.trans k.2.symm⟩
  · rw [if_neg hp] at h k
    rcases h.out with ⟨h1, rfl, rfl⟩ | ⟨h1, rfl, rfl⟩ <;> rcases k.out with ⟨k1, rfl, rfl⟩ | ⟨k1, rfl, rfl⟩
    · exact ⟨rfl, rfl⟩
    · exact absurd h1 k1
    · exact absurd k1 h1
    · exact ⟨rfl, rfl⟩
/-- What the first acts of a script come to. -/
inductive Rn (os : List Oq) : Nat → Tb → Int → Prop
  | zero : Rn os 0 (fun _ => []) 0
  | succ {z : Nat} {ts ts' : Tb} {l l' : Int} (h : z < os.length) : Rn os z ts l → DoOut os[z] ts l ts' l' → Rn os (z + 1) ts' l'
theorem Rn.same {os : List Oq} : ∀ {z : Nat} {ts ts' : Tb} {l l' : Int}, Rn os z ts l → Rn os z ts' l' → ts = ts' ∧ l = l'
  | 0, _, _, _, _, .zero, .zero => ⟨rfl, rfl⟩
  | _ + 1, _, _, _, _, .succ _ h1 h2, .succ _ k1 k2 => by
    obtain ⟨rfl, rfl⟩ := h1.same k1
    exact h2.same k2
theorem NumT.do {o : Oq} {ts ts' : Tb} {last last' : Int} (hn : NumT ts) (hw : ∀ x ∈ o.ws, WrOk x) (hq : o.q ≤ 9223372036854775807) (h : DoOut o ts last ts' last') : NumT ts' := by
  unfold DoOut at h
  by_cases hp : o.pg = true
  · rw [if_pos hp] at h
    rw [h.1]
    exact hn.pur
  · rw [if_neg hp] at h
    rcases h.out with ⟨h1, rfl, rfl⟩ | ⟨h1, rfl, rfl⟩
    · refine NumT.force _ hn hw ?_ hq
      unfold apN at h1
      split at h1
      · rename_i e
        have := (takB_in e).1
        omega
      · cases h1
    · exact hn
theorem len_do {o : Oq} {ts ts' : Tb} {last last' : Int} {n : Nat} (hn : ∀ i, i < 4 → (ts i).length ≤ n) (h : DoOut o ts last ts' last') : ∀ i, i < 4 → (ts' i).length ≤ n + o.ws.length := fun i hi => by
  unfold DoOut at h
  by_cases hp : o.pg = true
  · rw [if_pos hp] at h
    rw [h.1]
    have := purT_len ts i
    have := hn i hi
    omega
  · rw [if_neg hp] at h
    rcases h.out with ⟨h1, rfl, rfl⟩ | ⟨h1, rfl, rfl⟩
    · exact force_le _ hn i hi
    · have := hn i hi
      omega
/-- A run of a script between two acts: a store, and the document's in its box. -/
structure Run (w w0 wr : World) (os : List Oq) (sb p8 z : Nat) (ts : Tb) (last : Int) (G : Nat → Prop) (A : Option Addr) (c : Nat) : Prop where
  b : Below w.heap.size w wr
  b0 : Ch w0 wr (fun q => q = p8)
  m : SM wr G sb ts (liveT ts : Int) last
  low : ∀ q, G q → w0.heap.size ≤ q ∧ q ≠ p8
  lo0 : w.heap.size ≤ w0.heap.size
  lo8 : w.heap.size ≤ p8
  box : wr.heap[p8]? = some (.cells #[.slice A (ents ts).length c, .int .i64 last] 31 (0, 0))
  e : Ens wr A (ents ts)
  sep : 0 < (ents ts).length → ∀ b o, A = some ⟨b, o, none⟩ → ¬ G b
  len : ∀ i, i < 4 → (ts i).length ≤ 30 * z
  num : NumT ts
  rn : Rn os z ts last
section
variable {w w0 wr w1 w4 : World} {os : List Oq} {sb p8 z : Nat} {ts : Tb} {last : Int} {G : Nat → Prop} {A : Option Addr} {c : Nat}
theorem Run.start (hb0 : Below w.heap.size w w0) (hM : SM w4 G sb (fun _ => []) (liveT (fun _ => []) : Int) 0) (hG : ∀ q, G q → w0.heap.size ≤ q ∧ q ≠ p8) (hb : Below w0.heap.size w0 w4) (hc : Ch w4 wr (fun q => q = p8)) (hp : w.heap.size ≤ p8)
    (hbx : wr.heap[p8]? = some (.cells #[.slice none 0 0, .int .i64 0] 31 (0, 0))) : Run w w0 wr os sb p8 0 (fun _ => []) 0 G none 0 :=
  ⟨(hb0.trans (hb.mono hb0.size)).trans (hc.below (Nat.le_trans hb0.size hb.size) fun q e => by rw [e]; exact hp), (Ch.of_below hb _).trans hc fun q e => .inl e, hM.keep fun q hq => hc.block q (hM.lt hq) (hG q hq).2, hG, hb0.size, hp, hbx,
    ⟨rfl, rfl, fun h => absurd h (by decide)⟩, fun h => absurd h (by decide), fun i _ => by simp, NumT.none, .zero⟩
theorem Run.below (h : Run w w0 wr os sb p8 z ts last G A c) (hb : Below wr.heap.size wr w1) : Run w w0 w1 os sb p8 z ts last G A c :=
  ⟨h.b.trans (hb.mono h.b.size), h.b0.trans (Ch.of_below hb _) fun _ e => .inl e, h.m.below hb, h.low, h.lo0, h.lo8, (hb.block p8 (Array.getElem?_eq_some_iff.1 h.box).1).trans h.box, RowAt.below h.e hb, h.sep, h.len, h.num, h.rn⟩
theorem Run.at (h : Run w w0 wr os sb p8 z ts last G A c) : wr.cell? ⟨p8, 0, none⟩ = some (.slice A (ents ts).length c) ∧ wr.cell? ⟨p8, 1, none⟩ = some (.int .i64 last) ∧ ∀ j, wr.frozen? ⟨p8, j, none⟩ = false :=
  ⟨by rw [cell_of_row _ _ 0 _ _ _ h.box]; rfl, by rw [cell_of_row _ _ 1 _ _ _ h.box]; rfl, fun j => frozen_of h.box j⟩
/-- The next act of both, its document's store laid back into the box. -/
theorem Run.act (h : Run w w0 wr os sb p8 z ts last G A c) (hz : z < os.length) (hO : OqOk wr os[z]) (hw0 : OqOk w os[z]) (hl : os[z].ws.length ≤ 30) (hz61 : z ≤ 60) :
    Calls Try.prog 13 #[.pointer (some ⟨sb, 0, none⟩), .agg #[.slice A (ents ts).length c, .int .i64 last], .agg #[.int .i64 os[z].q, .slice os[z].A os[z].ws.length os[z].c, .bool os[z].pg]] wr fun e w' =>
      ∃ A' n' c' l', e = .returned (.tuple #[.agg #[.slice A' n' c', .int .i64 l'], .bool true]) ∧ (∀ j, w'.frozen? ⟨p8, j, none⟩ = false) ∧ (∃ u0 u1, w'.cell? ⟨p8, 0, none⟩ = some u0 ∧ w'.cell? ⟨p8, 1, none⟩ = some u1) ∧ ∃ ts' G', Run w w0 ((w'.setCell ⟨p8, 0, none⟩ (.slice A' n' c')).setCell ⟨p8, 1, none⟩ (.int .i64 l')) os sb p8 (z + 1) ts' l' G' A' c' := by
  refine Calls.mono (do_any h.m h.e h.sep hO (fun hl0 b f e c => ?_) (by omega) (fun i hi => by have := h.len i hi; omega) h.num) ?_
  · obtain ⟨b', o', e', hcl⟩ := Wrs.cell hw0.row hl0
    rw [e] at e'
    have e1 : b = b' := by simpa using congrArg (fun x => x.map (·.block)) e'
    have h1 : b' < w.heap.size := World.block_lt_of_cell? _ _ (hcl 0 hl0).1
    have h2 := (h.low b c).1
    have h3 := h.lo0
    omega
  · rintro e w' ⟨A', c', ts', l', G', rfl, hM, hC, hE, hS, hD⟩
    have hp8 := (Array.getElem?_eq_some_iff.1 h.box).1
    have hn8 : ¬ G p8 := fun e => (h.low p8 e).2 rfl
    obtain ⟨hn8', hk8⟩ := hC.out hp8 hn8
    have hb8 := hk8.trans h.box
    have k1 := heap_set w' p8 0 (.slice A' (ents ts').length c') hb8
    have k2 := heap_set _ p8 1 (.int .i64 l') k1
    have hlo := hC.low h.b.size fun q e => Nat.le_trans h.lo0 (h.low q e).1
    refine ⟨A', (ents ts').length, c', l', rfl, fun j => frozen_of hb8 j, ⟨_, _, by rw [cell_of_row _ _ 0 _ _ _ hb8]; rfl, by rw [cell_of_row _ _ 1 _ _ _ hb8]; rfl⟩, ts', G', ?_⟩
    have hsz : ((w'.setCell ⟨p8, 0, none⟩ (.slice A' (ents ts').length c')).setCell ⟨p8, 1, none⟩ (.int .i64 l')).heap.size = w'.heap.size := by rw [World.size_setCell, World.size_setCell]
    have hne : ∀ q, q ≠ p8 → ((w'.setCell ⟨p8, 0, none⟩ (.slice A' (ents ts').length c')).setCell ⟨p8, 1, none⟩ (.int .i64 l')).heap[q]? = w'.heap[q]? := fun q hq => (heap_ne _ _ _ _ hq).trans (heap_ne _ _ _ _ hq)
    have hch : Ch w' ((w'.setCell ⟨p8, 0, none⟩ (.slice A' (ents ts').length c')).setCell ⟨p8, 1, none⟩ (.int .i64 l')) (fun q => q = p8) := ⟨rfl, rfl, rfl, by rw [hsz]; exact Nat.le_refl _, fun q _ hn => hne q hn⟩
    refine ⟨(h.b.trans hlo.1).trans (hch.below (Nat.le_trans h.b.size hC.ch.size) fun q e => by rw [e]; exact h.lo8), ⟨hC.ch.os.trans h.b0.os, hC.ch.tape.trans h.b0.tape, hC.ch.output.trans h.b0.output, by rw [hsz]; exact Nat.le_trans h.b0.size hC.ch.size, fun q hq hn => (hne q hn).trans ((hC.out (Nat.lt_of_lt_of_le hq h.b0.size) fun c => by have := (h.low q c).1; omega).2.trans (h.b0.block q hq hn))⟩, (hM.box hn8').box hn8', fun q e => ?_, h.lo0, h.lo8, k2.trans rfl, Ens.boxAway (Ens.boxAway hE hb8) k1, hS, fun i hi => ?_, h.num.do hw0.nums hw0.num.2 hD, .succ hz h.rn hD⟩
    · rcases hC.fr q e with e | e
      · exact h.low q e
      · have := h.b0.size
        exact ⟨by omega, by omega⟩
    · have := len_do h.len hD i hi
      omega
end
/-- Between two rounds of the law's range. -/
structure JI (w0 : World) (p : Nat) (R : Nat → Prop) (k : Nat) (O : Nat → Prop) (W : World) : Prop where
  ch : Ch w0 W (fun q => q = p ∨ O q)
  low : ∀ q, O q → R q ∨ w0.heap.size ≤ q
  box : W.heap[p]? = some (.cells #[.int .i64 (k : Int)] 3 (0, 0)) ∧ ¬ O p ∧ p < w0.heap.size
theorem JI.st (w0 : World) (p : Nat) (R : Nat → Prop) (k : Nat) : St2 (JI w0 p R k) := by
  intro O O' W W' ⟨h1, h2, h3, h4, h5⟩ hC hG
  have hp := (Array.getElem?_eq_some_iff.1 h3).1
  refine ⟨⟨hC.os.trans h1.os, hC.tape.trans h1.tape, hC.output.trans h1.output, Nat.le_trans h1.size hC.size, fun q hq hn => (hC.block q (Nat.lt_of_lt_of_le hq h1.size) fun e => hn (.inr (hG.1 q e))).trans (h1.block q hq fun e => hn (e.imp id (hG.1 q)))⟩, fun q e => ?_, (hC.block p hp h4).trans h3, fun e => ?_, h5⟩
  · rcases hG.2 q e with e | e
    · exact h2 q e
    · exact .inr (Nat.le_trans h1.size e.1)
  · rcases hG.2 p e with e | e
    · exact h4 e
    · have := e.1
      have := h1.size
      omega
section
variable {w0 W : World} {p k q : Nat} {R O : Nat → Prop}
theorem JI.at (h : JI w0 p R k O W) (hq : q < w0.heap.size) (hp : q ≠ p) (hr : ¬ R q) : W.heap[q]? = w0.heap[q]? := h.ch.block q hq fun e => e.elim hp fun e => (h.low q e).elim hr fun e => by omega
theorem JI.set (h : JI w0 p R k O W) : JI w0 p R (k + 1) O (W.setCell ⟨p, 0, none⟩ (.int .i64 ((k + 1 : Nat) : Int))) ∧ Kps O W (W.setCell ⟨p, 0, none⟩ (.int .i64 ((k + 1 : Nat) : Int))) :=
  ⟨⟨⟨h.ch.os, h.ch.tape, h.ch.output, by rw [World.size_setCell]; exact h.ch.size, fun q hq hn => (heap_ne _ _ _ _ fun e => hn (.inl e)).trans (h.ch.block q hq hn)⟩, h.low, (heap_set W p 0 _ h.box.1).trans rfl, h.box.2⟩, by rw [World.size_setCell]; exact Nat.le_refl _, fun q hq => heap_ne _ _ _ _ fun e => h.box.2.1 (e ▸ hq)⟩
end
theorem want_eq (ts : Tb) (t lo hi : Int) : ∃ i, i < 4 ∧ rangeE t lo hi (ents ts) = tag i (liveX (spanT t lo hi ts)) := by
  by_cases ht : InT t
  · obtain ⟨i, rfl, hi⟩ : ∃ i : Nat, t = (i : Int) ∧ i < 4 := ⟨t.toNat, by unfold InT at ht; omega, by unfold InT at ht; omega⟩
    refine ⟨i, hi, ?_⟩
    rw [rangeE_ents hi, spanT_in ht]
    rfl
  · refine ⟨0, by decide, ?_⟩
    rw [rangeE_out ht, spanT_out ht]
    rfl
theorem want_mem {ts : Tb} {t lo hi : Int} {x : Ix} (hx : x ∈ liveX (spanT t lo hi ts)) : ∃ i, i < 4 ∧ x ∈ ts i := by
  have h1 := (List.mem_filter.1 hx).1
  by_cases ht : InT t
  · rw [spanT_in ht] at h1
    unfold rng at h1
    exact ⟨t.toNat, by unfold InT at ht; omega, (List.mem_filter.1 h1).1⟩
  · rw [spanT_out ht] at h1
    cases h1
theorem want_len {ts : Tb} {n : Nat} (h : ∀ i, i < 4 → (ts i).length ≤ n) (t lo hi : Int) : (spanT t lo hi ts).length ≤ n := by
  by_cases ht : InT t
  · rw [spanT_in ht]
    unfold rng
    exact Nat.le_trans (List.length_filter_le _ _) (h _ (by unfold InT at ht; omega))
  · rw [spanT_out ht]
    exact Nat.zero_le _
theorem want_cell {w : World} {A : Option Addr} {X : List Ix} {i k : Nat} (h : Ens w A (tag i X)) (hk : k < X.length) : ∃ b off x, A = some ⟨b, off, none⟩ ∧ X[k]? = some x ∧ w.cell? ⟨b, off + k * 5, none⟩ = some (.int .i64 (i : Int)) ∧ w.cell? ⟨b, off + k * 5 + 1, none⟩ = some (.int .i64 x.k) ∧ w.cell? ⟨b, off + k * 5 + 2, none⟩ = some (.int .i64 x.c.v) ∧
    w.cell? ⟨b, off + k * 5 + 3, none⟩ = some (.int .i64 x.c.s) ∧ w.cell? ⟨b, off + k * 5 + 4, none⟩ = some (.bool x.c.dead) := by
  have hk2 : k < (tag i X).length := by rw [tag_len]; exact hk
  obtain ⟨b, off, e, hc⟩ := Ens.cell h (by omega)
  have h9 := hc k hk2
  have e9 : (tag i X)[k] = ⟨i, X[k]⟩ := by simp [tag]
  rw [e9] at h9
  exact ⟨b, off, X[k], e, List.getElem?_eq_getElem hk, h9⟩
/-- Some writes later. -/
structure Wts (w0 wr : World) (sb : Nat) (G : Nat → Prop) (n : Nat) : Prop where
  ex : ∃ ts last G', SM wr G' sb ts (liveT ts : Int) last ∧ Cg w0 wr G G' ∧ ∀ i, i < 4 → (ts i).length ≤ n
theorem Wts.next {w0 wr W2 : World} {sb n b : Nat} {G : Nat → Prop} {i k : Int} (q : Int) (h : Wts w0 wr sb G n) (hb : Below wr.heap.size wr W2) (hx : W2.heap[b]? = some (.cells #[.int .i64 i, .int .i64 k, .int .i64 77, .bool false] 51 (0, 0)))
    (hk : -9223372036854775808 ≤ k ∧ k ≤ 9223372036854775807) (hn : n ≤ 50000) : Calls Try.prog 16 #[.pointer (some ⟨sb, 0, none⟩), .int .i64 q, .slice (some ⟨b, 0, none⟩) 1 1] W2 fun e w' => (∃ v, e = .returned v) ∧ Wts w0 w' sb G (n + 1) := by
  obtain ⟨ts, last, G', h1, h2, h3⟩ := h.ex
  refine Calls.mono (apply_any (ws := [⟨i, k, 77, false⟩]) (A := some ⟨b, 0, none⟩) (c := 1) q (h1.below hb) (wrs_one (x := ⟨i, k, 77, false⟩) hx) (fun x hx => by rw [List.mem_singleton.1 hx]; exact hk) (by simp) (fun i hi => Nat.le_trans (h3 i hi) hn)) ?_
  rintro e w' ⟨rfl, G2, ts2, last2, k1, k2, k3⟩
  refine ⟨⟨_, rfl⟩, ts2, last2, G2, k1, (h2.trans (Cg.of_below hb G')).trans k2, fun i hi => ?_⟩
  rcases k3.out with ⟨_, rfl, rfl⟩ | ⟨_, rfl, rfl⟩
  · exact force_le _ h3 i hi
  · exact Nat.le_succ_of_le (h3 i hi)
end Go.Proofs.Ytejpjbmbcdgomaa
