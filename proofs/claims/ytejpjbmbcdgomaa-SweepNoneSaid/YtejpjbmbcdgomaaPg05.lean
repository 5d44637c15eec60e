/- VAct, VAlive, SEntrN: put together. -/
import Derived.Test.YtejpjbmbcdgomaaPg03
import Derived.Test.YtejpjbmbcdgomaaPg04
import Derived.Test.YtejpjbmbcdgomaaPe20
import Derived.Test.YtejpjbmbcdgomaaPe25
import Derived.Test.YtejpjbmbcdgomaaPe26
import Derived.Test.YtejpjbmbcdgomaaPe27
import Derived.Test.YtejpjbmbcdgomaaPe23
import Derived.Test.YtejpjbmbcdgomaaPe16
import Derived.Test.YtejpjbmbcdgomaaPe17
/- A store and a sweep of it, act by act. -/
namespace Go.Proofs.Ytejpjbmbcdgomaa
set_option maxRecDepth 100000
open Go.RowKit

/-- A store and a sweep of it; X: blocks beside them. -/
structure SwI (X : Nat → Prop) (w wr : World) (xb sb : Nat) (G : Nat → Prop) (ts : Tb) (last ct ck : Int) (NS : List Nt) (T : List En) (d : Bool) : Prop where
  b : Below w.heap.size w wr
  m : SM wr G sb ts (liveT ts : Int) last
  low : (∀ q, G q → w.heap.size ≤ q) ∧ w.heap.size ≤ xb ∧ ¬ G xb
  x : ∀ q, X q → q < wr.heap.size ∧ ¬ G q ∧ q ≠ xb
  sw : ∃ so nv tv, SwM wr xb so ct ck nv tv d ∧ (d = false → so = some ⟨sb, 0, none⟩ ∧ NoV wr nv NS ∧ ∀ q, nv.ownBlock = some q → ¬ G q ∧ w.heap.size ≤ q ∧ ¬ X q) ∧ Sno wr w.heap.size tv T ∧ ∀ q, tv.ownBlock = some q → ¬ G q ∧ ¬ X q
  up : UpN NS
/-- The blocks beside stand. -/
abbrev Spare (X : Nat → Prop) (w w' : World) : Prop := ∀ q, X q → w'.heap[q]? = w.heap[q]?
section
variable {X X' : Nat → Prop} {w wr w1 : World} {xb sb : Nat} {G G' : Nat → Prop} {ts ts' : Tb} {last last' ct ck : Int} {NS : List Nt} {T : List En} {d : Bool}
theorem SwI.xlt (h : SwI X w wr xb sb G ts last ct ck NS T d) : xb < wr.heap.size := by
  obtain ⟨so, nv, tv, h1, _⟩ := h.sw
  exact SwM.lt h1
theorem SwI.mono (h : SwI X w wr xb sb G ts last ct ck NS T d) (hx : ∀ q, X' q → X q) : SwI X' w wr xb sb G ts last ct ck NS T d := by
  obtain ⟨so, nv, tv, h1, h2, h3, h4⟩ := h.sw
  exact ⟨h.b, h.m, h.low, fun q e => h.x q (hx q e), ⟨so, nv, tv, h1, fun e => ⟨(h2 e).1, (h2 e).2.1, fun q e2 => ⟨((h2 e).2.2 q e2).1, ((h2 e).2.2 q e2).2.1, fun e3 => ((h2 e).2.2 q e2).2.2 (hx q e3)⟩⟩, h3, fun q e => ⟨(h4 q e).1, fun e3 => (h4 q e).2 (hx q e3)⟩⟩, h.up⟩
/-- What is made meanwhile lies beside. -/
theorem SwI.later (h : SwI X w wr xb sb G ts last ct ck NS T d) (hb : Below wr.heap.size wr w1) : SwI (fun q => X q ∨ (wr.heap.size ≤ q ∧ q < w1.heap.size)) w w1 xb sb G ts last ct ck NS T d ∧ Spare X wr w1 := by
  obtain ⟨so, nv, tv, h1, h2, h3, h4⟩ := h.sw
  refine ⟨⟨h.b.trans (hb.mono h.b.size), h.m.below hb, h.low, fun q e => ?_, ⟨so, nv, tv, SwM.below h1 hb, fun e => ⟨(h2 e).1, (h2 e).2.1.below hb, fun q e2 => ⟨((h2 e).2.2 q e2).1, ((h2 e).2.2 q e2).2.1, fun e3 => ?_⟩⟩, own_same h3 fun q hq => ?_, fun q e => ⟨(h4 q e).1, fun e3 => ?_⟩⟩, h.up⟩, fun q e => hb.block q (h.x q e).1⟩
  · have hxl := SwM.lt h1
    rcases e with e | e
    · have := h.x q e
      exact ⟨Nat.lt_of_lt_of_le this.1 hb.size, this.2⟩
    · exact ⟨e.2, fun e2 => by have := h.m.lt e2; omega, by omega⟩
  · have := (h2 e).2.1.lt e2
    rcases e3 with e3 | e3
    · exact ((h2 e).2.2 q e2).2.2 e3
    · omega
  · obtain ⟨_, e9⟩ := own_at h3 hq
    exact hb.block q (Array.getElem?_eq_some_iff.1 e9).1
  · obtain ⟨_, e9⟩ := own_at h3 e
    have := (Array.getElem?_eq_some_iff.1 e9).1
    rcases e3 with e3 | e3
    · exact (h4 q e).2 e3
    · omega
theorem SwI.cg (h : SwI X w wr xb sb G ts last ct ck NS T d) (hM : SM w1 G' sb ts' (liveT ts' : Int) last') (hC : Cg wr w1 G G') : SwI X w w1 xb sb G' ts' last' ct ck NS T d ∧ Spare X wr w1 := by
  obtain ⟨so, nv, tv, h1, h2, h3, h4⟩ := h.sw
  have hlo := hC.low h.b.size h.low.1
  have hn : ∀ q, q < wr.heap.size → ¬ G q → ¬ G' q := fun q hq hg e => by
    rcases hC.fr _ e with e | e
    · exact hg e
    · omega
  refine ⟨⟨h.b.trans hlo.1, hM, ⟨hlo.2, h.low.2.1, hn xb (SwM.lt h1) h.low.2.2⟩, fun q e => ⟨Nat.lt_of_lt_of_le (h.x q e).1 hC.ch.size, hn q (h.x q e).1 (h.x q e).2.1, (h.x q e).2.2⟩, ⟨so, nv, tv, (hC.ch.block xb (SwM.lt h1) h.low.2.2).trans h1, fun e => ⟨(h2 e).1, (h2 e).2.1.keep fun q hq => hC.ch.block q ((h2 e).2.1.lt hq) ((h2 e).2.2 q hq).1, fun q hq => ⟨hn q ((h2 e).2.1.lt hq) ((h2 e).2.2 q hq).1, ((h2 e).2.2 q hq).2⟩⟩, own_same h3 fun q hq => ?_, fun q hq => ⟨?_, (h4 q hq).2⟩⟩, h.up⟩, fun q e => hC.ch.block q (h.x q e).1 (h.x q e).2.1⟩
  · obtain ⟨_, e9⟩ := own_at h3 hq
    exact hC.ch.block q (Array.getElem?_eq_some_iff.1 e9).1 (h4 q hq).1
  · obtain ⟨_, e9⟩ := own_at h3 hq
    exact hn q (Array.getElem?_eq_some_iff.1 e9).1 (h4 q hq).1
theorem SwI.begin (hb : Below w.heap.size w wr) (hM : SM wr G sb ts (liveT ts : Int) last) (hG : ∀ q, G q → w.heap.size ≤ q) :
    Calls Try.prog 38 #[.pointer (some ⟨sb, 0, none⟩)] wr fun e w' => e = .returned (.pointer (some ⟨wr.heap.size, 0, none⟩)) ∧ SwI (fun q => q < wr.heap.size ∧ ¬ G q) w w' wr.heap.size sb G ts last 0 (-9223372036854775808) [] [] false ∧ Below wr.heap.size wr w' := by
  refine Calls.mono (swbegin_any wr _) ?_
  rintro e w' ⟨rfl, hs, hb2⟩
  exact ⟨rfl, ⟨hb.trans (hb2.mono hb.size), hM.below hb2, ⟨hG, hb.size, fun e => Nat.lt_irrefl _ (hM.lt e)⟩, fun q e => ⟨Nat.lt_of_lt_of_le e.1 hb2.size, e.2, by omega⟩, ⟨_, _, _, hs, fun _ => ⟨rfl, .inl ⟨rfl, rfl⟩, fun q e => by cases e⟩, World.ownsRow_nil _ _ _ _, fun q e => by cases e⟩, List.Pairwise.nil⟩, hb2⟩
theorem SwI.before {A : Option Addr} {c : Nat} {ws : List Wr} (h : SwI X w wr xb sb G ts last ct ck NS T false) (hl : NS.length + ws.length ≤ 10000) (hw : Wrs wr A ws) (hA : 0 < ws.length → ∀ b o, A = some ⟨b, o, none⟩ → X b) :
    Calls Try.prog 39 #[.pointer (some ⟨xb, 0, none⟩), .slice A ws.length c] wr fun e w' => e = .returned (.tuple #[]) ∧ SwI X w w' xb sb G ts last ct ck (befS (cellAt ts) ct ck NS ws) T false ∧ Spare X wr w' := by
  obtain ⟨so, nv, tv, h1, h2, h3, h4⟩ := h.sw
  obtain ⟨rfl, h5, h6⟩ := h2 rfl
  refine Calls.mono (swbefore_any h1 h5 hl h.up (cel_store h.m) (fun q e => ⟨fun e2 => h.low.2.2 (e2 ▸ e), fun e2 => (h6 q e2).1 e⟩) hw fun h0 b o e => ⟨(h.x b (hA h0 b o e)).2.2, fun e2 => (h6 b e2).2.2 (hA h0 b o e)⟩) ?_
  rintro e w' ⟨rfl, nv', k⟩
  have kG : ∀ q, G q → w'.heap[q]? = wr.heap[q]? := fun q e => k.ch.block q (h.m.lt e) (fun e2 => h.low.2.2 (e2 ▸ e)) fun e2 => (h6 q e2).1 e
  refine ⟨rfl, ⟨⟨k.ch.os.trans h.b.os, k.ch.tape.trans h.b.tape, k.ch.output.trans h.b.output, Nat.le_trans h.b.size k.ch.size, fun q hq => (k.ch.block q (Nat.lt_of_lt_of_le hq h.b.size) (fun e => by have := h.low.2.1; omega) fun e => by have := (h6 q e).2.1; omega).trans (h.b.block q hq)⟩, h.m.keep kG, h.low, fun q e => ⟨Nat.lt_of_lt_of_le (h.x q e).1 k.ch.size, (h.x q e).2⟩, ⟨_, nv', tv, k.sw, fun _ => ⟨rfl, k.no, fun q e => ?_⟩, own_same h3 fun q hq => ?_, h4⟩, k.up⟩, fun q e => k.ch.block q (h.x q e).1 (h.x q e).2.2 fun e2 => (h6 q e2).2.2 e⟩
  · rcases k.new q e with e | e
    · exact h6 q e
    · exact ⟨fun e2 => by have := h.m.lt e2; omega, Nat.le_trans h.b.size e, fun e2 => by have := (h.x q e2).1; omega⟩
  · obtain ⟨cur, e9⟩ := own_at h3 hq
    refine k.ch.block q (Array.getElem?_eq_some_iff.1 e9).1 (fun e2 => ?_) fun e2 => nov_own h5 h3 e2 hq
    rw [e2] at e9
    have e8 : wr.heap[xb]? = some (.cells #[.pointer (some ⟨sb, 0, none⟩), .int .i64 ct, .int .i64 ck, nv, tv, .bool false] 145 (0, 0)) := h1
    rw [e8] at e9
    injection e9 with e9
    injection e9 with _ e9 _
    revert e9
    decide
theorem SwI.step (h : SwI X w wr xb sb G ts last ct ck NS T false) (hN : ∀ i, i < 4 → (ts i).length ≤ 10000) (hnum : NumT ts) (n : Int) (hn : n ≤ 100000) (hl : T.length + NS.length ≤ 10000) (hcl : 0 ≤ ct ∧ ct ≤ 4 ∧ Fits ck) (hns : ∀ x ∈ NS, x.e.t < 4 ∧ Fits x.e.x.k) :
    Calls Try.prog 42 #[.pointer (some ⟨xb, 0, none⟩), .int .i64 n] wr fun e w' => ∃ R, R = stepS n.toNat ((liveE (fromE ct ck ts)).take n.toNat) NS T ct ck ∧ e = .returned (.bool R.2.2.2.2) ∧ (UpN R.1 → SwI X w w' xb sb G ts last R.2.2.1 R.2.2.2.1 R.1 R.2.1 R.2.2.2.2) ∧ Spare X wr w' ∧ wr.heap.size ≤ w'.heap.size := by
  obtain ⟨so, nv, tv, h1, h2, h3, h4⟩ := h.sw
  obtain ⟨rfl, h5, h6⟩ := h2 rfl
  obtain ⟨nA, nc, rfl⟩ := h5.form
  obtain ⟨A9, c9, rfl⟩ := own_form h3
  have hst := swstep_any (P := fun q => (Value.slice nA NS.length nc).ownBlock = some q) n h.m hnum hN (B := w.heap.size) (nA := nA) (nc := nc) (NS := NS) (A9 := A9) (c9 := c9) (T := T) ⟨h1, h3, h.low.2.1, h5, ⟨rfl, rfl, fun h => absurd h (by decide)⟩, fun h => absurd h (by decide), Touch.refl _ _ _, fun q e => .inl e, fun q e => e⟩ hl hcl hns hn
  refine Calls.mono hst ?_
  rintro e w' ⟨rfl, so, nA', nc', A8, c8, k1, k2, k3, k4, k6, k7, k8⟩
  refine ⟨_, rfl, rfl, fun hu => ?_, fun q e => k6.block q (h.x q e).1 (h.x q e).2.2 fun e2 => (h4 q e2).2 e, k6.size⟩
  have hb' : Below w.heap.size w w' := h.b.trans (k6.below h.low.2.1 (fun q e => own_ge h3 e) h.b.size)
  refine ⟨hb', h.m.keep fun q e => k6.block q (h.m.lt e) (fun e2 => h.low.2.2 (e2 ▸ e)) fun e2 => (h4 q e2).1 e, h.low, fun q e => ⟨Nat.lt_of_lt_of_le (h.x q e).1 k6.size, (h.x q e).2⟩, ⟨_, _, _, k1, fun e => ⟨k2 e, k4, fun q e => h6 q (k8 q e)⟩, k3, fun q e => ?_⟩, hu⟩
  rcases k7 q e with e | e
  · exact h4 q e
  · exact ⟨fun c => by have := h.m.lt c; omega, fun c => by have := (h.x q c).1; omega⟩
theorem SwI.step_done (h : SwI X w wr xb sb G ts last ct ck NS T true) (n : Int) : Calls Try.prog 42 #[.pointer (some ⟨xb, 0, none⟩), .int .i64 n] wr fun e w' => e = .returned (.bool true) ∧ wr = w' := by
  obtain ⟨so, nv, tv, h1, _⟩ := h.sw
  exact swstep_done h1 n
theorem SwI.done (h : SwI X w wr xb sb G ts last ct ck NS T d) : Calls Try.prog 44 #[.pointer (some ⟨xb, 0, none⟩)] wr fun e w' => e = .returned (.bool d) ∧ wr = w' := by
  obtain ⟨so, nv, tv, h1, _⟩ := h.sw
  exact swdone_any h1
theorem SwI.text (h : SwI X w wr xb sb G ts last ct ck NS T true) (hT : T.length ≤ 10000) (hg : ∀ e ∈ T, tkE e) : Calls Try.prog 45 #[.pointer (some ⟨xb, 0, none⟩)] wr fun e w' => ∃ A c, e = .returned (.tuple #[.slice A (putB (fT T)).length c, .nilIface]) ∧ Rdv w' A (putB (fT T)).length 1 (valsB (putB (fT T))) ∧ Below wr.heap.size wr w' := by
  obtain ⟨so, nv, tv, h1, _, h3, _⟩ := h.sw
  exact swtext_any h1 h3 hT hg
theorem SwI.text_not (h : SwI X w wr xb sb G ts last ct ck NS T false) : Calls Try.prog 45 #[.pointer (some ⟨xb, 0, none⟩)] wr fun e w' => e = .returned (.tuple #[.slice none 0 0, errV 11]) ∧ wr = w' := by
  obtain ⟨so, nv, tv, h1, _⟩ := h.sw
  exact swtext_not h1
end
theorem rdv_spare {X : Nat → Prop} {w w' : World} {A : Option Addr} {n k : Nat} {ys : List Value} (h : Rdv w A n k ys) (hs : Spare X w w') (hA : ∀ b o, A = some ⟨b, o, none⟩ → X b) : Rdv w' A n k ys := Rdv.same h fun b o e => hs b (hA b o e)
end Go.Proofs.Ytejpjbmbcdgomaa

/- The fixed fact of layer 18. -/
namespace Go.Proofs.Ytejpjbmbcdgomaa
set_option maxRecDepth 100000
open Go.RowKit

def tsP : Tb := forceT 1 (fun _ => []) [⟨1, 5, 7, false⟩]
def tsQ : Tb := forceT 2 tsP [⟨1, 5, 0, true⟩]
def eP : En := ⟨1, ⟨5, ⟨7, 1, false⟩⟩⟩
theorem vfA : apN 1 (fun _ => []) [⟨1, 5, 7, false⟩] = 0 := by kernel_rfl
theorem vfB : apN 2 tsP [⟨1, 5, 0, true⟩] = 0 := by kernel_rfl
theorem vfC : befS (cellAt tsP) 0 (-9223372036854775808) [] [⟨1, 5, 0, true⟩] = [⟨eP, true⟩] := by kernel_rfl
theorem vfD : stepS 1 ((liveE (fromE 0 (-9223372036854775808) tsQ)).take 1) [⟨eP, true⟩] [] 0 (-9223372036854775808) = ([], [eP], 1, 6, false) := by kernel_rfl
theorem vfE : stepS 1 ((liveE (fromE 1 6 tsQ)).take 1) [] [eP] 1 6 = ([], [eP], 1, 6, true) := by kernel_rfl
theorem vfF : putB (fT [eP]) = putB tsP := by kernel_rfl
theorem vfG : (putB tsP).length = 6 := by kernel_rfl
theorem vfH : liveT tsQ = 0 := by kernel_rfl
theorem okP : WrOk ⟨1, 5, 7, false⟩ := ⟨⟨by decide, by decide⟩, by decide, by decide⟩
theorem okQ : WrOk ⟨1, 5, 0, true⟩ := ⟨⟨by decide, by decide⟩, by decide, by decide⟩
theorem numP : NumT tsP := NumT.force _ NumT.none (fun x hx => by rw [List.mem_singleton.1 hx]; exact okP) (by decide) (by decide)
theorem numQ : NumT tsQ := NumT.force _ numP (fun x hx => by rw [List.mem_singleton.1 hx]; exact okQ) (by decide) (by decide)
theorem lenP : ∀ i, i < 4 → (tsP i).length ≤ 1 := fun i hi => force_le (n := 0) [⟨1, 5, 7, false⟩] (fun _ _ => Nat.le_refl _) i hi
theorem lenQ : ∀ i, i < 4 → (tsQ i).length ≤ 2 := fun i hi => force_le (n := 1) [⟨1, 5, 0, true⟩] lenP i hi
theorem numWP : NumW [⟨1, 5, 7, false⟩] := fun x hx => by rw [List.mem_singleton.1 hx]; exact okP.1
theorem numWQ : NumW [⟨1, 5, 0, true⟩] := fun x hx => by rw [List.mem_singleton.1 hx]; exact okQ.1
theorem ne_note {w : World} {p : Nat} {vs : Array Value} {T : TypeId} (h : w.heap[p]? = some (.cells vs T (0, 0))) (hT : T ≠ 149) : ∀ cur, w.heap[p]? ≠ some (.cells cur 149 (0, 0)) := fun cur e => by
  rw [h] at e
  injection e with e
  injection e with _ e _
  exact hT e
set_option maxHeartbeats 8000000 in
theorem alive18_any (w : World) : Calls Try.prog 34 #[] w fun e w' => e = .returned (.bool true) ∧ Below w.heap.size w w' := by
  have HN := Lib.hid (snew_any w)
  go_enter Try.func34, Try.ntmps34
  go_wp2_with fail
  refine Calls.mono HN.out ?_
  rintro e w1 ⟨rfl, ⟨G, hM, hG⟩, hb1⟩
  obtain ⟨sb, hsb⟩ : ∃ sb, sb = w.heap.size := ⟨_, rfl⟩
  rw [← hsb] at hM
  have HSB := Lib.hid hsb
  obtain ⟨W3, hW3⟩ : ∃ W3, W3 = (w1.alloc (.cells #[.int .i64 1, .int .i64 5] 42)).alloc (.cells #[.int .i64 1, .int .i64 5, .int .i64 7, .bool false] 51) := ⟨_, rfl⟩
  have hb3 : Below w1.heap.size w1 W3 := by rw [hW3]; exact ((Below.refl _ _).alloc (Nat.le_refl _) _).alloc (by simp) _
  have hs3 : W3.heap.size = w1.heap.size + 2 := by rw [hW3]; simp
  have hk3 : W3.heap[w1.heap.size]? = some (.cells #[.int .i64 1, .int .i64 5] 42 (0, 0)) := by
    rw [hW3, ((Below.refl _ (w1.alloc (.cells #[.int .i64 1, .int .i64 5] 42))).alloc (Nat.le_refl _) _).block _ (by simp)]
    exact heap_alloc_new w1 _
  have hx3 : W3.heap[w1.heap.size + 1]? = some (.cells #[.int .i64 1, .int .i64 5, .int .i64 7, .bool false] 51 (0, 0)) := by
    have := heap_alloc_new (w1.alloc (.cells #[.int .i64 1, .int .i64 5] 42)) (.cells #[.int .i64 1, .int .i64 5, .int .i64 7, .bool false] 51)
    have e : (w1.alloc (.cells #[.int .i64 1, .int .i64 5] 42)).heap.size = w1.heap.size + 1 := by simp
    rw [e, ← hW3] at this
    exact this
  obtain ⟨s1, hs1⟩ : ∃ s1, s1 = w1.heap.size := ⟨_, rfl⟩
  rw [← hs1] at hk3 hx3 hs3
  have HA := Lib.hid (apply_any (c := 1) 1 (hM.below hb3) (wrs_one (x := ⟨1, 5, 7, false⟩) hx3) numWP (by decide) (fun _ _ => by decide))
  rw [vfA, show errV 0 = .nilIface from rfl] at HA
  have HG := Lib.hid (And.intro hG (And.intro hb1 (And.intro hb3 (And.intro hk3 (And.intro hs3 hs1)))))
  have HW3 := Lib.hid hW3
  have HM := Lib.hid hM
  clear hM hG hb1 hW3 hb3 hs3 hk3 hx3
  rw [← hsb]
  clear hsb
  go_wp2_with fail
  rw [← HW3.out, ← HG.out.2.2.2.2.2]
  refine Calls.mono HA.out ?_
  rintro e w4 ⟨rfl, G1, ts1, last1, hM1, hC1, ⟨⟨_, rfl, rfl⟩ | ⟨h0, _⟩⟩⟩
  rotate_left
  · exact absurd rfl h0
  change SM w4 G1 sb tsP (liveT tsP : Int) 1 at hM1
  have hnG : ¬ G s1 := fun e => by have := HM.out.lt e; have := HG.out.2.2.2.2.2; omega
  have hk4 : w4.heap[s1]? = some (.cells #[.int .i64 1, .int .i64 5] 42 (0, 0)) := (hC1.ch.block _ (Array.getElem?_eq_some_iff.1 HG.out.2.2.2.1).1 hnG).trans HG.out.2.2.2.1
  have hnG1 : ¬ G1 s1 := fun e => by
    rcases hC1.fr _ e with e | e
    · exact hnG e
    · have := HG.out.2.2.2.2.1; omega
  have hb4 := ((Cg.of_below HG.out.2.2.1 G).trans hC1).low HG.out.2.1.size HG.out.1
  have HB4 : Hid (Below w.heap.size w w4 ∧ (∀ q, G1 q → w.heap.size ≤ q) ∧ SM w4 G1 sb tsP (liveT tsP : Int) 1) := Lib.hid ⟨HG.out.2.1.trans hb4.1, hb4.2, hM1⟩
  have HK4 := Lib.hid (And.intro hk4 hnG1)
  have HP := Lib.hid (sput_any hM1 (fun i hi => Nat.le_trans (lenP i hi) (by decide)) numP)
  obtain ⟨PB, hPB⟩ : ∃ PB, PB = putB tsP := ⟨_, rfl⟩
  have HPB := Lib.hid hPB
  rw [← hPB] at HP
  clear hM1 hC1 hnG hk4 hnG1 hb4 hPB
  go_wp2_with fail
  refine Calls.mono HP.out ?_
  rintro e w5 ⟨A5, c5, rfl, hr5, hn5, hb5⟩
  have HN5 := Lib.hid hn5
  have HR5 := Lib.hid (And.intro hr5 hb5)
  have HBG := Lib.hid (SwI.begin (HB4.out.1.trans (hb5.mono HB4.out.1.size)) (HB4.out.2.2.below hb5) HB4.out.2.1)
  clear hr5 hb5 hn5
  go_wp2_with fail
  refine Calls.mono HBG.out ?_
  rintro e w6 ⟨rfl, hI6, hb6⟩
  obtain ⟨xb, hxb⟩ : ∃ xb, xb = w5.heap.size := ⟨_, rfl⟩
  rw [← hxb] at hI6 ⊢
  have hks5 : w5.heap[s1]? = some (.cells #[.int .i64 1, .int .i64 5] 42 (0, 0)) := (HR5.out.2.block s1 (Array.getElem?_eq_some_iff.1 HK4.out.1).1).trans HK4.out.1
  have hXs : s1 < xb ∧ ¬ G1 s1 := ⟨by rw [hxb]; exact (Array.getElem?_eq_some_iff.1 hks5).1, HK4.out.2⟩
  have kk6 := (hb6.block s1 (Array.getElem?_eq_some_iff.1 hks5).1).trans hks5
  have hX5 : ∀ b o, A5 = some ⟨b, o, none⟩ → b < xb ∧ ¬ G1 b := fun b o e => by
    have hr := HR5.out.1
    have h6 : 0 < PB.length := by rw [HPB.out, vfG]; decide
    rw [e] at hr
    have h7 := Rdv.blockLt hr h6 (by decide)
    exact ⟨by omega, fun e2 => by have := HB4.out.2.2.lt e2; have := HN5.out b o e; omega⟩
  have hr6 := Rdv.ext HR5.out.1 fun p hp => hb6.cell hp
  obtain ⟨W7, hW7⟩ : ∃ W7, W7 = w6.alloc (.cells #[.int .i64 1, .int .i64 5, .int .i64 0, .bool true] 51) := ⟨_, rfl⟩
  obtain ⟨b7, hb7⟩ : ∃ b7, b7 = w6.heap.size := ⟨_, rfl⟩
  have hB7 : Below w6.heap.size w6 W7 := by rw [hW7]; exact (Below.refl _ _).alloc (Nat.le_refl _) _
  have hS7 : b7 < W7.heap.size := by rw [hW7, hb7, World.size_alloc]; omega
  have g7 : W7.heap[b7]? = some (.cells #[.int .i64 1, .int .i64 5, .int .i64 0, .bool true] 51 (0, 0)) := by rw [hW7, hb7]; exact heap_alloc_new w6 _
  obtain ⟨hI7, hsp7⟩ := hI6.later hB7
  have hI7b := hI7.mono (X' := fun q => q = b7 ∨ q = s1 ∨ (q < xb ∧ ¬ G1 q)) fun q e => by
    rcases e with e | e | e
    · subst e; exact .inr ⟨by omega, hS7⟩
    · subst e; exact .inl hXs
    · exact .inl e
  have HBF := Lib.hid (hI7b.before (c := 1) (ws := [⟨1, 5, 0, true⟩]) (by decide) (wrs_one (x := ⟨1, 5, 0, true⟩) g7) fun _ b o e => by
    injection e with e
    injection e with e _ _
    exact .inl e.symm)
  rw [vfC] at HBF
  have k7 := (hsp7 s1 hXs).trans kk6
  have hr7 := rdv_spare hr6 hsp7 fun b o e => hX5 b o e
  have HK7 := Lib.hid (And.intro k7 (And.intro hr7 (And.intro hXs hX5)))
  have c0 : w6.cell? ⟨s1, 0, none⟩ = some (.int .i64 1) := by rw [cell_of_row _ _ 0 _ _ _ kk6]; rfl
  have c1 : w6.cell? ⟨s1, 1, none⟩ = some (.int .i64 5) := by rw [cell_of_row _ _ 1 _ _ _ kk6]; rfl
  have HW7 := Lib.hid (And.intro hW7 hb7)
  clear hI6 hb6 kk6 hW7 hb7 hB7 hS7 g7 hI7 hI7b hsp7 k7 hr6 hr7 hXs hX5 hks5 hxb
  rw [HG.out.2.2.2.2.2] at c0 c1
  go_wp2_with fail
  rw [← HW7.out.1, ← HW7.out.2]
  refine Calls.mono HBF.out ?_
  rintro e w8 ⟨rfl, hI8, hsp8⟩
  have k8 := (hsp8 s1 (.inr (.inl rfl))).trans HK7.out.1
  have hr8 := rdv_spare HK7.out.2.1 hsp8 fun b o e => .inr (.inr (HK7.out.2.2.2 b o e))
  have HI8 := Lib.hid (And.intro hI8 (And.intro k8 hr8))
  clear hI8 hsp8 k8 hr8 c0 c1
  have c0 : w8.cell? ⟨s1, 0, none⟩ = some (.int .i64 1) := by rw [cell_of_row _ _ 0 _ _ _ HI8.out.2.1]; rfl
  have c1 : w8.cell? ⟨s1, 1, none⟩ = some (.int .i64 5) := by rw [cell_of_row _ _ 1 _ _ _ HI8.out.2.1]; rfl
  rw [HG.out.2.2.2.2.2] at c0 c1
  obtain ⟨W9, hW9⟩ : ∃ W9, W9 = w8.alloc (.cells #[.int .i64 1, .int .i64 5, .int .i64 0, .bool true] 51) := ⟨_, rfl⟩
  have hB9 : Below w8.heap.size w8 W9 := by rw [hW9]; exact (Below.refl _ _).alloc (Nat.le_refl _) _
  have g9 : W9.heap[w8.heap.size]? = some (.cells #[.int .i64 1, .int .i64 5, .int .i64 0, .bool true] 51 (0, 0)) := by rw [hW9]; exact heap_alloc_new w8 _
  obtain ⟨hI9, hsp9⟩ := HI8.out.1.later hB9
  have hI9b := hI9.mono (X' := fun q => q < xb ∧ ¬ G1 q) fun q e => .inl (.inr (.inr e))
  have HA2 := Lib.hid (apply_any (c := 1) 2 hI9b.m (wrs_one (x := ⟨1, 5, 0, true⟩) g9) numWQ (by decide) (fun i hi => Nat.le_trans (lenP i hi) (by decide)))
  rw [vfB, show errV 0 = .nilIface from rfl] at HA2
  have HI9 := Lib.hid (And.intro hI9b (rdv_spare HI8.out.2.2 hsp9 fun b o e => .inr (.inr (HK7.out.2.2.2 b o e))))
  have HW9 := Lib.hid hW9
  clear hW9 hB9 g9 hI9 hsp9 hI9b
  go_wp2_with fail
  rw [← HW9.out]
  refine Calls.mono HA2.out ?_
  rintro e w10 ⟨rfl, G2, ts2, last2, hM2, hC2, ⟨⟨_, rfl, rfl⟩ | ⟨h0, _⟩⟩⟩
  rotate_left
  · exact absurd rfl h0
  change SM w10 G2 sb tsQ (liveT tsQ : Int) _ at hM2
  obtain ⟨hI10, hsp10⟩ := HI9.out.1.cg hM2 hC2
  have HI10 := Lib.hid (And.intro hI10 (rdv_spare HI9.out.2 hsp10 fun b o e => HK7.out.2.2.2 b o e))
  have HS1 := Lib.hid (hI10.step (fun i hi => Nat.le_trans (lenQ i hi) (by decide)) numQ 1 (by decide) (by decide) ⟨by decide, by decide, by decide, by decide⟩ (fun x hx => by rw [List.mem_singleton.1 hx]; exact ⟨by decide, by decide, by decide⟩))
  rw [show (1 : Int).toNat = 1 from rfl, vfD] at HS1
  clear hM2 hC2 hI10 hsp10 c0 c1
  go_wp2_with fail
  refine Calls.mono HS1.out ?_
  rintro e w11 ⟨R, rfl, rfl, hI11, hsp11, _⟩
  have hI11 := hI11 List.Pairwise.nil
  have HI11 := Lib.hid (And.intro hI11 (rdv_spare HI10.out.2 hsp11 fun b o e => HK7.out.2.2.2 b o e))
  have HS2 := Lib.hid (hI11.step (fun i hi => Nat.le_trans (lenQ i hi) (by decide)) numQ 1 (by decide) (by decide) ⟨by decide, by decide, by decide, by decide⟩ (fun x hx => by cases hx))
  rw [show (1 : Int).toNat = 1 from rfl, vfE] at HS2
  clear hI11 hsp11
  go_wp2_with fail
  refine Calls.mono HS2.out ?_
  rintro e w12 ⟨R, rfl, rfl, hI12, hsp12, _⟩
  have hI12 := hI12 List.Pairwise.nil
  have HTX := Lib.hid (hI12.text (by decide) fun e he => by rw [List.mem_singleton.1 he]; exact ⟨by decide, ⟨by decide, by decide⟩, ⟨by decide, by decide⟩, by decide, by decide⟩)
  have HI12 := Lib.hid (And.intro hI12 (rdv_spare HI11.out.2 hsp12 fun b o e => HK7.out.2.2.2 b o e))
  rw [show putB (fT [eP]) = PB by rw [vfF, HPB.out]] at HTX
  clear hI12 hsp12
  go_wp2_with fail
  refine Calls.mono HTX.out ?_
  rintro e w13 ⟨A13, c13, rfl, hr13, hb13⟩
  have HL13 := Lib.hid (slive_any (HI12.out.1.m.below hb13))
  rw [vfH] at HL13
  have HR13 := Lib.hid (And.intro hr13 (And.intro (Rdv.ext HI12.out.2 fun p hp => hb13.cell hp) (HI12.out.1.b.trans (hb13.mono HI12.out.1.b.size))))
  have HPL : Hid (PB.length = 6 ∧ ∀ x ∈ PB, x < 256) := Lib.hid (by rw [HPB.out]; exact ⟨vfG, putB_small numP⟩)
  clear hr13 hb13
  go_wp2_with fail
  refine Calls.mono (same_any A13 A5 PB.length c13 PB.length c5 PB PB w13 HR13.out.1 HR13.out.2.1 HPL.out.2 HPL.out.2) ?_
  rintro e w14 ⟨rfl, rfl⟩
  rw [decide_eq_true rfl, HPL.out.1]
  go_wp2_with fail
  refine Calls.mono HL13.out ?_
  rintro e w15 ⟨rfl, rfl⟩
  go_wp2_with fail
  go_ret
  exact ⟨rfl, HR13.out.2.2⟩
end Go.Proofs.Ytejpjbmbcdgomaa

/- What a range over a nil store's entries hands over: nothing. Written after SEntr2. -/
namespace Go.Proofs.Ytejpjbmbcdgomaa
set_option maxRecDepth 100000
open Go.RowKit

def tsN : Tb := fun _ => []
set_option maxHeartbeats 16000000 in
theorem nentries_hands {w : World} {b1 b2 : Nat} {t k : Int} {O0 : Nat → Prop} (hf : w.heap[b1]? = some (.cells #[.int .i64 t, .int .i64 k] 42 (0, 0))) (hs : w.heap[b2]? = some (.cells #[.pointer none] 27 (0, 0))) (h1 : O0 b1) (h2 : O0 b2) :
    Hands2 Try.prog 89 #[.pointer (some ⟨b1, 0, none⟩), .pointer (some ⟨b2, 0, none⟩)] O0 (fromE t k tsN).length (encE (fromE t k tsN)) (fun _ _ => True) w := by
  have hN : ∀ i, i < 4 → (tsN i).length ≤ 100000 := fun i _ => by simp [tsN]
  intro l J Jx W O hW hJ hJx hRq hY h0 hsub hlt
  refine callsIn_wide.2 ((callsIn_wide (n := 11)).1 ?_)
  have HBX : Hid (∀ W1, Kps O0 W W1 → W1.heap[b1]? = some (.cells #[.int .i64 t, .int .i64 k] 42 (0, 0)) ∧ W1.heap[b2]? = some (.cells #[.pointer none] 27 (0, 0))) :=
    Lib.hid fun W1 hk => ⟨((hW.trans hk).2 b1 h1).trans hf, ((hW.trans hk).2 b2 h2).trans hs⟩
  have hp1 := HBX.out W (Kps.refl _ _)
  have hi04 : i0F t ≤ 4 := Nat.min_le_right _ _
  obtain ⟨ps, hps⟩ : ∃ ps, ps = partF t k tsN := ⟨_, rfl⟩
  have hpl : ∀ i, i < 4 → (ps i).length ≤ 100000 := fun i hi => by rw [hps]; exact Nat.le_trans (List.length_filter_le _ _) (hN i hi)
  have HPS := Lib.hid hps
  have HEL : Hid ((fromE t k tsN).length = offE ps (i0F t) 4) := Lib.hid (by rw [hps]; rfl)
  have HEA : Hid (∀ i q (hq : q < (ps i).length), i0F t ≤ i → i < 4 → (fromE t k tsN)[offE ps (i0F t) i + q]? = some ⟨i, (ps i)[q]⟩) := Lib.hid fun i q hq h1 h2 => by
    have := allE_at (ps := ps) (i0 := i0F t) (i := i) (m := 4 - i0F t) (q := q) h1 (by omega) hq
    rw [← this, hps]; rfl
  have HI0 : Hid (i0F t = min (max t 0).toNat 4) := Lib.hid rfl
  obtain ⟨E, hE⟩ : ∃ E, E = fromE t k tsN := ⟨_, rfl⟩
  rw [← hE] at HEL HEA hY ⊢
  obtain ⟨i0, hi0⟩ : ∃ i0, i0 = i0F t := ⟨_, rfl⟩
  rw [← hi0] at HEL HEA HI0 hi04
  have HJ := Lib.hid hJ
  have HJX := Lib.hid hJx
  have HY := Lib.hid hY
  have H0 := Lib.hid h0
  have HSUB := Lib.hid hsub
  have HLT := Lib.hid hlt
  have HPL := Lib.hid hpl
  have HO12 := Lib.hid (And.intro h1 h2)
  have HI4 := Lib.hid hi04
  have HTS := Lib.hid hN
  have ga : ∀ (o : Obj), (W.alloc o).cell? ⟨b1, 0, none⟩ = some (.int .i64 t) := fun o => by
    rw [cell_of_row _ _ 0 _ _ _ (((Below.refl _ W).alloc (Nat.le_refl _) o).block _ (Array.getElem?_eq_some_iff.1 hp1.1).1 |>.trans hp1.1)]; rfl
  obtain ⟨W1, hW1⟩ : ∃ W1, W1 = (W.alloc (.cells #[.func (.yield l) #[] #[]] 169)).alloc (.cells #[.int .i64 (max t 0)] 3) := ⟨_, rfl⟩
  have hbw : Below W.heap.size W W1 := by rw [hW1]; exact ((Below.refl _ _).alloc (Nat.le_refl _) _).alloc (by simp) _
  have hs1 : W1.heap.size = W.heap.size + 2 := by rw [hW1]; simp
  have hy1 : W1.heap[W.heap.size]? = some (.cells #[.func (.yield l) #[] #[]] 169 (0, 0)) := by
    rw [hW1, ((Below.refl _ (W.alloc (.cells #[.func (.yield l) #[] #[]] 169))).alloc (Nat.le_refl _) _).block _ (by simp)]
    exact heap_alloc_new W _
  have hx1 : W1.heap[W.heap.size + 1]? = some (.cells #[.int .i64 (max t 0)] 3 (0, 0)) := by
    have := heap_alloc_new (W.alloc (.cells #[.func (.yield l) #[] #[]] 169)) (.cells #[.int .i64 (max t 0)] 3)
    have e : (W.alloc (.cells #[.func (.yield l) #[] #[]] 169)).heap.size = W.heap.size + 1 := by simp
    rw [e, ← hW1] at this
    exact this
  have HSTART : Hid (EInv J ps i0 l W W1 O0 O (fun q => O q ∨ q = W.heap.size ∨ q = W.heap.size + 1) W.heap.size (W.heap.size + 1) (max t 0) i0 []) := Lib.hid
    ⟨⟨by omega, HI0.out, Nat.le_refl _⟩, hx1, hy1, by
      rw [offE_start]
      exact (hJ 0).grow h0 hbw ⟨fun q e => .inl e, fun q e => by
        rcases e with e | e | e
        · exact .inl e
        · exact .inr (by omega)
        · exact .inr (by omega)⟩, Kps.of_below hbw fun q e => hlt q (hsub q e), fun q e => .inl e, ⟨.inr (.inl rfl), .inr (.inr rfl), fun d hd => by simp at hd⟩, fun q e => by
      rcases e with e | e | e
      · have := hlt q e; omega
      · omega
      · omega, fun d hd => by simp at hd, List.Pairwise.nil, by omega, by omega⟩
  obtain ⟨b3, hb3⟩ : ∃ b3, b3 = W.heap.size := ⟨_, rfl⟩
  rw [← hb3] at HSTART
  have HW1 := Lib.hid hW1
  have HB3 := Lib.hid hb3
  clear hJ hJx hRq hY h0 hsub hlt hpl h1 h2 hi04 hW hf hs hp1 hps hE hi0 hN hW1 hbw hs1 hy1 hx1
  refine callsIn_of_wp_marks Try.func89 rfl trivial ?_ rfl
  simp only [Try.ntmps89, List.size_toArray, List.length_cons, List.length_nil, Nat.reduceAdd, Nat.reduceSub, Array.replicate_succ, Array.replicate_zero, List.push_toArray, List.append_toArray, List.nil_append, List.cons_append]
  gi_wp2_with fail
  rw [← hb3]
  clear hb3 ga
  refine wpIn_loop (fun a wr => ∃ (u4 u5 u6 u7 u11 u12 u13 u14 u15 u16 u17 u18 u19 u20 u21 u22 u23 u24 u25 u26 u27 u28 u29 u30 u31 u32 u33 u34 u35 u36 : Value) (ds : List Deferred) (iv : Int) (i bi : Nat) (O1 : Nat → Prop), a = { tmps := #[.func (.yield l) #[] #[], .pointer (some ⟨b1, 0, none⟩), .pointer (some ⟨b2, 0, none⟩), .pointer (some ⟨b3, 0, none⟩), u4, u5, u6, u7, .pointer (some ⟨b1, 0, none⟩), .int .i64 t, .int .i64 (max t 0), u11, u12, u13, u14, u15, u16, u17, u18, u19, u20, u21, u22, u23, u24, u25, u26, u27, u28, u29, u30, u31, u32, u33, u34, u35, u36], defers := ds } ∧ u4 = .pointer (some ⟨bi, 0, none⟩) ∧ EInv J ps i0 l W wr O0 O O1 b3 bi iv i ds) (fun a w => 4 - boxN (a.tmps.getD 4 undef) w) ?_ ?_
  · exact ⟨_, _, _, _, _, _, _, _, _, _, _, _, _, _, _, _, _, _, _, _, _, _, _, _, _, _, _, _, _, _, [], max t 0, i0, b3 + 1, _, rfl, rfl, by rw [HW1.out] at HSTART; exact HSTART.out⟩
  · rintro a wr ⟨u4, u5, u6, u7, u11, u12, u13, u14, u15, u16, u17, u18, u19, u20, u21, u22, u23, u24, u25, u26, u27, u28, u29, u30, u31, u32, u33, u34, u35, u36, ds, iv, i, bi, O1, rfl, rfl, hrel⟩
    have HR := Lib.hid hrel
    have hbx := (HBX.out _ hrel.kp)
    have x1 : wr.cell? ⟨b1, 0, none⟩ = some (.int .i64 t) := by rw [cell_of_row _ _ 0 _ _ _ hbx.1]; rfl
    have x2 : wr.cell? ⟨b1, 1, none⟩ = some (.int .i64 k) := by rw [cell_of_row _ _ 1 _ _ _ hbx.1]; rfl
    have x3 : wr.cell? ⟨b2, 0, none⟩ = some (.pointer none) := by rw [cell_of_row _ _ 0 _ _ _ hbx.2]; rfl
    have x4 : wr.cell? ⟨bi, 0, none⟩ = some (.int .i64 iv) := by rw [cell_of_row _ _ 0 _ _ _ hrel.box]; rfl
    obtain ⟨n0, n1, n2⟩ := hrel.num
    by_cases h4 : iv < 4
    · obtain ⟨rfl, hi4⟩ : iv = (i : Int) ∧ i < 4 := by omega
      have d4 : decide ((i : Int) < 4) = true := decide_eq_true h4
      have HTB := Lib.hid (table_nil (w := wr) (t := (i : Int)))
      have HNW := Lib.hid (And.intro n2 hi4)
      have hlen : (tsN i).length ≤ 100000 := HTS.out i hi4
      have HRG := Lib.hid (fun lo => nil_range wr lo 9223372036854775807)
      have HPI : Hid (ps i = rng (if (i : Int) = t then k else loI) hiI (tsN i)) := Lib.hid (by rw [HPS.out]; rfl)
      clear hrel hbx n0 n1 n2 h4 hlen
      by_cases ht : (i : Int) = t
      case' pos =>
        have d5 : ((i : Int) == t) = true := beq_iff_eq.2 ht
        have HRG1 := Lib.hid (HRG.out k)
        have HPJ : Hid (([] : List Ix) = ps i) := Lib.hid (by rw [HPI.out]; rfl)
        rw [HPJ.out] at HRG1
        clear ht HRG
        gi_wp2_with fail
      case' neg =>
        have d5 : ((i : Int) == t) = false := by simpa using ht
        have HRG1 := Lib.hid (HRG.out (-9223372036854775808))
        have HPJ : Hid (([] : List Ix) = ps i) := Lib.hid (by rw [HPI.out]; rfl)
        rw [HPJ.out] at HRG1
        clear ht HRG
        gi_wp2_with fail
      all_goals
        refine ⟨trivial, ?_⟩
        refine (callsIn_wide.2 HTB.out).mono ?_
        rintro e w1 ⟨rfl, rfl⟩
        gi_wp2_with fail
        refine ⟨trivial, ?_⟩
        refine (callsIn_wide.2 HRG1.out).mono ?_
        rintro e w2 ⟨rfl, hbag, hb2⟩
        obtain ⟨_, v, hcell, hown⟩ := hbag
        obtain ⟨A, cc, hv, hrd, _, _⟩ := rdv_own hown
        obtain ⟨cr, hcr⟩ : ∃ cr, cr = wr.heap.size := ⟨_, rfl⟩
        have hOge0 : ∀ q, v.ownBlock = some q → wr.heap.size ≤ q ∧ q < w2.heap.size := fun q e => ⟨own_ge hown e, by obtain ⟨cs, e2⟩ := own_at hown e; exact (Array.getElem?_eq_some_iff.1 e2).1⟩
        rw [← hcr] at hcell hown ⊢
        obtain ⟨Oi, hOi⟩ : ∃ Oi : Nat → Prop, Oi = fun q => q = cr ∨ v.ownBlock = some q := ⟨_, rfl⟩
        have hOge : ∀ q, Oi q → wr.heap.size ≤ q ∧ q < w2.heap.size := fun q hq => by
          rw [hOi] at hq
          rcases hq with e | e
          · rw [e]; exact ⟨by omega, (Array.getElem?_eq_some_iff.1 hcell).1⟩
          · exact hOge0 q e
        have hH := range2_hands cr A cc Oi (ps i) w2 (by rw [cell_of_row _ _ 0 _ _ _ hcell, hv]; rfl) hrd (HPL.out i HNW.out.2) (fun q hq => (hOge q hq).2) (by rw [hOi]; exact .inl rfl) (fun b o e => by rw [hOi, hv, e]; exact .inr rfl)
        have hlay : Lay (J (offE ps i0 i + 0)) O1 w2 Oi w2 := ⟨fun q => O1 q ∨ Oi q, (HJ.out _).grow HR.out.j hb2 ⟨fun q e => .inl e, fun q e => e.imp id fun e => hOge q e⟩, fun q e => .inr e,
          fun q e => ⟨.inl e, fun c => by have := (hOge q c).1; have := HR.out.lt q e; omega, rfl⟩, fun q e => e.elim (fun e => Nat.lt_of_lt_of_le (HR.out.lt q e) hb2.size) fun e => (hOge q e).2, fun q e => Nat.lt_of_lt_of_le (HR.out.lt q e) hb2.size⟩
        have HOGE := Lib.hid hOge
        have HB2 := Lib.hid hb2
        have HLAY := Lib.hid hlay
        have HB : Hid (w2.heap[b3]? = some (.cells #[.func (.yield l) #[] #[]] 169 (0, 0)) ∧ w2.heap[bi]? = some (.cells #[.int .i64 (i : Int)] 3 (0, 0))) := Lib.hid ⟨(hb2.block _ (HR.out.lt _ HR.out.own.1)).trans HR.out.yb, (hb2.block _ (HR.out.lt _ HR.out.own.2.1)).trans HR.out.box⟩
        clear hOge0 hOge hb2 hlay hcell hown hv hrd hcr hOi
        gi_wp2_with fail
        refine wp_range2 (w0 := w2) (O0 := Oi) (O := Oi) (N := (ps i).length) (enc := encI (ps i)) (Rq := fun _ _ => True) (gf := 88) (lb := #[.pointer (some ⟨cr, 0, none⟩)]) rfl (enters_of Try.func88 (by kernel_rfl) rfl) hH (Kps.refl _ _) (fun _ => rfl)
          (fun q Oq W' => Lay (J (offE ps i0 i + q)) O1 w2 Oq W') (fun c q Oq W' => c = .ret ∧ Lay (Jx (offE ps i0 i + q)) O1 w2 Oq W')
          (fun q => (HJ.out _).lay _ _) (fun c q Oq Oq' Wa Wb h hC hG => ⟨h.1, (HJX.out _).lay _ _ Oq Oq' Wa Wb h.2 hC hG⟩) (fun _ _ _ _ _ => trivial) HLAY.out (fun _ h => h) (fun q hq => (HOGE.out q hq).2) ?round ?done ?stop
        case round =>
          intro l2 lp q ob Oq Wq hq hI hsub2 hlt2 hlp hlpg K hK
          obtain ⟨Oo, hJq, h2, h3, h4, h5⟩ := hI
          obtain ⟨x, hx⟩ : ∃ x, x = (ps i)[q] := ⟨_, rfl⟩
          have hen : encI (ps i) q = #[.int .i64 x.k, .agg #[.int .i64 x.c.v, .int .i64 x.c.s, .bool x.c.dead]] := by rw [encI_at hq, ← hx]; rfl
          rw [hen]
          have hbm : Below Wq.heap.size Wq (Wq.alloc (.cells #[.int .i64 x.c.v, .int .i64 x.c.s, .bool x.c.dead] 44)) := (Below.refl _ _).alloc (Nat.le_refl _) _
          have HBM := Lib.hid hbm
          have HQ := Lib.hid (And.intro hq (And.intro hJq (And.intro h2 (And.intro h3 (And.intro h4 h5)))))
          have HLP := Lib.hid (And.intro hlp (hlt2 lp hlp))
          have HX : Hid ((ps i)[q]? = some x) := Lib.hid (by rw [hx]; exact List.getElem?_eq_getElem hq)
          clear hq hJq h2 h3 h4 h5 hx hen hbm hsub2 hlt2 hlp hlpg hH
          simp only [List.zip_toArray, List.zip_cons_cons, List.zip_nil_right, List.foldl_toArray, List.foldl_cons, List.foldl_nil, List.setIfInBounds_toArray, List.set_cons_succ, List.set_cons_zero]
          gi_wp2_with (rw [Oper.semAt_eq _ _ _ (fun c h => by cases h)]; go_simp)
          refine hK _ _ HBM.out ?_
          clear hK K
          obtain ⟨hq, hJq, h2, h3, h4, h5⟩ := HQ.out
          obtain ⟨z, hz⟩ : ∃ z, z = Wq.heap.size := ⟨_, rfl⟩
          obtain ⟨Wm, hWm⟩ : ∃ Wm, Wm = Wq.alloc (.cells #[.int .i64 x.c.v, .int .i64 x.c.s, .bool x.c.dead] 44) := ⟨_, rfl⟩
          have hbm := HBM.out
          have hzm : Wm.heap[Wq.heap.size]? = some (.cells #[.int .i64 x.c.v, .int .i64 x.c.s, .bool x.c.dead] 44 (0, 0)) := by rw [hWm]; exact heap_alloc_new Wq _
          rw [← hWm] at hbm ⊢
          have hJ1 : J (offE ps i0 i + q) Oo (Wm.putObj lp ob) := (HJ.out _).put _ ((HJ.out _).below hJq hbm) (h2 lp HLP.out.1)
          have hown : ∀ p, O1 p → (Wm.putObj lp ob).heap[p]? = w2.heap[p]? := fun p hp =>
            (World.putObj_heap_other (fun e => (h3 p hp).2.1 (by rw [e]; exact HLP.out.1))).trans ((hbm.block p (h5 p hp)).trans (h3 p hp).2.2)
          have hzb : (Wm.putObj lp ob).heap[z]? = some (.cells #[.int .i64 x.c.v, .int .i64 x.c.s, .bool x.c.dead] 44 (0, 0)) := by
            rw [hz]
            exact (World.putObj_heap_other (by have := HLP.out.2; omega)).trans hzm
          have hszb : (Wm.putObj lp ob).heap.size = Wm.heap.size := World.putObj_size
          obtain ⟨Wb, hWb⟩ : ∃ Wb, Wb = Wm.putObj lp ob := ⟨_, rfl⟩
          rw [← hz]
          rw [← hWb] at hJ1 hown hzb hszb ⊢
          have hbsz : Wq.heap.size ≤ Wb.heap.size := by rw [hszb]; exact hbm.size
          have hyR := HY.out _ Oo Wb (by
            have e1 := offE_next (ps := ps) HNW.out.1
            have e2 := offE_le (ps := ps) (i0 := i0) (i := i + 1) (j := 4) (by have := HNW.out.1; omega) (by have := HNW.out.2; omega)
            rw [HEL.out]; omega) hJ1 (fun p hp => Nat.lt_of_lt_of_le (h4 p hp) hbsz)
          rw [encE_at (HEA.out i q hq HNW.out.1 HNW.out.2), (List.getElem?_eq_some_iff.1 HX.out).2] at hyR
          have yb := (hown b3 HR.out.own.1).trans HB.out.1
          have yi := (hown bi HR.out.own.2.1).trans HB.out.2
          have y0 : Wb.cell? ⟨b3, 0, none⟩ = some (.func (.yield l) #[] #[]) := by rw [cell_of_row _ _ 0 _ _ _ yb]; rfl
          have y1 : Wb.cell? ⟨bi, 0, none⟩ = some (.int .i64 (i : Int)) := by rw [cell_of_row _ _ 0 _ _ _ yi]; rfl
          have z0 : Wb.cell? ⟨z, 0, none⟩ = some (.int .i64 x.c.v) := by rw [cell_of_row _ _ 0 _ _ _ hzb]; rfl
          have z1 : Wb.cell? ⟨z, 1, none⟩ = some (.int .i64 x.c.s) := by rw [cell_of_row _ _ 1 _ _ _ hzb]; rfl
          have z2 : Wb.cell? ⟨z, 2, none⟩ = some (.bool x.c.dead) := by rw [cell_of_row _ _ 2 _ _ _ hzb]; rfl
          obtain ⟨fn, tmps, assign, body, hy, hRr⟩ := hyR
          have HE := Lib.hid (And.intro h2 (And.intro h3 (And.intro h4 (And.intro h5 (And.intro hown hbsz)))))
          have HRR := Lib.hid hRr
          clear hJq h2 h3 h4 h5 hz hWm hbm hzm hJ1 hown hzb hszb hWb hbsz yb yi hRr hq
          gi_wp2_with (rw [Oper.semAt_eq _ _ _ (fun c h => by cases h)]; go_simp)
          refine (round_any HRR.out).mono ?_
          rintro e W3 ⟨hk3, hj3⟩
          have hL : ∀ X : (Nat → Prop) → World → Prop, X Oo W3 → Lay X O1 w2 Oq W3 := fun X hX => ⟨Oo, hX, HE.out.1, fun p e => ⟨(HE.out.2.1 p e).1, (HE.out.2.1 p e).2.1, (hk3.2 p (HE.out.2.1 p e).1).trans (HE.out.2.2.2.2.1 p e)⟩,
            fun p e => Nat.lt_of_lt_of_le (HE.out.2.2.1 p e) (Nat.le_trans HE.out.2.2.2.2.2 hk3.1), fun p e => Nat.lt_of_lt_of_le (HE.out.2.2.2.1 p e) (Nat.le_trans HE.out.2.2.2.2.2 hk3.1)⟩
          have HL := Lib.hid hL
          have HK3 : Hid (Kps Oq Wb W3) := Lib.hid (hk3.mono HE.out.1)
          clear hk3 hL
          rcases hj3 with ⟨rfl, hJ3⟩ | ⟨rfl, hJ3⟩
          · have HJ3 := Lib.hid hJ3
            clear hJ3
            gi_wp2_with (rw [Oper.semAt_eq _ _ _ (fun c h => by cases h)]; go_simp)
            exact ⟨HK3.out, HL.out _ HJ3.out⟩
          · have HJ3 := Lib.hid hJ3
            clear hJ3
            gi_wp2_with (rw [Oper.semAt_eq _ _ _ (fun c h => by cases h)]; go_simp)
            exact ⟨HK3.out, rfl, HL.out _ HJ3.out⟩
        case done =>
          intro D Oq Wd hI hsub2 hOD hlt2 hDge hD
          have HI := Lib.hid hI
          have HD := Lib.hid (And.intro hOD (And.intro hlt2 (And.intro hDge hD)))
          obtain ⟨Oo, hJd, h2, h3, h4, h5⟩ := hI
          have xb := (h3 bi HR.out.own.2.1).2.2.trans HB.out.2
          have x9 : Wd.cell? ⟨bi, 0, none⟩ = some (.int .i64 (i : Int)) := by rw [cell_of_row _ _ 0 _ _ _ xb]; rfl
          have hi4 := HNW.out.2
          have f1 : IntKind.i64.wrap ((i : Int) + 1) = (i : Int) + 1 := by rw [IntKind.wrap_i64]; omega
          clear x1 x2 x3 x4 hH hJd h2 h3 h4 h5 xb hsub2 hOD hlt2 hDge hD
          gi_wp2_with fail
          obtain ⟨O2, hNX⟩ := HR.out.next hi4 HNW.out.1 HJ.out HSUB.out HB2.out HI.out HD.out.1 HD.out.2.2.1 HD.out.2.2.2
          refine ⟨⟨_, _, _, _, _, _, _, _, _, _, _, _, _, _, _, _, _, _, _, _, _, _, _, _, _, _, _, _, _, _, _, (i : Int) + 1, i + 1, Wd.heap.size, O2, rfl, rfl, hNX⟩, ?_⟩
          show 4 - boxN (.pointer (some ⟨Wd.heap.size, 0, none⟩)) _ < 4 - boxN (.pointer (some ⟨bi, 0, none⟩)) _
          rw [boxN_at hNX.box, boxN_at HR.out.box]
          omega
        case stop =>
          rintro D q c Oq Wd hq ⟨rfl, hI⟩ hsub2 hOD hlt2 hDge hD
          have HI := Lib.hid hI
          have HD := Lib.hid (And.intro hq (And.intro hOD (And.intro hlt2 (And.intro hDge hD))))
          clear x1 x2 x3 x4 hH hI hq hsub2 hOD hlt2 hDge hD
          gi_wp2_with fail
          obtain ⟨hm, ha⟩ := HR.out.marked HB2.out HI.out HD.out.2.2.2.1 HD.out.2.2.2.2
          obtain ⟨Oo, hJq, h2, h3, h4, h5⟩ := HI.out
          refine leaves_marks (v := .tuple #[]) _ _ hm ha fun w1 e1 e2 e3 e4 e5 => ⟨by simp [results, Try.results89, go_sem], ⟨_, rfl⟩, Oo, fun p e => (h3 p (HR.out.sub p e)).1, fun p e => by rw [e1]; exact h4 p e, .inr ⟨offE ps i0 i + q, ?_, ?_⟩⟩
          · have f1 := offE_next (ps := ps) HNW.out.1
            have f2 := offE_le (ps := ps) (i0 := i0) (i := i + 1) (j := 4) (by have := HNW.out.1; omega) (by have := HNW.out.2; omega)
            have := HD.out.1
            rw [HEL.out]; omega
          · refine (HJX.out _) Oo Oo Wd w1 hJq (ch_marks (fun d hd r e => ?_) e1 e2 e3 e4 e5) (OG.refl _ _ _)
            rcases List.mem_cons.1 hd with c | c
            · subst c
              have e6 : D = r := by simpa using e
              exact h2 r (e6 ▸ HD.out.2.1)
            · exact (h3 r (HR.out.own.2.2 d c r e)).1
    · have d4 : decide (iv < 4) = false := decide_eq_false h4
      have HI3 : Hid (i = 4) := Lib.hid (by omega)
      clear hrel hbx
      gi_wp2_with fail
      refine leaves_marks (v := .tuple #[]) _ _ HR.out.marks HR.out.apt fun w1 e1 e2 e3 e4 e5 => ⟨by simp [results, Try.results89, go_sem], ⟨_, rfl⟩, O1, HR.out.sub, fun p e => by rw [e1]; exact HR.out.lt p e, .inl ?_⟩
      have hj := HR.out.j
      rw [HI3.out, ← HEL.out] at hj
      exact (HJ.out _) O1 O1 wr w1 hj (ch_marks HR.out.own.2.2 e1 e2 e3 e4 e5) (OG.refl _ _ _)
end Go.Proofs.Ytejpjbmbcdgomaa
