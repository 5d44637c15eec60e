/- VText, VAct: put together. -/
import Derived.Test.YtejpjbmbcdgomaaPt33
import Derived.Test.YtejpjbmbcdgomaaPt20
import Derived.Test.YtejpjbmbcdgomaaPt26
import Derived.Test.YtejpjbmbcdgomaaPt39
import Derived.Test.YtejpjbmbcdgomaaPt41
/- A sweep's text. -/
namespace Go.Proofs.Ytejpjbmbcdgomaa
set_option maxRecDepth 100000
open Go.RowKit

def wrE (e : En) : Wr := ⟨(e.t : Int), e.x.k, e.x.c.v, false⟩
/-- What was taken, put by force. -/
def fT (T : List En) : Tb := T.foldl (fun ts e => forceT e.x.c.s ts [wrE e]) fun _ => []
theorem fT_snoc (T : List En) (e : En) : fT (T ++ [e]) = forceT e.x.c.s (fT T) [wrE e] := by
  unfold fT
  rw [List.foldl_append]
  rfl
def tkE (e : En) : Prop := e.t < 4 ∧ Fits e.x.k ∧ Fits e.x.c.v ∧ 1 ≤ e.x.c.s ∧ e.x.c.s ≤ 9223372036854775807
/-- Between two of them. -/
structure TxI (w wr : World) (sb n : Nat) (ts : Tb) : Prop where
  b : Below w.heap.size w wr
  ex : ∃ G last, SM wr G sb ts (liveT ts : Int) last ∧ ∀ q, G q → w.heap.size ≤ q
  len : ∀ i, i < 4 → (ts i).length ≤ n
  num : NumT ts
theorem TxI.next {w wr W2 : World} {sb n b : Nat} {ts : Tb} {e : En} (h : TxI w wr sb n ts) (hn : n ≤ 20000) (he : tkE e) (hb : Below wr.heap.size wr W2) (hx : W2.heap[b]? = some (.cells #[.int .i64 (e.t : Int), .int .i64 e.x.k, .int .i64 e.x.c.v, .bool false] 51 (0, 0))) :
    Calls Try.prog 33 #[.pointer (some ⟨sb, 0, none⟩), .int .i64 e.x.c.s, .slice (some ⟨b, 0, none⟩) 1 1] W2 fun r w' => r = .returned .nilIface ∧ TxI w w' sb (n + 1) (forceT e.x.c.s ts [wrE e]) := by
  obtain ⟨G, last, h1, h2⟩ := h.ex
  obtain ⟨e1, e2, e3, e4, e5⟩ := he
  have hok : WrOk (wrE e) := ⟨e2, e3⟩
  refine Calls.mono (force_any (ws := [wrE e]) (A := some ⟨b, 0, none⟩) (c := 1) e.x.c.s (h1.below hb) (wrs_one (x := wrE e) hx) (fun x hx => by rw [List.mem_singleton.1 hx]; exact hok.1) (by simp) (fun i hi => Nat.le_trans (h.len i hi) (by omega)) (takB_good e4 fun j hj => by
    have hj0 : j = 0 := by simp at hj; omega
    subst hj0
    show InT (e.t : Int)
    unfold InT
    omega)) ?_
  rintro r w' ⟨rfl, G', g1, g2⟩
  have hlo := g2.low (Nat.le_trans h.b.size hb.size) h2
  exact ⟨rfl, (h.b.trans (hb.mono h.b.size)).trans hlo.1, ⟨G', _, g1, hlo.2⟩, fun i hi => force_le _ h.len i hi, NumT.force _ h.num (fun x hx => by rw [List.mem_singleton.1 hx]; exact hok) (by omega) e5⟩
set_option maxHeartbeats 16000000 in
theorem swtext_any {w : World} {B xb : Nat} {so : Option Addr} {ct ck : Int} {nv tv : Value} {T : List En} (h : SwM w xb so ct ck nv tv true) (ho : Sno w B tv T) (hT : T.length ≤ 10000) (hg : ∀ e ∈ T, tkE e) :
    Calls Try.prog 45 #[.pointer (some ⟨xb, 0, none⟩)] w fun e w' => ∃ A c, e = .returned (.tuple #[.slice A (putB (fT T)).length c, .nilIface]) ∧ Rdv w' A (putB (fT T)).length 1 (valsB (putB (fT T))) ∧ Below w.heap.size w w' := by
  obtain ⟨A, c, rfl, hr, _, _⟩ := rdv_own ho
  obtain ⟨_, _, _, _, c4, c5⟩ := SwM.at h
  have HE : Hid (Ens w A T) := Lib.hid ⟨rfl, hr⟩
  have HSW := Lib.hid h
  obtain ⟨n, hn⟩ : ∃ n, n = T.length := ⟨_, rfl⟩
  have HN := Lib.hid hn
  have HT := Lib.hid (And.intro hT hg)
  rw [← hn] at c4
  clear h ho hr hn hT hg
  go_enter Try.func45, Try.ntmps45
  go_upto_region 3 with fail
  clear c5
  go_wp2_with fail
  refine Calls.mono (snew_any w) ?_
  rintro e w1 ⟨rfl, ⟨G, hM, hG⟩, hb1⟩
  obtain ⟨sb, hsb⟩ : ∃ sb, sb = w.heap.size := ⟨_, rfl⟩
  rw [← hsb] at hM ⊢
  have HI1 : Hid (TxI w w1 sb 0 (fT (T.take 0))) := Lib.hid ⟨hb1, ⟨G, 0, hM, hG⟩, fun i _ => by simp [fT], NumT.none⟩
  have d4 := (SwM.at (SwM.below HSW.out hb1)).2.2.2.2.1
  rw [← HN.out] at d4
  clear hsb hM hG hb1 c4
  go_wp2_with fail
  go_loopw [2, 3, 6, 7, 24, 25, 26, 27, 28, 29, 30, 31, 32, 33, 34, 35, 36, 37, 38, 39, 40, 41, 42, 43] (fun _ _ _ _ ix _ _ _ _ _ _ _ _ _ _ _ _ _ _ _ _ _ _ _ wr => ∃ z : Nat, ix = .int .i64 (z : Int) ∧ z ≤ n ∧ TxI w wr sb z (fT (T.take z))) (fun _ _ _ _ ix _ _ _ _ _ _ _ _ _ _ _ _ _ _ _ _ _ _ _ wr => n - (intOf ix).toNat)
  case atStart => exact ⟨0, rfl, Nat.zero_le _, HI1.out⟩
  case round =>
    obtain ⟨z, rfl, hz, hI⟩ := hrel
    have HI := Lib.hid (And.intro hI hz)
    have hn18 : n ≤ 10000 := by rw [HN.out]; exact HT.out.1
    clear hI hz d4
    by_cases hlt : z < n
    · have hzl : z < T.length := by rw [← HN.out]; exact hlt
      obtain ⟨b, off, rfl, hcl⟩ := Ens.cell (RowAt.below HE.out HI.out.1.b) (by omega)
      obtain ⟨x0, x1, x2, x3, x4⟩ := hcl z hzl
      obtain ⟨y, hy⟩ : ∃ y, y = T[z] := ⟨_, rfl⟩
      have htk : T.take (z + 1) = T.take z ++ [y] := by rw [hy]; exact (List.take_append_getElem hzl).symm
      have hgy : tkE y := by rw [hy]; exact HT.out.2 _ (List.getElem_mem hzl)
      rw [← hy] at x0 x1 x2 x3 x4
      obtain ⟨p15, hp15⟩ : ∃ p15, p15 = wr.heap.size := ⟨_, rfl⟩
      obtain ⟨W12, hW12⟩ : ∃ W12, W12 = (wr.alloc (.cells #[.int .i64 (y.t : Int), .int .i64 y.x.k, .int .i64 y.x.c.v, .int .i64 y.x.c.s, .bool y.x.c.dead] 112)).alloc (.cells #[.int .i64 (y.t : Int), .int .i64 y.x.k, .int .i64 y.x.c.v, .bool false] 51) := ⟨_, rfl⟩
      have h3 := blocks2 wr (.cells #[.int .i64 (y.t : Int), .int .i64 y.x.k, .int .i64 y.x.c.v, .int .i64 y.x.c.s, .bool y.x.c.dead] 112) (.cells #[.int .i64 (y.t : Int), .int .i64 y.x.k, .int .i64 y.x.c.v, .bool false] 51)
      rw [← hW12] at h3
      obtain ⟨_, g15, _, gb⟩ := h3
      have HNX := Lib.hid (HI.out.1.next (by omega) hgy gb g15)
      have HTK := Lib.hid htk
      have HW12 := Lib.hid (And.intro hW12 hp15)
      rw [← hp15] at HNX
      clear hcl hy htk hgy g15 gb hW12 hp15
      go_wp2_with fail
      rw [← HW12.out.1, ← HW12.out.2]
      refine Calls.mono HNX.out ?_
      rintro e w13 ⟨rfl, hI'⟩
      have HI' : Hid (TxI w w13 sb (z + 1) (fT (T.take (z + 1)))) := Lib.hid (by rw [HTK.out, fT_snoc]; exact hI')
      clear hI' x0 x1 x2 x3 x4
      go_wp2_with fail
      go_roundw
      case rel => exact ⟨z + 1, by go_num, by omega, HI'.out⟩
      case measure => simp [intOf]; omega
    · obtain rfl : z = n := by have := HI.out.2; omega
      have hT0 : T.take z = T := by rw [HN.out]; exact List.take_length
      have hI := HI.out.1
      rw [hT0] at hI
      obtain ⟨G, last, h1, h2⟩ := hI.ex
      have HP := Lib.hid (sput_any h1 (fun i hi => Nat.le_trans (hI.len i hi) (by omega)) hI.num)
      have HB := Lib.hid hI.b
      clear hT0 hI h1 h2 hlt
      go_wp2_with fail
      refine Calls.mono HP.out ?_
      rintro e w9 ⟨A2, c2, rfl, hr2, _, hb2⟩
      have HR2 := Lib.hid (And.intro hr2 (HB.out.trans (hb2.mono HB.out.size)))
      clear hr2 hb2
      go_wp2_with fail
      exact bodyPost_ret (v := .tuple #[.slice A2 (putB (fT T)).length c2, .nilIface]) (by simp [results, Try.results45, go_sem]) rfl ⟨A2, c2, rfl, HR2.out.1, HR2.out.2⟩
end Go.Proofs.Ytejpjbmbcdgomaa

/- A store and a sweep of it, act by act. -/
namespace Go.Proofs.Ytejpjbmbcdgomaa
set_option maxRecDepth 100000
open Go.RowKit

/-- A store and a sweep of it; X: blocks beside them. -/
structure SwI (X : Nat → Prop) (w wr : World) (xb sb : Nat) (G : Nat → Prop) (ts : Tb) (last ct ck : Int) (NS : List Nt) (T : List En) (d : Bool) : Prop where
  b : Below w.heap.size w wr
  m : SM wr G sb ts (liveT ts : Int) last
  low : (∀ q, G q → w.heap.size ≤ q) ∧ w.heap.size ≤ xb ∧ ¬ G xb
  x : ∀ q, X q → q < wr.heap.size ∧ ¬ G q ∧ q ≠ xb
  sw : ∃ so nv tv, SwM wr xb so ct ck nv tv d ∧ (d = false → so = some ⟨sb, 0, none⟩ ∧ NoV wr nv NS ∧ ∀ q, nv.ownBlock = some q → ¬ G q ∧ w.heap.size ≤ q ∧ ¬ X q) ∧ Sno wr w.heap.size tv T ∧ ∀ q, tv.ownBlock = some q → ¬ G q ∧ ¬ X q
  up : UpN NS
/-- The blocks beside stand. -/
abbrev Spare (X : Nat → Prop) (w w' : World) : Prop := ∀ q, X q → w'.heap[q]? = w.heap[q]?
section
variable {X X' : Nat → Prop} {w wr w1 : World} {xb sb : Nat} {G G' : Nat → Prop} {ts ts' : Tb} {last last' ct ck : Int} {NS : List Nt} {T : List En} {d : Bool}
theorem SwI.mono (h : SwI X w wr xb sb G ts last ct ck NS T d) (hx : ∀ q, X' q → X q) : SwI X' w wr xb sb G ts last ct ck NS T d := by
  obtain ⟨so, nv, tv, h1, h2, h3, h4⟩ := h.sw
  exact ⟨h.b, h.m, h.low, fun q e => h.x q (hx q e), ⟨so, nv, tv, h1, fun e => ⟨(h2 e).1, (h2 e).2.1, fun q e2 => ⟨((h2 e).2.2 q e2).1, ((h2 e).2.2 q e2).2.1, fun e3 => ((h2 e).2.2 q e2).2.2 (hx q e3)⟩⟩, h3, fun q e => ⟨(h4 q e).1, fun e3 => (h4 q e).2 (hx q e3)⟩⟩, h.up⟩
/-- What is made meanwhile lies beside. -/
theorem SwI.later (h : SwI X w wr xb sb G ts last ct ck NS T d) (hb : Below wr.heap.size wr w1) : SwI (fun q => X q ∨ (wr.heap.size ≤ q ∧ q < w1.heap.size)) w w1 xb sb G ts last ct ck NS T d ∧ Spare X wr w1 := by
  obtain ⟨so, nv, tv, h1, h2, h3, h4⟩ := h.sw
  refine ⟨⟨h.b.trans (hb.mono h.b.size), h.m.below hb, h.low, fun q e => ?_, ⟨so, nv, tv, SwM.below h1 hb, fun e => ⟨(h2 e).1, (h2 e).2.1.below hb, fun q e2 => ⟨((h2 e).2.2 q e2).1, ((h2 e).2.2 q e2).2.1, fun e3 => ?_⟩⟩, own_same h3 fun q hq => ?_, fun q e => ⟨(h4 q e).1, fun e3 => ?_⟩⟩, h.up⟩, fun q e => hb.block q (h.x q e).1⟩
  · have hxl := SwM.lt h1
    rcases e with e | e
    · have := h.x q e
      exact ⟨Nat.lt_of_lt_of_le this.1 hb.size, this.2⟩
    · exact ⟨e.2, fun e2 => by have := h.m.lt e2; omega, by omega⟩
  · have := (h2 e).2.1.lt e2
    rcases e3 with e3 | e3
    · exact ((h2 e).2.2 q e2).2.2 e3
    · omega
  · obtain ⟨_, e9⟩ := own_at h3 hq
    exact hb.block q (Array.getElem?_eq_some_iff.1 e9).1
  · obtain ⟨_, e9⟩ := own_at h3 e
    have := (Array.getElem?_eq_some_iff.1 e9).1
    rcases e3 with e3 | e3
    · exact (h4 q e).2 e3
    · omega
theorem SwI.cg (h : SwI X w wr xb sb G ts last ct ck NS T d) (hM : SM w1 G' sb ts' (liveT ts' : Int) last') (hC : Cg wr w1 G G') : SwI X w w1 xb sb G' ts' last' ct ck NS T d ∧ Spare X wr w1 := by
  obtain ⟨so, nv, tv, h1, h2, h3, h4⟩ := h.sw
  have hlo := hC.low h.b.size h.low.1
  have hn : ∀ q, q < wr.heap.size → ¬ G q → ¬ G' q := fun q hq hg e => by
    rcases hC.fr _ e with e | e
    · exact hg e
    · omega
  refine ⟨⟨h.b.trans hlo.1, hM, ⟨hlo.2, h.low.2.1, hn xb (SwM.lt h1) h.low.2.2⟩, fun q e => ⟨Nat.lt_of_lt_of_le (h.x q e).1 hC.ch.size, hn q (h.x q e).1 (h.x q e).2.1, (h.x q e).2.2⟩, ⟨so, nv, tv, (hC.ch.block xb (SwM.lt h1) h.low.2.2).trans h1, fun e => ⟨(h2 e).1, (h2 e).2.1.keep fun q hq => hC.ch.block q ((h2 e).2.1.lt hq) ((h2 e).2.2 q hq).1, fun q hq => ⟨hn q ((h2 e).2.1.lt hq) ((h2 e).2.2 q hq).1, ((h2 e).2.2 q hq).2⟩⟩, own_same h3 fun q hq => ?_, fun q hq => ⟨?_, (h4 q hq).2⟩⟩, h.up⟩, fun q e => hC.ch.block q (h.x q e).1 (h.x q e).2.1⟩
  · obtain ⟨_, e9⟩ := own_at h3 hq
    exact hC.ch.block q (Array.getElem?_eq_some_iff.1 e9).1 (h4 q hq).1
  · obtain ⟨_, e9⟩ := own_at h3 hq
    exact hn q (Array.getElem?_eq_some_iff.1 e9).1 (h4 q hq).1
theorem SwI.begin (hb : Below w.heap.size w wr) (hM : SM wr G sb ts (liveT ts : Int) last) (hG : ∀ q, G q → w.heap.size ≤ q) :
    Calls Try.prog 38 #[.pointer (some ⟨sb, 0, none⟩)] wr fun e w' => e = .returned (.pointer (some ⟨wr.heap.size, 0, none⟩)) ∧ SwI (fun q => q < wr.heap.size ∧ ¬ G q) w w' wr.heap.size sb G ts last 0 (-9223372036854775808) [] [] false ∧ Below wr.heap.size wr w' := by
  refine Calls.mono (swbegin_any wr _) ?_
  rintro e w' ⟨rfl, hs, hb2⟩
  exact ⟨rfl, ⟨hb.trans (hb2.mono hb.size), hM.below hb2, ⟨hG, hb.size, fun e => Nat.lt_irrefl _ (hM.lt e)⟩, fun q e => ⟨Nat.lt_of_lt_of_le e.1 hb2.size, e.2, by omega⟩, ⟨_, _, _, hs, fun _ => ⟨rfl, .inl ⟨rfl, rfl⟩, fun q e => by cases e⟩, World.ownsRow_nil _ _ _ _, fun q e => by cases e⟩, List.Pairwise.nil⟩, hb2⟩
theorem SwI.before {A : Option Addr} {c : Nat} {ws : List Wr} (h : SwI X w wr xb sb G ts last ct ck NS T false) (hl : NS.length + ws.length ≤ 10000) (hw : Wrs wr A ws) (hA : 0 < ws.length → ∀ b o, A = some ⟨b, o, none⟩ → X b) :
    Calls Try.prog 39 #[.pointer (some ⟨xb, 0, none⟩), .slice A ws.length c] wr fun e w' => e = .returned (.tuple #[]) ∧ SwI X w w' xb sb G ts last ct ck (befS (cellAt ts) ct ck NS ws) T false ∧ Spare X wr w' := by
  obtain ⟨so, nv, tv, h1, h2, h3, h4⟩ := h.sw
  obtain ⟨rfl, h5, h6⟩ := h2 rfl
  refine Calls.mono (swbefore_any h1 h5 hl h.up (cel_store h.m) (fun q e => ⟨fun e2 => h.low.2.2 (e2 ▸ e), fun e2 => (h6 q e2).1 e⟩) hw fun h0 b o e => ⟨(h.x b (hA h0 b o e)).2.2, fun e2 => (h6 b e2).2.2 (hA h0 b o e)⟩) ?_
  rintro e w' ⟨rfl, nv', k⟩
  have kG : ∀ q, G q → w'.heap[q]? = wr.heap[q]? := fun q e => k.ch.block q (h.m.lt e) (fun e2 => h.low.2.2 (e2 ▸ e)) fun e2 => (h6 q e2).1 e
  refine ⟨rfl, ⟨⟨k.ch.os.trans h.b.os, k.ch.tape.trans h.b.tape, k.ch.output.trans h.b.output, Nat.le_trans h.b.size k.ch.size, fun q hq => (k.ch.block q (Nat.lt_of_lt_of_le hq h.b.size) (fun e => by have := h.low.2.1; omega) fun e => by have := (h6 q e).2.1; omega).trans (h.b.block q hq)⟩, h.m.keep kG, h.low, fun q e => ⟨Nat.lt_of_lt_of_le (h.x q e).1 k.ch.size, (h.x q e).2⟩, ⟨_, nv', tv, k.sw, fun _ => ⟨rfl, k.no, fun q e => ?_⟩, own_same h3 fun q hq => ?_, h4⟩, k.up⟩, fun q e => k.ch.block q (h.x q e).1 (h.x q e).2.2 fun e2 => (h6 q e2).2.2 e⟩
  · rcases k.new q e with e | e
    · exact h6 q e
    · exact ⟨fun e2 => by have := h.m.lt e2; omega, Nat.le_trans h.b.size e, fun e2 => by have := (h.x q e2).1; omega⟩
  · obtain ⟨cur, e9⟩ := own_at h3 hq
    refine k.ch.block q (Array.getElem?_eq_some_iff.1 e9).1 (fun e2 => ?_) fun e2 => nov_own h5 h3 e2 hq
    rw [e2] at e9
    have e8 : wr.heap[xb]? = some (.cells #[.pointer (some ⟨sb, 0, none⟩), .int .i64 ct, .int .i64 ck, nv, tv, .bool false] 145 (0, 0)) := h1
    rw [e8] at e9
    injection e9 with e9
    injection e9 with _ e9 _
    revert e9
    decide
theorem SwI.step (h : SwI X w wr xb sb G ts last ct ck NS T false) (hN : ∀ i, i < 4 → (ts i).length ≤ 10000) (hnum : NumT ts) (n : Int) (hn : n ≤ 100000) (hl : T.length + NS.length ≤ 10000) (hcl : 0 ≤ ct ∧ ct ≤ 4 ∧ Fits ck) (hns : ∀ x ∈ NS, x.e.t < 4 ∧ Fits x.e.x.k) :
    Calls Try.prog 42 #[.pointer (some ⟨xb, 0, none⟩), .int .i64 n] wr fun e w' => ∃ R, R = stepS n.toNat ((liveE (fromE ct ck ts)).take n.toNat) NS T ct ck ∧ e = .returned (.bool R.2.2.2.2) ∧ (UpN R.1 → SwI X w w' xb sb G ts last R.2.2.1 R.2.2.2.1 R.1 R.2.1 R.2.2.2.2) ∧ Spare X wr w' ∧ wr.heap.size ≤ w'.heap.size := by
  obtain ⟨so, nv, tv, h1, h2, h3, h4⟩ := h.sw
  obtain ⟨rfl, h5, h6⟩ := h2 rfl
  obtain ⟨nA, nc, rfl⟩ := h5.form
  obtain ⟨A9, c9, rfl⟩ := own_form h3
  have hst := swstep_any (P := fun q => (Value.slice nA NS.length nc).ownBlock = some q) n h.m hnum hN (B := w.heap.size) (nA := nA) (nc := nc) (NS := NS) (A9 := A9) (c9 := c9) (T := T) ⟨h1, h3, h.low.2.1, h5, ⟨rfl, rfl, fun h => absurd h (by decide)⟩, fun h => absurd h (by decide), Touch.refl _ _ _, fun q e => .inl e, fun q e => e⟩ hl hcl hns hn
  refine Calls.mono hst ?_
  rintro e w' ⟨rfl, so, nA', nc', A8, c8, k1, k2, k3, k4, k6, k7, k8⟩
  refine ⟨_, rfl, rfl, fun hu => ?_, fun q e => k6.block q (h.x q e).1 (h.x q e).2.2 fun e2 => (h4 q e2).2 e, k6.size⟩
  have hb' : Below w.heap.size w w' := h.b.trans (k6.below h.low.2.1 (fun q e => own_ge h3 e) h.b.size)
  refine ⟨hb', h.m.keep fun q e => k6.block q (h.m.lt e) (fun e2 => h.low.2.2 (e2 ▸ e)) fun e2 => (h4 q e2).1 e, h.low, fun q e => ⟨Nat.lt_of_lt_of_le (h.x q e).1 k6.size, (h.x q e).2⟩, ⟨_, _, _, k1, fun e => ⟨k2 e, k4, fun q e => h6 q (k8 q e)⟩, k3, fun q e => ?_⟩, hu⟩
  rcases k7 q e with e | e
  · exact h4 q e
  · exact ⟨fun c => by have := h.m.lt c; omega, fun c => by have := (h.x q c).1; omega⟩
theorem SwI.step_done (h : SwI X w wr xb sb G ts last ct ck NS T true) (n : Int) : Calls Try.prog 42 #[.pointer (some ⟨xb, 0, none⟩), .int .i64 n] wr fun e w' => e = .returned (.bool true) ∧ wr = w' := by
  obtain ⟨so, nv, tv, h1, _⟩ := h.sw
  exact swstep_done h1 n
theorem SwI.done (h : SwI X w wr xb sb G ts last ct ck NS T d) : Calls Try.prog 44 #[.pointer (some ⟨xb, 0, none⟩)] wr fun e w' => e = .returned (.bool d) ∧ wr = w' := by
  obtain ⟨so, nv, tv, h1, _⟩ := h.sw
  exact swdone_any h1
theorem SwI.text (h : SwI X w wr xb sb G ts last ct ck NS T true) (hT : T.length ≤ 10000) (hg : ∀ e ∈ T, tkE e) : Calls Try.prog 45 #[.pointer (some ⟨xb, 0, none⟩)] wr fun e w' => ∃ A c, e = .returned (.tuple #[.slice A (putB (fT T)).length c, .nilIface]) ∧ Rdv w' A (putB (fT T)).length 1 (valsB (putB (fT T))) ∧ Below wr.heap.size wr w' := by
  obtain ⟨so, nv, tv, h1, _, h3, _⟩ := h.sw
  exact swtext_any h1 h3 hT hg
theorem SwI.text_not (h : SwI X w wr xb sb G ts last ct ck NS T false) : Calls Try.prog 45 #[.pointer (some ⟨xb, 0, none⟩)] wr fun e w' => e = .returned (.tuple #[.slice none 0 0, errV 11]) ∧ wr = w' := by
  obtain ⟨so, nv, tv, h1, _⟩ := h.sw
  exact swtext_not h1
end
theorem rdv_spare {X : Nat → Prop} {w w' : World} {A : Option Addr} {n k : Nat} {ys : List Value} (h : Rdv w A n k ys) (hs : Spare X w w') (hA : ∀ b o, A = some ⟨b, o, none⟩ → X b) : Rdv w' A n k ys := Rdv.same h fun b o e => hs b (hA b o e)
end Go.Proofs.Ytejpjbmbcdgomaa
