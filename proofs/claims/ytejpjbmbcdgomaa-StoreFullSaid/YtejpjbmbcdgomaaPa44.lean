/- SHands, SEnts, SEntr: put together. -/
import Derived.Test.YtejpjbmbcdgomaaPa43
import Derived.Test.YtejpjbmbcdgomaaPa32
import Derived.Sort.CutIn
import Derived.RegionIn
import Derived.BigFrameIn
import Derived.BigGuardIn
import Derived.Test.YtejpjbmbcdgomaaPa31
/- What a tree's range hands over. -/
namespace Go.Proofs.Ytejpjbmbcdgomaa
set_option maxRecDepth 100000
open Go.RowKit

def encX (x : Ix) : Array Value := #[.int .i64 x.k, .agg #[.int .i64 x.c.v, .int .i64 x.c.s, .bool x.c.dead]]
def encI (R : List Ix) (k : Nat) : Array Value := encX (R.getD k ⟨0, ⟨0, 0, false⟩⟩)
theorem encI_at {R : List Ix} {k : Nat} (h : k < R.length) : encI R k = encX R[k] := by
  unfold encI
  rw [List.getD_eq_getElem?_getD, List.getElem?_eq_getElem h]
  rfl
set_option maxHeartbeats 8000000 in
theorem range2_hands (cb : Nat) (A : Option Addr) (c : Nat) (O0 : Nat → Prop) (R : List Ix) (w : World) (hb : w.cell? ⟨cb, 0, none⟩ = some (.slice A R.length c)) (hr : Rdv w A R.length 4 (rowV Ix.vals R)) (hn : R.length ≤ 100000)
    (_hn0 : ∀ k, O0 k → k < w.heap.size) (hB0 : O0 cb) (hA0 : ∀ b o, A = some ⟨b, o, none⟩ → O0 b) :
    Hands2 Try.prog 88 #[.pointer (some ⟨cb, 0, none⟩)] O0 R.length (encI R) (fun _ _ => True) w := by
  intro l J Jx W O hW hJ hJx hRq hY h0 hsub hlt
  have HS := Lib.hid (fun W' (h : Kps O0 W W') => (⟨(World.cell?_of_block ((hW.trans h).2 cb hB0)).trans hb, ⟨hr.1, fun hp => by
      obtain ⟨bw, ow, e, hcell⟩ := hr.2 hp
      have hbw := hA0 bw ow e
      exact ⟨bw, ow, e, fun j u hj => (World.cell?_of_block ((hW.trans h).2 bw hbw)).trans (hcell j u hj)⟩⟩⟩ :
    W'.cell? ⟨cb, 0, none⟩ = some (.slice A R.length c) ∧ Rdv W' A R.length 4 (rowV Ix.vals R)))
  obtain ⟨n, hnn⟩ : ∃ n, n = R.length := ⟨_, rfl⟩
  have HN := Lib.hid hnn
  rw [← hnn] at HS hn hY ⊢
  have HJ := Lib.hid hJ
  have HY := Lib.hid hY
  have H0 := Lib.hid h0
  have HSUB := Lib.hid hsub
  have HLT := Lib.hid hlt
  obtain ⟨x1, _⟩ := HS.out W (Kps.refl _ _)
  clear hY hJ hJx hr hb hW h0 hnn _hn0 hsub hlt hRq
  refine callsIn_of_wp Try.func88 rfl trivial ?_ rfl
  simp only [Try.ntmps88, List.size_toArray, List.length_cons, List.length_nil, Nat.reduceAdd, Nat.reduceSub, Array.replicate_succ, Array.replicate_zero, List.push_toArray, List.append_toArray, List.nil_append, List.cons_append]
  gi_wp2_with fail
  gi_loopw [4, 7, 8, 9, 10, 11, 12, 13, 14, 15, 16, 17, 18] (fun _ ix _ _ _ _ _ _ _ _ _ _ _ wr => ∃ k : Nat, k ≤ n ∧ ix = .int .i64 (k : Int) ∧ J k O wr ∧ Kps O W wr) (fun _ ix _ _ _ _ _ _ _ _ _ _ _ wr => n - (intOf ix).toNat)
  case atStart => exact ⟨0, Nat.zero_le _, rfl, H0.out, Kps.refl _ _⟩
  case round =>
    obtain ⟨k, hk, rfl, hJk, hb⟩ := hrel
    have HJK := Lib.hid hJk
    have HBK := Lib.hid hb
    by_cases hlt : k < n
    · obtain ⟨y1, hrd⟩ := HS.out wr (hb.mono HSUB.out)
      have hkl : k < R.length := by rw [← HN.out]; exact hlt
      obtain ⟨bw, ow, rfl, hcell⟩ := hrd.2 (by omega)
      obtain ⟨x, hx⟩ : ∃ x, x = R[k] := ⟨_, rfl⟩
      have key : ∀ (r : Nat) (u : Value), r < 4 → (x.vals)[r]? = some u → wr.cell? ⟨bw, ow + (k * 4 + r), none⟩ = some u := fun r u hr2 hu => hcell (k * 4 + r) u ((rowV_get Ix.vals 4 Ix.vlen R k hkl r hr2).trans (by rw [← hx]; exact hu))
      have z0 : wr.cell? ⟨bw, ow + k * 4, none⟩ = some (.int .i64 x.c.v) := key 0 _ (by omega) rfl
      have z1 : wr.cell? ⟨bw, ow + k * 4 + 1, none⟩ = some (.int .i64 x.c.s) := key 1 _ (by omega) rfl
      have z2 : wr.cell? ⟨bw, ow + k * 4 + 2, none⟩ = some (.bool x.c.dead) := key 2 _ (by omega) rfl
      have z3 : wr.cell? ⟨bw, ow + k * 4 + 3, none⟩ = some (.int .i64 x.k) := key 3 _ (by omega) rfl
      have hal : Below wr.heap.size wr (wr.alloc (.cells #[.int .i64 x.c.v, .int .i64 x.c.s, .bool x.c.dead, .int .i64 x.k] 166)) := (Below.refl _ _).alloc (Nat.le_refl _) _
      have hOw : ∀ q, O q → q < wr.heap.size := fun q hq => Nat.lt_of_lt_of_le (HLT.out q hq) HBK.out.1
      have hyR := HY.out k O _ hlt ((HJ.out k).below HJK.out hal) (fun q hq => Nat.lt_of_lt_of_le (hOw q hq) hal.size)
      have hen : encI R k = #[.int .i64 x.k, .agg #[.int .i64 x.c.v, .int .i64 x.c.s, .bool x.c.dead]] := by rw [encI_at hkl, ← hx]; rfl
      rw [hen] at hyR
      have HKA := Lib.hid (Kps.of_below hal hOw)
      have hki : (k : Int) < (n : Int) := by omega
      clear x1 hb hJk hrd hcell key hx hal hen hOw
      obtain ⟨fn, tmps, assign, body, hy, hR⟩ := hyR
      gi_wp2_with fail
      refine hR.mono ?_
      rintro e W3 ⟨hk3, ⟨rfl, hJ3⟩ | ⟨rfl, hJx3⟩⟩
      · have HJ3 := Lib.hid hJ3
        have HB3 := Lib.hid ((HBK.out.trans HKA.out).trans hk3)
        clear hJ3 hk3
        gi_wp2_with fail
        go_roundw
        case rel => exact ⟨k + 1, by omega, by go_num, HJ3.out, HB3.out⟩
        case measure => simp [intOf]; omega
      · have HX3 := Lib.hid hJx3
        have HB3 := Lib.hid ((HBK.out.trans HKA.out).trans hk3)
        clear hJx3 hk3
        gi_wp2_with fail
        refine bodyPost_ret (results_none rfl _ _ _) rfl ?_
        exact ⟨⟨_, rfl⟩, O, fun _ h => h, fun q hq => Nat.lt_of_lt_of_le (HLT.out q hq) HB3.out.1, .inr ⟨k, hlt, HX3.out⟩⟩
    · obtain rfl : k = n := by omega
      clear hb
      gi_wp2_with fail
      go_end0
      exact ⟨⟨_, rfl⟩, O, fun _ h => h, fun q hq => Nat.lt_of_lt_of_le (HLT.out q hq) HBK.out.1, .inl HJK.out⟩
end Go.Proofs.Ytejpjbmbcdgomaa

/- A store's entries, in order. -/
namespace Go.Proofs.Ytejpjbmbcdgomaa
set_option maxRecDepth 100000
open Go.RowKit

/-- An entry: a table, and an item of it. -/
structure En where
  t : Nat
  x : Ix
def En.vals (e : En) : List Value := [.int .i64 (e.t : Int), .int .i64 e.x.k, .int .i64 e.x.c.v, .int .i64 e.x.c.s, .bool e.x.c.dead]
theorem En.vlen (e : En) : e.vals.length = 5 := rfl
def tag (t : Nat) (l : List Ix) : List En := l.map fun x => ⟨t, x⟩
theorem tag_len (t : Nat) (l : List Ix) : (tag t l).length = l.length := List.length_map ..
/-- The entries of n tables from table i on. -/
def allE (ps : Nat → List Ix) : Nat → Nat → List En
  | _, 0 => []
  | i, n + 1 => tag i (ps i) ++ allE ps (i + 1) n
theorem allE_add (ps : Nat → List Ix) : ∀ (m i n : Nat), allE ps i (m + n) = allE ps i m ++ allE ps (i + m) n
  | 0, i, n => by simp [allE]
  | m + 1, i, n => by
    have e : m + 1 + n = (m + n) + 1 := by omega
    rw [e, allE, allE, allE_add ps m (i + 1) n, List.append_assoc]
    congr 3
    omega
theorem allE_snoc (ps : Nat → List Ix) (i n : Nat) : allE ps i (n + 1) = allE ps i n ++ tag (i + n) (ps (i + n)) := by
  rw [allE_add ps n i 1]
  simp [allE]
theorem allE_congr {ps qs : Nat → List Ix} : ∀ {n i : Nat}, (∀ j, i ≤ j → j < i + n → ps j = qs j) → allE ps i n = allE qs i n
  | 0, _, _ => rfl
  | n + 1, i, h => by rw [allE, allE, h i (by omega) (by omega), allE_congr (n := n) (i := i + 1) fun j h1 h2 => h j (by omega) (by omega)]
/-- Below the entries of table i. -/
def offE (ps : Nat → List Ix) (i0 i : Nat) : Nat := (allE ps i0 (i - i0)).length
theorem offE_next {ps : Nat → List Ix} {i0 i : Nat} (h : i0 ≤ i) : offE ps i0 (i + 1) = offE ps i0 i + (ps i).length := by
  unfold offE
  have e : i + 1 - i0 = (i - i0) + 1 := by omega
  rw [e, allE_snoc, List.length_append, tag_len]
  congr 3
  omega
theorem offE_start (ps : Nat → List Ix) (i0 : Nat) : offE ps i0 i0 = 0 := by simp [offE, allE]
theorem offE_le {ps : Nat → List Ix} {i0 i j : Nat} (h : i0 ≤ i) (hj : i ≤ j) : offE ps i0 i ≤ offE ps i0 j := by
  obtain ⟨d, rfl⟩ : ∃ d, j = i + d := ⟨j - i, by omega⟩
  induction d with
  | zero => exact Nat.le_refl _
  | succ d ih =>
    have := ih (by omega)
    have e := offE_next (ps := ps) (i0 := i0) (i := i + d) (by omega)
    have e2 : i + (d + 1) = i + d + 1 := by omega
    rw [e2, e]
    omega
/-- The q-th entry of table i. -/
theorem allE_at {ps : Nat → List Ix} {i0 i m q : Nat} (h : i0 ≤ i) (hm : i < i0 + m) (hq : q < (ps i).length) : (allE ps i0 m)[offE ps i0 i + q]? = some ⟨i, (ps i)[q]⟩ := by
  obtain ⟨d, rfl⟩ : ∃ d, m = (i - i0) + (1 + d) := ⟨m - (i - i0) - 1, by omega⟩
  rw [allE_add, List.getElem?_append_right (by unfold offE; omega)]
  have e1 : offE ps i0 i + q - (allE ps i0 (i - i0)).length = q := by unfold offE; omega
  have e2 : i0 + (i - i0) = i := by omega
  rw [e1, e2, Nat.add_comm 1 d, allE, List.getElem?_append_left (by rw [tag_len]; exact hq)]
  unfold tag
  rw [List.getElem?_map, List.getElem?_eq_getElem hq]
  rfl
def loI : Int := -9223372036854775808
def hiI : Int := 9223372036854775807
/-- What of table i lies at a key or behind it. -/
def partF (t k : Int) (ts : Tb) (i : Nat) : List Ix := rng (if (i : Int) = t then k else loI) hiI (ts i)
def i0F (t : Int) : Nat := min (max t 0).toNat 4
def fromE (t k : Int) (ts : Tb) : List En := allE (partF t k ts) (i0F t) (4 - i0F t)
def ents (ts : Tb) : List En := allE ts 0 4
def NumL (l : List Ix) : Prop := ∀ x ∈ l, -9223372036854775808 ≤ x.k ∧ x.k ≤ 9223372036854775807
theorem rng_full {l : List Ix} (h : NumL l) : rng loI hiI l = l := filter_all fun x hx => by have := h x hx; unfold loI hiI; simp; omega
theorem fromE_all {ts : Tb} (h : ∀ i, i < 4 → NumL (ts i)) : fromE 0 loI ts = ents ts := by
  unfold fromE ents
  have e0 : i0F 0 = 0 := by decide
  rw [e0]
  refine allE_congr fun j _ hj => ?_
  unfold partF
  have : (if (j : Int) = 0 then loI else loI) = loI := by split <;> rfl
  rw [this, rng_full (h j (by omega))]
/-- The live ones. -/
def liveE (l : List En) : List En := l.filter fun e => !e.x.c.dead
theorem liveE_tag (t : Nat) (l : List Ix) : (liveE (tag t l)).length = liveL l := by
  unfold liveE liveL tag
  rw [← List.countP_eq_length_filter, List.countP_map]
  rfl
theorem liveE_ents (ts : Tb) : (liveE (ents ts)).length = liveT ts := by
  unfold ents liveT
  simp only [allE, List.append_nil]
  unfold liveE
  simp only [List.filter_append, List.length_append]
  have h := fun t l => liveE_tag t l
  unfold liveE at h
  rw [h, h, h, h]
  show liveL (ts 0) + (liveL (ts 1) + (liveL (ts 2) + liveL (ts 3))) = _
  omega
end Go.Proofs.Ytejpjbmbcdgomaa

/- entries: what a range over a store's entries hands over. -/
namespace Go.Proofs.Ytejpjbmbcdgomaa
set_option maxRecDepth 100000
open Go.RowKit

theorem round_any {l1 m m' : Nat} {P : Program} {l f : Nat} {tmps : Array Value} {assign body : Code} {w : World} {R : Ending → World → Prop} (h : RoundIn Fence.wide m P l f tmps assign body w R) : RoundIn (Fence.wide.inRound l1) m' P l f tmps assign body w R :=
  ⟨trivial, fun c cs _ => h.2 c cs (room_wide _)⟩
/-- What stands of an outer range while an inner one goes on: its blocks are none of the inner one's, and stay. -/
def Lay (J : (Nat → Prop) → World → Prop) (Own : Nat → Prop) (W0 : World) (Oin : Nat → Prop) (W : World) : Prop :=
  ∃ Oo, J Oo W ∧ (∀ q, Oin q → Oo q) ∧ (∀ q, Own q → Oo q ∧ ¬ Oin q ∧ W.heap[q]? = W0.heap[q]?) ∧ (∀ q, Oo q → q < W.heap.size) ∧ ∀ q, Own q → q < W.heap.size
theorem St2.lay {J : (Nat → Prop) → World → Prop} (hJ : St2 J) (Own : Nat → Prop) (W0 : World) : St2 (Lay J Own W0) := by
  intro O O' W W' ⟨Oo, h1, h2, h3, h4, h5⟩ hC hG
  refine ⟨fun q => Oo q ∨ O' q, hJ Oo _ W W' h1 (hC.mono h2) ⟨fun q e => .inl e, fun q e => ?_⟩, fun q e => .inr e, fun q e => ⟨.inl (h3 q e).1, fun c => ?_, (hC.block q (h5 q e) (h3 q e).2.1).trans (h3 q e).2.2⟩, fun q e => ?_, fun q e => Nat.lt_of_lt_of_le (h5 q e) hC.size⟩
  · rcases e with e | e
    · exact .inl e
    · exact (hG.2 q e).imp (h2 q) id
  · rcases hG.2 q c with c | c
    · exact (h3 q e).2.1 c
    · have := h5 q e; omega
  · rcases e with e | e
    · exact Nat.lt_of_lt_of_le (h4 q e) hC.size
    · rcases hG.2 q e with e | e
      · exact Nat.lt_of_lt_of_le (h4 q (h2 q e)) hC.size
      · exact e.2
/-- Marks of ranges that are over. -/
def Marks (ds : List Deferred) (w : World) : Prop := ∀ d ∈ ds, ∃ r, d.target = .collected r ∧ w.heap[r]? = some (.deferred (some []))
theorem Marks.keep {ds : List Deferred} {w w1 : World} (h : Marks ds w) (hk : ∀ d ∈ ds, ∀ r, d.target = .collected r → w1.heap[r]? = w.heap[r]?) : Marks ds w1 := fun d hd => by
  obtain ⟨r, h1, h2⟩ := h d hd
  exact ⟨r, h1, (hk d hd r h1).trans h2⟩
/-- The marks of an activation: apart. -/
def Apt (ds : List Deferred) : Prop := ds.Pairwise fun a b => ∀ r, a.target = .collected r → b.target ≠ .collected r
theorem leaves_marks {n : Nat} {P : Program} {fn : Func} {tmps : Array Value} {R : Ending → World → Prop} {v : Value} : ∀ (ds : List Deferred) (w : World), Marks ds w → Apt ds →
    (∀ w1, w1.heap.size = w.heap.size → w1.os = w.os → w1.tape = w.tape → w1.output = w.output → (∀ q, (∀ d ∈ ds, d.target ≠ .collected q) → w1.heap[q]? = w.heap[q]?) → (results fn tmps).run P w1 = .ok v w1 ∧ R (.returned v) w1) → LeavesInM Fence.wide n P fn tmps R ds .returning w
  | [], w, _, _, h => by
    obtain ⟨h1, h2⟩ := h w rfl rfl rfl rfl fun _ _ => rfl
    unfold LeavesInM
    exact ⟨v, h1, h2⟩
  | d :: ds, w, hm, ha, h => by
    obtain ⟨r, h1, h2⟩ := hm d (by simp)
    obtain ⟨a1, a2⟩ := List.pairwise_cons.1 ha
    refine ⟨by simp, .inl ⟨r, _, h1, run_takeDeferred h2, ?_⟩⟩
    refine leaves_marks ds _ (fun d' hd' => ?_) a2 fun w1 e1 e2 e3 e4 e5 => h w1 (e1.trans World.putObj_size) e2 e3 e4 fun q hq => ?_
    · obtain ⟨r', g1, g2⟩ := hm d' (by simp [hd'])
      refine ⟨r', g1, (World.putObj_heap_other (fun e => ?_)).trans g2⟩
      subst e
      exact a1 d' hd' _ h1 g1
    · rw [e5 q fun d' hd' => hq d' (by simp [hd']), World.putObj_heap_other (fun e => by subst e; exact hq d (by simp) h1)]
def encE (E : List En) (k : Nat) : Array Value := #[.agg ((E.getD k ⟨0, ⟨0, ⟨0, 0, false⟩⟩⟩).vals.toArray)]
theorem encE_at {E : List En} {k : Nat} {e : En} (h : E[k]? = some e) : encE E k = #[.agg #[.int .i64 (e.t : Int), .int .i64 e.x.k, .int .i64 e.x.c.v, .int .i64 e.x.c.s, .bool e.x.c.dead]] := by
  unfold encE
  rw [List.getD_eq_getElem?_getD, h]
  rfl
/-- A table's list at hand. -/
def TabAt (W : World) (sb i : Nat) (l : List Ix) : Prop := ∃ b F d, W.cell? ⟨sb, i, none⟩ = some (.pointer (some ⟨b, 0, none⟩)) ∧ TL W F b l d
theorem SM.tab {w : World} {G : Nat → Prop} {sb : Nat} {ts : Tb} {live last : Int} (h : SM w G sb ts live last) {i : Nat} (hi : i < 4) : TabAt w sb i (ts i) := by
  obtain ⟨b, F, d, h1, h2, _⟩ := h.table hi
  exact ⟨b, F, d, h1, h2⟩
end Go.Proofs.Ytejpjbmbcdgomaa
