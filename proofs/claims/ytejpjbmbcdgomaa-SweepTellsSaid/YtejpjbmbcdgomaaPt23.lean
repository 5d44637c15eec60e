/- NRange, SHands, SEntr: put together. -/
import Derived.Test.YtejpjbmbcdgomaaPt06
import Derived.RangeFuncNested
import Derived.RangeFuncBound
import Derived.RangeFuncCalls
import Derived.RangeFuncLeaves
import Derived.OwnWalkIn
import Derived.TacticsInMore
import Derived.LoopNIn
import Derived.LoopIn
import Derived.Test.YtejpjbmbcdgomaaPt15
import Derived.Sort.CutIn
import Derived.RegionIn
import Derived.BigFrameIn
import Derived.BigGuardIn
import Derived.Test.YtejpjbmbcdgomaaPt03
/- Ranges over functions whose rounds range themselves: what an iterator owns grows as it goes; what it leans on is asked round by round. -/
namespace Go.Proofs.Ytejpjbmbcdgomaa
set_option maxRecDepth 100000
open Go.RowKit

/-- Some blocks stay as they are. -/
def Kps (O : Nat → Prop) (W W' : World) : Prop := W.heap.size ≤ W'.heap.size ∧ ∀ k, O k → W'.heap[k]? = W.heap[k]?
theorem Kps.refl (O : Nat → Prop) (W : World) : Kps O W W := ⟨Nat.le_refl _, fun _ _ => rfl⟩
theorem Kps.trans {O : Nat → Prop} {A B C : World} (h : Kps O A B) (k : Kps O B C) : Kps O A C := ⟨Nat.le_trans h.1 k.1, fun q hq => (k.2 q hq).trans (h.2 q hq)⟩
theorem Kps.mono {O O1 : Nat → Prop} {A B : World} (h : Kps O A B) (hs : ∀ q, O1 q → O q) : Kps O1 A B := ⟨h.1, fun q hq => h.2 q (hs q hq)⟩
theorem Kps.of_below {O : Nat → Prop} {W W' : World} (h : Below W.heap.size W W') (hO : ∀ k, O k → k < W.heap.size) : Kps O W W' := ⟨h.size, fun k hk => h.block k (hO k hk)⟩
theorem Kps.put {O : Nat → Prop} {W : World} {l : Nat} {o : Obj} (hl : ¬ O l) : Kps O W (W.putObj l o) := ⟨(grownBy_putObj' W l o).size, fun _ hk => World.putObj_heap_other (fun e => hl (e ▸ hk))⟩
/-- What is owned grows by new blocks alone. -/
def OG (O O' : Nat → Prop) (W W' : World) : Prop := (∀ q, O q → O' q) ∧ ∀ q, O' q → O q ∨ (W.heap.size ≤ q ∧ q < W'.heap.size)
theorem OG.refl (O : Nat → Prop) (W W' : World) : OG O O W W' := ⟨fun _ h => h, fun _ h => .inl h⟩
/-- What stands stays whatever is done to what is owned, or is new. -/
def St2 (J : (Nat → Prop) → World → Prop) : Prop := ∀ O O' W W', J O W → Ch W W' O → OG O O' W W' → J O' W'
theorem ch_put {W : World} {l : Nat} (o : Obj) {O : Nat → Prop} (hl : O l) : Ch W (W.putObj l o) O :=
  ⟨rfl, rfl, rfl, by rw [World.putObj_size]; exact Nat.le_refl _, fun k _ hk => World.putObj_heap_other (fun e => hk (e ▸ hl))⟩
theorem St2.put {J : (Nat → Prop) → World → Prop} (h : St2 J) {O : Nat → Prop} {W : World} {l : Nat} (o : Obj) (hj : J O W) (hl : O l) : J O (W.putObj l o) := h O O W _ hj (ch_put o hl) (OG.refl _ _ _)
theorem St2.below {J : (Nat → Prop) → World → Prop} (h : St2 J) {O : Nat → Prop} {W W' : World} (hj : J O W) (hb : Below W.heap.size W W') : J O W' := h O O W _ hj (Ch.of_below hb _) (OG.refl _ _ _)
theorem St2.grow {J : (Nat → Prop) → World → Prop} (h : St2 J) {O O' : Nat → Prop} {W W' : World} (hj : J O W) (hb : Below W.heap.size W W') (ho : OG O O' W W') : J O' W' := h O O' W _ hj (Ch.of_below hb _) ho
/-- The contract of a function that is ranged over: it hands over N things, one behind the other; what it owns is O0 and what it makes; it leans on Rq. -/
def Hands2 (P : Program) (gf : Nat) (lb : Array Value) (O0 : Nat → Prop) (N : Nat) (enc : Nat → Array Value) (Rq : Nat → World → Prop) (w : World) : Prop :=
  ∀ (l : Nat) (J Jx : Nat → (Nat → Prop) → World → Prop) (W : World) (O : Nat → Prop), Kps O0 w W → (∀ k, St2 (J k)) → (∀ k, St2 (Jx k)) → (∀ k O W, k ≤ N → J k O W → Rq k W) →
    (∀ k O W1, k < N → J k O W1 → (∀ q, O q → q < W1.heap.size) → YieldAt Fence.wide 9 P l (enc k) W1 fun e W' =>
      Kps O W1 W' ∧ ((e = .returned (.bool true) ∧ J (k + 1) O W') ∨ (e = .returned (.bool false) ∧ Jx (k + 1) O W'))) →
    J 0 O W → (∀ q, O0 q → O q) → (∀ q, O q → q < W.heap.size) →
    CallsIn Fence.wide 10 P gf (#[.func (.yield l) #[] #[]] ++ lb) W fun e W' => (∃ v, e = .returned v) ∧ ∃ O', (∀ q, O q → O' q) ∧ (∀ q, O' q → q < W'.heap.size) ∧ (J N O' W' ∨ ∃ k, k < N ∧ Jx (k + 1) O' W')
/-- How a round may be left. -/
def RoundEnd2 (O : Nat → Prop) (I : World → Prop) (Ix : Code → World → Prop) (W : World) : Exit → Act → World → Prop
  | .normal, _, W' => Kps O W W' ∧ I W'
  | .ret, _, W' => Kps O W W' ∧ Ix .ret W'
  | .exit id, _, W' => Kps O W W' ∧ Ix (.exit id) W'
  | .goto t, _, W' => Kps O W W' ∧ Ix (.goto t) W'
  | .panic _, _, _ => False
  | .outgrown, _, _ => False
/-- The statement, over such a function. -/
theorem wp_range2 {P : Program} {g : Operand} {ps : Array Tmp} {assign body : Code} {Q : Exit → Act → World → Prop} {a : Act} {w w0 : World} {gf : Nat} {lb : Array Value} {O0 O : Nat → Prop} {N : Nat} {enc : Nat → Array Value} {Rq : Nat → World → Prop}
    (hg : a.eval g = .func (.func gf) #[] lb) (eg : ∀ args w, (callFunc gf args).run P w = .ok (.enter gf args) w) (hseq : Hands2 P gf lb O0 N enc Rq w0) (hb0 : Kps O0 w0 w) (henc : ∀ k, (enc k).size = ps.size)
    (I : Nat → (Nat → Prop) → World → Prop) (Ix : Code → Nat → (Nat → Prop) → World → Prop) (hI : ∀ k, St2 (I k)) (hIx : ∀ c k, St2 (Ix c k)) (hRq : ∀ k O W, k ≤ N → I k O W → Rq k W)
    (h0 : I 0 O w) (hO : ∀ q, O0 q → O q) (hn : ∀ q, O q → q < w.heap.size)
    (hround : ∀ (l lp k : Nat) (ob : Obj) (O1 : Nat → Prop) (W : World), k < N → I k O1 W → (∀ q, O q → O1 q) → (∀ q, O1 q → q < W.heap.size) → O1 lp → w.heap.size ≤ lp → ∀ K : Act → World → Prop,
      (∀ a1 Wa, Below W.heap.size W Wa → body.wpIn (Fence.wide.inRound l) 9 P (RoundEnd2 O1 (I (k + 1) O1) (fun c => Ix c (k + 1) O1) (Wa.putObj lp ob)) a1 (Wa.putObj lp ob) → K a1 Wa) →
      assign.wpIn (Fence.wide.inRound l) 9 P (Exit.then K (fun _ _ _ => False)) { tmps := (ps.zip (enc k)).foldl (fun t (p, u) => t.setIfInBounds p u) a.tmps, defers := [] } W)
    (hdone : ∀ (D : Nat) (O1 : Nat → Prop) (W : World), I N O1 W → (∀ q, O q → O1 q) → O1 D → (∀ q, O1 q → q < W.heap.size) → w.heap.size ≤ D → W.heap[D]? = some (.deferred (some [])) → Q .normal { a with defers := { target := .collected D, args := #[] } :: a.defers } W)
    (hstop : ∀ (D k : Nat) (c : Code) (O1 : Nat → Prop) (W : World), k < N → Ix c (k + 1) O1 W → (∀ q, O q → O1 q) → O1 D → (∀ q, O1 q → q < W.heap.size) → w.heap.size ≤ D → W.heap[D]? = some (.deferred (some [])) → c.wpIn Fence.wide 11 P Q { a with defers := { target := .collected D, args := #[] } :: a.defers } W) :
    (Code.rangeFunc g ps assign body).wpIn Fence.wide 11 P Q a w := by
  refine wpIn_rangeFunc fun fn _ => ?_
  obtain ⟨D, hD⟩ : ∃ D, D = w.heap.size := ⟨_, rfl⟩
  let rc : LoopState → Option Code → Loop := fun st pe => { state := st, pending := pe, fn := fn, tmps := a.tmps, params := ps, assign := assign, body := body, defers := D }
  have hent := run_enterLoop_outer (P := P) (w := w) fn a.tmps ps assign body
  rw [← hD] at hent
  obtain ⟨W1, hW1⟩ : ∃ W1, W1 = (w.alloc (.deferred (some []))).alloc (.loop (rc .ready none)) := ⟨_, rfl⟩
  have hs1 : W1.heap.size = w.heap.size + 2 := by rw [hW1]; simp
  have hbw : Below w.heap.size w W1 := by rw [hW1]; exact ((Below.refl _ w).alloc (Nat.le_refl _) _).alloc (by simp) _
  have hL1 : W1.heap[D + 1]? = some (.loop (rc .ready none)) := by
    have := heap_alloc_new (w.alloc (.deferred (some []))) (.loop (rc .ready none))
    have e : (w.alloc (.deferred (some []))).heap.size = D + 1 := by rw [hD]; simp
    rw [e, ← hW1] at this
    exact this
  have hD1 : W1.heap[D]? = some (.deferred (some [])) := by rw [hW1, hD]; exact (heap_alloc_old _ _ (by simp)).trans (heap_alloc_new w _)
  refine ⟨D + 1, _, W1, { target := .fn (.func gf) lb, args := #[.func (.yield (D + 1)) #[] #[]] }, W1, gf, #[.func (.yield (D + 1)) #[] #[]] ++ lb, W1, by rw [hW1]; exact hent, ?_, fun _ _ => trivial, ?_, fun _ => by omega, ?_⟩
  · simp only [resolve, hg]
    simp [go_sem]
  · simp [invoke, go_sem, eg]
  let JJ : (LoopState) → (Option Code) → (Nat → Prop) → ((Nat → Prop) → World → Prop) → World → Prop := fun st pe O1 X W => ∃ O2, X O2 W ∧ (∀ q, O1 q → O2 q) ∧ (∀ q, O q → O2 q) ∧ O2 D ∧ O2 (D + 1) ∧ ¬ O1 D ∧ ¬ O1 (D + 1) ∧ (∀ q, O2 q → q < W.heap.size) ∧ W.heap[D + 1]? = some (.loop (rc st pe)) ∧ W.heap[D]? = some (.deferred (some []))
  have stJ : ∀ (st : LoopState) (pe : Option Code) (X : (Nat → Prop) → World → Prop), St2 X → St2 (fun O1 W => JJ st pe O1 X W) := by
    intro st pe X hX O1 O1' W W' ⟨O2, h1, h2, h3, h4, h5, h6, h7, h8, h9, h10⟩ hC hG
    have lD := h8 D h4
    have lD1 := h8 (D + 1) h5
    refine ⟨fun q => O2 q ∨ O1' q, hX O2 _ W W' h1 (hC.mono h2) ⟨fun q e => .inl e, fun q e => ?_⟩, fun q e => .inr e, fun q e => .inl (h3 q e), .inl h4, .inl h5, fun e => ?_, fun e => ?_, fun q e => ?_, (hC.block _ lD1 h7).trans h9, (hC.block _ lD h6).trans h10⟩
    · rcases e with e | e
      · exact .inl e
      · exact (hG.2 q e).imp (h2 q) id
    · rcases hG.2 _ e with e | e
      · exact h6 e
      · omega
    · rcases hG.2 _ e with e | e
      · exact h7 e
      · omega
    · rcases e with e | e
      · exact Nat.lt_of_lt_of_le (h8 q e) hC.size
      · rcases hG.2 q e with e | e
        · exact Nat.lt_of_lt_of_le (h8 q (h2 q e)) hC.size
        · exact e.2
  have hOD : ∀ q, O q → q < D := fun q e => by rw [hD]; exact hn q e
  have h01 : I 0 (fun q => O q ∨ q = D ∨ q = D + 1) W1 := hI 0 O _ w W1 h0 (Ch.of_below hbw _) ⟨fun q e => .inl e, fun q e => by
    rcases e with e | e | e
    · exact .inl e
    · exact .inr (by omega)
    · exact .inr (by omega)⟩
  refine (hseq (D + 1) (fun k O1 W => JJ .ready none O1 (I k) W) (fun k O1 W => ∃ c, JJ .done (some c) O1 (Ix c k) W) W1 O (hb0.trans (Kps.of_below hbw fun q e => hn q (hO q e))) (fun k => stJ _ _ _ (hI k))
    (fun k O1 O1' W W' ⟨c, h⟩ hC hG => ⟨c, stJ _ _ _ (hIx c k) O1 O1' W W' h hC hG⟩) (fun k O1 W hk ⟨O2, h, _⟩ => hRq k O2 W hk h) ?_
    ⟨_, h01, fun q e => .inl e, fun q e => .inl e, .inr (.inl rfl), .inr (.inr rfl), fun e => by have := hOD _ e; omega, fun e => by have := hOD _ e; omega, fun q e => by
      rcases e with e | e | e
      · have := hOD _ e; omega
      · omega
      · omega, hL1, hD1⟩ hO (fun q e => by have := hOD _ e; omega)).mono ?_
  · rintro k O1 W hk ⟨O2, hi, h2, h3, h4, h5, h6, h7, h8, hl, hd⟩ _
    have hlt : D + 1 < W.heap.size := h8 _ h5
    refine ⟨fn, _, assign, body, run_yield (P := P) (args := enc k) hl (henc k), roundIn_of_wpIn trivial (hround _ (D + 1) k (.loop (rc .busy none)) O2 W hk hi h3 h8 h5 (by omega) _ fun a1 Wa hba hb => ⟨_, run_beginRound ((hba.block _ hlt).trans hl) rfl, wpIn_mono hb ?_⟩)⟩
    have fin : ∀ (jump : Option Code) (W3 : World), Kps O2 (Wa.putObj (D + 1) (.loop (rc .busy none))) W3 →
        (Instr.endRound (D + 1) jump).run P W3 = .ok (.bool jump.isNone) (W3.putObj (D + 1) (.loop (rc (if jump.isNone then .ready else .done) jump))) ∧
        Kps O1 W (W3.putObj (D + 1) (.loop (rc (if jump.isNone then .ready else .done) jump))) ∧ ∀ X : (Nat → Prop) → World → Prop, St2 X → X O2 W3 → JJ (if jump.isNone then .ready else .done) jump O1 X (W3.putObj (D + 1) (.loop (rc (if jump.isNone then .ready else .done) jump))) := fun jump W3 hk3 => by
      have hl3 : W3.heap[D + 1]? = some (.loop (rc .busy none)) := (hk3.2 _ h5).trans (World.putObj_heap_same (Nat.lt_of_lt_of_le hlt hba.size))
      have hd3 : W3.heap[D]? = some (.deferred (some [])) := (hk3.2 _ h4).trans ((World.putObj_heap_other (by omega)).trans ((hba.block D (by omega)).trans hd))
      refine ⟨run_endRound (P := P) jump hl3, ((((Kps.of_below hba fun q e => h8 q (h2 q e)).trans (Kps.put h7)).trans (hk3.mono h2)).trans (Kps.put h7)), fun X hX hx => ?_⟩
      have hsz : W.heap.size ≤ W3.heap.size := Nat.le_trans hba.size (by have := hk3.1; rwa [World.putObj_size] at this)
      exact ⟨O2, hX.put _ hx h5, h2, h3, h4, h5, h6, h7, fun q e => by rw [World.putObj_size]; exact Nat.lt_of_lt_of_le (h8 q e) hsz, World.putObj_heap_same (Nat.lt_of_lt_of_le hlt hsz), (World.putObj_heap_other (by omega)).trans hd3⟩
    rintro e a3 W3 hp
    cases e with
    | normal =>
      obtain ⟨hr, hk4, hx⟩ := fin none W3 hp.1
      exact ⟨_, _, hr, hk4, .inl ⟨rfl, hx _ (hI _) hp.2⟩⟩
    | ret =>
      obtain ⟨hr, hk4, hx⟩ := fin (some .ret) W3 hp.1
      exact ⟨_, _, hr, hk4, .inr ⟨rfl, .ret, hx _ (hIx _ _) hp.2⟩⟩
    | exit id =>
      obtain ⟨hr, hk4, hx⟩ := fin (some (.exit id)) W3 hp.1
      exact ⟨_, _, hr, hk4, .inr ⟨rfl, .exit id, hx _ (hIx _ _) hp.2⟩⟩
    | goto t =>
      obtain ⟨hr, hk4, hx⟩ := fin (some (.goto t)) W3 hp.1
      exact ⟨_, _, hr, hk4, .inr ⟨rfl, .goto t, hx _ (hIx _ _) hp.2⟩⟩
    | panic _ => exact hp.elim
    | outgrown => exact hp.elim
  · rintro e W2 ⟨⟨v, rfl⟩, O1', hs, _, ⟨O2, hi, h2, h3, h4, h5, h6, h7, h8, hl, hd⟩ | ⟨k, hk, c, O2, hi, h2, h3, h4, h5, h6, h7, h8, hl, hd⟩⟩
    · exact ⟨none, _, run_endLoop (P := P) hl (by simp [rc]), hdone D O2 _ ((hI N).put _ hi h5) h3 h4 (fun q e => by rw [World.putObj_size]; exact h8 q e) (by omega) ((World.putObj_heap_other (by omega)).trans hd)⟩
    · exact ⟨some c, _, run_endLoop (P := P) hl (by simp [rc]), hstop D k c O2 _ hk ((hIx c _).put _ hi h5) h3 h4 (fun q e => by rw [World.putObj_size]; exact h8 q e) (by omega) ((World.putObj_heap_other (by omega)).trans hd)⟩
end Go.Proofs.Ytejpjbmbcdgomaa

/- What a tree's range hands over. -/
namespace Go.Proofs.Ytejpjbmbcdgomaa
set_option maxRecDepth 100000
open Go.RowKit

def encX (x : Ix) : Array Value := #[.int .i64 x.k, .agg #[.int .i64 x.c.v, .int .i64 x.c.s, .bool x.c.dead]]
def encI (R : List Ix) (k : Nat) : Array Value := encX (R.getD k ⟨0, ⟨0, 0, false⟩⟩)
theorem encI_at {R : List Ix} {k : Nat} (h : k < R.length) : encI R k = encX R[k] := by
  unfold encI
  rw [List.getD_eq_getElem?_getD, List.getElem?_eq_getElem h]
  rfl
set_option maxHeartbeats 8000000 in
theorem range2_hands (cb : Nat) (A : Option Addr) (c : Nat) (O0 : Nat → Prop) (R : List Ix) (w : World) (hb : w.cell? ⟨cb, 0, none⟩ = some (.slice A R.length c)) (hr : Rdv w A R.length 4 (rowV Ix.vals R)) (hn : R.length ≤ 100000)
    (_hn0 : ∀ k, O0 k → k < w.heap.size) (hB0 : O0 cb) (hA0 : ∀ b o, A = some ⟨b, o, none⟩ → O0 b) :
    Hands2 Try.prog 88 #[.pointer (some ⟨cb, 0, none⟩)] O0 R.length (encI R) (fun _ _ => True) w := by
  intro l J Jx W O hW hJ hJx hRq hY h0 hsub hlt
  have HS := Lib.hid (fun W' (h : Kps O0 W W') => (⟨(World.cell?_of_block ((hW.trans h).2 cb hB0)).trans hb, ⟨hr.1, fun hp => by
      obtain ⟨bw, ow, e, hcell⟩ := hr.2 hp
      have hbw := hA0 bw ow e
      exact ⟨bw, ow, e, fun j u hj => (World.cell?_of_block ((hW.trans h).2 bw hbw)).trans (hcell j u hj)⟩⟩⟩ :
    W'.cell? ⟨cb, 0, none⟩ = some (.slice A R.length c) ∧ Rdv W' A R.length 4 (rowV Ix.vals R)))
  obtain ⟨n, hnn⟩ : ∃ n, n = R.length := ⟨_, rfl⟩
  have HN := Lib.hid hnn
  rw [← hnn] at HS hn hY ⊢
  have HJ := Lib.hid hJ
  have HY := Lib.hid hY
  have H0 := Lib.hid h0
  have HSUB := Lib.hid hsub
  have HLT := Lib.hid hlt
  obtain ⟨x1, _⟩ := HS.out W (Kps.refl _ _)
  clear hY hJ hJx hr hb hW h0 hnn _hn0 hsub hlt hRq
  refine callsIn_of_wp Try.func88 rfl trivial ?_ rfl
  simp only [Try.ntmps88, List.size_toArray, List.length_cons, List.length_nil, Nat.reduceAdd, Nat.reduceSub, Array.replicate_succ, Array.replicate_zero, List.push_toArray, List.append_toArray, List.nil_append, List.cons_append]
  gi_wp2_with fail
  gi_loopw [4, 7, 8, 9, 10, 11, 12, 13, 14, 15, 16, 17, 18] (fun _ ix _ _ _ _ _ _ _ _ _ _ _ wr => ∃ k : Nat, k ≤ n ∧ ix = .int .i64 (k : Int) ∧ J k O wr ∧ Kps O W wr) (fun _ ix _ _ _ _ _ _ _ _ _ _ _ wr => n - (intOf ix).toNat)
  case atStart => exact ⟨0, Nat.zero_le _, rfl, H0.out, Kps.refl _ _⟩
  case round =>
    obtain ⟨k, hk, rfl, hJk, hb⟩ := hrel
    have HJK := Lib.hid hJk
    have HBK := Lib.hid hb
    by_cases hlt : k < n
    · obtain ⟨y1, hrd⟩ := HS.out wr (hb.mono HSUB.out)
      have hkl : k < R.length := by rw [← HN.out]; exact hlt
      obtain ⟨bw, ow, rfl, hcell⟩ := hrd.2 (by omega)
      obtain ⟨x, hx⟩ : ∃ x, x = R[k] := ⟨_, rfl⟩
      have key : ∀ (r : Nat) (u : Value), r < 4 → (x.vals)[r]? = some u → wr.cell? ⟨bw, ow + (k * 4 + r), none⟩ = some u := fun r u hr2 hu => hcell (k * 4 + r) u ((rowV_get Ix.vals 4 Ix.vlen R k hkl r hr2).trans (by rw [← hx]; exact hu))
      have z0 : wr.cell? ⟨bw, ow + k * 4, none⟩ = some (.int .i64 x.c.v) := key 0 _ (by omega) rfl
      have z1 : wr.cell? ⟨bw, ow + k * 4 + 1, none⟩ = some (.int .i64 x.c.s) := key 1 _ (by omega) rfl
      have z2 : wr.cell? ⟨bw, ow + k * 4 + 2, none⟩ = some (.bool x.c.dead) := key 2 _ (by omega) rfl
      have z3 : wr.cell? ⟨bw, ow + k * 4 + 3, none⟩ = some (.int .i64 x.k) := key 3 _ (by omega) rfl
      have hal : Below wr.heap.size wr (wr.alloc (.cells #[.int .i64 x.c.v, .int .i64 x.c.s, .bool x.c.dead, .int .i64 x.k] 166)) := (Below.refl _ _).alloc (Nat.le_refl _) _
      have hOw : ∀ q, O q → q < wr.heap.size := fun q hq => Nat.lt_of_lt_of_le (HLT.out q hq) HBK.out.1
      have hyR := HY.out k O _ hlt ((HJ.out k).below HJK.out hal) (fun q hq => Nat.lt_of_lt_of_le (hOw q hq) hal.size)
      have hen : encI R k = #[.int .i64 x.k, .agg #[.int .i64 x.c.v, .int .i64 x.c.s, .bool x.c.dead]] := by rw [encI_at hkl, ← hx]; rfl
      rw [hen] at hyR
      have HKA := Lib.hid (Kps.of_below hal hOw)
      have hki : (k : Int) < (n : Int) := by omega
      clear x1 hb hJk hrd hcell key hx hal hen hOw
      obtain ⟨fn, tmps, assign, body, hy, hR⟩ := hyR
      gi_wp2_with fail
      refine hR.mono ?_
      rintro e W3 ⟨hk3, ⟨rfl, hJ3⟩ | ⟨rfl, hJx3⟩⟩
      · have HJ3 := Lib.hid hJ3
        have HB3 := Lib.hid ((HBK.out.trans HKA.out).trans hk3)
        clear hJ3 hk3
        gi_wp2_with fail
        go_roundw
        case rel => exact ⟨k + 1, by omega, by go_num, HJ3.out, HB3.out⟩
        case measure => simp [intOf]; omega
      · have HX3 := Lib.hid hJx3
        have HB3 := Lib.hid ((HBK.out.trans HKA.out).trans hk3)
        clear hJx3 hk3
        gi_wp2_with fail
        refine bodyPost_ret (results_none rfl _ _ _) rfl ?_
        exact ⟨⟨_, rfl⟩, O, fun _ h => h, fun q hq => Nat.lt_of_lt_of_le (HLT.out q hq) HB3.out.1, .inr ⟨k, hlt, HX3.out⟩⟩
    · obtain rfl : k = n := by omega
      clear hb
      gi_wp2_with fail
      go_end0
      exact ⟨⟨_, rfl⟩, O, fun _ h => h, fun q hq => Nat.lt_of_lt_of_le (HLT.out q hq) HBK.out.1, .inl HJK.out⟩
end Go.Proofs.Ytejpjbmbcdgomaa

/- entries: what a range over a store's entries hands over. -/
namespace Go.Proofs.Ytejpjbmbcdgomaa
set_option maxRecDepth 100000
open Go.RowKit

theorem round_any {l1 m m' : Nat} {P : Program} {l f : Nat} {tmps : Array Value} {assign body : Code} {w : World} {R : Ending → World → Prop} (h : RoundIn Fence.wide m P l f tmps assign body w R) : RoundIn (Fence.wide.inRound l1) m' P l f tmps assign body w R :=
  ⟨trivial, fun c cs _ => h.2 c cs (room_wide _)⟩
/-- What stands of an outer range while an inner one goes on: its blocks are none of the inner one's, and stay. -/
def Lay (J : (Nat → Prop) → World → Prop) (Own : Nat → Prop) (W0 : World) (Oin : Nat → Prop) (W : World) : Prop :=
  ∃ Oo, J Oo W ∧ (∀ q, Oin q → Oo q) ∧ (∀ q, Own q → Oo q ∧ ¬ Oin q ∧ W.heap[q]? = W0.heap[q]?) ∧ (∀ q, Oo q → q < W.heap.size) ∧ ∀ q, Own q → q < W.heap.size
theorem St2.lay {J : (Nat → Prop) → World → Prop} (hJ : St2 J) (Own : Nat → Prop) (W0 : World) : St2 (Lay J Own W0) := by
  intro O O' W W' ⟨Oo, h1, h2, h3, h4, h5⟩ hC hG
  refine ⟨fun q => Oo q ∨ O' q, hJ Oo _ W W' h1 (hC.mono h2) ⟨fun q e => .inl e, fun q e => ?_⟩, fun q e => .inr e, fun q e => ⟨.inl (h3 q e).1, fun c => ?_, (hC.block q (h5 q e) (h3 q e).2.1).trans (h3 q e).2.2⟩, fun q e => ?_, fun q e => Nat.lt_of_lt_of_le (h5 q e) hC.size⟩
  · rcases e with e | e
    · exact .inl e
    · exact (hG.2 q e).imp (h2 q) id
  · rcases hG.2 q c with c | c
    · exact (h3 q e).2.1 c
    · have := h5 q e; omega
  · rcases e with e | e
    · exact Nat.lt_of_lt_of_le (h4 q e) hC.size
    · rcases hG.2 q e with e | e
      · exact Nat.lt_of_lt_of_le (h4 q (h2 q e)) hC.size
      · exact e.2
/-- Marks of ranges that are over. -/
def Marks (ds : List Deferred) (w : World) : Prop := ∀ d ∈ ds, ∃ r, d.target = .collected r ∧ w.heap[r]? = some (.deferred (some []))
theorem Marks.keep {ds : List Deferred} {w w1 : World} (h : Marks ds w) (hk : ∀ d ∈ ds, ∀ r, d.target = .collected r → w1.heap[r]? = w.heap[r]?) : Marks ds w1 := fun d hd => by
  obtain ⟨r, h1, h2⟩ := h d hd
  exact ⟨r, h1, (hk d hd r h1).trans h2⟩
/-- The marks of an activation: apart. -/
def Apt (ds : List Deferred) : Prop := ds.Pairwise fun a b => ∀ r, a.target = .collected r → b.target ≠ .collected r
theorem leaves_marks {n : Nat} {P : Program} {fn : Func} {tmps : Array Value} {R : Ending → World → Prop} {v : Value} : ∀ (ds : List Deferred) (w : World), Marks ds w → Apt ds →
    (∀ w1, w1.heap.size = w.heap.size → w1.os = w.os → w1.tape = w.tape → w1.output = w.output → (∀ q, (∀ d ∈ ds, d.target ≠ .collected q) → w1.heap[q]? = w.heap[q]?) → (results fn tmps).run P w1 = .ok v w1 ∧ R (.returned v) w1) → LeavesInM Fence.wide n P fn tmps R ds .returning w
  | [], w, _, _, h => by
    obtain ⟨h1, h2⟩ := h w rfl rfl rfl rfl fun _ _ => rfl
    unfold LeavesInM
    exact ⟨v, h1, h2⟩
  | d :: ds, w, hm, ha, h => by
    obtain ⟨r, h1, h2⟩ := hm d (by simp)
    obtain ⟨a1, a2⟩ := List.pairwise_cons.1 ha
    refine ⟨by simp, .inl ⟨r, _, h1, run_takeDeferred h2, ?_⟩⟩
    refine leaves_marks ds _ (fun d' hd' => ?_) a2 fun w1 e1 e2 e3 e4 e5 => h w1 (e1.trans World.putObj_size) e2 e3 e4 fun q hq => ?_
    · obtain ⟨r', g1, g2⟩ := hm d' (by simp [hd'])
      refine ⟨r', g1, (World.putObj_heap_other (fun e => ?_)).trans g2⟩
      subst e
      exact a1 d' hd' _ h1 g1
    · rw [e5 q fun d' hd' => hq d' (by simp [hd']), World.putObj_heap_other (fun e => by subst e; exact hq d (by simp) h1)]
def encE (E : List En) (k : Nat) : Array Value := #[.agg ((E.getD k ⟨0, ⟨0, ⟨0, 0, false⟩⟩⟩).vals.toArray)]
theorem encE_at {E : List En} {k : Nat} {e : En} (h : E[k]? = some e) : encE E k = #[.agg #[.int .i64 (e.t : Int), .int .i64 e.x.k, .int .i64 e.x.c.v, .int .i64 e.x.c.s, .bool e.x.c.dead]] := by
  unfold encE
  rw [List.getD_eq_getElem?_getD, h]
  rfl
/-- A table's list at hand. -/
def TabAt (W : World) (sb i : Nat) (l : List Ix) : Prop := ∃ b F d, W.cell? ⟨sb, i, none⟩ = some (.pointer (some ⟨b, 0, none⟩)) ∧ TL W F b l d
theorem SM.tab {w : World} {G : Nat → Prop} {sb : Nat} {ts : Tb} {live last : Int} (h : SM w G sb ts live last) {i : Nat} (hi : i < 4) : TabAt w sb i (ts i) := by
  obtain ⟨b, F, d, h1, h2, _⟩ := h.table hi
  exact ⟨b, F, d, h1, h2⟩
end Go.Proofs.Ytejpjbmbcdgomaa
