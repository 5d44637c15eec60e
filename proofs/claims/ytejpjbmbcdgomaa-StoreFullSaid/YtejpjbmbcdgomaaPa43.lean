/- NRange: put together. -/
import Derived.Test.YtejpjbmbcdgomaaPa10
import Derived.RangeFuncNested
import Derived.RangeFuncBound
import Derived.RangeFuncCalls
import Derived.RangeFuncLeaves
import Derived.OwnWalkIn
import Derived.TacticsInMore
import Derived.LoopNIn
import Derived.LoopIn
/- Ranges over functions whose rounds range themselves: what an iterator owns grows as it goes; what it leans on is asked round by round. -/
namespace Go.Proofs.Ytejpjbmbcdgomaa
set_option maxRecDepth 100000
open Go.RowKit

/-- Some blocks stay as they are. -/
def Kps (O : Nat → Prop) (W W' : World) : Prop := W.heap.size ≤ W'.heap.size ∧ ∀ k, O k → W'.heap[k]? = W.heap[k]?
theorem Kps.refl (O : Nat → Prop) (W : World) : Kps O W W := ⟨Nat.le_refl _, fun _ _ => rfl⟩
theorem Kps.trans {O : Nat → Prop} {A B C : World} (h : Kps O A B) (k : Kps O B C) : Kps O A C := ⟨Nat.le_trans h.1 k.1, fun q hq => (k.2 q hq).trans (h.2 q hq)⟩
theorem Kps.mono {O O1 : Nat → Prop} {A B : World} (h : Kps O A B) (hs : ∀ q, O1 q → O q) : Kps O1 A B := ⟨h.1, fun q hq => h.2 q (hs q hq)⟩
theorem Kps.of_below {O : Nat → Prop} {W W' : World} (h : Below W.heap.size W W') (hO : ∀ k, O k → k < W.heap.size) : Kps O W W' := ⟨h.size, fun k hk => h.block k (hO k hk)⟩
theorem Kps.of_ch {O G : Nat → Prop} {W W' : World} (h : Ch W W' G) (hO : ∀ k, O k → k < W.heap.size) (hG : ∀ k, O k → ¬ G k) : Kps O W W' := ⟨h.size, fun k hk => h.block k (hO k hk) (hG k hk)⟩
theorem Kps.put {O : Nat → Prop} {W : World} {l : Nat} {o : Obj} (hl : ¬ O l) : Kps O W (W.putObj l o) := ⟨(grownBy_putObj' W l o).size, fun _ hk => World.putObj_heap_other (fun e => hl (e ▸ hk))⟩
/-- What is owned grows by new blocks alone. -/
def OG (O O' : Nat → Prop) (W W' : World) : Prop := (∀ q, O q → O' q) ∧ ∀ q, O' q → O q ∨ (W.heap.size ≤ q ∧ q < W'.heap.size)
theorem OG.refl (O : Nat → Prop) (W W' : World) : OG O O W W' := ⟨fun _ h => h, fun _ h => .inl h⟩
/-- What stands stays whatever is done to what is owned, or is new. -/
def St2 (J : (Nat → Prop) → World → Prop) : Prop := ∀ O O' W W', J O W → Ch W W' O → OG O O' W W' → J O' W'
theorem ch_put {W : World} {l : Nat} (o : Obj) {O : Nat → Prop} (hl : O l) : Ch W (W.putObj l o) O :=
  ⟨rfl, rfl, rfl, by rw [World.putObj_size]; exact Nat.le_refl _, fun k _ hk => World.putObj_heap_other (fun e => hk (e ▸ hl))⟩
theorem St2.put {J : (Nat → Prop) → World → Prop} (h : St2 J) {O : Nat → Prop} {W : World} {l : Nat} (o : Obj) (hj : J O W) (hl : O l) : J O (W.putObj l o) := h O O W _ hj (ch_put o hl) (OG.refl _ _ _)
theorem St2.below {J : (Nat → Prop) → World → Prop} (h : St2 J) {O : Nat → Prop} {W W' : World} (hj : J O W) (hb : Below W.heap.size W W') : J O W' := h O O W _ hj (Ch.of_below hb _) (OG.refl _ _ _)
theorem St2.grow {J : (Nat → Prop) → World → Prop} (h : St2 J) {O O' : Nat → Prop} {W W' : World} (hj : J O W) (hb : Below W.heap.size W W') (ho : OG O O' W W') : J O' W' := h O O' W _ hj (Ch.of_below hb _) ho
/-- The contract of a function that is ranged over: it hands over N things, one behind the other; what it owns is O0 and what it makes; it leans on Rq. -/
def Hands2 (P : Program) (gf : Nat) (lb : Array Value) (O0 : Nat → Prop) (N : Nat) (enc : Nat → Array Value) (Rq : Nat → World → Prop) (w : World) : Prop :=
  ∀ (l : Nat) (J Jx : Nat → (Nat → Prop) → World → Prop) (W : World) (O : Nat → Prop), Kps O0 w W → (∀ k, St2 (J k)) → (∀ k, St2 (Jx k)) → (∀ k O W, k ≤ N → J k O W → Rq k W) →
    (∀ k O W1, k < N → J k O W1 → (∀ q, O q → q < W1.heap.size) → YieldAt Fence.wide 9 P l (enc k) W1 fun e W' =>
      Kps O W1 W' ∧ ((e = .returned (.bool true) ∧ J (k + 1) O W') ∨ (e = .returned (.bool false) ∧ Jx (k + 1) O W'))) →
    J 0 O W → (∀ q, O0 q → O q) → (∀ q, O q → q < W.heap.size) →
    CallsIn Fence.wide 10 P gf (#[.func (.yield l) #[] #[]] ++ lb) W fun e W' => (∃ v, e = .returned v) ∧ ∃ O', (∀ q, O q → O' q) ∧ (∀ q, O' q → q < W'.heap.size) ∧ (J N O' W' ∨ ∃ k, k < N ∧ Jx (k + 1) O' W')
/-- How a round may be left. -/
def RoundEnd2 (O : Nat → Prop) (I : World → Prop) (Ix : Code → World → Prop) (W : World) : Exit → Act → World → Prop
  | .normal, _, W' => Kps O W W' ∧ I W'
  | .ret, _, W' => Kps O W W' ∧ Ix .ret W'
  | .exit id, _, W' => Kps O W W' ∧ Ix (.exit id) W'
  | .goto t, _, W' => Kps O W W' ∧ Ix (.goto t) W'
  | .panic _, _, _ => False
  | .outgrown, _, _ => False
/-- The statement, over such a function. -/
theorem wp_range2 {P : Program} {g : Operand} {ps : Array Tmp} {assign body : Code} {Q : Exit → Act → World → Prop} {a : Act} {w w0 : World} {gf : Nat} {lb : Array Value} {O0 O : Nat → Prop} {N : Nat} {enc : Nat → Array Value} {Rq : Nat → World → Prop}
    (hg : a.eval g = .func (.func gf) #[] lb) (eg : ∀ args w, (callFunc gf args).run P w = .ok (.enter gf args) w) (hseq : Hands2 P gf lb O0 N enc Rq w0) (hb0 : Kps O0 w0 w) (henc : ∀ k, (enc k).size = ps.size)
    (I : Nat → (Nat → Prop) → World → Prop) (Ix : Code → Nat → (Nat → Prop) → World → Prop) (hI : ∀ k, St2 (I k)) (hIx : ∀ c k, St2 (Ix c k)) (hRq : ∀ k O W, k ≤ N → I k O W → Rq k W)
    (h0 : I 0 O w) (hO : ∀ q, O0 q → O q) (hn : ∀ q, O q → q < w.heap.size)
    (hround : ∀ (l lp k : Nat) (ob : Obj) (O1 : Nat → Prop) (W : World), k < N → I k O1 W → (∀ q, O q → O1 q) → (∀ q, O1 q → q < W.heap.size) → O1 lp → w.heap.size ≤ lp → ∀ K : Act → World → Prop,
      (∀ a1 Wa, Below W.heap.size W Wa → body.wpIn (Fence.wide.inRound l) 9 P (RoundEnd2 O1 (I (k + 1) O1) (fun c => Ix c (k + 1) O1) (Wa.putObj lp ob)) a1 (Wa.putObj lp ob) → K a1 Wa) →
      assign.wpIn (Fence.wide.inRound l) 9 P (Exit.then K (fun _ _ _ => False)) { tmps := (ps.zip (enc k)).foldl (fun t (p, u) => t.setIfInBounds p u) a.tmps, defers := [] } W)
    (hdone : ∀ (D : Nat) (O1 : Nat → Prop) (W : World), I N O1 W → (∀ q, O q → O1 q) → O1 D → (∀ q, O1 q → q < W.heap.size) → w.heap.size ≤ D → W.heap[D]? = some (.deferred (some [])) → Q .normal { a with defers := { target := .collected D, args := #[] } :: a.defers } W)
    (hstop : ∀ (D k : Nat) (c : Code) (O1 : Nat → Prop) (W : World), k < N → Ix c (k + 1) O1 W → (∀ q, O q → O1 q) → O1 D → (∀ q, O1 q → q < W.heap.size) → w.heap.size ≤ D → W.heap[D]? = some (.deferred (some [])) → c.wpIn Fence.wide 11 P Q { a with defers := { target := .collected D, args := #[] } :: a.defers } W) :
    (Code.rangeFunc g ps assign body).wpIn Fence.wide 11 P Q a w := by
  refine wpIn_rangeFunc fun fn _ => ?_
  obtain ⟨D, hD⟩ : ∃ D, D = w.heap.size := ⟨_, rfl⟩
  let rc : LoopState → Option Code → Loop := fun st pe => { state := st, pending := pe, fn := fn, tmps := a.tmps, params := ps, assign := assign, body := body, defers := D }
  have hent := run_enterLoop_outer (P := P) (w := w) fn a.tmps ps assign body
  rw [← hD] at hent
  obtain ⟨W1, hW1⟩ : ∃ W1, W1 = (w.alloc (.deferred (some []))).alloc (.loop (rc .ready none)) := ⟨_, rfl⟩
  have hs1 : W1.heap.size = w.heap.size + 2 := by rw [hW1]; simp
  have hbw : Below w.heap.size w W1 := by rw [hW1]; exact ((Below.refl _ w).alloc (Nat.le_refl _) _).alloc (by simp) _
  have hL1 : W1.heap[D + 1]? = some (.loop (rc .ready none)) := by
    have := heap_alloc_new (w.alloc (.deferred (some []))) (.loop (rc .ready none))
    have e : (w.alloc (.deferred (some []))).heap.size = D + 1 := by rw [hD]; simp
    rw [e, ← hW1] at this
    exact this
  have hD1 : W1.heap[D]? = some (.deferred (some [])) := by rw [hW1, hD]; exact (heap_alloc_old _ _ (by simp)).trans (heap_alloc_new w _)
  refine ⟨D + 1, _, W1, { target := .fn (.func gf) lb, args := #[.func (.yield (D + 1)) #[] #[]] }, W1, gf, #[.func (.yield (D + 1)) #[] #[]] ++ lb, W1, by rw [hW1]; exact hent, ?_, fun _ _ => trivial, ?_, fun _ => by omega, ?_⟩
  · simp only [resolve, hg]
    simp [go_sem]
  · simp [invoke, go_sem, eg]
  let JJ : (LoopState) → (Option Code) → (Nat → Prop) → ((Nat → Prop) → World → Prop) → World → Prop := fun st pe O1 X W => ∃ O2, X O2 W ∧ (∀ q, O1 q → O2 q) ∧ (∀ q, O q → O2 q) ∧ O2 D ∧ O2 (D + 1) ∧ ¬ O1 D ∧ ¬ O1 (D + 1) ∧ (∀ q, O2 q → q < W.heap.size) ∧ W.heap[D + 1]? = some (.loop (rc st pe)) ∧ W.heap[D]? = some (.deferred (some []))
  have stJ : ∀ (st : LoopState) (pe : Option Code) (X : (Nat → Prop) → World → Prop), St2 X → St2 (fun O1 W => JJ st pe O1 X W) := by
    intro st pe X hX O1 O1' W W' ⟨O2, h1, h2, h3, h4, h5, h6, h7, h8, h9, h10⟩ hC hG
    have lD := h8 D h4
    have lD1 := h8 (D + 1) h5
    refine ⟨fun q => O2 q ∨ O1' q, hX O2 _ W W' h1 (hC.mono h2) ⟨fun q e => .inl e, fun q e => ?_⟩, fun q e => .inr e, fun q e => .inl (h3 q e), .inl h4, .inl h5, fun e => ?_, fun e => ?_, fun q e => ?_, (hC.block _ lD1 h7).trans h9, (hC.block _ lD h6).trans h10⟩
    · rcases e with e | e
      · exact .inl e
      · exact (hG.2 q e).imp (h2 q) id
    · rcases hG.2 _ e with e | e
      · exact h6 e
      · omega
    · rcases hG.2 _ e with e | e
      · exact h7 e
      · omega
    · rcases e with e | e
      · exact Nat.lt_of_lt_of_le (h8 q e) hC.size
      · rcases hG.2 q e with e | e
        · exact Nat.lt_of_lt_of_le (h8 q (h2 q e)) hC.size
        · exact e.2
  have hOD : ∀ q, O q → q < D := fun q e => by rw [hD]; exact hn q e
  have h01 : I 0 (fun q => O q ∨ q = D ∨ q = D + 1) W1 := hI 0 O _ w W1 h0 (Ch.of_below hbw _) ⟨fun q e => .inl e, fun q e => by
    rcases e with e | e | e
    · exact .inl e
    · exact .inr (by omega)
    · exact .inr (by omega)⟩
  refine (hseq (D + 1) (fun k O1 W => JJ .ready none O1 (I k) W) (fun k O1 W => ∃ c, JJ .done (some c) O1 (Ix c k) W) W1 O (hb0.trans (Kps.of_below hbw fun q e => hn q (hO q e))) (fun k => stJ _ _ _ (hI k))
    (fun k O1 O1' W W' ⟨c, h⟩ hC hG => ⟨c, stJ _ _ _ (hIx c k) O1 O1' W W' h hC hG⟩) (fun k O1 W hk ⟨O2, h, _⟩ => hRq k O2 W hk h) ?_
    ⟨_, h01, fun q e => .inl e, fun q e => .inl e, .inr (.inl rfl), .inr (.inr rfl), fun e => by have := hOD _ e; omega, fun e => by have := hOD _ e; omega, fun q e => by
      rcases e with e | e | e
      · have := hOD _ e; omega
      · omega
      · omega, hL1, hD1⟩ hO (fun q e => by have := hOD _ e; omega)).mono ?_
  · rintro k O1 W hk ⟨O2, hi, h2, h3, h4, h5, h6, h7, h8, hl, hd⟩ _
    have hlt : D + 1 < W.heap.size := h8 _ h5
    refine ⟨fn, _, assign, body, run_yield (P := P) (args := enc k) hl (henc k), roundIn_of_wpIn trivial (hround _ (D + 1) k (.loop (rc .busy none)) O2 W hk hi h3 h8 h5 (by omega) _ fun a1 Wa hba hb => ⟨_, run_beginRound ((hba.block _ hlt).trans hl) rfl, wpIn_mono hb ?_⟩)⟩
    have fin : ∀ (jump : Option Code) (W3 : World), Kps O2 (Wa.putObj (D + 1) (.loop (rc .busy none))) W3 →
        (Instr.endRound (D + 1) jump).run P W3 = .ok (.bool jump.isNone) (W3.putObj (D + 1) (.loop (rc (if jump.isNone then .ready else .done) jump))) ∧
        Kps O1 W (W3.putObj (D + 1) (.loop (rc (if jump.isNone then .ready else .done) jump))) ∧ ∀ X : (Nat → Prop) → World → Prop, St2 X → X O2 W3 → JJ (if jump.isNone then .ready else .done) jump O1 X (W3.putObj (D + 1) (.loop (rc (if jump.isNone then .ready else .done) jump))) := fun jump W3 hk3 => by
      have hl3 : W3.heap[D + 1]? = some (.loop (rc .busy none)) := (hk3.2 _ h5).trans (World.putObj_heap_same (Nat.lt_of_lt_of_le hlt hba.size))
      have hd3 : W3.heap[D]? = some (.deferred (some [])) := (hk3.2 _ h4).trans ((World.putObj_heap_other (by omega)).trans ((hba.block D (by omega)).trans hd))
      refine ⟨run_endRound (P := P) jump hl3, ((((Kps.of_below hba fun q e => h8 q (h2 q e)).trans (Kps.put h7)).trans (hk3.mono h2)).trans (Kps.put h7)), fun X hX hx => ?_⟩
      have hsz : W.heap.size ≤ W3.heap.size := Nat.le_trans hba.size (by have := hk3.1; rwa [World.putObj_size] at this)
      exact ⟨O2, hX.put _ hx h5, h2, h3, h4, h5, h6, h7, fun q e => by rw [World.putObj_size]; exact Nat.lt_of_lt_of_le (h8 q e) hsz, World.putObj_heap_same (Nat.lt_of_lt_of_le hlt hsz), (World.putObj_heap_other (by omega)).trans hd3⟩
    rintro e a3 W3 hp
    cases e with
    | normal =>
      obtain ⟨hr, hk4, hx⟩ := fin none W3 hp.1
      exact ⟨_, _, hr, hk4, .inl ⟨rfl, hx _ (hI _) hp.2⟩⟩
    | ret =>
      obtain ⟨hr, hk4, hx⟩ := fin (some .ret) W3 hp.1
      exact ⟨_, _, hr, hk4, .inr ⟨rfl, .ret, hx _ (hIx _ _) hp.2⟩⟩
    | exit id =>
      obtain ⟨hr, hk4, hx⟩ := fin (some (.exit id)) W3 hp.1
      exact ⟨_, _, hr, hk4, .inr ⟨rfl, .exit id, hx _ (hIx _ _) hp.2⟩⟩
    | goto t =>
      obtain ⟨hr, hk4, hx⟩ := fin (some (.goto t)) W3 hp.1
      exact ⟨_, _, hr, hk4, .inr ⟨rfl, .goto t, hx _ (hIx _ _) hp.2⟩⟩
    | panic _ => exact hp.elim
    | outgrown => exact hp.elim
  · rintro e W2 ⟨⟨v, rfl⟩, O1', hs, _, ⟨O2, hi, h2, h3, h4, h5, h6, h7, h8, hl, hd⟩ | ⟨k, hk, c, O2, hi, h2, h3, h4, h5, h6, h7, h8, hl, hd⟩⟩
    · exact ⟨none, _, run_endLoop (P := P) hl (by simp [rc]), hdone D O2 _ ((hI N).put _ hi h5) h3 h4 (fun q e => by rw [World.putObj_size]; exact h8 q e) (by omega) ((World.putObj_heap_other (by omega)).trans hd)⟩
    · exact ⟨some c, _, run_endLoop (P := P) hl (by simp [rc]), hstop D k c O2 _ hk ((hIx c _).put _ hi h5) h3 h4 (fun q e => by rw [World.putObj_size]; exact h8 q e) (by omega) ((World.putObj_heap_other (by omega)).trans hd)⟩
end Go.Proofs.Ytejpjbmbcdgomaa
