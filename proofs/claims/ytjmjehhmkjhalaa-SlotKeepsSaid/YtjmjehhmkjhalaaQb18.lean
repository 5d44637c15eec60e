/- DRange: put together. -/
import Derived.Test.YtjmjehhmkjhalaaQb17
import Derived.RangeFuncNested
import Derived.RangeFuncBound
import Derived.RangeFuncCalls
import Derived.RangeFuncLeaves
import Derived.OwnWalkIn
import Derived.TacticsInMore
import Derived.LoopNIn
import Derived.LoopIn
/- A range over a function whose rounds are handed what lies in memory that the function has made: rounds by number, what each is handed known by a condition on the world. -/
namespace Go.Proofs.Ytjmjehhmkjhalaa
set_option maxRecDepth 100000
open Go.RowKit

/-- What stands stays where nothing is turned but what is new. -/
def Stays (J : World → Prop) : Prop := ∀ W W', J W → Below W.heap.size W W' → J W'
/-- What stands stays where a block that holds no cells is turned. -/
def Turns (z : Nat) (J : World → Prop) : Prop := ∀ (W : World) (l : Nat) (o o' : Obj), z ≤ l → J W → W.heap[l]? = some o → o.isCells = false → J (W.putObj l o')
/-- Some blocks stay as they are. -/
def Keeps (O : Nat → Prop) (W W' : World) : Prop := W.heap.size ≤ W'.heap.size ∧ ∀ k, O k → W'.heap[k]? = W.heap[k]?
theorem Keeps.refl (O : Nat → Prop) (W : World) : Keeps O W W := ⟨Nat.le_refl _, fun _ _ => rfl⟩
theorem Keeps.trans {O : Nat → Prop} {A B C : World} (h : Keeps O A B) (k : Keeps O B C) : Keeps O A C := ⟨Nat.le_trans h.1 k.1, fun q hq => (k.2 q hq).trans (h.2 q hq)⟩
theorem Keeps.of_below {O : Nat → Prop} {W W' : World} (h : Below W.heap.size W W') (hO : ∀ k, O k → k < W.heap.size) : Keeps O W W' := ⟨h.size, fun k hk => h.block k (hO k hk)⟩
/-- The contract of a function that is ranged over: at most N rounds; what the k-th one is handed (v), made behind a world of some size, meets M k v. -/
def Hands (P : Program) (gf : Nat) (lb : Array Value) (O : Nat → Prop) (N : Nat) (enc : Nat → Value → Array Value) (M : Nat → Value → Nat → World → Prop) (w : World) : Prop :=
  ∀ (l : Nat) (J Jx : Nat → World → Prop) (W : World), Below w.heap.size w W → (∀ k, Stays (J k)) → (∀ k, Stays (Jx k)) →
    (∀ k v W0 W1, k < N → J k W0 → J k W1 → M k v W0.heap.size W1 → YieldAt Fence.wide 9 P l (enc k v) W1 fun e W' =>
      (e = .returned (.bool true) ∧ J (k + 1) W' ∧ Keeps O W1 W') ∨ (e = .returned (.bool false) ∧ Jx (k + 1) W')) →
    J 0 W → CallsIn Fence.wide 10 P gf (#[.func (.yield l) #[] #[]] ++ lb) W fun e W' => (∃ v, e = .returned v) ∧ (J N W' ∨ ∃ k, k < N ∧ Jx (k + 1) W')
/-- How a round may be left. -/
def RoundEnd (O : Nat → Prop) (I : World → Prop) (Ix : Code → World → Prop) (W : World) : Exit → Act → World → Prop
  | .normal, _, W' => KeepsOthers W W' ∧ Keeps O W W' ∧ I W'
  | .ret, _, W' => KeepsOthers W W' ∧ Ix .ret W'
  | .exit id, _, W' => KeepsOthers W W' ∧ Ix (.exit id) W'
  | .goto t, _, W' => KeepsOthers W W' ∧ Ix (.goto t) W'
  | .panic _, _, _ => False
  | .outgrown, _, _ => False
theorem keeps_put {O : Nat → Prop} {W : World} {l : Nat} {o : Obj} (o' : Obj) (hl : ¬ O l) (_ : W.heap[l]? = some o) : Keeps O W (W.putObj l o') :=
  ⟨(grownBy_putObj' W l o').size, fun _ hk => World.putObj_heap_other (fun e => hl (e ▸ hk))⟩
/-- The statement, over such a function. -/
theorem wp_range_hands {P : Program} {g : Operand} {ps : Array Tmp} {assign body : Code} {Q : Exit → Act → World → Prop} {a : Act} {w w0 : World} {gf : Nat} {lb : Array Value} {O : Nat → Prop} {N : Nat} {enc : Nat → Value → Array Value} {M : Nat → Value → Nat → World → Prop}
    (hg : a.eval g = .func (.func gf) #[] lb) (eg : ∀ args w, (callFunc gf args).run P w = .ok (.enter gf args) w) (hseq : Hands P gf lb O N enc M w0) (hb0 : Below w0.heap.size w0 w) (hn : ∀ k, O k → k < w.heap.size) (henc : ∀ k v, (enc k v).size = ps.size)
    (hM : ∀ k v z, Turns w.heap.size (M k v z)) (I : Nat → World → Prop) (Ix : Code → Nat → World → Prop) (hI : ∀ k, Stays (I k)) (hIt : ∀ k, Turns w.heap.size (I k)) (hIx : ∀ c k, Stays (Ix c k)) (hIxt : ∀ c k, Turns w.heap.size (Ix c k)) (h0 : I 0 w)
    (hround : ∀ (l k : Nat) (v : Value) (W0 W W2 : World), k < N → I k W0 → I k W2 → M k v W0.heap.size W2 → ∀ K : Act → World → Prop, (∀ a1, body.wpIn (Fence.wide.inRound l) 9 P (RoundEnd O (I (k + 1)) (fun c => Ix c (k + 1)) W2) a1 W2 → K a1 W) →
      assign.wpIn (Fence.wide.inRound l) 9 P (Exit.then K (fun _ _ _ => False)) { tmps := (ps.zip (enc k v)).foldl (fun t (p, u) => t.setIfInBounds p u) a.tmps, defers := [] } W)
    (hdone : ∀ (D : Nat) (W : World), I N W → w.heap.size ≤ D → W.heap[D]? = some (.deferred (some [])) → Q .normal { a with defers := { target := .collected D, args := #[] } :: a.defers } W)
    (hstop : ∀ (D k : Nat) (c : Code) (W : World), k < N → Ix c (k + 1) W → w.heap.size ≤ D → W.heap[D]? = some (.deferred (some [])) → c.wpIn Fence.wide 11 P Q { a with defers := { target := .collected D, args := #[] } :: a.defers } W) :
    (Code.rangeFunc g ps assign body).wpIn Fence.wide 11 P Q a w := by
  refine wpIn_rangeFunc fun fn _ => ?_
  obtain ⟨D, hD⟩ : ∃ D, D = w.heap.size := ⟨_, rfl⟩
  let rc : LoopState → Option Code → Loop := fun st pe => { state := st, pending := pe, fn := fn, tmps := a.tmps, params := ps, assign := assign, body := body, defers := D }
  have hent := run_enterLoop_outer (P := P) (w := w) fn a.tmps ps assign body
  rw [← hD] at hent
  obtain ⟨W1, hW1⟩ : ∃ W1, W1 = (w.alloc (.deferred (some []))).alloc (.loop (rc .ready none)) := ⟨_, rfl⟩
  have hbw : Below w.heap.size w W1 := by rw [hW1]; exact ((Below.refl _ w).alloc (Nat.le_refl _) _).alloc (by simp) _
  have hL1 : W1.heap[D + 1]? = some (.loop (rc .ready none)) := by rw [hW1, hD]; exact heap_alloc2_new w _ _
  have hD1 : W1.heap[D]? = some (.deferred (some [])) := by rw [hW1, hD]; exact (heap_alloc_old _ _ (by simp)).trans (heap_alloc_new w _)
  refine ⟨D + 1, _, W1, { target := .fn (.func gf) lb, args := #[.func (.yield (D + 1)) #[] #[]] }, W1, gf, #[.func (.yield (D + 1)) #[] #[]] ++ lb, W1, by rw [hW1]; exact hent, ?_, fun _ _ => trivial, ?_, fun _ => by omega, ?_⟩
  · simp only [resolve, hg]
    simp [go_sem]
  · simp [invoke, go_sem, eg]
  have stays_rec : ∀ (o : Obj) (k : Nat), Stays fun W => W.heap[k]? = some o := fun o k W W' h hb => (hb.block k (Array.getElem?_eq_some_iff.1 h).1).trans h
  refine (hseq (D + 1) (fun k W => I k W ∧ W.heap[D + 1]? = some (.loop (rc .ready none)) ∧ W.heap[D]? = some (.deferred (some [])))
    (fun k W => ∃ c, Ix c k W ∧ W.heap[D + 1]? = some (.loop (rc .done (some c))) ∧ W.heap[D]? = some (.deferred (some []))) W1 (hb0.trans (hbw.mono hb0.size))
    (fun k W W' h hb => ⟨hI k W W' h.1 hb, stays_rec _ _ W W' h.2.1 hb, stays_rec _ _ W W' h.2.2 hb⟩)
    (fun k W W' ⟨c, h1, h2, h3⟩ hb => ⟨c, hIx c k W W' h1 hb, stays_rec _ _ W W' h2 hb, stays_rec _ _ W W' h3 hb⟩) ?_ ⟨hI 0 w W1 h0 hbw, hL1, hD1⟩).mono ?_
  · rintro k v W0 W hk ⟨hi0, _, _⟩ ⟨hi, hl, hd⟩ hm
    have hlt : D + 1 < W.heap.size := (Array.getElem?_eq_some_iff.1 hl).1
    have hl2 : (W.putObj (D + 1) (.loop (rc .busy none))).heap[D + 1]? = some (.loop (rc .busy none)) := World.putObj_heap_same hlt
    have hd2 : (W.putObj (D + 1) (.loop (rc .busy none))).heap[D]? = some (.deferred (some [])) := (World.putObj_heap_other (by omega)).trans hd
    have fin : ∀ (jump : Option Code) (W3 : World), KeepsOthers (W.putObj (D + 1) (.loop (rc .busy none))) W3 →
        (Instr.endRound (D + 1) jump).run P W3 = .ok (.bool jump.isNone) (W3.putObj (D + 1) (.loop (rc (if jump.isNone then .ready else .done) jump))) ∧ W3.heap[D + 1]? = some (.loop (rc .busy none)) ∧
        (W3.putObj (D + 1) (.loop (rc (if jump.isNone then .ready else .done) jump))).heap[D + 1]? = some (.loop (rc (if jump.isNone then .ready else .done) jump)) ∧
        (W3.putObj (D + 1) (.loop (rc (if jump.isNone then .ready else .done) jump))).heap[D]? = some (.deferred (some [])) := fun jump W3 hk3 => by
      have h3 := hk3.same _ _ hl2 rfl
      exact ⟨run_endRound (P := P) jump h3, h3, World.putObj_heap_same (Array.getElem?_eq_some_iff.1 h3).1, (World.putObj_heap_other (by omega)).trans (hk3.same _ _ hd2 rfl)⟩
    refine ⟨fn, _, assign, body, run_yield (P := P) (args := enc k v) hl (henc k v), roundIn_of_wpIn trivial (hround _ k v W0 W _ hk hi0 (hIt k W _ _ _ (by omega) hi hl rfl) (hM k v _ W _ _ _ (by omega) hm hl rfl) _ fun a1 hb => ⟨_, run_beginRound hl rfl, wpIn_mono hb ?_⟩)⟩
    rintro e a3 W3 hp
    cases e with
    | normal =>
      obtain ⟨hk3, hkp, hi3⟩ := hp
      obtain ⟨hr, hl3, hl4, hd4⟩ := fin none W3 hk3
      exact ⟨_, _, hr, .inl ⟨rfl, ⟨hIt _ W3 _ _ _ (by omega) hi3 hl3 rfl, hl4, hd4⟩, ((keeps_put _ (fun h => by have := hn _ h; omega) hl).trans hkp).trans (keeps_put _ (fun h => by have := hn _ h; omega) hl3)⟩⟩
    | ret =>
      obtain ⟨hk3, hi3⟩ := hp
      obtain ⟨hr, hl3, hl4, hd4⟩ := fin (some .ret) W3 hk3
      exact ⟨_, _, hr, .inr ⟨rfl, .ret, hIxt _ _ W3 _ _ _ (by omega) hi3 hl3 rfl, hl4, hd4⟩⟩
    | exit id =>
      obtain ⟨hk3, hi3⟩ := hp
      obtain ⟨hr, hl3, hl4, hd4⟩ := fin (some (.exit id)) W3 hk3
      exact ⟨_, _, hr, .inr ⟨rfl, .exit id, hIxt _ _ W3 _ _ _ (by omega) hi3 hl3 rfl, hl4, hd4⟩⟩
    | goto t =>
      obtain ⟨hk3, hi3⟩ := hp
      obtain ⟨hr, hl3, hl4, hd4⟩ := fin (some (.goto t)) W3 hk3
      exact ⟨_, _, hr, .inr ⟨rfl, .goto t, hIxt _ _ W3 _ _ _ (by omega) hi3 hl3 rfl, hl4, hd4⟩⟩
    | panic _ => exact hp.elim
    | outgrown => exact hp.elim
  · rintro e W2 ⟨⟨v, rfl⟩, ⟨hi, hl, hd⟩ | ⟨k, hk, c, hi, hl, hd⟩⟩
    · exact ⟨none, _, run_endLoop (P := P) hl (by simp [rc]), hdone D _ (hIt _ W2 _ _ _ (by omega) hi hl rfl) (by omega) ((World.putObj_heap_other (by omega)).trans hd)⟩
    · exact ⟨some c, _, run_endLoop (P := P) hl (by simp [rc]), hstop D k c _ hk (hIxt _ _ W2 _ _ _ (by omega) hi hl rfl) (by omega) ((World.putObj_heap_other (by omega)).trans hd)⟩
/-- The same, where what a round is handed is laid into memory first. -/
theorem wp_range_made {P : Program} {g : Operand} {ps : Array Tmp} {assign body : Code} {Q : Exit → Act → World → Prop} {a : Act} {w w0 : World} {gf : Nat} {lb : Array Value} {O : Nat → Prop} {N : Nat} {enc : Nat → Value → Array Value} {M : Nat → Value → Nat → World → Prop}
    (hg : a.eval g = .func (.func gf) #[] lb) (eg : ∀ args w, (callFunc gf args).run P w = .ok (.enter gf args) w) (hseq : Hands P gf lb O N enc M w0) (hb0 : Below w0.heap.size w0 w) (hn : ∀ k, O k → k < w.heap.size) (henc : ∀ k v, (enc k v).size = ps.size)
    (_ : ∀ k v z, Turns w.heap.size (M k v z)) (I : Nat → World → Prop) (Ix : Code → Nat → World → Prop) (hI : ∀ k, Stays (I k)) (hIt : ∀ k, Turns w.heap.size (I k)) (hIx : ∀ c k, Stays (Ix c k)) (hIxt : ∀ c k, Turns w.heap.size (Ix c k)) (h0 : I 0 w)
    (hround : ∀ (l lp k : Nat) (ob : Obj) (v : Value) (W0 W : World), k < N → I k W0 → I k W → M k v W0.heap.size W → w.heap.size ≤ lp → ob.isCells = false → (∃ o, W.heap[lp]? = some o ∧ o.isCells = false) → ∀ K : Act → World → Prop, (∀ a1 Wa, Below W.heap.size W Wa → body.wpIn (Fence.wide.inRound l) 9 P (RoundEnd O (I (k + 1)) (fun c => Ix c (k + 1)) (Wa.putObj lp ob)) a1 (Wa.putObj lp ob) → K a1 Wa) →
      assign.wpIn (Fence.wide.inRound l) 9 P (Exit.then K (fun _ _ _ => False)) { tmps := (ps.zip (enc k v)).foldl (fun t (p, u) => t.setIfInBounds p u) a.tmps, defers := [] } W)
    (hdone : ∀ (D : Nat) (W : World), I N W → w.heap.size ≤ D → W.heap[D]? = some (.deferred (some [])) → Q .normal { a with defers := { target := .collected D, args := #[] } :: a.defers } W)
    (hstop : ∀ (D k : Nat) (c : Code) (W : World), k < N → Ix c (k + 1) W → w.heap.size ≤ D → W.heap[D]? = some (.deferred (some [])) → c.wpIn Fence.wide 11 P Q { a with defers := { target := .collected D, args := #[] } :: a.defers } W) :
    (Code.rangeFunc g ps assign body).wpIn Fence.wide 11 P Q a w := by
  refine wpIn_rangeFunc fun fn _ => ?_
  obtain ⟨D, hD⟩ : ∃ D, D = w.heap.size := ⟨_, rfl⟩
  let rc : LoopState → Option Code → Loop := fun st pe => { state := st, pending := pe, fn := fn, tmps := a.tmps, params := ps, assign := assign, body := body, defers := D }
  have hent := run_enterLoop_outer (P := P) (w := w) fn a.tmps ps assign body
  rw [← hD] at hent
  obtain ⟨W1, hW1⟩ : ∃ W1, W1 = (w.alloc (.deferred (some []))).alloc (.loop (rc .ready none)) := ⟨_, rfl⟩
  have hbw : Below w.heap.size w W1 := by rw [hW1]; exact ((Below.refl _ w).alloc (Nat.le_refl _) _).alloc (by simp) _
  have hL1 : W1.heap[D + 1]? = some (.loop (rc .ready none)) := by rw [hW1, hD]; exact heap_alloc2_new w _ _
  have hD1 : W1.heap[D]? = some (.deferred (some [])) := by rw [hW1, hD]; exact (heap_alloc_old _ _ (by simp)).trans (heap_alloc_new w _)
  refine ⟨D + 1, _, W1, { target := .fn (.func gf) lb, args := #[.func (.yield (D + 1)) #[] #[]] }, W1, gf, #[.func (.yield (D + 1)) #[] #[]] ++ lb, W1, by rw [hW1]; exact hent, ?_, fun _ _ => trivial, ?_, fun _ => by omega, ?_⟩
  · simp only [resolve, hg]
    simp [go_sem]
  · simp [invoke, go_sem, eg]
  have stays_rec : ∀ (o : Obj) (k : Nat), Stays fun W => W.heap[k]? = some o := fun o k W W' h hb => (hb.block k (Array.getElem?_eq_some_iff.1 h).1).trans h
  refine (hseq (D + 1) (fun k W => I k W ∧ W.heap[D + 1]? = some (.loop (rc .ready none)) ∧ W.heap[D]? = some (.deferred (some [])))
    (fun k W => ∃ c, Ix c k W ∧ W.heap[D + 1]? = some (.loop (rc .done (some c))) ∧ W.heap[D]? = some (.deferred (some []))) W1 (hb0.trans (hbw.mono hb0.size))
    (fun k W W' h hb => ⟨hI k W W' h.1 hb, stays_rec _ _ W W' h.2.1 hb, stays_rec _ _ W W' h.2.2 hb⟩)
    (fun k W W' ⟨c, h1, h2, h3⟩ hb => ⟨c, hIx c k W W' h1 hb, stays_rec _ _ W W' h2 hb, stays_rec _ _ W W' h3 hb⟩) ?_ ⟨hI 0 w W1 h0 hbw, hL1, hD1⟩).mono ?_
  · rintro k v W0 W hk ⟨hi0, _, _⟩ ⟨hi, hl, hd⟩ hm
    have hlt : D + 1 < W.heap.size := (Array.getElem?_eq_some_iff.1 hl).1
    have fin : ∀ (Wa : World), Below W.heap.size W Wa → ∀ (jump : Option Code) (W3 : World), KeepsOthers (Wa.putObj (D + 1) (.loop (rc .busy none))) W3 →
        (Instr.endRound (D + 1) jump).run P W3 = .ok (.bool jump.isNone) (W3.putObj (D + 1) (.loop (rc (if jump.isNone then .ready else .done) jump))) ∧ W3.heap[D + 1]? = some (.loop (rc .busy none)) ∧
        (W3.putObj (D + 1) (.loop (rc (if jump.isNone then .ready else .done) jump))).heap[D + 1]? = some (.loop (rc (if jump.isNone then .ready else .done) jump)) ∧
        (W3.putObj (D + 1) (.loop (rc (if jump.isNone then .ready else .done) jump))).heap[D]? = some (.deferred (some [])) := fun Wa hba jump W3 hk3 => by
      have hla := (hba.block _ hlt).trans hl
      have hda := (hba.block D (by omega)).trans hd
      have hl2 : (Wa.putObj (D + 1) (.loop (rc .busy none))).heap[D + 1]? = some (.loop (rc .busy none)) := World.putObj_heap_same (Nat.lt_of_lt_of_le hlt hba.size)
      have hd2 : (Wa.putObj (D + 1) (.loop (rc .busy none))).heap[D]? = some (.deferred (some [])) := (World.putObj_heap_other (by omega)).trans hda
      have h3 := hk3.same _ _ hl2 rfl
      exact ⟨run_endRound (P := P) jump h3, h3, World.putObj_heap_same (Array.getElem?_eq_some_iff.1 h3).1, (World.putObj_heap_other (by omega)).trans (hk3.same _ _ hd2 rfl)⟩
    refine ⟨fn, _, assign, body, run_yield (P := P) (args := enc k v) hl (henc k v), roundIn_of_wpIn trivial (hround _ (D + 1) k (.loop (rc .busy none)) v W0 W hk hi0 hi hm (by omega) rfl ⟨_, hl, rfl⟩ _ fun a1 Wa hba hb => ⟨_, run_beginRound ((hba.block _ hlt).trans hl) rfl, wpIn_mono hb ?_⟩)⟩
    have hla := (hba.block _ hlt).trans hl
    have hOW : ∀ k, O k → k < W.heap.size := fun q hq => by have := hn q hq; omega
    rintro e a3 W3 hp
    cases e with
    | normal =>
      obtain ⟨hk3, hkp, hi3⟩ := hp
      obtain ⟨hr, hl3, hl4, hd4⟩ := fin Wa hba none W3 hk3
      exact ⟨_, _, hr, .inl ⟨rfl, ⟨hIt _ W3 _ _ _ (by omega) hi3 hl3 rfl, hl4, hd4⟩, (((Keeps.of_below hba hOW).trans (keeps_put _ (fun h => by have := hn _ h; omega) hla)).trans hkp).trans (keeps_put _ (fun h => by have := hn _ h; omega) hl3)⟩⟩
    | ret =>
      obtain ⟨hk3, hi3⟩ := hp
      obtain ⟨hr, hl3, hl4, hd4⟩ := fin Wa hba (some .ret) W3 hk3
      exact ⟨_, _, hr, .inr ⟨rfl, .ret, hIxt _ _ W3 _ _ _ (by omega) hi3 hl3 rfl, hl4, hd4⟩⟩
    | exit id =>
      obtain ⟨hk3, hi3⟩ := hp
      obtain ⟨hr, hl3, hl4, hd4⟩ := fin Wa hba (some (.exit id)) W3 hk3
      exact ⟨_, _, hr, .inr ⟨rfl, .exit id, hIxt _ _ W3 _ _ _ (by omega) hi3 hl3 rfl, hl4, hd4⟩⟩
    | goto t =>
      obtain ⟨hk3, hi3⟩ := hp
      obtain ⟨hr, hl3, hl4, hd4⟩ := fin Wa hba (some (.goto t)) W3 hk3
      exact ⟨_, _, hr, .inr ⟨rfl, .goto t, hIxt _ _ W3 _ _ _ (by omega) hi3 hl3 rfl, hl4, hd4⟩⟩
    | panic _ => exact hp.elim
    | outgrown => exact hp.elim
  · rintro e W2 ⟨⟨v, rfl⟩, ⟨hi, hl, hd⟩ | ⟨k, hk, c, hi, hl, hd⟩⟩
    · exact ⟨none, _, run_endLoop (P := P) hl (by simp [rc]), hdone D _ (hIt _ W2 _ _ _ (by omega) hi hl rfl) (by omega) ((World.putObj_heap_other (by omega)).trans hd)⟩
    · exact ⟨some c, _, run_endLoop (P := P) hl (by simp [rc]), hstop D k c _ hk (hIxt _ _ W2 _ _ _ (by omega) hi hl rfl) (by omega) ((World.putObj_heap_other (by omega)).trans hd)⟩
end Go.Proofs.Ytjmjehhmkjhalaa
