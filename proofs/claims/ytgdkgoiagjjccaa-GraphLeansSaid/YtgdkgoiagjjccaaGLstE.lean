/- The memory of graph.Least: its beginning, a row's end, its end. -/
import Derived.Test.YtgdkgoiagjjccaaGLstD
import Derived.Test.YtgdkgoiagjjccaaGRead
namespace Go.Proofs.Ytgdkgoiagjjccaa
set_option maxRecDepth 100000
open Go.RowKit

/-- Rows that a function has made, in a block of its own. -/
structure CM (W0 : World) (ls : List (List Int)) (ra : Nat → Option Addr) (rc : Nat → Nat) (g n : Nat) (W : World) : Prop where
  below : Below W0.heap.size W0 W
  lo : W0.heap.size ≤ g
  lt : g < W.heap.size
  cells : ∀ j, j < n → W.cell? ⟨g, j, none⟩ = some (.slice (ra j) (ls.getD j []).length (rc j))
  rows : ∀ j, j < n → RowD W (g + 1) W.heap.size (ra j) (ls.getD j [])
theorem RowD.nums {W : World} {lo hi : Nat} {a : Option Addr} {l : List Int} (H : RowD W lo hi a l) (hf : ∀ x ∈ l, Fits x) : Nums W a l.length l :=
  ⟨rfl, hf, fun h => by
    obtain ⟨g, e, _, _, _, h4⟩ := H h
    exact ⟨g, 0, e, fun j hj => by rw [Nat.zero_add]; exact h4 j hj⟩⟩
theorem CM.rws {W0 W : World} {ls : List (List Int)} {ra : Nat → Option Addr} {rc : Nat → Nat} {g n : Nat} (H : CM W0 ls ra rc g n W) (hl : ls.length = n) (hn : n ≤ 9223372036854775807) (hf : ∀ j, ∀ x ∈ ls.getD j [], Fits x) (hL : ∀ j, (ls.getD j []).length ≤ 9223372036854775807) : Rws W (some ⟨g, 0, none⟩) n ls :=
  ⟨hl, hn, fun _ => ⟨g, 0, rfl, fun j hj => ⟨ra j, rc j, by rw [Nat.zero_add]; exact H.cells j hj, (H.rows j hj).nums (hf j), hL j⟩⟩⟩
/-- What was put off for the end is done. -/
def shut (W : World) (ds : List Nat) : World := ds.foldl (fun W D => W.putObj D (.deferred none)) W
theorem shut_keeps {b : Nat} : ∀ (ds : List Nat) (W : World), (∀ D ∈ ds, b ≤ D) → b ≤ W.heap.size → (shut W ds).heap.size = W.heap.size ∧ Below b W (shut W ds) ∧ ∀ q, q ∉ ds → (shut W ds).heap[q]? = W.heap[q]?
  | [], W, _, _ => ⟨rfl, Below.refl _ _, fun _ _ => rfl⟩
  | D :: ds, W, h, hb => by
    have hz : (W.putObj D (.deferred none)).heap.size = W.heap.size := by simp [World.putObj]
    obtain ⟨h1, h2, h3⟩ := shut_keeps ds (W.putObj D (.deferred none)) (fun x hx => h x (List.mem_cons_of_mem _ hx)) (by rw [hz]; exact hb)
    refine ⟨h1.trans hz, ((Below.refl b W).grown (grownBy_putObj' W D _) hb fun k e => by cases e; exact h D (List.mem_cons_self ..)).trans h2, fun q hq => ?_⟩
    exact (h3 q fun h4 => hq (List.mem_cons_of_mem _ h4)).trans (World.putObj_heap_other fun e => hq (by rw [e]; exact List.mem_cons_self ..))
def marks (ds : List Nat) : List Deferred := ds.map fun D => { target := .collected D, args := #[] }
theorem leaves_marks {F : Fence} {n : Nat} {P : Program} {fn : Func} {R : Ending → World → Prop} {tmps : Array Value} {v : Value} {b : Nat} (hr : ∀ W, (results fn tmps).run P W = .ok v W) : ∀ (ds : List Nat) (W : World), Offs b ds W → R (.returned v) (shut W ds) → LeavesInM F n P fn tmps R (marks ds) .returning W
  | [], W, _, h => ⟨v, hr W, h⟩
  | D :: ds, W, ho, h => by
    refine ⟨by simp, .inl ⟨D, _, rfl, run_takeDeferred (ho.2 D (List.mem_cons_self ..)).2, ?_⟩⟩
    have hp := List.pairwise_cons.1 ho.1
    refine leaves_marks (b := b) hr ds _ ⟨hp.2, fun x hx => ?_⟩ h
    have h1 := ho.2 x (List.mem_cons_of_mem _ hx)
    have h2 := hp.1 x hx
    exact ⟨h1.1, (World.putObj_heap_other (by omega)).trans h1.2⟩
section
variable {w W W' : World} {A : Option Addr} {n c : Nat} {ls : List (List Int)} {i z : Nat} {A' : Option Addr} {L c' : Nat} {ds : List Nat} {f : Nat → Int} {ra : Nat → Option Addr} {rc : Nat → Nat} {R : Nat → List Int}
theorem LI.low' (H : LI w A n c ls i z A' L c' ds L L f ra rc R W) : ∀ x, f x < ((i + 1 : Nat) : Int) ∨ f x = 0 := fun x => by
  rcases H.low x with h | h | h
  · exact .inl (by omega)
  · exact .inr h
  · exact .inl (by omega)
theorem LI.least (H : LI w A n c ls i z A' L c' ds L L f ra rc R W) (hL : L = (ls.getD i []).length) : R i = (leastRow ls i).reverse := by
  subst hL
  rw [H.row, selR_end]
/-- A row of nothing is done. -/
theorem LI.done0 (H : LI w A n c ls i z A' L c' ds L L f ra rc R W) (hL : L = (ls.getD i []).length) (h0 : R i = []) {D : Nat} (hD : z + 3 ≤ D) (hd : W.heap[D]? = some (.deferred (some []))) : LO w A n c ls (i + 1) (D :: ds) f ra rc R W := by
  have hi := H.hi
  have hlo := H.lo
  refine ⟨H.ls', H.low', fun j hj => ?_, fun j hj => H.later j (by omega), ⟨List.pairwise_cons.2 ⟨fun x hx => by have := H.early x hx; show x < D; omega, H.offs.1⟩, fun x hx => ?_⟩⟩
  · rcases Nat.lt_succ_iff_lt_or_eq.1 hj with h1 | h1
    · exact ⟨(H.rows j h1).1.up (by omega), (H.rows j h1).2⟩
    · subst h1
      have h2 := H.least hL
      rw [h0] at h2 ⊢
      exact ⟨fun h => by simp at h, by rw [eq_comm, List.reverse_eq_nil_iff] at h2; exact h2.symm⟩
  · rcases List.mem_cons.1 hx with rfl | hx
    · exact ⟨by omega, hd⟩
    · exact H.offs.2 x hx
theorem LI.toLV (H : LI w A n c ls i z A' L c' ds L L f ra rc R W) (h0 : 0 < (R i).length) (hf : ∀ x ∈ R i, Fits x) : ∃ g, ra i = some ⟨g, 0, none⟩ ∧ LV (z + 3) W g (R i).length (fun u => (R i).getD u 0) W := by
  obtain ⟨A5, c5, e, hn, _, _⟩ := nums_own H.own hf
  injection e with e _ _
  obtain ⟨b, off, e2, hc⟩ := hn.2.2 h0
  rcases H.own.2 with ⟨e3, _⟩ | ⟨g, cap, cur, e3, hB, hg, _⟩
  · injection e3 with e3 _ _
    rw [e, e2] at e3
    cases e3
  · injection e3 with e3 _ _
    have e4 := e.symm.trans e3
    rw [e2] at e4
    injection e4 with e4
    injection e4 with e4 e5
    subst e4 e5
    exact ⟨b, e3, Below.refl _ _, hB, (Array.getElem?_eq_some_iff.1 hg).1, fun x hx => by have := hc x hx; rw [Nat.zero_add] at this; exact this, fun o => frozen_of_row _ _ _ _ _ hg⟩
/-- A row turned round is done. -/
theorem LI.done (H : LI w A n c ls i z A' L c' ds L L f ra rc R W) (hL : L = (ls.getD i []).length) {g : Nat} (hg : ra i = some ⟨g, 0, none⟩) (h0 : 0 < (R i).length) (hgc : LV (z + 3) W g (R i).length (fun u => (R i).getD u 0) W)
    (hV : LV (z + 3) W g (R i).length (fun u => (R i).getD ((R i).length - 1 - u) 0) W') (hO : Only1 W g W') {D : Nat} (hD : z + 3 ≤ D) (hd : W.heap[D]? = some (.deferred (some []))) : LO w A n c ls (i + 1) (D :: ds) f ra rc (upd R i (leastRow ls i)) W' := by
  have hi := H.hi
  have hlo := H.lo
  have hgz := hV.lo
  have hno : ∀ x, W.heap[g]? = some x → x.isCells = true := cell_is (hgc.cells 0 h0)
  have hsz := hO.size
  have low := hV.below.block
  have hle := H.least hL
  have hlen : (leastRow ls i).length = (R i).length := by rw [hle, List.length_reverse]
  have hoff : ∀ x, W.heap[x]? = some (Obj.deferred (some [])) → W'.heap[x]? = some (Obj.deferred (some [])) := fun x hx => (hO.block x (Array.getElem?_eq_some_iff.1 hx).1 fun e => by subst e; have := hno _ hx; cases this).trans hx
  have k3 := low (w.heap.size + 3) (by omega)
  refine ⟨⟨(low _ (by omega)).trans H.ls'.lbox, (low _ (by omega)).trans H.ls'.rbox, (low _ (by omega)).trans H.ls'.obox, H.ls'.nums.but (H.ls'.nums.below.trans (hV.below.mono (by omega))) hsz (low _ (by omega)), fun x hx => ?_, fun o => by rw [(cell_frozen k3).2]; exact H.ls'.fr o, Nat.le_trans H.ls'.size hsz⟩, H.low', fun j hj => ?_, fun j hj => ?_, ⟨List.pairwise_cons.2 ⟨fun x hx => by have := H.early x hx; show x < D; omega, H.offs.1⟩, fun x hx => ?_⟩⟩
  · rw [(cell_frozen k3).1, H.ls'.cells x hx]
    by_cases e : x = i
    · subst e; rw [upd_same, hlen]
    · rw [upd_other _ _ e]
  · rcases Nat.lt_succ_iff_lt_or_eq.1 hj with h1 | h1
    · rw [upd_other _ _ (show j ≠ i by omega)]
      exact ⟨((H.rows j h1).1.but fun q _ hq => low q (by omega)).up (by omega), (H.rows j h1).2⟩
    · subst h1
      rw [upd_same]
      refine ⟨fun _ => ⟨g, hg, by omega, hV.lt, hV.fr, fun u hu => ?_⟩, rfl⟩
      rw [hV.cells u (by omega)]
      congr 2
      have e1 : (R j).length - 1 - u < (R j).length := by omega
      rw [getD_of e1, getD_of hu]
      have e2 : (R j)[(R j).length - 1 - u] = (leastRow ls j).reverse[(R j).length - 1 - u]'(by rw [List.length_reverse]; omega) := by congr 1
      rw [e2, List.getElem_reverse]
      congr 1
      omega
  · rw [upd_other _ _ (show j ≠ i by omega)]
    exact H.later j (by omega)
  · rcases List.mem_cons.1 hx with rfl | hx
    · exact ⟨by omega, hoff _ hd⟩
    · exact ⟨(H.offs.2 x hx).1, hoff _ (H.offs.2 x hx).2⟩
/-- All is done. -/
theorem LO.done (H : LO w A n c ls n ds f ra rc R W) (_ : ls.length = n) : CM w (leastL ls) ra rc (w.heap.size + 3) n (shut W ds) := by
  have hs := H.ls'.size
  obtain ⟨h1, h2, h3⟩ := shut_keeps (b := w.heap.size + 5) ds W (fun D hD => (H.offs.2 D hD).1) hs
  have nin : ∀ q, (∀ x, W.heap[q]? = some x → x.isCells = true) → q ∉ ds := fun q hq hd => by
    have := hq _ (H.offs.2 q hd).2
    cases this
  have k3 := h2.block (w.heap.size + 3) (by omega)
  refine ⟨H.ls'.nums.below.trans (h2.mono (by omega)), by omega, by omega, fun j hj => ?_, fun j hj h0 => ?_⟩
  · rw [(cell_frozen k3).1, H.ls'.cells j hj, leastL_at, (H.rows j hj).2]
  · have hr := H.rows j hj
    rw [leastL_at, ← hr.2] at h0 ⊢
    obtain ⟨g, e, g1, g2, g3, g4⟩ := hr.1 h0
    have k := h3 g (nin g (cell_is (g4 0 h0)))
    exact ⟨g, e, by omega, by omega, fun o => by rw [(cell_frozen k).2]; exact g3 o, fun u hu => by rw [(cell_frozen k).1]; exact g4 u hu⟩
end
theorem LO.start {w W : World} {A : Option Addr} {n c : Nat} {ls : List (List Int)} (h0 : W.heap[w.heap.size]? = some (.cells #[.slice A n c] 56 (0, 0))) (h1 : W.heap[w.heap.size + 1]? = some (.cells (madeCells zI n) 3 (0, 0))) (h2 : W.heap[w.heap.size + 2]? = some (.cells #[.slice (some ⟨w.heap.size + 1, 0, none⟩) n n] 38 (0, 0)))
    (h3 : W.heap[w.heap.size + 3]? = some (.cells (madeCells #[.slice none 0 0] n) 38 (0, 0))) (h4 : W.heap[w.heap.size + 4]? = some (.cells #[.slice (some ⟨w.heap.size + 3, 0, none⟩) n n] 56 (0, 0))) (hb : Below w.heap.size w W) :
    LO w A n c ls 0 [] (fun _ => 0) (fun _ => none) (fun _ => 0) (fun _ => []) W := by
  have hz := (Array.getElem?_eq_some_iff.1 h4).1
  refine ⟨⟨h0, h2, h4, ⟨hb, by omega, by omega, fun x hx => ?_, fun o => frozen_of_row _ _ _ _ _ h1⟩, fun x hx => ?_, fun o => frozen_of_row _ _ _ _ _ h3, hz⟩, fun _ => .inr rfl, fun j hj => by omega, fun _ _ => ⟨rfl, rfl, rfl⟩, ⟨List.Pairwise.nil, fun x hx => by cases hx⟩⟩
  · rw [cell_of_row _ _ _ _ _ (0, 0) h1, made_at _ _ _ hx]
    simp [zI, Nat.mod_one]
  · rw [cell_of_row _ _ _ _ _ (0, 0) h3, made_at _ _ _ hx]
    simp [Nat.mod_one]
theorem alloc3_at (w : World) (x y v : Obj) : (((w.alloc x).alloc y).alloc v).heap[w.heap.size]? = some x ∧ (((w.alloc x).alloc y).alloc v).heap[w.heap.size + 1]? = some y ∧ (((w.alloc x).alloc y).alloc v).heap[w.heap.size + 2]? = some v ∧ (((w.alloc x).alloc y).alloc v).heap.size = w.heap.size + 3 ∧ Below w.heap.size w (((w.alloc x).alloc y).alloc v) := by
  refine ⟨?_, ?_, ?_, by simp, (((Below.refl _ w).alloc (Nat.le_refl _) _).alloc (by simp) _).alloc (by simp <;> omega) _⟩
  · exact (Below.heap_alloc _ _ _ (by simp <;> omega)).trans ((Below.heap_alloc _ _ _ (by simp)).trans (heap_alloc_new w x))
  · exact (Below.heap_alloc _ _ _ (by simp)).trans (by have := heap_alloc_new (w.alloc x) y; rwa [World.size_alloc] at this)
  · have := heap_alloc_new ((w.alloc x).alloc y) v
    rwa [World.size_alloc, World.size_alloc] at this
theorem LI.start {w W : World} {A : Option Addr} {n c : Nat} {ls : List (List Int)} {k : Nat} {ds : List Nat} {f : Nat → Int} {ra : Nat → Option Addr} {rc : Nat → Nat} {R : Nat → List Int} (H : LO w A n c ls k ds f ra rc R W) (hg : GoodL ls) (A' : Option Addr) (L c' : Nat) (hL : L = (ls.getD k []).length) :
    LI w A n c ls k W.heap.size A' L c' ds 0 0 f ra rc R (((W.alloc (.cells #[.int .i64 (k : Int)] 3)).alloc (.cells #[.slice A' L c'] 38)).alloc (.cells #[.slice A' L c'] 38)) := by
  obtain ⟨a0, a1, a2, hz, hb⟩ := alloc3_at W (.cells #[.int .i64 (k : Int)] 3) (.cells #[.slice A' L c'] 38) (.cells #[.slice A' L c'] 38)
  obtain ⟨W', hW'⟩ : ∃ W', W' = (((W.alloc (.cells #[.int .i64 (k : Int)] 3)).alloc (.cells #[.slice A' L c'] 38)).alloc (.cells #[.slice A' L c'] 38)) := ⟨_, rfl⟩
  rw [← hW'] at a0 a1 a2 hz hb ⊢
  have hs := H.ls'.size
  have hlt := off_lt H.offs
  have hk : R k = [] := (H.later k (Nat.le_refl _)).2.2
  refine ⟨H.ls'.but (l := W.heap.size) hs (H.ls'.nums.below.trans (hb.mono (by omega))) hb.size fun q hq _ => hb.block q hq, fun x => (H.low x).imp id .inl, fun h0 x => ⟨fun e => ?_, fun h => absurd h (mk_zero x)⟩, fun j hj => ⟨(H.rows j hj).1.but fun q _ hq => hb.block q hq, (H.rows j hj).2⟩, fun j hj => H.later j (by omega), by rw [hk, selR_zero], ?_, ⟨H.offs.1, fun D hD => ⟨(H.offs.2 D hD).1, (hb.block D (hlt D hD)).trans (H.offs.2 D hD).2⟩⟩, hlt, a0, a1, a2, hs, by omega⟩
  · exfalso
    have hm := hg.mem (i := k) (x := (ls.getD k []).getD 0 0) (by rw [getD_of (by omega)]; exact List.getElem_mem _)
    rcases H.low x with h | h <;> omega
  · rw [hk, (H.later k (Nat.le_refl _)).1, (H.later k (Nat.le_refl _)).2.1]
    exact World.ownsRow_nil _ _ _ _
theorem lst_start (w : World) (A : Option Addr) (n c : Nat) (ls : List (List Int)) : LO w A n c ls 0 [] (fun _ => 0) (fun _ => none) (fun _ => 0) (fun _ => [])
    (((((w.alloc (.cells #[.slice A n c] 56)).alloc (.cells (madeCells zI n) 3)).alloc (.cells #[.slice (some ⟨w.heap.size + 1, 0, none⟩) n n] 38)).alloc (.cells (madeCells #[.slice none 0 0] n) 38)).alloc (.cells #[.slice (some ⟨w.heap.size + 1 + 1 + 1, 0, none⟩) n n] 56)) := by
  obtain ⟨a0, a1, a2, hz, hb⟩ := alloc3_at w (.cells #[.slice A n c] 56) (.cells (madeCells zI n) 3) (.cells #[.slice (some ⟨w.heap.size + 1, 0, none⟩) n n] 38)
  obtain ⟨W', hW'⟩ : ∃ W', W' = (((w.alloc (.cells #[.slice A n c] 56)).alloc (.cells (madeCells zI n) 3)).alloc (.cells #[.slice (some ⟨w.heap.size + 1, 0, none⟩) n n] 38)) := ⟨_, rfl⟩
  rw [← hW'] at a0 a1 a2 hz hb ⊢
  obtain ⟨b0, b1, hb2⟩ := alloc2g W' (.cells (madeCells #[.slice none 0 0] n) 38) (.cells #[.slice (some ⟨w.heap.size + 1 + 1 + 1, 0, none⟩) n n] 56)
  rw [hz] at b0 b1
  exact LO.start ((hb2.block _ (by omega)).trans a0) ((hb2.block _ (by omega)).trans a1) ((hb2.block _ (by omega)).trans a2) b0 b1 (hb.trans (hb2.mono hb.size))
section
variable {w W W' : World} {A : Option Addr} {n c : Nat} {ls : List (List Int)} {i z : Nat} {A' : Option Addr} {L c' : Nat} {ds : List Nat} {p m : Nat} {f f' : Nat → Int} {ra ra' : Nat → Option Addr} {rc rc' : Nat → Nat} {R R' : Nat → List Int}
theorem LI.closed (H : LI w A n c ls i z A' L c' ds p m f ra rc R W) (hg : GoodL ls) (h0 : 0 < L) : ∀ x, mkF f (i : Int) x = true → ∀ y ∈ ls.getD x [], (ls.getD i []).getD 0 0 ≤ y → mkF f (i : Int) y.toNat = true := fun x hx y hy hl => by
  have h1 : f x = (i : Int) := of_decide_eq_true hx
  exact decide_eq_true ((H.marks h0 _).2 (mk_shut hg ((H.marks h0 x).1 h1) hy hl))
theorem LI.reached (H : LI w A n c ls i z A' L c' ds (p + 1) p f ra rc R W) (hg : GoodL ls) (hL : L = (ls.getD i []).length) (hp : p < L) {j : Nat} (hj : (ls.getD i []).getD (L - 1 - p) 0 = (j : Int)) (hin : i < n) (hr : Rch ls j ((ls.getD i []).getD 0 0) (mkF f (i : Int)) (mkF f' (i : Int)) [])
    (hV : LV w.heap.size w (w.heap.size + 1) n f' W') (hO : Only1 W (w.heap.size + 1) W') (hst : ∀ x, f' x = f x ∨ f' x = (i : Int)) : LI w A n c ls i z A' L c' ds (p + 1) (p + 1) f' ra rc R W' ∧ KeepsOthers W W' :=
  H.mark hin hO hV hst fun x => by
    subst hL
    have h1 := hr.done hg x
    unfold mkF at h1
    simp only [decide_eq_true_eq] at h1
    rw [mk_succ hp hj, h1, H.marks (by omega) x]
theorem LI.keeps (H : LI w A n c ls i z A' L c' ds p m f ra rc R W) {p' m' : Nat} (H' : LI w A n c ls i z A' L c' ds p' m' f' ra' rc' R' W') (hz : W.heap.size ≤ W'.heap.size) : Keeps (fun q => q < w.heap.size ∨ q = z + 2) W W' :=
  ⟨hz, fun q hq => by
    rcases hq with hq | rfl
    · exact (H'.ls'.nums.below.block q hq).trans (H.ls'.nums.below.block q hq).symm
    · exact H'.bbox.trans H.bbox.symm⟩
theorem others_of {a b : World} (h : Below a.heap.size a b) : KeepsOthers a b := ⟨h.size, fun q _ hq _ => (h.block q (Array.getElem?_eq_some_iff.1 hq).1).trans hq⟩
end
theorem step_append_run {P : Program} {w w' : World} {ops : Array Oper} {o : Oper} {a : Act} {K : Act → World → Prop} {Q : Exit → Act → World → Prop} {F : Prop} (hw : Region.wanted o (yielded ops a.tmps) = true) (s x : Operand) (t : TypeId)
    (ho : o.op = .call { callee := .builtin .append, args := #[s, x], argTypes := #[t, t] }) (u1 u2 v : Value) (hs : a.eval s = u1) (hx : a.eval x = u2) (hrun : (Builtin.append_ #[t, t] o.type #[u1, u2]).run P w = .ok v w') (h : K (a.put o.dst v) w') :
    if Region.wanted o (yielded ops a.tmps) = true then Oper.wp P o a w K Q else F := by
  rw [if_pos hw]
  unfold Oper.wp
  simp [execOp, ho, resolve, invoke, builtin, hs, hx, hrun, Result.andThen]
  exact h
end Go.Proofs.Ytgdkgoiagjjccaa
