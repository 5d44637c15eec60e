/- The document's new plan. -/
import Derived.Test.YtgdkgoiagjjccaaSRefA
namespace Go.Proofs.Ytgdkgoiagjjccaa
set_option maxRecDepth 100000
open Go.RowKit

theorem wpList_append_fresh {P : Program} {t e : TypeId} {bytes : Nat} (E : ElemT P t e 1 bytes) {w : World} {ops : Array Oper} {rest : List Oper} {o : Oper} {a : Act} {Q : Exit → Act → World → Prop} (hgd : o.guard = none) (s x : Operand)
    (ho : o.op = .call { callee := .builtin .append, args := #[s, x], argTypes := #[t, t] }) (p : Addr) (hs : a.eval s = .slice (some p) 0 0)
    (A : Option Addr) (m c : Nat) (ys : List Value) (hx : a.eval x = .slice A m c) (hr : Rdv w A m 1 ys) (hnil : A = none → c = 0) (hmx : m ≤ maxLen) (hby : m * bytes ≤ 140737488355328)
    (h : ∀ v w', Row w w' v m ys → (∃ ad c', v = .slice (some ad) m c') → Below w.heap.size w w' → wpList P ops Q rest (a.put o.dst v) w') : wpList P ops Q (o :: rest) a w := by
  obtain ⟨v, w', hrun, h2, h3, h5⟩ := run_append_fresh E w o.type p A m c ys hr hnil hmx hby
  refine wpList_plain hgd fun K hK => ?_
  have h4 := h v w' h2 h5 h3
  unfold Oper.wp
  simp [execOp, ho, resolve, invoke, builtin, hs, hx, hrun, Result.andThen]
  exact hK _ _ h4
theorem run_append_row_kept {P : Program} {t e : TypeId} {size bytes : Nat} (E : ElemT P t e size bytes) (w : World) (B : Nat) (ty : TypeId) (v : Value) (n : Nat) (xs : List Value) (hown : w.ownsRow B e size v n xs)
    (ad : Addr) (m c : Nat) (ys : List Value) (hr : Rdv w (some ad) m size ys) (hm : 0 < m) (h1 : ∀ u ∈ ys, u.oneCell' = true) (hmx : n + m ≤ maxLen) (hby : (n + m) * bytes ≤ 140737488355328) (hbase : B ≤ w.heap.size) :
    ∃ v' w', (Builtin.append_ #[t, t] ty #[v, .slice (some ad) m c]).run P w = .ok v' w' ∧ w'.ownsRow B e size v' (n + m) (xs ++ ys) ∧ Below B w w' ∧ (∀ q, q < w.heap.size → some q ≠ v.ownBlock → w'.heap[q]? = w.heap[q]?) := by
  obtain ⟨ht, hinfo, ⟨i, z, hi, hz, hzs⟩, hpos⟩ := E
  rw [hi] at hinfo
  simp at hinfo
  obtain ⟨hl, hc⟩ := hr
  obtain ⟨v', w', hrun, h2, h3, _⟩ := run_append_own (P := P) w B t ty e i z size bytes ht hi hz hinfo.1 hinfo.2 hzs hpos v n xs hown ad m c ys (by rw [hl]) (fun j u hj => by
    obtain ⟨b, off, h4, h5⟩ := hc hm
    injection h4 with h4
    subst h4
    rw [addr_plus]
    exact h5 j u hj) h1 hmx hby hbase
  exact ⟨v', w', hrun, h2, (Below.refl B w).grown h3 hbase (fun k hk => (hown.lt k hk).1), fun q hq hne => h3.block q hq hne⟩
theorem wpList_append_rowk {P : Program} {t e : TypeId} {size bytes : Nat} (E : ElemT P t e size bytes) {w : World} {ops : Array Oper} {rest : List Oper} {o : Oper} {a : Act} {Q : Exit → Act → World → Prop} (hgd : o.guard = none) (s x : Operand)
    (ho : o.op = .call { callee := .builtin .append, args := #[s, x], argTypes := #[t, t] })
    (B : Nat) (v : Value) (n : Nat) (xs : List Value) (hs : a.eval s = v) (hown : w.ownsRow B e size v n xs)
    (ad : Addr) (m c : Nat) (ys : List Value) (hx : a.eval x = .slice (some ad) m c) (hr : Rdv w (some ad) m size ys) (hm : 0 < m) (h1 : ∀ u ∈ ys, u.oneCell' = true)
    (hmx : n + m ≤ maxLen) (hby : (n + m) * bytes ≤ 140737488355328) (hbase : B ≤ w.heap.size)
    (h : ∀ v' w', w'.ownsRow B e size v' (n + m) (xs ++ ys) → Below B w w' → (∀ q, q < w.heap.size → some q ≠ v.ownBlock → w'.heap[q]? = w.heap[q]?) → wpList P ops Q rest (a.put o.dst v') w') : wpList P ops Q (o :: rest) a w := by
  obtain ⟨v', w', hrun, h2, h3, h5⟩ := run_append_row_kept E w B o.type v n xs hown ad m c ys hr hm h1 hmx hby hbase
  refine wpList_plain hgd fun K hK => ?_
  have h4 := h v' w' h2 h3 h5
  unfold Oper.wp
  simp [execOp, ho, resolve, invoke, builtin, hs, hx, hrun, Result.andThen]
  exact hK _ _ h4
/-- Rows of unlike things lie apart. -/
theorem own_apart {w : World} {B e e' size size' n n' : Nat} {v v' : Value} {xs ys : List Value} (h : w.ownsRow B e size v n xs) (h' : w.ownsRow B e' size' v' n' ys) (hne : e ≠ e') : ∀ q, v.ownBlock = some q → some q ≠ v'.ownBlock := by
  intro q hq e2
  rcases h.2 with ⟨rfl, _⟩ | ⟨g, cap, cur, rfl, _, hg, _⟩
  · cases hq
  · injection hq with hq
    rcases h'.2 with ⟨rfl, _⟩ | ⟨g', cap', cur', rfl, _, hg', _⟩
    · cases e2
    · injection e2 with e2
      have h1 : g = g' := hq.trans e2
      subst h1
      rw [hg] at hg'
      injection hg' with hg'
      injection hg' with _ hg'
      exact hne hg'
theorem own_stays {w w' : World} {B e size n : Nat} {v : Value} {xs : List Value} (h : w.ownsRow B e size v n xs) (hs : ∀ q, v.ownBlock = some q → w'.heap[q]? = w.heap[q]?) : w'.ownsRow B e size v n xs := by
  refine ⟨h.1, ?_⟩
  rcases h.2 with h0 | ⟨g, cap, cur, hv, hB, hg, hrest⟩
  · exact .inl h0
  · subst hv
    exact .inr ⟨g, cap, cur, rfl, hB, (hs g rfl).trans hg, hrest⟩
def refZ : Value := .agg #[.slice none 0 0, .slice none 0 0, .slice none 0 0, .slice none 0 0, .int .i64 0]
theorem results_new (tmps : Array Value) (w : World) (g : Nat) (cs : Array Value) (e : Int) (h4 : tmps.getD 6 undef = .pointer (some ⟨g, 0, none⟩)) (h6 : tmps.getD 7 undef = .int .i64 e)
    (hg : w.heap[g]? = some (.cells cs 74 (0, 0))) (s4 : cs.size = 5) :
    (results Try.f43 tmps).run Try.prog w = .ok (.tuple #[.agg cs, .int .i64 e]) w := by
  have h4' : tmps[6]?.getD undef = .pointer (some ⟨g, 0, none⟩) := by simpa using h4
  have h6' : tmps[7]?.getD undef = .int .i64 e := by simpa using h6
  simp [results, Try.results43, h4', h6', asAddr, run_loadVar_row w g 74 74 cs (0, 0) _ hg Try.underlying74 rfl (by rw [s4]; exact info74)]
def zR : Array Value := #[.slice none 0 0, .slice none 0 0, .slice none 0 0, .slice none 0 0, .int .i64 0]
theorem zR_cells {W : World} {g : Nat} (h : W.heap[g]? = some (.cells zR 74 (0, 0))) : (W.cell? ⟨g, 0, none⟩ = some (.slice none 0 0) ∧ W.cell? ⟨g, 1, none⟩ = some (.slice none 0 0) ∧ W.cell? ⟨g, 2, none⟩ = some (.slice none 0 0) ∧ W.cell? ⟨g, 3, none⟩ = some (.slice none 0 0) ∧ W.cell? ⟨g, 4, none⟩ = some (.int .i64 0)) ∧
    (W.frozen? ⟨g, 0, none⟩ = false ∧ W.frozen? ⟨g, 1, none⟩ = false ∧ W.frozen? ⟨g, 2, none⟩ = false ∧ W.frozen? ⟨g, 3, none⟩ = false ∧ W.frozen? ⟨g, 4, none⟩ = false) :=
  ⟨⟨(cell_of_row W _ 0 _ 74 (0, 0) h).trans rfl, (cell_of_row W _ 1 _ 74 (0, 0) h).trans rfl, (cell_of_row W _ 2 _ 74 (0, 0) h).trans rfl, (cell_of_row W _ 3 _ 74 (0, 0) h).trans rfl, (cell_of_row W _ 4 _ 74 (0, 0) h).trans rfl⟩,
    frozen_of_row W _ 0 _ 74 h, frozen_of_row W _ 1 _ 74 h, frozen_of_row W _ 2 _ 74 h, frozen_of_row W _ 3 _ 74 h, frozen_of_row W _ 4 _ 74 h⟩
theorem set5_below {w W : World} {g : Nat} (h : Below w.heap.size w W) (hg : w.heap.size ≤ g) (a b c d e : Value) : Below w.heap.size w (((((W.setCell ⟨g, 0, none⟩ a).setCell ⟨g, 1, none⟩ b).setCell ⟨g, 2, none⟩ c).setCell ⟨g, 3, none⟩ d).setCell ⟨g, 4, none⟩ e) :=
  ((((h.setCell (p := ⟨g, 0, none⟩) hg _).setCell (p := ⟨g, 1, none⟩) hg _).setCell (p := ⟨g, 2, none⟩) hg _).setCell (p := ⟨g, 3, none⟩) hg _).setCell (p := ⟨g, 4, none⟩) hg _
set_option maxHeartbeats 2000000 in
/-- Where it tells an error. -/
theorem refnew_bad (A : Option Addr) (n c : Nat) (A2 : Option Addr) (n2 c2 : Nat) (ls : List (List Int)) (m : Int) (w : World) (h : Rws w A n ls) (k : Int) (hbad : (¬ (GoodL ls ∧ n2 = n) ∧ k = 2) ∨ ((GoodL ls ∧ n2 = n) ∧ (m < 1 ∨ 64 < m) ∧ k = 1)) :
    Calls Try.prog 43 #[.slice A n c, .slice A2 n2 c2, .int .i64 m] w fun e w' => e = .returned (.tuple #[refZ, .int .i64 k]) ∧ Below w.heap.size w w' := by
  have hb := (Below.refl _ w).alloc (Nat.le_refl _) (.cells zR 74)
  have HB := Lib.hid hb
  have HG := Lib.hid (heap_alloc_new w (.cells zR 74))
  have C := refgood_any A n c ls _ (h.below hb)
  unfold refZ
  unfold zR at C HB HG
  have fin : ∀ {W : World}, Hid (W.heap[w.heap.size]? = some (.cells zR 74 (0, 0))) → Hid (Below w.heap.size w W) → _ := fun {W} h1 h2 => Lib.hid (⟨q_set (a := .slice none 0 0) (b := .slice none 0 0) (c := .slice none 0 0) (d := .slice none 0 0) (e := .int .i64 0) h1.out, set5_below (g := w.heap.size) h2.out (Nat.le_refl _) (.slice none 0 0) (.slice none 0 0) (.slice none 0 0) (.slice none 0 0) (.int .i64 0)⟩ : _ ∧ _)
  unfold zR at fin
  by_cases hg : GoodL ls
  · rw [decide_eq_true hg] at C
    have HC := Lib.hid C
    by_cases hn : n2 = n
    · subst hn
      obtain ⟨_, hm, rfl⟩ : (GoodL ls ∧ n2 = n2) ∧ (m < 1 ∨ 64 < m) ∧ k = 1 := hbad.resolve_left fun h => h.1 ⟨hg, rfl⟩
      clear C hg hb h hbad
      by_cases h1 : m < 1
      all_goals
        try have h2 : 64 < m := by omega
        clear hm
        go_enter Try.func43, Try.ntmps43
        go_wp2_with fail
        refine Calls.mono HC.out ?_
        rintro e w' ⟨rfl, rfl⟩
        revert HB HG
        generalize World.alloc w _ = W
        intro HB HG
        obtain ⟨⟨y0, y1, y2, y3, y4⟩, f0, f1, f2, f3, f4⟩ := zR_cells HG.out
        go_wp2_with fail
        obtain ⟨F1, F2⟩ := (fin HG HB).out
        refine bodyPost_ret (results_new _ _ _ _ _ rfl rfl F1 rfl) rfl ?_
        exact ⟨rfl, F2⟩
    · have hk : k = 2 := by
        rcases hbad with h1 | h1
        · exact h1.2
        · exact absurd h1.1.2 hn
      subst hk
      have hne : ((n2 : Int) != (n : Int)) = true := by simp; omega
      clear C hg hb h hbad hn
      go_enter Try.func43, Try.ntmps43
      go_wp2_with fail
      refine Calls.mono HC.out ?_
      rintro e w' ⟨rfl, rfl⟩
      revert HB HG
      generalize World.alloc w _ = W
      intro HB HG
      obtain ⟨⟨y0, y1, y2, y3, y4⟩, f0, f1, f2, f3, f4⟩ := zR_cells HG.out
      go_wp2_with fail
      obtain ⟨F1, F2⟩ := (fin HG HB).out
      refine bodyPost_ret (results_new _ _ _ _ _ rfl rfl F1 rfl) rfl ?_
      exact ⟨rfl, F2⟩
  · rw [decide_eq_false hg] at C
    have HC := Lib.hid C
    have hk : k = 2 := by
      rcases hbad with h1 | h1
      · exact h1.2
      · exact absurd h1.1.1 hg
    subst hk
    clear C hg hb h hbad
    go_enter Try.func43, Try.ntmps43
    go_wp2_with fail
    refine Calls.mono HC.out ?_
    rintro e w' ⟨rfl, rfl⟩
    revert HB HG
    generalize World.alloc w _ = W
    intro HB HG
    obtain ⟨⟨y0, y1, y2, y3, y4⟩, f0, f1, f2, f3, f4⟩ := zR_cells HG.out
    go_wp2_with fail
    obtain ⟨F1, F2⟩ := (fin HG HB).out
    refine bodyPost_ret (results_new _ _ _ _ _ rfl rfl F1 rfl) rfl ?_
    exact ⟨rfl, F2⟩
/-- The new plan's box, as far as workers were told. -/
structure NewI (w : World) (r g B : Nat) (A : Option Addr) (n c : Nat) (A2 : Option Addr) (c2 : Nat) (bs : List Bool) (A3 : Option Addr) (c3 k3 : Nat) (A4 : Option Addr) (c4 k4 : Nat) (W : World) : Prop where
  below : Below w.heap.size w W
  low : w.heap.size ≤ r ∧ r < g ∧ g < B ∧ B ≤ W.heap.size
  res : W.heap[r]? = some (.cells zR 74 (0, 0))
  en : Bls W A2 n bs ∧ ∀ a, A2 = some a → 0 < n → a.block < B ∧ a.block ≠ r ∧ a.block ≠ g ∧ w.heap.size ≤ a.block
  box : W.heap[g]? = some (.cells #[.slice A n c, .slice A2 n c2, .slice A3 k3 c3, .slice A4 k4 c4, .int .i64 0] 74 (0, 0))
  own3 : W.ownsRow B 3 1 (.slice A3 k3 c3) k3 (valsZ (List.replicate k3 (-1)))
  own4 : W.ownsRow B 4 1 (.slice A4 k4 c4) k4 (valsB (List.replicate k4 false))
theorem bls_block {w w' : World} {A : Option Addr} {n : Nat} {bs : List Bool} (h : Bls w A n bs) (hs : ∀ a, A = some a → 0 < n → w'.heap[a.block]? = w.heap[a.block]?) : Bls w' A n bs :=
  ⟨h.1, h.2.1, fun hn => by
    obtain ⟨b, off, e, hc⟩ := h.2.2 hn
    have hb : w'.heap[b]? = w.heap[b]? := hs _ e hn
    exact ⟨b, off, e, fun j hj => (World.cell?_of_block (a := ⟨b, off + j, none⟩) hb).trans (hc j hj)⟩⟩
section
variable {w : World} {r g B : Nat} {A : Option Addr} {n c : Nat} {A2 : Option Addr} {c2 : Nat} {bs : List Bool} {A3 : Option Addr} {c3 k3 : Nat} {A4 : Option Addr} {c4 k4 : Nat} {W : World}
theorem NewI.alloc (h : NewI w r g B A n c A2 c2 bs A3 c3 k3 A4 c4 k4 W) (o : Obj) : NewI w r g B A n c A2 c2 bs A3 c3 k3 A4 c4 k4 (W.alloc o) := by
  have hb : Below W.heap.size W (W.alloc o) := (Below.refl _ W).alloc (Nat.le_refl _) o
  exact ⟨h.below.alloc h.below.size o, ⟨h.low.1, h.low.2.1, h.low.2.2.1, by rw [World.size_alloc]; have := h.low.2.2.2; omega⟩, (Below.heap_alloc _ _ _ (Array.getElem?_eq_some_iff.1 h.res).1).trans h.res, ⟨h.en.1.ext (stays_w hb), h.en.2⟩, (Below.heap_alloc _ _ _ (Array.getElem?_eq_some_iff.1 h.box).1).trans h.box, h.own3.alloc o, h.own4.alloc o⟩
theorem NewI.push3 (h : NewI w r g B A n c A2 c2 bs A3 c3 k3 A4 c4 k4 W) {A5 : Option Addr} {c5 : Nat} {w3 : World} (ho : w3.ownsRow B 3 1 (.slice A5 (k3 + 1) c5) (k3 + 1) (valsZ (List.replicate k3 (-1)) ++ [.int .i64 (-1)])) (hb : Below B W w3) (hk : ∀ q, q < W.heap.size → some q ≠ (Value.slice A3 k3 c3).ownBlock → w3.heap[q]? = W.heap[q]?) :
    NewI w r g B A n c A2 c2 bs A5 c5 (k3 + 1) A4 c4 k4 (w3.setCell ⟨g, 2, none⟩ (.slice A5 (k3 + 1) c5)) := by
  obtain ⟨l1, l2, l3, l4⟩ := h.low
  have e : valsZ (List.replicate (k3 + 1) (-1)) = valsZ (List.replicate k3 (-1)) ++ [.int .i64 (-1)] := by rw [List.replicate_succ']; simp [valsZ]
  have far : ∀ q, q ≠ g → (w3.setCell ⟨g, 2, none⟩ (.slice A5 (k3 + 1) c5)).heap[q]? = w3.heap[q]? := fun q hq => Below.heap_setCell _ _ _ _ hq
  have hz := hb.size
  have fz : ∀ q, B ≤ q → q ≠ g := fun q hq e => by omega
  refine ⟨(h.below.trans (hb.mono (by omega))).setCell (p := ⟨g, 2, none⟩) (by show w.heap.size ≤ g; omega) _, ⟨l1, l2, l3, by rw [World.size_setCell]; omega⟩, (far r (by omega)).trans ((hb.block r (by omega)).trans h.res), ⟨bls_block h.en.1 fun a ha hn => ?_, h.en.2⟩, ?_, ?_, ?_⟩
  · obtain ⟨q1, q2, q3, _⟩ := h.en.2 a ha hn
    exact (far _ q3).trans (hb.block _ q1)
  · exact Go.heap_setCell_same _ g 2 _ 74 _ ((hb.block g l3).trans h.box)
  · rw [e]
    exact own_stays ho fun q hq => far q (fz q (ho.lt q hq).1)
  · refine own_stays h.own4 fun q hq => (far q (fz q (h.own4.lt q hq).1)).trans (hk q (h.own4.lt q hq).2 (own_apart h.own4 h.own3 (by decide) q hq))
theorem NewI.push4 (h : NewI w r g B A n c A2 c2 bs A3 c3 k3 A4 c4 k4 W) {A5 : Option Addr} {c5 : Nat} {w3 : World} (ho : w3.ownsRow B 4 1 (.slice A5 (k4 + 1) c5) (k4 + 1) (valsB (List.replicate k4 false) ++ [.bool false])) (hb : Below B W w3) (hk : ∀ q, q < W.heap.size → some q ≠ (Value.slice A4 k4 c4).ownBlock → w3.heap[q]? = W.heap[q]?) :
    NewI w r g B A n c A2 c2 bs A3 c3 k3 A5 c5 (k4 + 1) (w3.setCell ⟨g, 3, none⟩ (.slice A5 (k4 + 1) c5)) := by
  obtain ⟨l1, l2, l3, l4⟩ := h.low
  have e : valsB (List.replicate (k4 + 1) false) = valsB (List.replicate k4 false) ++ [.bool false] := by rw [List.replicate_succ']; simp [valsB]
  have far : ∀ q, q ≠ g → (w3.setCell ⟨g, 3, none⟩ (.slice A5 (k4 + 1) c5)).heap[q]? = w3.heap[q]? := fun q hq => Below.heap_setCell _ _ _ _ hq
  have hz := hb.size
  have fz : ∀ q, B ≤ q → q ≠ g := fun q hq e => by omega
  refine ⟨(h.below.trans (hb.mono (by omega))).setCell (p := ⟨g, 3, none⟩) (by show w.heap.size ≤ g; omega) _, ⟨l1, l2, l3, by rw [World.size_setCell]; omega⟩, (far r (by omega)).trans ((hb.block r (by omega)).trans h.res), ⟨bls_block h.en.1 fun a ha hn => ?_, h.en.2⟩, ?_, ?_, ?_⟩
  · obtain ⟨q1, q2, q3, _⟩ := h.en.2 a ha hn
    exact (far _ q3).trans (hb.block _ q1)
  · exact Go.heap_setCell_same _ g 3 _ 74 _ ((hb.block g l3).trans h.box)
  · refine own_stays h.own3 fun q hq => (far q (fz q (h.own3.lt q hq).1)).trans (hk q (h.own3.lt q hq).2 (own_apart h.own3 h.own4 (by decide) q hq))
  · rw [e]
    exact own_stays ho fun q hq => far q (fz q (ho.lt q hq).1)
/-- The plan that is told at the end. -/
theorem NewI.fin {ls : List (List Int)} {m : Nat} (h : NewI w w.heap.size g B A n c A2 c2 bs A3 c3 m A4 c4 m W) (hl : Rws w A n ls) (hbs : bs.length = n) (hm : m ≤ 64) {x0 x1 x2 x3 x4 : Value} {W' : World} (hW : W' = ((((W.setCell ⟨w.heap.size, 0, none⟩ x0).setCell ⟨w.heap.size, 1, none⟩ x1).setCell ⟨w.heap.size, 2, none⟩ x2).setCell ⟨w.heap.size, 3, none⟩ x3).setCell ⟨w.heap.size, 4, none⟩ x4) :
    RefR W' A A2 A3 A4 ls (nS (fun i => bs.getD i false) ls n m n n 0) ∧ (A3 = none → c3 = 0) ∧ (A4 = none → c4 = 0) ∧ Below w.heap.size w W' ∧ ∀ a, (A2 = some a ∧ 0 < n) ∨ A3 = some a ∨ A4 = some a → w.heap.size ≤ a.block := by
  obtain ⟨l1, l2, l3, l4⟩ := h.low
  have far : ∀ q, q ≠ w.heap.size → W'.heap[q]? = W.heap[q]? := fun q hq => by
    rw [hW]
    exact (Below.heap_setCell _ _ _ _ hq).trans ((Below.heap_setCell _ _ _ _ hq).trans ((Below.heap_setCell _ _ _ _ hq).trans ((Below.heap_setCell _ _ _ _ hq).trans (Below.heap_setCell _ _ _ _ hq))))
  have hB : Below w.heap.size w W' := by
    rw [hW]
    exact set5_below h.below (Nat.le_refl _) _ _ _ _ _
  have o3 := own_stays (w' := W') h.own3 fun q hq => far q (by have := (h.own3.lt q hq).1; omega)
  have o4 := own_stays (w' := W') h.own4 fun q hq => far q (by have := (h.own4.lt q hq).1; omega)
  have fit : ∀ x ∈ List.replicate m (-1 : Int), Fits x := fun x hx => by rw [(List.mem_replicate.1 hx).2]; decide
  obtain ⟨A5, c5, e3, n3, n3', _⟩ := nums_own o3 fit
  injection e3 with e3 _ e3'
  subst e3 e3'
  obtain ⟨A5, c5, e4, r4, n4', _⟩ := rdv_own o4
  injection e4 with e4 _ e4'
  subst e4 e4'
  have enE : enL (nS (fun i => bs.getD i false) ls n m n n 0) = bs := by
    apply List.ext_getElem
    · simp [enL, nS, hbs]
    · intro i h1 h2
      have hin : i < n := by omega
      have : enL (nS (fun i => bs.getD i false) ls n m n n 0) = (List.range n).map fun i => decide ((if i < n ∧ bs.getD i false = true then (3 : Int) else 0) = 3) := rfl
      simp only [this, List.getElem_map, List.getElem_range]
      have hv : bs.getD i false = bs[i] := by simp [List.getD_eq_getElem?_getD, h2]
      rw [hv]
      cases bs[i] <;> simp [hin]
  have haE : haL (nS (fun i => bs.getD i false) ls n m n n 0) = List.replicate m (-1) := by
    apply List.ext_getElem
    · simp [haL, nS]
    · intro i h1 h2
      have him : i < m := by simpa using h2
      have : haL (nS (fun i => bs.getD i false) ls n m n n 0) = (List.range m).map fun x => if x < m then (-1 : Int) else 0 := rfl
      simp only [this, List.getElem_map, List.getElem_range, List.getElem_replicate, if_pos him]
  have raE : raL (nS (fun i => bs.getD i false) ls n m n n 0) = List.replicate m false := by
    apply List.ext_getElem
    · simp [raL, nS]
    · intro i h1 h2
      have him : i < m := by simpa using h2
      have : raL (nS (fun i => bs.getD i false) ls n m n n 0) = (List.range m).map (ranB (nS (fun i => bs.getD i false) ls n m n n 0)) := rfl
      simp only [this, List.getElem_map, List.getElem_range, List.getElem_replicate]
      have hw : (nS (fun i => bs.getD i false) ls n m n n 0).ws i = -1 := if_pos him
      unfold ranB
      rw [hw]
      rfl
  refine ⟨⟨hl.below hB, ?_, ?_, ?_⟩, n3', n4', hB, fun a ha => ?_⟩
  rotate_left 3
  · rcases ha with ⟨h1, h2⟩ | h1 | h1
    · exact (h.en.2 a h1 h2).2.2.2
    · have := (h.own3.lt a.block (by rw [h1]; rfl)).1; omega
    · have := (h.own4.lt a.block (by rw [h1]; rfl)).1; omega
  · rw [enE]; exact bls_block h.en.1 fun a ha hn => far _ (h.en.2 a ha hn).2.1
  · rw [haE]; exact n3
  · rw [raE]; exact bls_rdv r4 (by show m ≤ _; omega)
end

set_option maxHeartbeats 4000000 in
theorem refnew_ok (A : Option Addr) (n c : Nat) (A2 : Option Addr) (c2 : Nat) (ls : List (List Int)) (bs : List Bool) (m : Nat) (w : World) (h : Rws w A n ls) (hi : Bls w A2 n bs) (hnil : A2 = none → c2 = 0) (hg : GoodL ls) (hm : 1 ≤ m ∧ m ≤ 64) (hn : n ≤ 10000) :
    Calls Try.prog 43 #[.slice A n c, .slice A2 n c2, .int .i64 (m : Int)] w fun e w' => ∃ A5 c5 A6 c6 A7 c7, e = .returned (.tuple #[refV A n c A5 c5 A6 m c6 A7 c7 0, .int .i64 0]) ∧ RefR w' A A5 A6 A7 ls (nS (fun i => bs.getD i false) ls n m n n 0) ∧ ((A5 = none → c5 = 0) ∧ (A6 = none → c6 = 0) ∧ (A7 = none → c7 = 0)) ∧ Below w.heap.size w w' ∧ ∀ a, (A5 = some a ∧ 0 < n) ∨ A6 = some a ∨ A7 = some a → w.heap.size ≤ a.block := by
  have hb := (Below.refl _ w).alloc (Nat.le_refl _) (.cells zR 74)
  have HB := Lib.hid hb
  have HG := Lib.hid (heap_alloc_new w (.cells zR 74))
  have C := refgood_any A n c ls _ (h.below hb)
  rw [decide_eq_true hg] at C
  have HC := Lib.hid C
  have HI := Lib.hid (rdv_bls (hi.below hb))
  have HR := Lib.hid h
  have HL := Lib.hid h.1
  have HBL := Lib.hid hi.1
  unfold zR at HC HB HG HI
  unfold refV refC
  have b1 : ¬ (m : Int) < 1 := by omega
  have b2 : ¬ (64 : Int) < (m : Int) := by omega
  have d1 : decide ((m : Int) < 1) = false := decide_eq_false b1
  have d2 : decide ((64 : Int) < (m : Int)) = false := decide_eq_false b2
  clear C hb h hi hg
  go_enter Try.func43, Try.ntmps43
  go_wp2_with fail
  refine Calls.mono HC.out ?_
  rintro e w' ⟨rfl, rfl⟩
  revert HB HG HI
  generalize World.alloc w _ = W
  intro HB HG HI
  have hz : w.heap.size < W.heap.size := (Array.getElem?_eq_some_iff.1 HG.out).1
  clear HC
  have HIA := Lib.hid (HI.out.ext (stays_w ((Below.refl _ W).alloc (Nat.le_refl _) (.cells #[] 4))))
  go_upto_region 5 with fail
  go_cut [8] from 28 to 32 (fun v wx => ∃ A5 c5 g, v = .pointer (some ⟨g, 0, none⟩) ∧ NewI w w.heap.size g wx.heap.size A n c A5 c5 bs none 0 0 none 0 0 wx ∧ (A5 = none → c5 = 0))
  case first =>
    go_wp2_with (at_builtin; refine wpList_append_fresh elem67 rfl (.tmp 29) (.tmp 30) rfl _ rfl A2 n c2 (valsB bs) rfl HIA.out hnil (by unfold maxLen; omega) (by omega) ?_; intro v2 w2 hrow hsm hb2; obtain ⟨ad5, c5, hv5⟩ := hsm; subst hv5; obtain ⟨A5', c5', hv6, R5, G5⟩ := hrow; injection hv6 with hv6 _ hv7; subst hv6 hv7; have HR5 := Lib.hid R5; have HG5 := Lib.hid G5; have HB2 := Lib.hid hb2; clear R5 G5 hb2)
    go_meet
    case rel =>
      have s2 := HB2.out.size
      rw [World.size_alloc] at s2
      refine ⟨some ad5, c5, w2.heap.size, rfl, ?_, fun h => by cases h⟩
      have hW2 : Below w.heap.size w w2 := HB.out.trans (((Below.refl _ W).alloc (Nat.le_refl _) (.cells #[] 4)).trans (HB2.out.mono (by rw [World.size_alloc]; omega)) |>.mono (by omega))
      refine ⟨hW2.alloc hW2.size _, ⟨Nat.le_refl _, by omega, by rw [World.size_alloc]; omega, Nat.le_refl _⟩, ?_, ⟨bls_rdv (HR5.out.ext (stays_w ((Below.refl _ w2).alloc (Nat.le_refl _) _))) (by omega), fun a ha hn0 => ?_⟩, heap_alloc_new w2 _, World.ownsRow_nil _ _ _ _, World.ownsRow_nil _ _ _ _⟩
      · exact (Below.heap_alloc _ _ _ (by omega)).trans ((HB2.out.block _ (by rw [World.size_alloc]; omega)).trans ((Below.heap_alloc _ _ _ hz).trans HG.out))
      · obtain ⟨g5, e5, l5, h5, _⟩ := HG5.out hn0
        rw [World.size_alloc] at l5
        injection ha with ha
        injection e5 with e5
        rw [← ha, e5, World.size_alloc]
        exact ⟨by show g5 < _; omega, by show g5 ≠ _; omega, by show g5 ≠ _; omega, by show _ ≤ g5; omega⟩
  case rest =>
    obtain ⟨A5, c5, g, rfl, N, hn5⟩ := hcut
    obtain ⟨B, hB⟩ : ∃ B, B = wc.heap.size := ⟨_, rfl⟩
    rw [← hB] at N
    have HN := Lib.hid N
    clear N hB HIA HI HG HB
    go_wp2_with fail
    go_loopw [9] (fun x wr => ∃ (k : Nat) (A3 : Option Addr) (c3 : Nat) (A4 : Option Addr) (c4 : Nat), x = .int .i64 (k : Int) ∧ k ≤ m ∧ NewI w w.heap.size g B A n c A5 c5 bs A3 c3 k A4 c4 k wr) (fun x _ => m - (intOf x).toNat)
    case atStart => exact ⟨0, none, 0, none, 0, rfl, by omega, HN.out⟩
    case round =>
      obtain ⟨k, A3, c3, A4, c4, rfl, hk, N⟩ := hrel
      have hbox := N.box
      have y0 := cell_of_row wr _ 0 _ 74 (0, 0) hbox
      have y1 := cell_of_row wr _ 1 _ 74 (0, 0) hbox
      have y2 := cell_of_row wr _ 2 _ 74 (0, 0) hbox
      have y3 := cell_of_row wr _ 3 _ 74 (0, 0) hbox
      have y4 := cell_of_row wr _ 4 _ 74 (0, 0) hbox
      simp only [List.getElem?_toArray, List.getElem?_cons_zero, List.getElem?_cons_succ] at y0 y1 y2 y3 y4
      have yf2 : wr.frozen? ⟨g, 2, none⟩ = false := frozen_of_row wr _ 2 _ 74 hbox
      by_cases hlt : k < m
      · have N1 := N.alloc (.cells #[.int .i64 (-1)] 3)
        have HN1 := Lib.hid N1
        have HR3 := Lib.hid (show Rdv (wr.alloc (.cells #[.int .i64 (-1)] 3)) (some ⟨wr.heap.size, 0, none⟩) 1 1 [.int .i64 (-1)] from ⟨rfl, fun _ => ⟨_, _, rfl, fun j u hj => by
          rcases j with _ | j
          · simp at hj; subst hj; rw [cell_of_row _ _ _ _ _ (0, 0) (heap_alloc_new wr _)]; rfl
          · simp at hj⟩⟩)
        have hlB := N.low.2.2
        clear N N1 hbox y0 y1 y3 y4 HN
        go_upto_region 10 with (at_builtin; refine wpList_append_rowk elem38 rfl (.tmp 39) (.tmp 40) rfl B _ k (valsZ (List.replicate k (-1))) rfl HN1.out.own3 ⟨wr.heap.size, 0, none⟩ 1 1 [.int .i64 (-1)] rfl HR3.out (by decide) (by intro u hu; simp at hu; subst hu; rfl) (by unfold maxLen; omega) (by omega) HN1.out.low.2.2.2 ?_; intro v3 w3 hown3 hb3 hk3; obtain ⟨A6, c6, hv6, _, _, _⟩ := rdv_own hown3; subst hv6; have HO3 := Lib.hid hown3; have HK3 := Lib.hid hk3; have HB3 := Lib.hid hb3; have t2 := (hb3.cell (p := ⟨g, 2, none⟩) hlB.1).trans (show (wr.alloc (.cells #[.int .i64 (-1)] 3)).cell? ⟨g, 2, none⟩ = some (.slice A3 k c3) from (World.cell?_alloc_lt _ _ _ (by show g < _; omega)).trans y2); have tf : w3.frozen? ⟨g, 2, none⟩ = false := (hb3.frozen (p := ⟨g, 2, none⟩) hlB.1).trans (frozen_of_row _ _ 2 _ 74 HN1.out.box); clear hown3 hb3 hk3)
        have N2 := HN1.out.push3 HO3.out HB3.out HK3.out
        clear HN1 HO3 HB3 HK3 HR3 y2 yf2 t2 tf
        revert N2
        generalize World.setCell w3 _ _ = w4
        intro N2
        have hbox := N2.box
        have y3 := cell_of_row w4 _ 3 _ 74 (0, 0) hbox
        simp only [List.getElem?_toArray, List.getElem?_cons_zero, List.getElem?_cons_succ] at y3
        have N3 := N2.alloc (.cells #[.bool false] 4)
        have HN3 := Lib.hid N3
        have HR4 := Lib.hid (show Rdv (w4.alloc (.cells #[.bool false] 4)) (some ⟨w4.heap.size, 0, none⟩) 1 1 [.bool false] from ⟨rfl, fun _ => ⟨_, _, rfl, fun j u hj => by
          rcases j with _ | j
          · simp at hj; subst hj; rw [cell_of_row _ _ _ _ _ (0, 0) (heap_alloc_new w4 _)]; rfl
          · simp at hj⟩⟩)
        have hlC := N2.low.2.2
        clear N2 N3 hbox hlB
        go_wp2_with (at_builtin; refine wpList_append_rowk elem67 rfl (.tmp 44) (.tmp 45) rfl B _ k (valsB (List.replicate k false)) rfl HN3.out.own4 ⟨w4.heap.size, 0, none⟩ 1 1 [.bool false] rfl HR4.out (by decide) (by intro u hu; simp at hu; subst hu; rfl) (by unfold maxLen; omega) (by omega) HN3.out.low.2.2.2 ?_; intro v5 w5 hown5 hb5 hk5; obtain ⟨A7, c7, hv7, _, _, _⟩ := rdv_own hown5; subst hv7; have HO5 := Lib.hid hown5; have HK5 := Lib.hid hk5; have HB5 := Lib.hid hb5; have t2 := (hb5.cell (p := ⟨g, 3, none⟩) hlC.1).trans (show (w4.alloc (.cells #[.bool false] 4)).cell? ⟨g, 3, none⟩ = some (.slice A4 k c4) from (World.cell?_alloc_lt _ _ _ (by show g < _; omega)).trans y3); have tf : w5.frozen? ⟨g, 3, none⟩ = false := (hb5.frozen (p := ⟨g, 3, none⟩) hlC.1).trans (frozen_of_row _ _ 3 _ 74 HN3.out.box); clear hown5 hb5 hk5)
        go_roundw
        case rel => exact ⟨k + 1, _, _, _, _, by go_num, by omega, HN3.out.push4 HO5.out HB5.out HK5.out⟩
        case measure => simp [intOf]; omega
      · obtain rfl : m = k := by omega
        obtain ⟨⟨x0, x1, x2, x3, x4⟩, f0, f1, f2, f3, f4⟩ := zR_cells N.res
        have HNN := Lib.hid N
        clear N hbox HN
        go_wp2_with fail
        have F1 := q_set (a := .slice A n c) (b := .slice A5 n c5) (c := .slice A3 m c3) (d := .slice A4 m c4) (e := .int .i64 0) HNN.out.res
        obtain ⟨F2, F3, F4, F5, F6⟩ := HNN.out.fin (x0 := .slice A n c) (x1 := .slice A5 n c5) (x2 := .slice A3 m c3) (x3 := .slice A4 m c4) (x4 := .int .i64 0) HR.out HBL.out hm.2 rfl
        refine bodyPost_ret (results_new _ _ _ _ _ rfl rfl F1 rfl) rfl ?_
        exact ⟨_, _, _, _, _, _, rfl, F2, ⟨hn5, F3, F4⟩, F5, F6⟩
end Go.Proofs.Ytgdkgoiagjjccaa
