/- A foot of its own memory. -/
import Derived.Test.YtmicheheibkmjaaFRefJ
import Derived.Test.YtmicheheibkmjaaFTwo
namespace Go.Proofs.Ytmicheheibkmjaa
set_option maxRecDepth 100000
open Go.RowKit Go.Shelf

/-- A row made anew. -/
def RowF (B : Nat) (w : World) (v : Value) (n size : Nat) (ys : List Value) : Prop := ∃ ad c, v = .slice (some ad) n c ∧ Rdv w (some ad) n size ys ∧ (0 < n → B ≤ ad.block)
theorem RowF.below {w w' : World} {v : Value} {n size : Nat} {ys : List Value} {B : Nat} (h : RowF B w v n size ys) (hb : Below w.heap.size w w') : RowF B w' v n size ys := by
  obtain ⟨ad, c, e, hr, hB⟩ := h
  exact ⟨ad, c, e, hr.ext (fun _ hp => hb.cell hp), hB⟩
theorem RowF.low {w : World} {v : Value} {n size B B' : Nat} {ys : List Value} (h : RowF B w v n size ys) (hb : B' ≤ B) : RowF B' w v n size ys := by
  obtain ⟨ad, c, e, hr, hB⟩ := h
  exact ⟨ad, c, e, hr, fun h => Nat.le_trans hb (hB h)⟩
theorem rdv_set {w : World} {ad : Addr} {n size g o : Nat} {ys : List Value} {u : Value} (h : Rdv w (some ad) n size ys) (hb : 0 < n → ad.block ≠ g) : Rdv (w.setCell ⟨g, o, none⟩ u) (some ad) n size ys := by
  refine ⟨h.1, fun hn => ?_⟩
  obtain ⟨b, off, e, hc⟩ := h.2 hn
  have hne := hb hn
  injection e with e
  subst e
  refine ⟨b, off, rfl, fun j v hj => ?_⟩
  rw [World.cell?_of_block (w := w) (Below.heap_setCell _ _ _ _ (by first | exact hne | exact hne.symm))]
  exact hc j v hj
theorem run_append_freshk {P : Program} {t e : TypeId} {size bytes : Nat} (E : ElemT P t e size bytes) (w : World) (ty : TypeId) (p : Addr)
    (A : Option Addr) (m c : Nat) (ys : List Value) (hr : Rdv w A m size ys) (hnil : A = none → c = 0) (hmx : m ≤ maxLen) (hby : m * bytes ≤ 140737488355328) :
    ∃ v w', (Builtin.append_ #[t, t] ty #[.slice (some p) 0 0, .slice A m c]).run P w = .ok v w' ∧ RowF w.heap.size w' v m size ys ∧ Below w.heap.size w w' := by
  obtain ⟨ht, hinfo, ⟨i, z, hi, hz, hzs⟩, hpos⟩ := E
  rw [hi] at hinfo
  simp at hinfo
  obtain ⟨hl, hc⟩ := hr
  by_cases hm : m = 0
  · subst hm
    have hy : ys = [] := List.eq_nil_of_length_eq_zero (by simp [hl])
    subst hy
    refine ⟨.slice (some p) 0 0, w, ?_, ⟨p, 0, rfl, ⟨by simp, fun h => absurd h (by omega)⟩, fun h => absurd h (by omega)⟩, Below.refl _ _⟩
    rcases A with _ | ad
    · simp [Builtin.append_, run_underlying ht, sizeOf, typeInfo, hi, Builtin.lenOf, Builtin.firstCells, loadCells, loadCellsFrom, storeCells, hnil rfl]
    · simp [Builtin.append_, run_underlying ht, sizeOf, typeInfo, hi, Builtin.lenOf, Builtin.firstCells, loadCells, loadCellsFrom, storeCells]
  · obtain ⟨b, off, rfl, h5⟩ := hc (by omega)
    have hnews : ∀ j u, ys[j]? = some u → w.cell? ((⟨b, off, none⟩ : Addr).add j) = some u := fun j u hj => by rw [addr_plus]; exact h5 j u hj
    have hrun := run_append_grow (P := P) w t ty e i z ht hi hz p 0 0 [] (by simp) (fun j u hj => by simp at hj) ⟨b, off, none⟩ m c ys (by rw [hl, hinfo.1]) hnews (by omega) (by unfold maxLen at hmx; omega) (growslice_fits (by unfold maxLen at hmx; omega) (by rw [hinfo.2, Nat.zero_add]; exact hby))
    rw [Nat.zero_add] at hrun
    have hg : (w.drew.alloc (.cells (#[] ++ ys.toArray ++ Builtin.zeroCells z.cells (grownCap w m 0 e - m)) e)).heap[w.heap.size]? = some (.cells (#[] ++ ys.toArray ++ Builtin.zeroCells z.cells (grownCap w m 0 e - m)) e (0, 0)) := heap_alloc_new w.drew _
    refine ⟨_, _, hrun, ⟨_, _, rfl, ⟨hl, fun _ => ⟨_, _, rfl, fun j u hj => ?_⟩⟩, fun _ => Nat.le_refl _⟩, ((Below.refl _ w).drew).alloc (Nat.le_refl _) _⟩
    rw [Nat.zero_add, cell_of_row _ _ j _ e (0, 0) hg]
    have hlt : j < ys.length := by
      rcases Nat.lt_or_ge j ys.length with h' | h'
      · exact h'
      · rw [List.getElem?_eq_none h'] at hj; cases hj
    have e1 : #[] ++ ys.toArray = ys.toArray := by simp
    rw [e1, Array.getElem?_append_left (by simpa using hlt)]
    simpa using hj
theorem does_append_freshk {P : Program} {t e : TypeId} {size bytes : Nat} (E : ElemT P t e size bytes) {ops : Array Oper} {Q : Exit → Act → World → Prop} {o : Oper} {a : Act} {w : World} (hgd : o.guard = none) (s x : Operand)
    (ho : o.op = .call { callee := .builtin .append, args := #[s, x], argTypes := #[t, t] }) (p : Addr) (hs : a.eval s = .slice (some p) 0 0)
    (A : Option Addr) (m c : Nat) (ys : List Value) (hx : a.eval x = .slice A m c) (hr : Rdv w A m size ys) (hnil : A = none → c = 0) (hmx : m ≤ maxLen) (hby : m * bytes ≤ 140737488355328) {F : Fact} {d : List Past}
    (hF : ∀ v w', RowF w.heap.size w' v m size ys → F d v w w') : Does P ops Q o F w d a := by
  intro K hK
  rw [if_pos (by simp [Region.wanted, hgd])]
  obtain ⟨v, w', hrun, h2, h3⟩ := run_append_freshk E w o.type p A m c ys hr hnil hmx hby
  have h6 := hK v w' (hF _ _ h2) h3
  unfold Oper.wp
  simp [execOp, ho, resolve, invoke, builtin, hs, hx, hrun, Result.andThen]
  exact h6
/-- Its rows lie in blocks that are no older. -/
def NewF (B : Nat) (z : FV) : Prop := (∀ ad, z.A = some ad → 0 < z.n → B ≤ ad.block) ∧ (∀ ad, z.A2 = some ad → 0 < z.n2 → B ≤ ad.block) ∧ (∀ ad, z.A3 = some ad → 0 < z.n3 → B ≤ ad.block)
set_option maxHeartbeats 4000000 in
theorem copies_any (x : FV) (f : Ft) (w : World) (hx : FtG w x f) (h1 : x.n ≤ 1000) (h2 : x.n2 ≤ 1000) (h3 : x.n3 ≤ 1000) : Calls Try.prog 10 #[x.val] w fun e w' => ∃ z : FV, e = .returned z.val ∧ FtG w' z f ∧ Below w.heap.size w w' ∧ NewF w.heap.size z := by
  obtain ⟨q1, q2, q3⟩ := alloc2g w (.cells x.cs 30) (.cells #[.slice none 0 0, .slice none 0 0, .slice none 0 0] 30)
  have HB := Lib.hid q3
  have HF := Lib.hid (show FBox _ w.heap.size x from q1)
  have HR := Lib.hid q2
  have HX := Lib.hid (hx.below q3)
  have hq3 : x.n ≤ maxLen := by unfold maxLen; omega
  have hq7 : x.n2 ≤ maxLen := by unfold maxLen; omega
  have hq11 : x.n3 ≤ maxLen := by unfold maxLen; omega
  have hz3 : x.n * 16 ≤ 140737488355328 := by omega
  have hz7 : x.n2 * 24 ≤ 140737488355328 := by omega
  have hz11 : x.n3 * 16 ≤ 140737488355328 := by omega
  unfold FV.cs at HB HF HR HX
  unfold FV.val FV.cs
  clear q1 q2 q3 hx
  go_enter Try.func10, Try.ntmps10
  go_upto_region 1 with fail
  revert HB HF HR HX
  generalize World.alloc (World.alloc w _) _ = W
  intro HB HF HR HX
  have HRL := Lib.hid (show w.heap.size + 2 ≤ W.heap.size from (Array.getElem?_eq_some_iff.1 HR.out).1)
  have HXD := Lib.hid (fun W2 (hw : Below W.drew.heap.size W.drew W2) => HX.out.below ((Below.refl _ W).drew.trans hw))
  have HC := Lib.hid (fun W2 (hw : Below W.drew.heap.size W.drew W2) => (HF.out.below ((Below.refl _ W).drew.trans hw)).cs3)
  refine wp_region_noPanic ?_
  refine wp_region_abs 12 16 [.tells (fun _ v _ _ => ∃ g, v = .slice (some g) 0 0), .is (.pointer (some ⟨w.heap.size, 0, none⟩)), .is (.slice x.A x.n x.c), .tells (fun _ v _ wa => RowF W.heap.size wa v x.n 2 (rowV K.vals f.rs)), .tells (fun _ v _ _ => ∃ g, v = .slice (some g) 0 0), .is (.pointer (some ⟨w.heap.size, 1, none⟩)), .is (.slice x.A2 x.n2 x.c2), .tells (fun _ v _ wa => RowF W.heap.size wa v x.n2 3 (rowV Sp.vals f.sp)), .tells (fun _ v _ _ => ∃ g, v = .slice (some g) 0 0), .is (.pointer (some ⟨w.heap.size, 2, none⟩)), .is (.slice x.A3 x.n3 x.c3), .tells (fun _ v _ wa => RowF W.heap.size wa v x.n3 2 (rowV K.vals f.ws))]
    [3, 4, 5, 6, 7, 8, 9, 10, 11, 12, 13, 14]
    [[], [], [1], [0, 2], [], [], [5], [4, 6, 3], [], [], [9], [8, 10, 7]] (by kernel_rfl) (by rfl) rfl rfl (by kernel_rfl) (fun _ _ _ _ h => h.elim) ?_ ?_
  · refine ⟨?_, ?_, ?_, ?_, ?_, ?_, ?_, ?_, ?_, ?_, ?_, ?_, trivial⟩
    · intro W2 hw K hK
      go_simp
      exact hK _ _ ⟨_, rfl⟩ ((Below.refl _ _).alloc (Nat.le_refl _) _)
    · intro W2 hw K hK
      go_simp
      exact hK _ _ rfl (Below.refl _ _)
    · intro W2 hw K hK
      obtain ⟨x0, x1, x2⟩ := HC.out W2 hw
      go_simp
      exact hK _ _ rfl (Below.refl _ _)
    · rintro W2 hw v0 _ _ ⟨_, g, rfl⟩ -
      refine (show ∀ d, Does _ _ _ _ _ _ d _ from fun d => ?_) _
      exact does_append_freshk (F := fun _ v _ wa => RowF W.heap.size wa v x.n 2 (rowV K.vals f.rs)) elem27 rfl _ _ rfl g rfl x.A x.n x.c _ rfl (HXD.out W2 hw).at_.rs.row HX.out.nil1 hq3 hz3 fun v w' h => h.low hw.size
    · intro W2 hw K hK
      go_simp
      exact hK _ _ ⟨_, rfl⟩ ((Below.refl _ _).alloc (Nat.le_refl _) _)
    · intro W2 hw K hK
      go_simp
      exact hK _ _ rfl (Below.refl _ _)
    · intro W2 hw K hK
      obtain ⟨x0, x1, x2⟩ := HC.out W2 hw
      go_simp
      exact hK _ _ rfl (Below.refl _ _)
    · rintro W2 hw v0 _ _ ⟨_, g, rfl⟩ - v3 _ _ - -
      refine (show ∀ d, Does _ _ _ _ _ _ d _ from fun d => ?_) _
      exact does_append_freshk (F := fun _ v _ wa => RowF W.heap.size wa v x.n2 3 (rowV Sp.vals f.sp)) elem28 rfl _ _ rfl g rfl x.A2 x.n2 x.c2 _ rfl (HXD.out W2 hw).at_.sp.row HX.out.nil2 hq7 hz7 fun v w' h => h.low hw.size
    · intro W2 hw K hK
      go_simp
      exact hK _ _ ⟨_, rfl⟩ ((Below.refl _ _).alloc (Nat.le_refl _) _)
    · intro W2 hw K hK
      go_simp
      exact hK _ _ rfl (Below.refl _ _)
    · intro W2 hw K hK
      obtain ⟨x0, x1, x2⟩ := HC.out W2 hw
      go_simp
      exact hK _ _ rfl (Below.refl _ _)
    · rintro W2 hw v0 _ _ ⟨_, g, rfl⟩ - v7 _ _ - -
      refine (show ∀ d, Does _ _ _ _ _ _ d _ from fun d => ?_) _
      exact does_append_freshk (F := fun _ v _ wa => RowF W.heap.size wa v x.n3 2 (rowV K.vals f.ws)) elem27 rfl _ _ rfl g rfl x.A3 x.n3 x.c3 _ rfl (HXD.out W2 hw).at_.ws.row HX.out.nil3 hq11 hz11 fun v w' h => h.low hw.size
  · intro W2 hw2
    intro v0 _ _ _ _ _ _ v3 wb3 wa3 h3 x3 y3 _ v4 _ _ _ _ _ _ v7 wb7 wa7 h7 x7 y7 _ v8 _ _ _ _ _ _ v11 wb11 wa11 h11 x11 y11 _
    simp only [Behind]
    have hb2 : Below W.heap.size W W2 := (Below.refl _ W).drew.trans hw2
    obtain ⟨a3, e3, rfl, R3, L3⟩ := RowF.below h3 x3
    obtain ⟨a7, e7, rfl, R7, L7⟩ := RowF.below h7 x7
    obtain ⟨a11, e11, rfl, R11, L11⟩ := RowF.below h11 x11
    have hret := (hb2.block _ (Array.getElem?_eq_some_iff.1 HR.out).1).trans HR.out
    have HRT := Lib.hid hret
    have r0 : W2.cell? ⟨w.heap.size + 1, 0, none⟩ = some (.slice none 0 0) := (cell_of_row W2 _ 0 _ 30 (0, 0) hret).trans rfl
    have r1 : W2.cell? ⟨w.heap.size + 1, 1, none⟩ = some (.slice none 0 0) := (cell_of_row W2 _ 1 _ 30 (0, 0) hret).trans rfl
    have r2 : W2.cell? ⟨w.heap.size + 1, 2, none⟩ = some (.slice none 0 0) := (cell_of_row W2 _ 2 _ 30 (0, 0) hret).trans rfl
    have f0 := frozen_box hret 0
    have f1 := frozen_box hret 1
    have f2 := frozen_box hret 2
    have HW2 := Lib.hid (HB.out.trans (hb2.mono HB.out.size))
    clear hret hw2 y3 y7 y11
    simp only [List.drop, Act.put, List.setIfInBounds_toArray, List.set_cons_zero, List.set_cons_succ]
    go_wp2_with fail
    refine NoPanic.normal ?_
    have hlo := HRL.out
    have HE := Lib.hid (show (((W2.setCell ⟨w.heap.size + 1, 0, none⟩ (.slice (some a3) x.n e3)).setCell ⟨w.heap.size + 1, 1, none⟩ (.slice (some a7) x.n2 e7)).setCell ⟨w.heap.size + 1, 2, none⟩ (.slice (some a11) x.n3 e11)).heap[w.heap.size + 1]? = some (.cells #[.slice (some a3) x.n e3, .slice (some a7) x.n2 e7, .slice (some a11) x.n3 e11] 30 (0, 0)) by rw [box_set (box_set (box_set HRT.out 0 _) 1 _) 2 _]; rfl)
    have hb3 : 0 < x.n → a3.block ≠ w.heap.size + 1 := fun h => by have := L3 h; omega
    have hb7 : 0 < x.n2 → a7.block ≠ w.heap.size + 1 := fun h => by have := L7 h; omega
    have hb11 : 0 < x.n3 → a11.block ≠ w.heap.size + 1 := fun h => by have := L11 h; omega
    have HFIN := Lib.hid (show FtG (((W2.setCell ⟨w.heap.size + 1, 0, none⟩ (.slice (some a3) x.n e3)).setCell ⟨w.heap.size + 1, 1, none⟩ (.slice (some a7) x.n2 e7)).setCell ⟨w.heap.size + 1, 2, none⟩ (.slice (some a11) x.n3 e11)) ⟨some a3, x.n, e3, some a7, x.n2, e7, some a11, x.n3, e11⟩ f from ⟨⟨⟨HX.out.at_.rs.len, rdv_set (rdv_set (rdv_set R3 hb3) hb3) hb3⟩, ⟨HX.out.at_.sp.len, rdv_set (rdv_set (rdv_set R7 hb7) hb7) hb7⟩, ⟨HX.out.at_.ws.len, rdv_set (rdv_set (rdv_set R11 hb11) hb11) hb11⟩, HX.out.at_.small⟩, fun h => absurd h (by simp), fun h => absurd h (by simp), fun h => absurd h (by simp), HX.out.fit⟩)
    have HBF := Lib.hid (show Below w.heap.size w (((W2.setCell ⟨w.heap.size + 1, 0, none⟩ (.slice (some a3) x.n e3)).setCell ⟨w.heap.size + 1, 1, none⟩ (.slice (some a7) x.n2 e7)).setCell ⟨w.heap.size + 1, 2, none⟩ (.slice (some a11) x.n3 e11)) from below_grown2 (grown_trans (grown_trans (grown_trans (r := some (w.heap.size + 1)) ⟨HW2.out.os, HW2.out.tape, HW2.out.output, HW2.out.size, fun k hk _ => HW2.out.block k hk⟩ (grown_setCell W2 _ _ _)) (grown_setCell _ _ _ _)) (grown_setCell _ _ _ _)) (by omega) (Nat.le_refl _))
    have HNW := Lib.hid (show NewF w.heap.size ⟨some a3, x.n, e3, some a7, x.n2, e7, some a11, x.n3, e11⟩ from ⟨fun ad h h0 => by (injection h with h; subst h; have := L3 h0; omega), fun ad h h0 => by (injection h with h; subst h; have := L7 h0; omega), fun ad h h0 => by (injection h with h; subst h; have := L11 h0; omega)⟩)
    clear r0 r1 r2 f0 f1 f2 hb3 hb7 hb11 h3 h7 h11 R3 R7 R11 L3 L7 L11 hlo hb2
    go_wp2_with fail
    exact bodyPost_ret (v := .agg #[.slice (some a3) x.n e3, .slice (some a7) x.n2 e7, .slice (some a11) x.n3 e11]) (results_cell_row rfl _ _ (w.heap.size + 1) 30 _ (0, 0) _ rfl HE.out Try.underlying30 rfl info30) rfl ⟨⟨some a3, x.n, e3, some a7, x.n2, e7, some a11, x.n3, e11⟩, rfl, HFIN.out, HBF.out, HNW.out⟩
end Go.Proofs.Ytmicheheibkmjaa
