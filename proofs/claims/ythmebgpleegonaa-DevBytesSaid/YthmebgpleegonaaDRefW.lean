/- The document's set with another device at a place. -/
import Derived.Test.YthmebgpleegonaaDRef
namespace Go.Proofs.Ythmebgpleegonaa
set_option maxRecDepth 100000
open Go.RowKit

theorem alloc_old {w : World} {k : Nat} {x : Obj} (h : w.heap[k]? = some x) (o : Obj) : (w.alloc o).heap[k]? = some x :=
  (((Below.refl w.heap.size w).alloc (Nat.le_refl _) o).block k (Array.getElem?_eq_some_iff.1 h).1).trans h
theorem elemRD : ElemT Try.prog 31 85 2 48 :=
  ⟨Try.underlying31, by kernel_rfl, by
    cases h : Try.prog.info? 85 with
    | none => exact absurd h (by decide +kernel)
    | some i =>
      have e : (Try.prog.info? 85).map (fun i => i.zero.map (·.cells.size)) = some (some 2) := by kernel_rfl
      rw [h] at e
      simp at e
      obtain ⟨z, hz, hs⟩ := e
      exact ⟨i, z, rfl, hz, hs⟩, by decide⟩
theorem rowRD_set (L : List RDx) (j : Nat) (hj : j < L.length) (r : RDx) : ((rowV RDx.vals L).set (j * 2) (.slice r.A r.d.size r.c)).set (j * 2 + 1) (.slice r.A2 r.d.waits.length r.c2) = rowV RDx.vals (L.set j r) :=
  rowV_set RDx.vlen (by decide) L j hj r
theorem rowRD_one (L : List RDx) : ∀ u ∈ rowV RDx.vals L, u.oneCell' = true := by
  intro u hu
  unfold rowV at hu
  obtain ⟨r, _, hr⟩ := List.mem_flatMap.1 hu
  exact r.one u hr
/-- A row is copied: appended to a fresh empty one. -/
theorem wpList_append_copy {P : Program} {t e : TypeId} {size bytes : Nat} (E : ElemT P t e size bytes) {w0 : World} {ops : Array Oper} {rest : List Oper} {o : Oper} {a : Act} {Q : Exit → Act → World → Prop} (hgd : o.guard = none) (s x : Operand)
    (ho : o.op = .call { callee := .builtin .append, args := #[s, x], argTypes := #[t, t] }) (hs : a.eval s = .slice (some ⟨w0.heap.size, 0, none⟩) 0 0)
    (A : Option Addr) (m c : Nat) (ys : List Value) (hx : a.eval x = .slice A m c) (hr : Rdv w0 A m size ys) (h1 : ∀ u ∈ ys, u.oneCell' = true) (hnil : A = none → c = 0) (hmx : m ≤ maxLen) (hby : m * bytes ≤ 140737488355328)
    (h : ∀ b c' w1, w1.ownsRow w0.heap.size e size (.slice (some ⟨b, 0, none⟩) m c') m ys → w0.heap.size ≤ b → Below w0.heap.size w0 w1 → wpList P ops Q rest (a.put o.dst (.slice (some ⟨b, 0, none⟩) m c')) w1) : wpList P ops Q (o :: rest) a (w0.alloc (.cells #[] e)) := by
  have hr1 : Rdv (w0.alloc (.cells #[] e)) A m size ys := hr.ext fun q hq => ((Below.refl _ _).alloc (Nat.le_refl _) _).cell hq
  refine wpList_append_rowv E hgd s x ho w0.heap.size (.slice (some ⟨w0.heap.size, 0, none⟩) 0 0) 0 [] hs (own_empty w0 _ _ _ _ rfl (Nat.le_refl _)) A m c ys hx hr1 h1 hnil (by omega) (by rw [Nat.zero_add]; exact hby) (by simp) ?_
  intro v1 w1 hown hg hgb
  simp only [Nat.zero_add, List.nil_append] at hown
  have hbl : Below w0.heap.size w0 w1 := ((Below.refl _ _).alloc (Nat.le_refl _) (.cells #[] e)).trans (below_grown2 hg (Nat.le_refl _) (by simp))
  obtain ⟨b, c', rfl, hb⟩ : ∃ b c', v1 = .slice (some ⟨b, 0, none⟩) m c' ∧ w0.heap.size ≤ b := by
    rcases hown.2 with ⟨rfl, _⟩ | ⟨g, cap, cur, rfl, h2, _⟩
    · rcases hgb with e2 | e2
      · cases e2
      · cases e2
    · exact ⟨g, cap, rfl, h2⟩
  exact h b c' w1 hown hb hbl
/-- What an own row reads as. -/
theorem rowat_own {α : Type} {f : α → List Value} {k : Nat} {w : World} {B : Nat} {e : TypeId} {b n c : Nat} {l : List α} (h : w.ownsRow B e k (.slice (some ⟨b, 0, none⟩) n c) n (rowV f l)) (hl : l.length = n) : RowAt f k w (some ⟨b, 0, none⟩) n l := by
  refine ⟨hl, h.1, fun _ => ⟨b, 0, rfl, fun j u hj => ?_⟩⟩
  have := h.cells (g := b) rfl j u hj
  rwa [addr_plus] at this
/-- A block of five cells is written over. -/
theorem set5 (w : World) (z : Nat) (t : TypeId) (a0 a1 a2 a3 a4 v0 v1 v2 v3 v4 : Value) (h : w.heap[z]? = some (.cells #[a0, a1, a2, a3, a4] t (0, 0))) :
    (((((w.setCell ⟨z, 0, none⟩ v0).setCell ⟨z, 1, none⟩ v1).setCell ⟨z, 2, none⟩ v2).setCell ⟨z, 3, none⟩ v3).setCell ⟨z, 4, none⟩ v4).heap[z]? = some (.cells #[v0, v1, v2, v3, v4] t (0, 0)) ∧
    (∀ k, k ≠ z → (((((w.setCell ⟨z, 0, none⟩ v0).setCell ⟨z, 1, none⟩ v1).setCell ⟨z, 2, none⟩ v2).setCell ⟨z, 3, none⟩ v3).setCell ⟨z, 4, none⟩ v4).heap[k]? = w.heap[k]?) ∧
    (∀ B w0, Below B w0 w → B ≤ z → Below B w0 (((((w.setCell ⟨z, 0, none⟩ v0).setCell ⟨z, 1, none⟩ v1).setCell ⟨z, 2, none⟩ v2).setCell ⟨z, 3, none⟩ v3).setCell ⟨z, 4, none⟩ v4)) := by
  refine ⟨?_, fun k hk => ?_, fun B w0 hb hz => ?_⟩
  · have t := box_set (box_set (box_set (box_set (box_set h 0 v0) 1 v1) 2 v2) 3 v3) 4 v4
    exact t
  · rw [Below.heap_setCell _ ⟨z, 4, none⟩ _ _ hk, Below.heap_setCell _ ⟨z, 3, none⟩ _ _ hk, Below.heap_setCell _ ⟨z, 2, none⟩ _ _ hk, Below.heap_setCell _ ⟨z, 1, none⟩ _ _ hk, Below.heap_setCell _ ⟨z, 0, none⟩ _ _ hk]
  · exact ((((hb.setCell (p := ⟨z, 0, none⟩) hz v0).setCell (p := ⟨z, 1, none⟩) hz v1).setCell (p := ⟨z, 2, none⟩) hz v2).setCell (p := ⟨z, 3, none⟩) hz v3).setCell (p := ⟨z, 4, none⟩) hz v4
set_option maxHeartbeats 2000000 in
theorem refwith_any {w : World} {X : Nat → Prop} {A : Option Addr} {c : Nat} {ds : List Dk} (h : RSet w X A c ds) (p : Pw) (left : Int) (j : Nat) (hj : j < ds.length) (r : RDx) (hr : RDok w X r) (hl : ds.length ≤ 1000) :
    Calls Try.prog 44 #[rsV A c ds p left, .int .i64 (j : Int), .agg #[.slice r.A r.d.size r.c, .slice r.A2 r.d.waits.length r.c2]] w fun e w' => ∃ X' A' c', e = .returned (rsV A' c' (ds.set j r.d) p left) ∧ RSet w' X' A' c' (ds.set j r.d) ∧ (∀ k, X' k → X k ∨ w.heap.size ≤ k) ∧ Below w.heap.size w w' := by
  obtain ⟨h0, L, h1, h2, h3, h5, h4⟩ := h
  have hLl : L.length = ds.length := h2.len
  obtain ⟨N, hN⟩ : ∃ N, N = ds.length := ⟨_, rfl⟩
  have HN := Lib.hid hN
  have hlen : (ds.set j r.d).length = N := by rw [List.length_set, hN]
  unfold rsV
  rw [hlen, ← hN]
  rw [← hN] at h2 hj hl
  obtain ⟨sz, hsz⟩ : ∃ sz, sz = r.d.size := ⟨_, rfl⟩
  obtain ⟨wl, hwl⟩ : ∃ wl, wl = r.d.waits.length := ⟨_, rfl⟩
  rw [← hsz, ← hwl]
  have HSZ := Lib.hid hsz
  have HWL := Lib.hid hwl
  obtain ⟨o1, ho1⟩ : ∃ o, o = Obj.cells #[.slice A N c, .int .i64 (p.steps : Int), .int .i64 left, .bool p.ia, .bool p.gone] 33 (0, 0) := ⟨_, rfl⟩
  obtain ⟨o2, ho2⟩ : ∃ o, o = Obj.cells #[.slice r.A sz r.c, .slice r.A2 wl r.c2] 85 (0, 0) := ⟨_, rfl⟩
  obtain ⟨o3, ho3⟩ : ∃ o, o = Obj.cells #[.slice none 0 0, .int .i64 0, .int .i64 0, .bool false, .bool false] 33 (0, 0) := ⟨_, rfl⟩
  have hb3 : Below w.heap.size w (((w.alloc o1).alloc o2).alloc o3) := (((Below.refl _ _).alloc (Nat.le_refl _) o1).alloc (by simp) o2).alloc (by simp; omega) o3
  have k1 : (((w.alloc o1).alloc o2).alloc o3).heap[w.heap.size]? = some o1 := alloc_old (alloc_old (heap_alloc_new w o1) o2) o3
  have k2 : (((w.alloc o1).alloc o2).alloc o3).heap[w.heap.size + 1]? = some o2 := by
    have := heap_alloc_new (w.alloc o1) o2
    rw [World.size_alloc] at this
    exact alloc_old this o3
  have k3 : (((w.alloc o1).alloc o2).alloc o3).heap[w.heap.size + 2]? = some o3 := by
    have := heap_alloc_new ((w.alloc o1).alloc o2) o3
    rw [World.size_alloc, World.size_alloc] at this
    exact this
  have ks : (((w.alloc o1).alloc o2).alloc o3).heap.size = w.heap.size + 3 := by simp
  have R3 := (show RowAt RDx.vals 2 (((w.alloc o1).alloc o2).alloc o3) A N L from RowAt.below h2 hb3).row
  have HX0 := Lib.hid h0
  have HK := Lib.hid (show ∀ x ∈ L.set j r, RDok w X x from fun x hx => by
    rcases List.mem_or_eq_of_mem_set hx with e | e
    · exact h4 x e
    · rw [e]; exact hr)
  have HDS := Lib.hid (show (L.set j r).map RDx.d = ds.set j r.d by rw [List.map_set, h1])
  have HJ : j < L.length := by omega
  have HW := Lib.hid (And.intro R3 (And.intro hb3 (And.intro k1 (And.intro k2 (And.intro k3 ks)))))
  have HNIL := Lib.hid h3
  rw [ho1, ho2, ho3] at HW
  clear R3 hb3 k1 k2 k3 ks h0 h1 h2 h3 h4 h5 hr ho1 ho2 ho3 o1 o2 o3 hsz hwl hN hlen
  go_enter Try.func44, Try.ntmps44
  go_upto_region 1 with fail
  obtain ⟨z, hz⟩ : ∃ z, z = w.heap.size := ⟨_, rfl⟩
  have HZ := Lib.hid hz
  have HWO := Lib.hid (show ∀ x ∈ L.set j r, ∀ w', Below w.heap.size w w' → RDok w' X x from fun x hx w' hb => (HK.out x hx).keep fun q e => hb.block q (HX0.out q e))
  rw [← hz] at HWO HW ⊢
  revert HW
  generalize World.alloc _ _ = wb
  intro HW
  obtain ⟨HR3, HB3, K1, K2, K3, KS⟩ := HW.out
  have HRX := Lib.hid HR3
  have HS3 := Lib.hid KS
  have hs4 : ∀ W, Below wb.heap.size wb W → W.heap[z]? = some (.cells #[.slice A N c, .int .i64 (p.steps : Int), .int .i64 left, .bool p.ia, .bool p.gone] 33 (0, 0)) ∧ W.heap[z + 1]? = some (.cells #[.slice r.A sz r.c, .slice r.A2 wl r.c2] 85 (0, 0)) ∧ W.heap[z + 2]? = some (.cells #[.slice none 0 0, .int .i64 0, .int .i64 0, .bool false, .bool false] 33 (0, 0)) := fun W hb => ⟨(hb.block _ (by omega)).trans K1, (hb.block _ (by omega)).trans K2, (hb.block _ (by omega)).trans K3⟩
  have HS4 := Lib.hid hs4
  have c0 := (cell_of_row _ _ 0 _ _ (0, 0) K1).trans rfl
  have hzlt : z < wb.heap.size := by rw [KS]; omega
  have HBB := Lib.hid HB3
  clear hz HR3 HB3 K1 K2 K3 KS HW hs4
  go_upto_region 2 with (refine wpList_append_copy elemRD rfl (.tmp 7) (.tmp 9) rfl rfl A N c (rowV RDx.vals L) rfl HRX.out (rowRD_one L) HNIL.out (by unfold maxLen; omega) (by omega) ?_; intro b1 c1 w1 hown hb1 hbl; have hk := HS4.out w1 hbl; have q0 := (cell_of_row _ _ 0 _ _ (0, 0) hk.1).trans rfl; have f0 := frozen_at hk.1 0; have HOWN := Lib.hid hown; have HK1 := Lib.hid hk; have HBL := Lib.hid hbl; have hz2 : z < w1.heap.size := Nat.lt_of_lt_of_le hzlt hbl.size; clear hown hk hbl)
  have hne : z ≠ b1 := by omega
  have hne1 : z + 1 ≠ z := by omega
  have hne2 : z + 2 ≠ z := by omega
  obtain ⟨k1, k2, k3⟩ := HK1.out
  have m1 := box_set k1 0 (.slice (some ⟨b1, 0, none⟩) N c1)
  have m2 := (Below.heap_setCell w1 ⟨z, 0, none⟩ (.slice (some ⟨b1, 0, none⟩) N c1) (z + 1) (by show z + 1 ≠ z; omega)).trans k2
  have m3 := (Below.heap_setCell w1 ⟨z, 0, none⟩ (.slice (some ⟨b1, 0, none⟩) N c1) (z + 2) (by show z + 2 ≠ z; omega)).trans k3
  have mo := own_same (w' := w1.setCell ⟨z, 0, none⟩ (.slice (some ⟨b1, 0, none⟩) N c1)) HOWN.out (fun q e => by
    injection e with e
    subst e
    exact Below.heap_setCell w1 ⟨z, 0, none⟩ _ b1 (fun e => hne (Eq.symm e)))
  have mb : Below z w (w1.setCell ⟨z, 0, none⟩ (.slice (some ⟨b1, 0, none⟩) N c1)) := (HBB.out.trans (HBL.out.mono (by omega))).setCell (show z ≤ (⟨z, 0, none⟩ : Addr).block from Nat.le_refl _) _
  have hsz : z + 2 < (w1.setCell ⟨z, 0, none⟩ (.slice (some ⟨b1, 0, none⟩) N c1)).heap.size := by rw [World.size_setCell]; have := HBL.out.size; have := HS3.out; omega
  have HM := Lib.hid (And.intro m1 (And.intro m2 (And.intro m3 (And.intro mo (And.intro mb hsz)))))
  clear m1 m2 m3 mo mb hsz k1 k2 k3 HK1 HOWN HBL c0 q0 f0 hz2 hzlt
  revert HM
  generalize World.setCell _ _ _ = w2
  intro HM
  obtain ⟨m1, m2, m3, mo, mb, hsz⟩ := HM.out
  have q0 := (cell_of_row _ _ 0 _ _ (0, 0) m1).trans rfl
  have d0 := (cell_of_row _ _ 0 _ _ (0, 0) m2).trans rfl
  have d1 := (cell_of_row _ _ 1 _ _ (0, 0) m2).trans rfl
  have hrl : (rowV RDx.vals L).length = N * 2 := by rw [rowV_length RDx.vals 2 RDx.vlen]; have := HN.out; omega
  obtain ⟨u0, e0⟩ : ∃ u, w2.cell? ⟨b1, j * 2, none⟩ = some u := ⟨_, own_cell mo (j * 2) _ (List.getElem?_eq_getElem (by omega))⟩
  obtain ⟨u1, e1⟩ : ∃ u, w2.cell? ⟨b1, j * 2 + 1, none⟩ = some u := ⟨_, own_cell mo (j * 2 + 1) _ (List.getElem?_eq_getElem (by omega))⟩
  have f0 := own_frozen mo (j * 2)
  have f1 := own_frozen mo (j * 2 + 1)
  have hbl1 := (own_lt mo).2.1
  clear m1 m2 m3 mo mb hsz hrl
  go_upto_region 3 with fail
  obtain ⟨m1, m2, m3, mo, mb, hsz⟩ := HM.out
  have n1 := (Below.heap_setCell (w2.setCell ⟨b1, j * 2, none⟩ (.slice r.A sz r.c)) ⟨b1, j * 2 + 1, none⟩ (.slice r.A2 wl r.c2) z hne).trans ((Below.heap_setCell w2 ⟨b1, j * 2, none⟩ (.slice r.A sz r.c) z hne).trans m1)
  have n3 := (Below.heap_setCell (w2.setCell ⟨b1, j * 2, none⟩ (.slice r.A sz r.c)) ⟨b1, j * 2 + 1, none⟩ (.slice r.A2 wl r.c2) (z + 2) (by show z + 2 ≠ b1; have := HS3.out; omega)).trans ((Below.heap_setCell w2 ⟨b1, j * 2, none⟩ (.slice r.A sz r.c) (z + 2) (by show z + 2 ≠ b1; have := HS3.out; omega)).trans m3)
  have no := own_set1 (own_set1 mo (j * 2) (.slice r.A sz r.c)) (j * 2 + 1) (.slice r.A2 wl r.c2)
  have hrs := rowRD_set L j HJ r
  rw [← HSZ.out, ← HWL.out] at hrs
  rw [hrs] at no
  have nb : Below z w ((w2.setCell ⟨b1, j * 2, none⟩ (.slice r.A sz r.c)).setCell ⟨b1, j * 2 + 1, none⟩ (.slice r.A2 wl r.c2)) := (mb.setCell (show z ≤ (⟨b1, j * 2, none⟩ : Addr).block by show z ≤ b1; have := HS3.out; omega) _).setCell (show z ≤ (⟨b1, j * 2 + 1, none⟩ : Addr).block by show z ≤ b1; have := HS3.out; omega) _
  have HN3 := Lib.hid (And.intro n1 (And.intro n3 (And.intro no (And.intro nb (show z + 2 < ((w2.setCell ⟨b1, j * 2, none⟩ (.slice r.A sz r.c)).setCell ⟨b1, j * 2 + 1, none⟩ (.slice r.A2 wl r.c2)).heap.size by rw [World.size_setCell, World.size_setCell]; exact hsz)))))
  clear m1 m2 m3 mo mb hsz n1 n3 no nb hrs HM q0 d0 d1 e0 e1 f0 f1 hbl1
  revert HN3
  generalize World.setCell (World.setCell w2 _ _) _ _ = w3
  intro HN3
  obtain ⟨n1, n3, no, nb, hsz⟩ := HN3.out
  have q0 := (cell_of_row _ _ 0 _ _ (0, 0) n1).trans rfl
  have q1 := (cell_of_row _ _ 1 _ _ (0, 0) n1).trans rfl
  have q2 := (cell_of_row _ _ 2 _ _ (0, 0) n1).trans rfl
  have q3 := (cell_of_row _ _ 3 _ _ (0, 0) n1).trans rfl
  have q4 := (cell_of_row _ _ 4 _ _ (0, 0) n1).trans rfl
  have p0 := (cell_of_row _ _ 0 _ _ (0, 0) n3).trans rfl
  have p1 := (cell_of_row _ _ 1 _ _ (0, 0) n3).trans rfl
  have p2 := (cell_of_row _ _ 2 _ _ (0, 0) n3).trans rfl
  have p3 := (cell_of_row _ _ 3 _ _ (0, 0) n3).trans rfl
  have p4 := (cell_of_row _ _ 4 _ _ (0, 0) n3).trans rfl
  have f0 := frozen_at n3 0
  have f1 := frozen_at n3 1
  have f2 := frozen_at n3 2
  have f3 := frozen_at n3 3
  have f4 := frozen_at n3 4
  clear n1 n3 no nb
  go_wp2_with fail
  obtain ⟨n1, n3, no, nb, hsz⟩ := HN3.out
  obtain ⟨t, tk, tb⟩ := set5 w3 (z + 1 + 1) 33 _ _ _ _ _ (.slice (some ⟨b1, 0, none⟩) N c1) (.int .i64 (p.steps : Int)) (.int .i64 left) (.bool p.ia) (.bool p.gone) n3
  have ne : b1 ≠ z + 1 + 1 := by have := HS3.out; omega
  have nb4 := tb z w nb (by omega)
  have no4 := (show ∀ W : World, W.heap[b1]? = w3.heap[b1]? → W.ownsRow wb.heap.size 85 2 (.slice (some ⟨b1, 0, none⟩) N c1) N (rowV RDx.vals (L.set j r)) from fun W hW => own_same no (fun q e => by
    have e2 : q = b1 := (Option.some.inj e).symm
    rw [e2]
    exact hW)) _ (tk b1 ne)
  have HT := Lib.hid (And.intro t (And.intro nb4 no4))
  clear n1 n3 no nb hsz t nb4 no4 tk tb HN3 q0 q1 q2 q3 q4 p0 p1 p2 p3 p4 f0 f1 f2 f3 f4 ne
  revert HT
  generalize World.setCell (World.setCell _ _ _) _ _ = w4
  intro HT
  obtain ⟨t, nb4, no4⟩ := HT.out
  have g0 := (cell_of_row _ _ 0 _ _ (0, 0) t).trans rfl
  have g1 := (cell_of_row _ _ 1 _ _ (0, 0) t).trans rfl
  have g2 := (cell_of_row _ _ 2 _ _ (0, 0) t).trans rfl
  have g3 := (cell_of_row _ _ 3 _ _ (0, 0) t).trans rfl
  have g4 := (cell_of_row _ _ 4 _ _ (0, 0) t).trans rfl
  refine bodyPost_ret (v := .agg #[.slice (some ⟨b1, 0, none⟩) N c1, .int .i64 (p.steps : Int), .int .i64 left, .bool p.ia, .bool p.gone]) (by simp [results, Try.results44, go_sem, g0, g1, g2, g3, g4]) rfl ⟨fun k => X k ∨ k = b1, some ⟨b1, 0, none⟩, c1, rfl, ⟨fun k e => ?_, L.set j r, HDS.out, ?_, (fun e => by cases e), (fun a e => ?_), fun x hx => (HWO.out x hx w4 nb4).wide fun q e => .inl e⟩, fun k e => ?_, by rw [← HZ.out]; exact nb4⟩
  · rcases e with e | e
    · have := HX0.out k e; have := nb4.size; omega
    · rw [e]; exact (own_lt no4).2.1
  rotate_left
  · injection e with e
    subst e
    exact .inr rfl
  · rcases e with e | e
    · exact .inl e
    · right; have := HS3.out; have := HZ.out; omega
  have hl2 : (ds.set j r.d).length = N := by rw [List.length_set]; exact HN.out.symm
  rw [hl2]
  exact rowat_own no4 (by rw [List.length_set]; have := HN.out; omega)
end Go.Proofs.Ythmebgpleegonaa
