/- An act by both: the tree and the document's row. -/
import Derived.Test.YtdbckolndaodeaaTSndL
import Derived.Test.YtdbckolndaodeaaTRefS
import Derived.Test.YtdbckolndaodeaaTRefG
namespace Go.Proofs.Ytdbckolndaodeaa
set_option maxRecDepth 100000
open Go.RowKit

def TT (t : TypeId) : Prop := t = 55 ∨ t = 63 ∨ t = 51 ∨ t = 57
theorem tl_types {w : World} {F : Nat → Prop} {tb d : Nat} {l : List Ix} (h : TL w F tb l d) {q : Nat} (hq : F q) : ∃ cs t, w.heap[q]? = some (.cells cs t (0, 0)) ∧ TT t := by
  obtain ⟨T, m, _, rfl, hT⟩ := h
  rcases (hT.F q).1 hq with ⟨n, hn, e⟩ | e
  · have hm := hT.all.m n hn
    rcases e with e | e | e
    · rw [e]; exact ⟨_, _, hm.block, .inl rfl⟩
    · obtain ⟨cs, e2⟩ := own_at hm.own e
      exact ⟨cs, _, e2, .inr (.inl rfl)⟩
    · obtain ⟨cs, e2⟩ := own_at hm.kids e
      exact ⟨cs, _, e2, .inr (.inr (.inl rfl))⟩
  · rw [e]; exact ⟨_, _, hT.block, .inr (.inr (.inr rfl))⟩
/-- Nothing is turned but what a tree is made of. -/
structure Fz (w w' : World) : Prop where
  size : w.heap.size ≤ w'.heap.size
  keep : ∀ (q : Nat) cs t, w.heap[q]? = some (.cells cs t (0, 0)) → ¬ TT t → w'.heap[q]? = w.heap[q]?
theorem Fz.of_below {w w' : World} (hb : Below w.heap.size w w') : Fz w w' := ⟨hb.size, fun q _ _ h _ => hb.block q (Array.getElem?_eq_some_iff.1 h).1⟩
theorem Fz.trans {a b c : World} (h : Fz a b) (k : Fz b c) : Fz a c := ⟨Nat.le_trans h.size k.size, fun q cs t e ht => (k.keep q cs t ((h.keep q cs t e ht).trans e) ht).trans (h.keep q cs t e ht)⟩
theorem Fz.of_cg {w w1 : World} {F F' : Nat → Prop} {tb d : Nat} {l : List Ix} (h : TL w F tb l d) (hC : Cg w w1 F F') : Fz w w1 := ⟨hC.ch.size, fun q cs t hq ht => hC.ch.block q (Array.getElem?_eq_some_iff.1 hq).1 fun e => by
  obtain ⟨cs2, t2, e2, e3⟩ := tl_types h e
  rw [hq] at e2
  cases e2
  exact ht e3⟩
theorem Rio.fz {w w' : World} {B : Nat} {v : Value} {l : List Ix} (h : Rio w B v l) (hf : Fz w w') : Rio w' B v l := own_same h fun q hq => by
  obtain ⟨cs, e⟩ := own_at h hq
  exact hf.keep q cs _ e (by unfold TT; decide)
section
variable {w0 w w1 : World} {tb d n : Nat} {l : List Ix}
theorem tn_set2 (h : TN w0 w tb l d n) (hn : n ≤ 99999) (x : Ix) (hx : In64 x.k) : Calls Try.prog 19 #[.pointer (some ⟨tb, 0, none⟩), .int .i64 x.k, .agg #[.int .i64 x.c.v, .int .i64 x.c.s, .bool x.c.dead]] w fun e w' => e = .returned (.tuple #[.agg #[.int .i64 (cv (getC x.k l)).v, .int .i64 (cv (getC x.k l)).s, .bool (cv (getC x.k l)).dead], .bool (getC x.k l).isSome]) ∧ (∃ d', TN w0 w' tb (ins x l) d' (n + 1)) ∧ Fz w w' := by
  obtain ⟨F, h1, h2⟩ := h.ex
  have hf := h.few
  refine Calls.mono (tset_any h1 x (by omega)) ?_
  rintro e w' ⟨rfl, F', d', hT, hC⟩
  refine ⟨rfl, ⟨d', tn_turn h h2 hT hC ?_ fun y hy => ?_⟩, Fz.of_cg h1 hC⟩
  · rw [ins_len h1.up x]
    split <;> omega
  · unfold ins at hy
    rcases List.mem_append.1 hy with e | e
    · exact h.nums y (List.mem_filter.1 e).1
    · rcases List.mem_cons.1 e with e | e
      · rw [e]; exact hx
      · exact h.nums y (List.mem_filter.1 e).1
theorem tn_drop2 (h : TN w0 w tb l d n) (hn : n ≤ 100000) (k : Int) : Calls Try.prog 18 #[.pointer (some ⟨tb, 0, none⟩), .int .i64 k] w fun e w' => e = .returned (.tuple #[.agg #[.int .i64 (cv (getC k l)).v, .int .i64 (cv (getC k l)).s, .bool (cv (getC k l)).dead], .bool (getC k l).isSome]) ∧ (∃ d', TN w0 w' tb (del k l) d' n) ∧ Fz w w' := by
  obtain ⟨F, h1, h2⟩ := h.ex
  have hf := h.few
  refine Calls.mono (tdrop_any h1 k (by omega)) ?_
  rintro e w' ⟨rfl, F', d', hT, hC⟩
  exact ⟨rfl, ⟨d', tn_turn h h2 hT hC (Nat.le_trans (List.length_filter_le _ _) hf) fun y hy => h.nums y (List.mem_filter.1 hy).1⟩, Fz.of_cg h1 hC⟩
end
def st (o : Ot) (l : List Ix) : List Ix := if o.drop then del o.k l else ins ⟨o.k, o.c⟩ l
theorem box_cells {W W2 : World} {b q g : Nat} {a0 a1 a2 a3 a4 b0 b1 b2 c0 c1 c2 : Value} {t u : TypeId} (hb : Below W.heap.size W W2) (hx : W.heap[b]? = some (.cells #[a0, a1, a2, a3, a4] t (0, 0))) (hq : W.heap[q]? = some (.cells #[b0, b1, b2] u (0, 0))) (hg : W.heap[g]? = some (.cells #[c0, c1, c2] u (0, 0))) :
    W2.cell? ⟨b, 0, none⟩ = some a0 ∧ W2.cell? ⟨b, 1, none⟩ = some a1 ∧ W2.cell? ⟨b, 2, none⟩ = some a2 ∧ W2.cell? ⟨b, 3, none⟩ = some a3 ∧ W2.cell? ⟨q, 0, none⟩ = some b0 ∧ W2.cell? ⟨q, 1, none⟩ = some b1 ∧ W2.cell? ⟨q, 2, none⟩ = some b2 ∧ W2.cell? ⟨g, 0, none⟩ = some c0 ∧ W2.cell? ⟨g, 1, none⟩ = some c1 ∧ W2.cell? ⟨g, 2, none⟩ = some c2 := by
  have h1 := (hb.block _ (Array.getElem?_eq_some_iff.1 hx).1).trans hx
  have h2 := (hb.block _ (Array.getElem?_eq_some_iff.1 hq).1).trans hq
  have h3 := (hb.block _ (Array.getElem?_eq_some_iff.1 hg).1).trans hg
  exact ⟨(cell_of_row _ _ 0 _ _ _ h1).trans rfl, (cell_of_row _ _ 1 _ _ _ h1).trans rfl, (cell_of_row _ _ 2 _ _ _ h1).trans rfl, (cell_of_row _ _ 3 _ _ _ h1).trans rfl, (cell_of_row _ _ 0 _ _ _ h2).trans rfl, (cell_of_row _ _ 1 _ _ _ h2).trans rfl, (cell_of_row _ _ 2 _ _ _ h2).trans rfl, (cell_of_row _ _ 0 _ _ _ h3).trans rfl, (cell_of_row _ _ 1 _ _ _ h3).trans rfl, (cell_of_row _ _ 2 _ _ _ h3).trans rfl⟩
set_option maxHeartbeats 16000000 in
theorem do_any {w0 w : World} {tb d n : Nat} {l : List Ix} {A : Option Addr} {c : Nat} (h : TN w0 w tb l d n) (hr : Rio w 0 (.slice A l.length c) l) (hn : n ≤ 80000) (o : Ot) (hk : In64 o.k) :
    Calls Try.prog 11 #[.pointer (some ⟨tb, 0, none⟩), .slice A l.length c, .agg #[.int .i64 o.k, .int .i64 o.c.v, .int .i64 o.c.s, .bool o.c.dead, .bool o.drop]] w fun e w' => ∃ (v : Value) (d' : Nat), e = .returned (.tuple #[v, .bool true]) ∧ TN w0 w' tb (st o l) d' (n + 1) ∧ Rio w' 0 v (st o l) ∧ Fz w w' := by
  have hfew : l.length ≤ 80000 := Nat.le_trans h.few hn
  have HF := Lib.hid hfew
  have HK := Lib.hid hk
  have HU : Hid (Up l) := Lib.hid (by obtain ⟨F, h1, _⟩ := h.ex; exact h1.up)
  obtain ⟨dp, hdp⟩ : ∃ dp, dp = o.drop := ⟨_, rfl⟩
  have HDP := Lib.hid hdp
  obtain ⟨RES, hres⟩ : ∃ RES, RES = st o l := ⟨_, rfl⟩
  have HRS := Lib.hid hres
  rw [← hres, ← hdp]
  obtain ⟨W1, hW1⟩ : ∃ W1, W1 = w.alloc (.cells #[.int .i64 o.k, .int .i64 o.c.v, .int .i64 o.c.s, .bool o.c.dead, .bool dp] 31) := ⟨_, rfl⟩
  have hb1 : Below w.heap.size w W1 := by rw [hW1]; exact (Below.refl _ _).alloc (Nat.le_refl _) _
  have hbx : W1.heap[w.heap.size]? = some (.cells #[.int .i64 o.k, .int .i64 o.c.v, .int .i64 o.c.s, .bool o.c.dead, .bool dp] 31 (0, 0)) := by rw [hW1]; exact heap_alloc_new w _
  obtain ⟨b, hb⟩ : ∃ b, b = w.heap.size := ⟨_, rfl⟩
  rw [← hb] at hbx
  have HT1 := Lib.hid (h.later hb1)
  have HBA := Lib.hid hb1
  have HR1 := Lib.hid (hr.below hb1)
  obtain ⟨m, hm⟩ : ∃ m, m = l.length := ⟨_, rfl⟩
  have HM := Lib.hid hm
  obtain ⟨G, hG⟩ : ∃ G, G = getC o.k l := ⟨_, rfl⟩
  have HG := Lib.hid hG
  have HGT := Lib.hid (refGet_any (c := c) (Rio.ris HR1.out rfl) (by omega) o.k)
  rw [← hm, ← hG] at HGT
  rw [← hm]
  have HX1 := Lib.hid hbx
  have HW1 := Lib.hid hW1
  have HB := Lib.hid hb
  have x0 : W1.cell? ⟨b, 0, none⟩ = some (.int .i64 o.k) := by rw [cell_of_row _ _ 0 _ _ _ hbx]; rfl
  clear h hr hk hfew hdp hres hW1 hb1 hbx hb hm hG
  go_enter Try.func11, Try.ntmps11
  go_upto_region 1 with fail
  rw [← HW1.out, ← HB.out]
  clear HW1 HB
  go_wp2_with fail
  refine Calls.mono HGT.out ?_
  rintro e w2 ⟨rfl, hb2⟩
  have HB2 := Lib.hid hb2
  clear hb2 x0 HGT
  go_upto_region 2 with fail
  obtain ⟨W3, hW3⟩ : ∃ W3, W3 = w2.alloc (.cells #[.int .i64 (cv G).v, .int .i64 (cv G).s, .bool (cv G).dead] 29) := ⟨_, rfl⟩
  obtain ⟨g, hg⟩ : ∃ g, g = w2.heap.size := ⟨_, rfl⟩
  have hb3 : Below w2.heap.size w2 W3 := by rw [hW3]; exact (Below.refl _ _).alloc (Nat.le_refl _) _
  have hb13 : Below W1.heap.size W1 W3 := HB2.out.trans (hb3.mono HB2.out.size)
  have hg3 : W3.heap[g]? = some (.cells #[.int .i64 (cv G).v, .int .i64 (cv G).s, .bool (cv G).dead] 29 (0, 0)) := by rw [hW3, hg]; exact heap_alloc_new w2 _
  have hx3 := (hb13.block _ (Array.getElem?_eq_some_iff.1 HX1.out).1).trans HX1.out
  rw [← hW3, ← hg]
  have HX3 := Lib.hid hx3
  have HY3 := Lib.hid hg3
  have HT3 := Lib.hid (HT1.out.later hb13)
  have HF3 := Lib.hid ((Fz.of_below HBA.out).trans (Fz.of_below hb13))
  have HR3 := Lib.hid (HR1.out.below hb13)
  have x0 : W3.cell? ⟨b, 0, none⟩ = some (.int .i64 o.k) := by rw [cell_of_row _ _ 0 _ _ _ hx3]; rfl
  have x1 : W3.cell? ⟨b, 1, none⟩ = some (.int .i64 o.c.v) := by rw [cell_of_row _ _ 1 _ _ _ hx3]; rfl
  have x2 : W3.cell? ⟨b, 2, none⟩ = some (.int .i64 o.c.s) := by rw [cell_of_row _ _ 2 _ _ _ hx3]; rfl
  have x3 : W3.cell? ⟨b, 3, none⟩ = some (.bool o.c.dead) := by rw [cell_of_row _ _ 3 _ _ _ hx3]; rfl
  have x4 : W3.cell? ⟨b, 4, none⟩ = some (.bool dp) := by rw [cell_of_row _ _ 4 _ _ _ hx3]; rfl
  clear hW3 hg hb3 hb13 hg3 hx3 HB2 HX1 HT1 HR1
  cases dp with
  | true =>
      have HRES : Hid (RES = del o.k l) := Lib.hid (by rw [HRS.out]; unfold st; rw [← HDP.out]; rfl)
      have HD := Lib.hid (tn_drop2 HT3.out (by omega) o.k)
      rw [← HRES.out, show getC o.k l = G from HG.out.symm] at HD
      go_wp2_with fail
      refine Calls.mono HD.out ?_
      rintro e w4 ⟨rfl, ⟨d2, hT⟩, hf⟩
      clear HD
      go_upto_region 4 with fail
      obtain ⟨W5, hW5⟩ : ∃ W5, W5 = w4.alloc (.cells #[.int .i64 (cv G).v, .int .i64 (cv G).s, .bool (cv G).dead] 29) := ⟨_, rfl⟩
      obtain ⟨q, hq⟩ : ∃ q, q = w4.heap.size := ⟨_, rfl⟩
      have hb5 : Below w4.heap.size w4 W5 := by rw [hW5]; exact (Below.refl _ _).alloc (Nat.le_refl _) _
      have hq5 : W5.heap[q]? = some (.cells #[.int .i64 (cv G).v, .int .i64 (cv G).s, .bool (cv G).dead] 29 (0, 0)) := by rw [hW5, hq]; exact heap_alloc_new w4 _
      rw [← hW5, ← hq]
      have hfz := hf.trans (Fz.of_below hb5)
      have HFZ := Lib.hid (HF3.out.trans hfz)
      have hx5 := (hfz.keep _ _ _ HX3.out (by unfold TT; decide)).trans HX3.out
      have hg5 := (hfz.keep _ _ _ HY3.out (by unfold TT; decide)).trans HY3.out
      have HT5 := Lib.hid (hT.later hb5)
      have HR5 := Lib.hid (HR3.out.fz hfz)
      have HCE := Lib.hid (fun W2 (hw : Below W5.drew.heap.size W5.drew W2) => box_cells (((Below.refl _ W5).drew.trans hw)) hx5 hq5 hg5)
      have HRD := Lib.hid (fun W2 (hw : Below W5.drew.heap.size W5.drew W2) => refDrop_any (c := c) (Rio.ris (HR5.out.below ((Below.refl _ W5).drew.trans hw)) rfl) (by have := HF.out; omega) o.k)
      rw [← HRES.out, ← HM.out] at HRD
      clear hW5 hq hb5 hq5 hfz hx5 hg5 hT hf x0 x1 x2 x3 x4
      refine wp_region_noPanic ?_
      refine wp_region_abs 13 65 [.is (.slice A m c), .is (.pointer (some ⟨b, 0, none⟩)), .is (.int .i64 o.k), .tells (fun _ v wb wa => Rio wa wb.heap.size v RES), .is (.agg #[.int .i64 (cv G).v, .int .i64 (cv G).s, .bool (cv G).dead]), .is (.agg #[.int .i64 (cv G).v, .int .i64 (cv G).s, .bool (cv G).dead]), .is (.bool true), .is (.bool true), .is (.bool G.isSome), .is (.bool G.isSome), .is (.bool true), .is (.bool true), .tells (fun hs v _ _ => ∃ p, hs = [p] ∧ v = p.1)]
        [30, 31, 32, 33, 34, 35, 36, 37, 38, 39, 40, 41, 6]
        [[], [], [1], [0, 2], [], [], [4, 5], [6, 3], [7], [7], [8, 9, 7], [7, 10], [3]] (by kernel_rfl) (by rfl) rfl rfl (by kernel_rfl) (fun _ _ _ _ h => h.elim) ?_ ?_
      · refine ⟨?_, ?_, ?_, ?_, ?_, ?_, ?_, ?_, ?_, ?_, ?_, ?_, ?_, trivial⟩
        · intro W2 hw K hK; go_simp; exact hK _ _ rfl (Below.refl _ _)
        · intro W2 hw K hK; go_simp; exact hK _ _ rfl (Below.refl _ _)
        · intro W2 hw K hK
          obtain ⟨k0, k1, k2, k3, q0, q1, q2, g0, g1, g2⟩ := HCE.out W2 hw
          go_simp; exact hK _ _ rfl (Below.refl _ _)
        · intro W2 hw K hK
          go_simp
          refine Calls.mono (HRD.out W2 hw) ?_
          rintro e9 w9 ⟨v9, rfl, h9, hb9⟩
          exact hK _ _ h9 hb9
        · intro W2 hw K hK
          obtain ⟨k0, k1, k2, k3, q0, q1, q2, g0, g1, g2⟩ := HCE.out W2 hw
          go_simp; exact hK _ _ rfl (Below.refl _ _)
        · intro W2 hw K hK
          obtain ⟨k0, k1, k2, k3, q0, q1, q2, g0, g1, g2⟩ := HCE.out W2 hw
          go_simp; exact hK _ _ rfl (Below.refl _ _)
        · intro W2 hw K hK; go_simp; exact hK _ _ rfl (Below.refl _ _)
        · intro W2 hw v8 wb8 wa8 hF8 hx8 K hK; go_simp; exact hK _ _ rfl (Below.refl _ _)
        · intro W2 hw K hK; go_simp; exact hK _ _ rfl (Below.refl _ _)
        · intro W2 hw K hK; go_simp; exact hK _ _ rfl (Below.refl _ _)
        · intro W2 hw K hK; go_simp; exact hK _ _ rfl (Below.refl _ _)
        · intro W2 hw K hK; go_simp; exact hK _ _ rfl (Below.refl _ _)
        · intro W2 hw v8 wb8 wa8 hF8 hx8 K hK; go_simp; exact hK _ _ ⟨_, rfl, rfl⟩ (Below.refl _ _)
      · intro W2 hw2
        simp only [Behind]
        rintro v8 wb wa hP hx1 hx2 _ v7 wb7 wa7 ⟨p7, hp7, hv7⟩ _ _ _
        simp at hp7
        subst hp7
        simp only at hv7
        subst hv7
        obtain ⟨A8, c8, rfl⟩ := own_form hP
        have HP := Lib.hid (own_low (Rio.below hP hx1) (Nat.zero_le _))
        have HB6 := Lib.hid ((Below.refl _ W5).drew.trans hw2)
        have HT6 := Lib.hid (HT5.out.later HB6.out)
        clear hP hx1 hx2 hw2
        simp only [List.drop, Act.put, List.setIfInBounds_toArray, List.set_cons_zero, List.set_cons_succ]
        go_wp2_with fail
        refine NoPanic.normal ?_
        go_wp2_with fail
        go_ret2
        exact ⟨_, _, rfl, HT6.out.more (Nat.le_succ _), HP.out, HFZ.out.trans (Fz.of_below HB6.out)⟩
  | false =>
      have HRES : Hid (RES = ins ⟨o.k, o.c⟩ l) := Lib.hid (by rw [HRS.out]; unfold st; rw [← HDP.out]; rfl)
      have HD := Lib.hid (tn_set2 HT3.out (by omega) ⟨o.k, o.c⟩ HK.out)
      rw [← HRES.out, show getC o.k l = G from HG.out.symm] at HD
      go_wp2_with fail
      refine Calls.mono HD.out ?_
      rintro e w4 ⟨rfl, ⟨d2, hT⟩, hf⟩
      clear HD
      go_upto_region 6 with fail
      obtain ⟨W5, hW5⟩ : ∃ W5, W5 = w4.alloc (.cells #[.int .i64 (cv G).v, .int .i64 (cv G).s, .bool (cv G).dead] 29) := ⟨_, rfl⟩
      obtain ⟨q, hq⟩ : ∃ q, q = w4.heap.size := ⟨_, rfl⟩
      have hb5 : Below w4.heap.size w4 W5 := by rw [hW5]; exact (Below.refl _ _).alloc (Nat.le_refl _) _
      have hq5 : W5.heap[q]? = some (.cells #[.int .i64 (cv G).v, .int .i64 (cv G).s, .bool (cv G).dead] 29 (0, 0)) := by rw [hW5, hq]; exact heap_alloc_new w4 _
      rw [← hW5, ← hq]
      have hfz := hf.trans (Fz.of_below hb5)
      have HFZ := Lib.hid (HF3.out.trans hfz)
      have hx5 := (hfz.keep _ _ _ HX3.out (by unfold TT; decide)).trans HX3.out
      have hg5 := (hfz.keep _ _ _ HY3.out (by unfold TT; decide)).trans HY3.out
      have HT5 := Lib.hid (hT.later hb5)
      have HR5 := Lib.hid (HR3.out.fz hfz)
      have HCE := Lib.hid (fun W2 (hw : Below W5.drew.heap.size W5.drew W2) => box_cells (((Below.refl _ W5).drew.trans hw)) hx5 hq5 hg5)
      have HRD := Lib.hid (fun W2 (hw : Below W5.drew.heap.size W5.drew W2) => refSet_any (c := c) (Rio.ris (HR5.out.below ((Below.refl _ W5).drew.trans hw)) rfl) (by have := HF.out; omega) HU.out ⟨o.k, o.c⟩)
      rw [← HRES.out, ← HM.out] at HRD
      clear hW5 hq hb5 hq5 hfz hx5 hg5 hT hf x0 x1 x2 x3 x4
      refine wp_region_noPanic ?_
      refine wp_region_abs 15 65 [.is (.slice A m c), .is (.pointer (some ⟨b, 0, none⟩)), .is (.int .i64 o.k), .is (.pointer (some ⟨b, 1, none⟩)), .is (.agg #[.int .i64 o.c.v, .int .i64 o.c.s, .bool o.c.dead]), .tells (fun _ v wb wa => Rio wa wb.heap.size v RES), .is (.agg #[.int .i64 (cv G).v, .int .i64 (cv G).s, .bool (cv G).dead]), .is (.agg #[.int .i64 (cv G).v, .int .i64 (cv G).s, .bool (cv G).dead]), .is (.bool true), .is (.bool true), .is (.bool G.isSome), .is (.bool G.isSome), .is (.bool true), .is (.bool true), .tells (fun hs v _ _ => ∃ p, hs = [p] ∧ v = p.1)]
        [51, 52, 53, 54, 55, 56, 57, 58, 59, 60, 61, 62, 63, 64, 6]
        [[], [], [1], [], [3], [0, 2, 4], [], [], [6, 7], [8, 5], [9], [9], [10, 11, 9], [9, 12], [5]] (by kernel_rfl) (by rfl) rfl rfl (by kernel_rfl) (fun _ _ _ _ h => h.elim) ?_ ?_
      · refine ⟨?_, ?_, ?_, ?_, ?_, ?_, ?_, ?_, ?_, ?_, ?_, ?_, ?_, ?_, ?_, trivial⟩
        · intro W2 hw K hK; go_simp; exact hK _ _ rfl (Below.refl _ _)
        · intro W2 hw K hK; go_simp; exact hK _ _ rfl (Below.refl _ _)
        · intro W2 hw K hK
          obtain ⟨k0, k1, k2, k3, q0, q1, q2, g0, g1, g2⟩ := HCE.out W2 hw
          go_simp; exact hK _ _ rfl (Below.refl _ _)
        · intro W2 hw K hK; go_simp; exact hK _ _ rfl (Below.refl _ _)
        · intro W2 hw K hK
          obtain ⟨k0, k1, k2, k3, q0, q1, q2, g0, g1, g2⟩ := HCE.out W2 hw
          go_simp; exact hK _ _ rfl (Below.refl _ _)
        · intro W2 hw K hK
          go_simp
          refine Calls.mono (HRD.out W2 hw) ?_
          rintro e9 w9 ⟨v9, rfl, h9, hb9⟩
          exact hK _ _ h9 hb9
        · intro W2 hw K hK
          obtain ⟨k0, k1, k2, k3, q0, q1, q2, g0, g1, g2⟩ := HCE.out W2 hw
          go_simp; exact hK _ _ rfl (Below.refl _ _)
        · intro W2 hw K hK
          obtain ⟨k0, k1, k2, k3, q0, q1, q2, g0, g1, g2⟩ := HCE.out W2 hw
          go_simp; exact hK _ _ rfl (Below.refl _ _)
        · intro W2 hw K hK; go_simp; exact hK _ _ rfl (Below.refl _ _)
        · intro W2 hw v8 wb8 wa8 hF8 hx8 K hK; go_simp; exact hK _ _ rfl (Below.refl _ _)
        · intro W2 hw K hK; go_simp; exact hK _ _ rfl (Below.refl _ _)
        · intro W2 hw K hK; go_simp; exact hK _ _ rfl (Below.refl _ _)
        · intro W2 hw K hK; go_simp; exact hK _ _ rfl (Below.refl _ _)
        · intro W2 hw K hK; go_simp; exact hK _ _ rfl (Below.refl _ _)
        · intro W2 hw v8 wb8 wa8 hF8 hx8 K hK; go_simp; exact hK _ _ ⟨_, rfl, rfl⟩ (Below.refl _ _)
      · intro W2 hw2
        simp only [Behind]
        rintro v8 wb wa hP hx1 hx2 _ v7 wb7 wa7 ⟨p7, hp7, hv7⟩ _ _ _
        simp at hp7
        subst hp7
        simp only at hv7
        subst hv7
        obtain ⟨A8, c8, rfl⟩ := own_form hP
        have HP := Lib.hid (own_low (Rio.below hP hx1) (Nat.zero_le _))
        have HB6 := Lib.hid ((Below.refl _ W5).drew.trans hw2)
        have HT6 := Lib.hid (HT5.out.later HB6.out)
        clear hP hx1 hx2 hw2
        simp only [List.drop, Act.put, List.setIfInBounds_toArray, List.set_cons_zero, List.set_cons_succ]
        go_wp2_with fail
        refine NoPanic.normal ?_
        go_wp2_with fail
        go_ret2
        exact ⟨_, _, rfl, HT6.out, HP.out, HFZ.out.trans (Fz.of_below HB6.out)⟩
end Go.Proofs.Ytdbckolndaodeaa
