/- An act by both: a write. -/
import Derived.Test.YthmebgpleegonaaDKeeps
import Derived.Test.YthmebgpleegonaaDRegA
import Derived.Deep.RegionWith
namespace Go.Proofs.Ythmebgpleegonaa
set_option maxRecDepth 100000
open Go.RowKit

theorem St.stay {w w' : World} {F G G' : Nat → Prop} {g : Nat} {p : Pw} {ds : List Dk} {K : Nat} (h : St w F g p ds K) (hc : Chg w w' G G') (hd : ∀ k, F k → ¬ G k) : St w' F g p ds K := by
  obtain ⟨v, L, h1, h2⟩ := h
  exact ⟨v, L, h1.keep hc.size fun k hk hlt => hc.block k hlt (hd k hk), h2⟩
/-- What is behind an act by both. -/
def DoPost (w : World) (F X : Nat → Prop) (g K : Nat) (p : Pw) (ds : List Dk) : Ending → World → Prop := fun e w' =>
  ∃ F' X' A' c' left', e = .returned (.tuple #[rsV A' c' ds p left', .bool true]) ∧ St w' F' g p ds (K + 1) ∧ RSet w' X' A' c' ds ∧ LeftOk p left' ∧ (∀ k, X' k → ¬ F' k) ∧ (∀ k, X' k → X k ∨ w.heap.size ≤ k) ∧ Chg w w' F F'
/-- The boxes of an act. -/
structure DBox (w wr : World) (z : Nat) (s0 s1 s2 : Array Value) : Prop where
  bz : wr.heap[z]? = some (.cells s0 33 (0, 0))
  b1 : wr.heap[z + 1]? = some (.cells s1 40 (0, 0))
  b2 : wr.heap[z + 2]? = some (.cells s2 33 (0, 0))
theorem DBox.lt {w wr : World} {z : Nat} {s0 s1 s2 : Array Value} (h : DBox w wr z s0 s1 s2) : z + 2 < wr.heap.size := (Array.getElem?_eq_some_iff.1 h.b2).1
theorem DBox.below {w wr wq : World} {z : Nat} {s0 s1 s2 : Array Value} (h : DBox w wr z s0 s1 s2) (hb : Below wr.heap.size wr wq) : DBox w wq z s0 s1 s2 := by
  have hl := h.lt
  exact ⟨(hb.block _ (by omega)).trans h.bz, (hb.block _ (by omega)).trans h.b1, (hb.block _ (by omega)).trans h.b2⟩
theorem DBox.chg {w wr wq : World} {z : Nat} {s0 s1 s2 : Array Value} {F F' : Nat → Prop} (h : DBox w wr z s0 s1 s2) (hc : Chg wr wq F F') (hF : ∀ k, F k → k < z ∨ z + 3 ≤ k) : DBox w wq z s0 s1 s2 := by
  have hl := h.lt
  exact ⟨(hc.block _ (by omega) (fun e => by have := hF _ e; omega)).trans h.bz, (hc.block _ (by omega) (fun e => by have := hF _ e; omega)).trans h.b1, (hc.block _ (by omega) (fun e => by have := hF _ e; omega)).trans h.b2⟩
theorem setCell_chg (w : World) (z o : Nat) (v : Value) : Chg w (w.setCell ⟨z, o, none⟩ v) (fun k => k = z) (fun k => k = z) :=
  ⟨rfl, rfl, rfl, by rw [World.size_setCell]; exact Nat.le_refl _, fun k _ hk => Below.heap_setCell w ⟨z, o, none⟩ v k hk, fun k e => .inl e⟩
/-- A block of five cells written over, by what changes. -/
theorem set5_chg (w : World) (z : Nat) (v0 v1 v2 v3 v4 : Value) : Chg w (((((w.setCell ⟨z, 0, none⟩ v0).setCell ⟨z, 1, none⟩ v1).setCell ⟨z, 2, none⟩ v2).setCell ⟨z, 3, none⟩ v3).setCell ⟨z, 4, none⟩ v4) (fun k => k = z) (fun k => k = z) :=
  ((((setCell_chg w z 0 v0).trans (setCell_chg _ z 1 v1)).trans (setCell_chg _ z 2 v2)).trans (setCell_chg _ z 3 v3)).trans (setCell_chg _ z 4 v4)
theorem RSet.chg {w w' : World} {X G G' : Nat → Prop} {A : Option Addr} {c : Nat} {ds : List Dk} (h : RSet w X A c ds) (hc : Chg w w' G G') (hd : ∀ k, X k → ¬ G k) : RSet w' X A c ds := h.keep hc.size fun q e => hc.block q (h.lt q e) (hd q e)
/-- What changes beside a set's own blocks is new. -/
theorem Chg.beside {w w1 w2 : World} {F F1 G G1 : Nat → Prop} (h : Chg w w1 F F1) (k : Chg w1 w2 G G1) (hG : ∀ q, G q → w.heap.size ≤ q) : Chg w w2 F F1 :=
  ⟨k.os.trans h.os, k.tape.trans h.tape, k.output.trans h.output, Nat.le_trans h.size k.size, fun q hq hn => (k.block q (Nat.lt_of_lt_of_le hq h.size) (fun e => by have := hG q e; omega)).trans (h.block q hq hn), h.new⟩
/-- What stands before the end of an act: both sets, the boxes. -/
structure DMid (w wr : World) (z g K : Nat) (F X : Nat → Prop) (p : Pw) (ds : List Dk) (A : Option Addr) (c : Nat) (left : Int) (s1 : Array Value) (F0 X0 : Nat → Prop) : Prop where
  st : St wr F g p ds K
  rs : RSet wr X A c ds
  lf : LeftOk p left
  box : DBox w wr z #[.slice A ds.length c, .int .i64 (p.steps : Int), .int .i64 left, .bool p.ia, .bool p.gone] s1 #[.slice none 0 0, .int .i64 0, .int .i64 0, .bool false, .bool false]
  xf : ∀ k, X k → ¬ F k
  x0 : ∀ k, X k → X0 k ∨ z + 3 ≤ k
  ch : Chg w wr F0 F
  fz : ∀ k, F k → k < z ∨ z + 3 ≤ k
  xz : ∀ k, X k → k < z ∨ z + 3 ≤ k
  hz : z = w.heap.size
theorem DMid.below {w wr wq : World} {z g K : Nat} {F X : Nat → Prop} {p : Pw} {ds : List Dk} {A : Option Addr} {c : Nat} {left : Int} {s1 : Array Value} {F0 X0 : Nat → Prop} (h : DMid w wr z g K F X p ds A c left s1 F0 X0) (hb : Below wr.heap.size wr wq) : DMid w wq z g K F X p ds A c left s1 F0 X0 :=
  ⟨h.st.below hb, h.rs.below hb, h.lf, h.box.below hb, h.xf, h.x0, h.ch.trans (Chg.of_below hb F), h.fz, h.xz, h.hz⟩
theorem DMid.mono {w wr : World} {z g K K' : Nat} {F X : Nat → Prop} {p : Pw} {ds : List Dk} {A : Option Addr} {c : Nat} {left : Int} {s1 : Array Value} {F0 X0 : Nat → Prop} (h : DMid w wr z g K F X p ds A c left s1 F0 X0) (hk : K ≤ K') : DMid w wr z g K' F X p ds A c left s1 F0 X0 := ⟨h.st.mono hk, h.rs, h.lf, h.box, h.xf, h.x0, h.ch, h.fz, h.xz, h.hz⟩
theorem DMid.start {w : World} {g K : Nat} {F X : Nat → Prop} {p : Pw} {ds : List Dk} {A : Option Addr} {c : Nat} {left : Int} (h : St w F g p ds K) (hr : RSet w X A c ds) (hk : LeftOk p left) (hx : ∀ k, X k → ¬ F k) (s1 : Array Value) :
    DMid w (((w.alloc (.cells #[.slice A ds.length c, .int .i64 (p.steps : Int), .int .i64 left, .bool p.ia, .bool p.gone] 33)).alloc (.cells s1 40)).alloc (.cells #[.slice none 0 0, .int .i64 0, .int .i64 0, .bool false, .bool false] 33)) w.heap.size g K F X p ds A c left s1 F X := by
  obtain ⟨k1, k2, k3, ks, hb3⟩ := three_blocks w (.cells #[.slice A ds.length c, .int .i64 (p.steps : Int), .int .i64 left, .bool p.ia, .bool p.gone] 33) (.cells s1 40) (.cells #[.slice none 0 0, .int .i64 0, .int .i64 0, .bool false, .bool false] 33)
  exact ⟨h.below hb3, hr.below hb3, hk, ⟨k1, k2, k3⟩, hx, fun k e => .inl e, Chg.of_below hb3 F, fun k e => .inl (h.lt k e), fun k e => .inl (hr.lt k e), rfl⟩
/-- The end: the set goes into the result's box. -/
theorem DMid.fin {w wr : World} {z g K : Nat} {F X : Nat → Prop} {p : Pw} {ds : List Dk} {A : Option Addr} {c : Nat} {left : Int} {s1 : Array Value} {F0 X0 : Nat → Prop} (h : DMid w wr z g K F X p ds A c left s1 F0 X0) (N : Nat) (hN : ds.length = N) (W : World)
    (hW : W = ((((((wr.setCell ⟨z + 1 + 1, 0, none⟩ (.slice A N c)).setCell ⟨z + 1 + 1, 1, none⟩ (.int .i64 (p.steps : Int))).setCell ⟨z + 1 + 1, 2, none⟩ (.int .i64 left)).setCell ⟨z + 1 + 1, 3, none⟩ (.bool p.ia)).setCell ⟨z + 1 + 1, 4, none⟩ (.bool p.gone))).drew) :
    W.heap[z + 1 + 1]? = some (.cells #[.slice A N c, .int .i64 (p.steps : Int), .int .i64 left, .bool p.ia, .bool p.gone] 33 (0, 0)) ∧ St W F g p ds K ∧ RSet W X A c ds ∧ Chg w W F0 F := by
  obtain ⟨t, _, _⟩ := set5 wr (z + 1 + 1) 33 _ _ _ _ _ (.slice A N c) (.int .i64 (p.steps : Int)) (.int .i64 left) (.bool p.ia) (.bool p.gone) h.box.b2
  have hc := set5_chg wr (z + 1 + 1) (.slice A N c) (.int .i64 (p.steps : Int)) (.int .i64 left) (.bool p.ia) (.bool p.gone)
  revert hW t hc
  generalize World.setCell (World.setCell _ _ _) _ _ = W0
  intro hW t hc
  have hd : Below W0.heap.size W0 W := by rw [hW]; exact Below.drew (Below.refl _ W0)
  have e : W.heap[z + 1 + 1]? = W0.heap[z + 1 + 1]? := by rw [hW]; rfl
  exact ⟨e.trans t, (h.st.stay hc (fun k e e2 => by have := h.fz k e; omega)).below hd, (h.rs.chg hc (fun k e e2 => by have := h.xz k e; omega)).below hd, (h.ch.beside hc (fun q e => by have := h.hz; omega)).trans (Chg.of_below hd F)⟩
/-- The document's set is stored anew. -/
theorem DMid.store {w wq : World} {z g K : Nat} {F X1 : Nat → Prop} {p1 : Pw} {ds1 : List Dk} {A1 : Option Addr} {c1 : Nat} {left1 : Int} {s1 : Array Value} {F0 X0 : Nat → Prop} {a0 a1 a2 a3 a4 : Value}
    (hst : St wq F g p1 ds1 K) (hrs : RSet wq X1 A1 c1 ds1) (hlf : LeftOk p1 left1) (hbx : DBox w wq z #[a0, a1, a2, a3, a4] s1 #[.slice none 0 0, .int .i64 0, .int .i64 0, .bool false, .bool false]) (hxf : ∀ k, X1 k → ¬ F k) (hx0 : ∀ k, X1 k → X0 k ∨ z + 3 ≤ k) (hch : Chg w wq F0 F) (hfz : ∀ k, F k → k < z ∨ z + 3 ≤ k) (hxz : ∀ k, X1 k → k < z ∨ z + 3 ≤ k) (hz : z = w.heap.size) :
    DMid w (((((wq.setCell ⟨z, 0, none⟩ (.slice A1 ds1.length c1)).setCell ⟨z, 1, none⟩ (.int .i64 (p1.steps : Int))).setCell ⟨z, 2, none⟩ (.int .i64 left1)).setCell ⟨z, 3, none⟩ (.bool p1.ia)).setCell ⟨z, 4, none⟩ (.bool p1.gone)) z g K F X1 p1 ds1 A1 c1 left1 s1 F0 X0 := by
  obtain ⟨t, tk, _⟩ := set5 wq z 33 _ _ _ _ _ (.slice A1 ds1.length c1) (.int .i64 (p1.steps : Int)) (.int .i64 left1) (.bool p1.ia) (.bool p1.gone) hbx.bz
  have hc := set5_chg wq z (.slice A1 ds1.length c1) (.int .i64 (p1.steps : Int)) (.int .i64 left1) (.bool p1.ia) (.bool p1.gone)
  exact ⟨hst.stay hc (fun k e e2 => by have := hfz k e; omega), hrs.chg hc (fun k e e2 => by have := hxz k e; omega), hlf, ⟨t, (tk _ (by omega)).trans hbx.b1, (tk _ (by omega)).trans hbx.b2⟩, hxf, hx0, hch.beside hc (fun q e => by omega), hfz, hxz, hz⟩
set_option maxHeartbeats 16000000 in
theorem do_write {w : World} {F X : Nat → Prop} {g : Nat} {p : Pw} {ds : List Dk} {K : Nat} {A : Option Addr} {c : Nat} {left : Int} (h : St w F g p ds K) (hr : RSet w X A c ds) (hk : LeftOk p left) (hx : ∀ k, X k → ¬ F k) (hok : OkN K ds) (hl : ds.length ≤ 1000) (hKb : K ≤ 1000000) (hps : p.steps ≤ K) (hpa : p.armed ≤ 9223372036854775807)
    (dv n : Int) (b : Nat) (hb : b < 256) (Ak : Option Addr) (mk ck : Nat) :
    Calls Try.prog 14 #[.pointer (some ⟨g, 0, none⟩), rsV A c ds p left, .agg #[.int .i64 1, .int .i64 dv, .int .i64 n, .int .u8 (b : Int), .slice Ak mk ck]] w (DoPost w F X g K (writeM p ds dv n (Sx.full b hb)).2.1 (writeM p ds dv n (Sx.full b hb)).2.2) := by
  have HM := Lib.hid (DMid.start h hr hk hx #[.int .i64 1, .int .i64 dv, .int .i64 n, .int .u8 (b : Int), .slice Ak mk ck])
  have HOK := Lib.hid hok
  obtain ⟨N, hN⟩ : ∃ N, N = ds.length := ⟨_, rfl⟩
  have HN := Lib.hid hN
  obtain ⟨z, hz⟩ : ∃ z, z = w.heap.size := ⟨_, rfl⟩
  have HZ := Lib.hid hz
  unfold rsV
  rw [← hN] at HM ⊢
  rw [← hz] at HM
  clear h hr hk hx hok hN
  go_enter Try.func14, Try.ntmps14
  go_upto_region 1 with fail
  rw [← hz]
  clear hz
  revert HM
  generalize World.alloc _ _ = wb
  intro HM
  have HMB : Hid (DMid w wb z g K F X p ds A c left #[.int .i64 1, .int .i64 dv, .int .i64 n, .int .u8 (b : Int), .slice Ak mk ck] F X) := HM
  clear HM
  have k0 := (cell_of_row _ _ 0 _ _ (0, 0) HMB.out.box.b1).trans rfl
  go_upto_region 9 with fail
  clear k0
  have HA := Lib.hid (show ∀ W2, Below wb.drew.heap.size wb.drew W2 → W2.cell? ⟨z + 1, 1, none⟩ = some (.int .i64 dv) ∧ W2.cell? ⟨z + 1, 2, none⟩ = some (.int .i64 n) ∧ W2.cell? ⟨z + 1, 3, none⟩ = some (.int .u8 (b : Int)) from fun W2 hw => by
    have hb1 := (HMB.out.below ((Below.refl _ wb).drew.trans hw)).box.b1
    exact ⟨(cell_of_row _ _ 1 _ _ (0, 0) hb1).trans rfl, (cell_of_row _ _ 2 _ _ (0, 0) hb1).trans rfl, (cell_of_row _ _ 3 _ _ (0, 0) hb1).trans rfl⟩)
  refine wp_region_noPanic ?_
  refine wp_region_abs 8 108 [
    .is (.pointer (some ⟨g, 0, none⟩)),
    .is (.pointer (some ⟨z + 1, 1, none⟩)),
    .is (.int .i64 dv),
    .is (.pointer (some ⟨z + 1, 2, none⟩)),
    .is (.int .i64 n),
    .is (.pointer (some ⟨z + 1, 3, none⟩)),
    .is (.int .u8 (b : Int)),
    .is (Sx.full b hb).val]
    [42, 43, 44, 45, 46, 47, 48, 49]
    [[], [], [1], [], [3], [], [5], [6]] (by kernel_rfl) (by rfl) rfl rfl (by kernel_rfl) (fun _ _ _ _ h => h.elim) ?_ ?_
  · refine ⟨?_, ?_, ?_, ?_, ?_, ?_, ?_, ?_, trivial⟩
    · intro W2 hw K hK
      go_simp
      exact hK _ _ rfl (Below.refl _ _)
    · intro W2 hw K hK
      go_simp
      exact hK _ _ rfl (Below.refl _ _)
    · intro W2 hw K hK
      obtain ⟨e1, _, _⟩ := HA.out W2 hw
      go_simp
      exact hK _ _ rfl (Below.refl _ _)
    · intro W2 hw K hK
      go_simp
      exact hK _ _ rfl (Below.refl _ _)
    · intro W2 hw K hK
      obtain ⟨_, e1, _⟩ := HA.out W2 hw
      go_simp
      exact hK _ _ rfl (Below.refl _ _)
    · intro W2 hw K hK
      go_simp
      exact hK _ _ rfl (Below.refl _ _)
    · intro W2 hw K hK
      obtain ⟨_, _, e1⟩ := HA.out W2 hw
      go_simp
      exact hK _ _ rfl (Below.refl _ _)
    · intro W2 hw K hK
      go_simp
      refine Calls.mono (full_any b hb W2) ?_
      rintro e w' ⟨rfl, hb9⟩
      exact hK _ _ rfl hb9
  · intro W2 hw2
    simp only [Behind, List.drop, Act.put, List.setIfInBounds_toArray, List.set_cons_zero, List.set_cons_succ]
    have HM2 := Lib.hid (HMB.out.below ((Below.refl _ wb).drew.trans hw2))
    clear hw2 HA HMB
    have HWR := Lib.hid (st_write HM2.out.st dv n (Sx.full b hb) hl (by omega) (by omega) hpa)
    rw [writeM_err] at HWR
    obtain ⟨wm, hwm⟩ : ∃ u, u = writeM p ds dv n (Sx.full b hb) := ⟨_, rfl⟩
    obtain ⟨wn, hwn⟩ : ∃ u, u = writeN p ds dv n := ⟨_, rfl⟩
    have HWM := Lib.hid hwm
    have HWN := Lib.hid hwn
    rw [← hwm, ← hwn] at HWR
    have hlen : wm.2.2.length = N := by
      have := congrArg List.length (writeM_le p ds dv n (Sx.full b hb)).2.2
      rw [← hwm, List.length_map, List.length_map] at this
      rw [this]; exact HN.out.symm
    have HLEN := Lib.hid hlen
    clear hlen
    rw [← hwm]
    clear hwm hwn
    go_wp2_with fail
    refine Calls.mono HWR.out ?_
    rintro e w3 ⟨rfl, F3, s3, c3⟩
    have HF3 := Lib.hid (show ∀ k, F3 k → k < z ∨ z + 3 ≤ k from fun k e => by
      rcases c3.new k e with e2 | e2
      · exact HM2.out.fz k e2
      · have := HM2.out.box.lt; omega)
    have HX3 := Lib.hid (show ∀ k, X k → ¬ F3 k from fun k e e2 => by
      rcases c3.new k e2 with e3 | e3
      · exact HM2.out.xf k e e3
      · have := HM2.out.rs.lt k e; omega)
    have HR3 := Lib.hid (HM2.out.rs.chg c3 HM2.out.xf)
    have HBX3 := Lib.hid (HM2.out.box.chg c3 HM2.out.fz)
    have HC3 := Lib.hid (HM2.out.ch.trans c3)
    have HS3 := Lib.hid s3
    have HL3 := Lib.hid (And.intro HM2.out.lf (And.intro HM2.out.x0 (And.intro HM2.out.xz HM2.out.hz)))
    clear s3 c3 HWR HM2
    go_wp2_with fail
    refine NoPanic.normal ?_
    go_upto_region 10 with fail
    have HA := Lib.hid (show ∀ W2, Below w3.drew.heap.size w3.drew W2 → W2.cell? ⟨z + 1, 1, none⟩ = some (.int .i64 dv) ∧ W2.cell? ⟨z + 1, 2, none⟩ = some (.int .i64 n) ∧ W2.cell? ⟨z + 1, 3, none⟩ = some (.int .u8 (b : Int)) ∧ W2.heap[z]? = some (.cells #[.slice A N c, .int .i64 (p.steps : Int), .int .i64 left, .bool p.ia, .bool p.gone] 33 (0, 0)) from fun W2 hw => by
      have hbx := HBX3.out.below ((Below.refl _ w3).drew.trans hw)
      exact ⟨(cell_of_row _ _ 1 _ _ (0, 0) hbx.b1).trans rfl, (cell_of_row _ _ 2 _ _ (0, 0) hbx.b1).trans rfl, (cell_of_row _ _ 3 _ _ (0, 0) hbx.b1).trans rfl, by have := hbx.bz; rw [← HN.out] at this; exact this⟩)
    refine wp_region_noPanic ?_
    refine wp_region_abs_any 8 108 [
      .is (.agg #[.slice A N c, .int .i64 (p.steps : Int), .int .i64 left, .bool p.ia, .bool p.gone]),
      .is (.pointer (some ⟨z + 1, 1, none⟩)),
      .is (.int .i64 dv),
      .is (.pointer (some ⟨z + 1, 2, none⟩)),
      .is (.int .i64 n),
      .is (.pointer (some ⟨z + 1, 3, none⟩)),
      .is (.int .u8 (b : Int)),
      .is (Sx.full b hb).val]
      [52, 53, 54, 55, 56, 57, 58, 59]
      [[], [], [1], [], [3], [], [5], [6]] (by kernel_rfl) (by rfl) rfl rfl (by kernel_rfl) (fun _ _ _ _ h => h.elim) ?_ ?_
    · refine ⟨?_, ?_, ?_, ?_, ?_, ?_, ?_, ?_, trivial⟩
      · intro W2 hw K hK
        obtain ⟨_, _, _, e1⟩ := HA.out W2 hw
        have q0 := (cell_of_row _ _ 0 _ _ (0, 0) e1).trans rfl
        have q1 := (cell_of_row _ _ 1 _ _ (0, 0) e1).trans rfl
        have q2 := (cell_of_row _ _ 2 _ _ (0, 0) e1).trans rfl
        have q3 := (cell_of_row _ _ 3 _ _ (0, 0) e1).trans rfl
        have q4 := (cell_of_row _ _ 4 _ _ (0, 0) e1).trans rfl
        go_simp
        exact hK _ _ rfl (Below.refl _ _)
      · intro W2 hw K hK
        go_simp
        exact hK _ _ rfl (Below.refl _ _)
      · intro W2 hw K hK
        obtain ⟨e1, _, _, _⟩ := HA.out W2 hw
        go_simp
        exact hK _ _ rfl (Below.refl _ _)
      · intro W2 hw K hK
        go_simp
        exact hK _ _ rfl (Below.refl _ _)
      · intro W2 hw K hK
        obtain ⟨_, e1, _, _⟩ := HA.out W2 hw
        go_simp
        exact hK _ _ rfl (Below.refl _ _)
      · intro W2 hw K hK
        go_simp
        exact hK _ _ rfl (Below.refl _ _)
      · intro W2 hw K hK
        obtain ⟨_, _, e1, _⟩ := HA.out W2 hw
        go_simp
        exact hK _ _ rfl (Below.refl _ _)
      · intro W2 hw K hK
        go_simp
        refine Calls.mono (full_any b hb W2) ?_
        rintro e w' ⟨rfl, hb9⟩
        exact hK _ _ rfl hb9
    · intro W2 hw2
      simp only [Behind, Act.put, List.setIfInBounds_toArray, List.set_cons_zero, List.set_cons_succ]
      have hb2 : Below w3.heap.size w3 W2 := (Below.refl _ w3).drew.trans hw2
      have HS4 := Lib.hid (HS3.out.below hb2)
      have HR4 := Lib.hid (HR3.out.below hb2)
      have HBX4 := Lib.hid (HBX3.out.below hb2)
      have HC4 := Lib.hid (HC3.out.trans (Chg.of_below hb2 F3))
      have HPT := Lib.hid (refput_any HR4.out p left dv n (Sx.full b hb) HL3.out.1 hl (by omega) hpa (fun d hd => by have := (HOK.out d hd).1; omega))
      unfold rsV at HPT
      rw [← HWM.out, ← HWN.out, ← HN.out, HLEN.out] at HPT
      clear hw2 hb2 HA HS3 HR3 HBX3 HC3
      change wpAny _ _ _ _ 6 #[true, true, true, true, true, true, true, true, false, false, false, false, false, false] _ _
      refine wpAny_ready (rs := [8]) (by kernel_rfl) (by simp) ?_
      refine arms_cons (o := { dst := some 60, op := Op.call { callee := Callee.value (Operand.func 30), args := #[Operand.tmp 52, Operand.tmp 54, Operand.tmp 56, Operand.tmp 59], argTypes := #[33, 3, 3, 50] }, type := 34, pos := "law.go:77", after := #[{ on := 0, ground := Ground.data }, { on := 2, ground := Ground.data }, { on := 4, ground := Ground.data }, { on := 7, ground := Ground.data }, { on := 7, ground := Ground.chain }], guard := none }) rfl (fun K hK => ?_) AllReady.nil
      refine arm_of rfl ?_
      go_simp
      refine Calls.mono HPT.out ?_
      rintro e w5 ⟨X5, A5, c5, l5, rfl, r5, x5, f5, b5⟩
      have hbx5 := HBX4.out.below b5
      have HX5 := Lib.hid (show ∀ k, X5 k → X k ∨ z + 3 ≤ k from fun k e => by
        rcases x5 k e with e2 | e2
        · exact .inl e2
        · right; have := HBX4.out.lt; omega)
      have HXZ := Lib.hid (show ∀ k, X5 k → k < z ∨ z + 3 ≤ k from fun k e => by
        rcases HX5.out k e with e2 | e2
        · exact HL3.out.2.2.1 k e2
        · exact .inr e2)
      have HXF := Lib.hid (show ∀ k, X5 k → ¬ F3 k from fun k e e2 => by
        rcases x5 k e with e3 | e3
        · exact HX3.out k e3 e2
        · have := HS4.out.lt k e2; omega)
      have HD := Lib.hid (DMid.store (X0 := X) (HS4.out.below b5) r5 f5 hbx5 HXF.out HX5.out (HC4.out.trans (Chg.of_below b5 F3)) HF3.out HXZ.out HL3.out.2.2.2)
      rw [HLEN.out] at HD
      have k0 := hbx5.bz
      rw [← HN.out] at k0
      have q0 := (cell_of_row _ _ 0 _ _ (0, 0) k0).trans rfl
      have q1 := (cell_of_row _ _ 1 _ _ (0, 0) k0).trans rfl
      have q2 := (cell_of_row _ _ 2 _ _ (0, 0) k0).trans rfl
      have q3 := (cell_of_row _ _ 3 _ _ (0, 0) k0).trans rfl
      have q4 := (cell_of_row _ _ 4 _ _ (0, 0) k0).trans rfl
      have f0 := frozen_at k0 0
      have f1 := frozen_at k0 1
      have f2 := frozen_at k0 2
      have f3 := frozen_at k0 3
      have f4 := frozen_at k0 4
      have hz5 : z < w5.heap.size := by have := hbx5.lt; omega
      clear r5 x5 f5 b5 hbx5 k0 HPT HS4 HR4 HBX4 HC4 HX5 HXZ HXF HX3 HF3
      refine hK _ _ ?_
      clear hK K
      try simp only [Act.put, List.setIfInBounds_toArray, List.set_cons_zero, List.set_cons_succ]
      refine wpAny_take (i := 9) (v := .tuple #[.agg #[.slice A5 N c5, .int .i64 (wm.2.1.steps : Int), .int .i64 l5, .bool wm.2.1.ia, .bool wm.2.1.gone], .int .i64 (wn : Int)]) rfl (by kernel_rfl) (by kernel_rfl) (by kernel_rfl) (fun _ _ _ h => h) (Or.inl ⟨by rfl, fun w => by go_simp⟩) ?_
      try simp only [Act.put, List.setIfInBounds_toArray, List.set_cons_zero, List.set_cons_succ]
      refine wpAny_take (i := 10) (v := .agg #[.slice A5 N c5, .int .i64 (wm.2.1.steps : Int), .int .i64 l5, .bool wm.2.1.ia, .bool wm.2.1.gone]) rfl (by kernel_rfl) (by kernel_rfl) (by kernel_rfl) (fun _ _ _ h => h) (Or.inl ⟨by rfl, fun w => by go_simp⟩) ?_
      try simp only [Act.put, List.setIfInBounds_toArray, List.set_cons_zero, List.set_cons_succ]
      refine wpAny_take (i := 11) (v := .int .i64 (wn : Int)) rfl (by kernel_rfl) (by kernel_rfl) (by kernel_rfl) (fun _ _ _ h => h) (Or.inl ⟨by rfl, fun w => by go_simp⟩) ?_
      try simp only [Act.put, List.setIfInBounds_toArray, List.set_cons_zero, List.set_cons_succ]
      refine wpAny_of_list (k := 12) (l := [{ dst := none, op := Op.store 33 (Operand.tmp 4) (Operand.tmp 61), type := 0, pos := "law.go:77", after := #[{ on := 10, ground := Ground.data }, { on := 8, ground := Ground.chain }, { on := 0, ground := Ground.phase }, { on := 1, ground := Ground.phase }, { on := 2, ground := Ground.phase }, { on := 3, ground := Ground.phase }, { on := 4, ground := Ground.phase }, { on := 5, ground := Ground.phase }, { on := 6, ground := Ground.phase }, { on := 7, ground := Ground.phase }, { on := 8, ground := Ground.phase }, { on := 9, ground := Ground.phase }, { on := 10, ground := Ground.phase }, { on := 11, ground := Ground.textOnly Departure.lateStores }], guard := none }, { dst := some 9, op := Op.assign (Operand.tmp 62), type := 3, pos := "law.go:77", after := #[{ on := 11, ground := Ground.data }, { on := 12, ground := Ground.chain }, { on := 0, ground := Ground.phase }, { on := 1, ground := Ground.phase }, { on := 2, ground := Ground.phase }, { on := 3, ground := Ground.phase }, { on := 4, ground := Ground.phase }, { on := 5, ground := Ground.phase }, { on := 6, ground := Ground.phase }, { on := 7, ground := Ground.phase }, { on := 8, ground := Ground.phase }, { on := 9, ground := Ground.phase }, { on := 10, ground := Ground.phase }, { on := 11, ground := Ground.phase }, { on := 12, ground := Ground.phase }], guard := none }]) rfl rfl (by kernel_rfl) ?_
      go_wp2_with fail
      refine NoPanic.normal ?_
      clear q0 q1 q2 q3 q4 f0 f1 f2 f3 f4 hz5
      go_upto_region 22 with fail
      revert HD
      generalize World.setCell (World.setCell _ _ _) _ _ = w6
      intro HD
      have hbx := HD.out.box
      have k0 := hbx.bz
      rw [HLEN.out] at k0
      have k2 := hbx.b2
      have q0 := (cell_of_row _ _ 0 _ _ (0, 0) k0).trans rfl
      have q1 := (cell_of_row _ _ 1 _ _ (0, 0) k0).trans rfl
      have q2 := (cell_of_row _ _ 2 _ _ (0, 0) k0).trans rfl
      have q3 := (cell_of_row _ _ 3 _ _ (0, 0) k0).trans rfl
      have q4 := (cell_of_row _ _ 4 _ _ (0, 0) k0).trans rfl
      have pp0 := (cell_of_row _ _ 0 _ _ (0, 0) k2).trans rfl
      have pp1 := (cell_of_row _ _ 1 _ _ (0, 0) k2).trans rfl
      have pp2 := (cell_of_row _ _ 2 _ _ (0, 0) k2).trans rfl
      have pp3 := (cell_of_row _ _ 3 _ _ (0, 0) k2).trans rfl
      have pp4 := (cell_of_row _ _ 4 _ _ (0, 0) k2).trans rfl
      have f0 := frozen_at k2 0
      have f1 := frozen_at k2 1
      have f2 := frozen_at k2 2
      have f3 := frozen_at k2 3
      have f4 := frozen_at k2 4
      have hz6 := hbx.lt
      have hq1 : ((wn : Int) == (wn : Int)) = true := by simp
      have hq2 : (wn == wn) = true := by simp
      clear hbx k0 k2
      refine wp_region_any (by kernel_rfl) ?_
      change wpAny _ _ _ _ _ _ _ w6.drew
      refine wpAny_take (i := 1) (v := eV wn) rfl (by kernel_rfl) (by kernel_rfl) (by kernel_rfl) (fun _ _ _ h => h) (Or.inl ⟨by rfl, fun w => by go_simp⟩) ?_
      try simp only [Act.put, List.setIfInBounds_toArray, List.set_cons_zero, List.set_cons_succ]
      refine wpAny_take (i := 3) (v := .int .i64 (wn : Int)) rfl (by kernel_rfl) (by kernel_rfl) (by kernel_rfl) (fun _ _ _ h => h) (Or.inl ⟨by rfl, fun w => by go_simp⟩) ?_
      try simp only [Act.put, List.setIfInBounds_toArray, List.set_cons_zero, List.set_cons_succ]
      refine wpAny_ready (rs := [0, 2]) (by kernel_rfl) (by simp) ?_
      refine arms_cons (o := { dst := some 100, op := Op.load 33 (Operand.tmp 4), type := 33, pos := "law.go:96", after := #[], guard := none }) rfl (fun K hK => ?_) (arms_cons (o := { dst := some 102, op := Op.call { callee := Callee.value (Operand.func 12), args := #[Operand.tmp 101], argTypes := #[28] }, type := 3, pos := "law.go:96", after := #[{ on := 1, ground := Ground.data }], guard := none }) rfl (fun K hK => ?_) AllReady.nil)
      · refine arm_of rfl ?_
        go_simp
        refine hK _ _ ?_
        clear hK K
        try simp only [Act.put, List.setIfInBounds_toArray, List.set_cons_zero, List.set_cons_succ]
        refine wpAny_ready (rs := [2]) (by kernel_rfl) (by simp) ?_
        refine arms_cons (o := { dst := some 102, op := Op.call { callee := Callee.value (Operand.func 12), args := #[Operand.tmp 101], argTypes := #[28] }, type := 3, pos := "law.go:96", after := #[{ on := 1, ground := Ground.data }], guard := none }) rfl (fun K hK => ?_) AllReady.nil
        refine arm_of rfl ?_
        go_simp
        refine Calls.mono (num_ev wn _) ?_
        rintro e W9 ⟨rfl, rfl⟩
        refine hK _ _ ?_
        clear hK K
        try simp only [Act.put, List.setIfInBounds_toArray, List.set_cons_zero, List.set_cons_succ]
        refine wpAny_take (i := 4) (v := .bool true) rfl (by kernel_rfl) (by kernel_rfl) (by kernel_rfl) (fun _ _ _ h => h) (Or.inl ⟨by rfl, fun w => by go_simp⟩) ?_
        try simp only [Act.put, List.setIfInBounds_toArray, List.set_cons_zero, List.set_cons_succ]
        refine wpAny_take (i := 5) (v := .bool true) rfl (by kernel_rfl) (by kernel_rfl) (by kernel_rfl) (fun _ _ _ h => h) (Or.inl ⟨by rfl, fun w => by go_simp⟩) ?_
        try simp only [Act.put, List.setIfInBounds_toArray, List.set_cons_zero, List.set_cons_succ]
        refine wpAny_take (i := 6) (v := .bool true) rfl (by kernel_rfl) (by kernel_rfl) (by kernel_rfl) (fun _ _ _ h => h) (Or.inl ⟨by rfl, fun w => by go_simp⟩) ?_
        try simp only [Act.put, List.setIfInBounds_toArray, List.set_cons_zero, List.set_cons_succ]
        refine wpAny_take (i := 7) (v := .bool true) rfl (by kernel_rfl) (by kernel_rfl) (by kernel_rfl) (fun _ _ _ h => h) (Or.inl ⟨by rfl, fun w => by go_simp⟩) ?_
        try simp only [Act.put, List.setIfInBounds_toArray, List.set_cons_zero, List.set_cons_succ]
        refine wpAny_of_list (k := 8) (l := [{ dst := none, op := Op.store 33 (Operand.tmp 6) (Operand.tmp 100), type := 0, pos := "law.go:96", after := #[{ on := 0, ground := Ground.data }, { on := 5, ground := Ground.chain }, { on := 0, ground := Ground.phase }, { on := 1, ground := Ground.textOnly Departure.lateStores }, { on := 2, ground := Ground.textOnly Departure.lateStoresUnsure }, { on := 3, ground := Ground.textOnly Departure.lateStores }, { on := 4, ground := Ground.textOnly Departure.lateStores }, { on := 5, ground := Ground.textOnly Departure.lateStores }, { on := 6, ground := Ground.textOnly Departure.lateStores }, { on := 7, ground := Ground.textOnly Departure.lateStores }], guard := none }, { dst := some 7, op := Op.assign (Operand.tmp 107), type := 4, pos := "law.go:96", after := #[{ on := 7, ground := Ground.data }, { on := 8, ground := Ground.chain }, { on := 0, ground := Ground.phase }, { on := 1, ground := Ground.phase }, { on := 2, ground := Ground.phase }, { on := 3, ground := Ground.phase }, { on := 4, ground := Ground.phase }, { on := 5, ground := Ground.phase }, { on := 6, ground := Ground.phase }, { on := 7, ground := Ground.phase }, { on := 8, ground := Ground.phase }], guard := none }]) rfl rfl (by kernel_rfl) ?_
        go_wp2_with fail
        have HT := Lib.hid (HD.out.fin N HLEN.out _ rfl)
        revert HT
        generalize World.drew _ = w9
        intro HT
        obtain ⟨u, st9, rs9, ch9⟩ := HT.out
        have g0 := (cell_of_row _ _ 0 _ _ (0, 0) u).trans rfl
        have g1 := (cell_of_row _ _ 1 _ _ (0, 0) u).trans rfl
        have g2 := (cell_of_row _ _ 2 _ _ (0, 0) u).trans rfl
        have g3 := (cell_of_row _ _ 3 _ _ (0, 0) u).trans rfl
        have g4 := (cell_of_row _ _ 4 _ _ (0, 0) u).trans rfl
        refine bodyPost_ret (v := .tuple #[.agg #[.slice A5 N c5, .int .i64 (wm.2.1.steps : Int), .int .i64 l5, .bool wm.2.1.ia, .bool wm.2.1.gone], .bool true]) (by simp [results, Try.results14, go_sem, g0, g1, g2, g3, g4]) rfl ?_
        rw [← HWM.out]
        refine ⟨F3, X5, A5, c5, l5, ?_, st9, rs9, HD.out.lf, HD.out.xf, fun k e => ?_, ch9⟩
        · unfold rsV
          rw [HLEN.out]
        · rcases HD.out.x0 k e with e2 | e2
          · exact .inl e2
          · right; have := HZ.out; omega
      · refine arm_of rfl ?_
        go_simp
        refine Calls.mono (num_ev wn _) ?_
        rintro e W9 ⟨rfl, rfl⟩
        refine hK _ _ ?_
        clear hK K
        try simp only [Act.put, List.setIfInBounds_toArray, List.set_cons_zero, List.set_cons_succ]
        refine wpAny_take (i := 4) (v := .bool true) rfl (by kernel_rfl) (by kernel_rfl) (by kernel_rfl) (fun _ _ _ h => h) (Or.inl ⟨by rfl, fun w => by go_simp⟩) ?_
        try simp only [Act.put, List.setIfInBounds_toArray, List.set_cons_zero, List.set_cons_succ]
        refine wpAny_take (i := 5) (v := .bool true) rfl (by kernel_rfl) (by kernel_rfl) (by kernel_rfl) (fun _ _ _ h => h) (Or.inl ⟨by rfl, fun w => by go_simp⟩) ?_
        try simp only [Act.put, List.setIfInBounds_toArray, List.set_cons_zero, List.set_cons_succ]
        refine wpAny_take (i := 6) (v := .bool true) rfl (by kernel_rfl) (by kernel_rfl) (by kernel_rfl) (fun _ _ _ h => h) (Or.inl ⟨by rfl, fun w => by go_simp⟩) ?_
        try simp only [Act.put, List.setIfInBounds_toArray, List.set_cons_zero, List.set_cons_succ]
        refine wpAny_take (i := 7) (v := .bool true) rfl (by kernel_rfl) (by kernel_rfl) (by kernel_rfl) (fun _ _ _ h => h) (Or.inl ⟨by rfl, fun w => by go_simp⟩) ?_
        try simp only [Act.put, List.setIfInBounds_toArray, List.set_cons_zero, List.set_cons_succ]
        refine wpAny_ready (rs := [0]) (by kernel_rfl) (by simp) ?_
        refine arms_cons (o := { dst := some 100, op := Op.load 33 (Operand.tmp 4), type := 33, pos := "law.go:96", after := #[], guard := none }) rfl (fun K hK => ?_) AllReady.nil
        refine arm_of rfl ?_
        go_simp
        refine hK _ _ ?_
        clear hK K
        try simp only [Act.put, List.setIfInBounds_toArray, List.set_cons_zero, List.set_cons_succ]
        refine wpAny_of_list (k := 8) (l := [{ dst := none, op := Op.store 33 (Operand.tmp 6) (Operand.tmp 100), type := 0, pos := "law.go:96", after := #[{ on := 0, ground := Ground.data }, { on := 5, ground := Ground.chain }, { on := 0, ground := Ground.phase }, { on := 1, ground := Ground.textOnly Departure.lateStores }, { on := 2, ground := Ground.textOnly Departure.lateStoresUnsure }, { on := 3, ground := Ground.textOnly Departure.lateStores }, { on := 4, ground := Ground.textOnly Departure.lateStores }, { on := 5, ground := Ground.textOnly Departure.lateStores }, { on := 6, ground := Ground.textOnly Departure.lateStores }, { on := 7, ground := Ground.textOnly Departure.lateStores }], guard := none }, { dst := some 7, op := Op.assign (Operand.tmp 107), type := 4, pos := "law.go:96", after := #[{ on := 7, ground := Ground.data }, { on := 8, ground := Ground.chain }, { on := 0, ground := Ground.phase }, { on := 1, ground := Ground.phase }, { on := 2, ground := Ground.phase }, { on := 3, ground := Ground.phase }, { on := 4, ground := Ground.phase }, { on := 5, ground := Ground.phase }, { on := 6, ground := Ground.phase }, { on := 7, ground := Ground.phase }, { on := 8, ground := Ground.phase }], guard := none }]) rfl rfl (by kernel_rfl) ?_
        go_wp2_with fail
        have HT := Lib.hid (HD.out.fin N HLEN.out _ rfl)
        revert HT
        generalize World.drew _ = w9
        intro HT
        obtain ⟨u, st9, rs9, ch9⟩ := HT.out
        have g0 := (cell_of_row _ _ 0 _ _ (0, 0) u).trans rfl
        have g1 := (cell_of_row _ _ 1 _ _ (0, 0) u).trans rfl
        have g2 := (cell_of_row _ _ 2 _ _ (0, 0) u).trans rfl
        have g3 := (cell_of_row _ _ 3 _ _ (0, 0) u).trans rfl
        have g4 := (cell_of_row _ _ 4 _ _ (0, 0) u).trans rfl
        refine bodyPost_ret (v := .tuple #[.agg #[.slice A5 N c5, .int .i64 (wm.2.1.steps : Int), .int .i64 l5, .bool wm.2.1.ia, .bool wm.2.1.gone], .bool true]) (by simp [results, Try.results14, go_sem, g0, g1, g2, g3, g4]) rfl ?_
        rw [← HWM.out]
        refine ⟨F3, X5, A5, c5, l5, ?_, st9, rs9, HD.out.lf, HD.out.xf, fun k e => ?_, ch9⟩
        · unfold rsV
          rw [HLEN.out]
        · rcases HD.out.x0 k e with e2 | e2
          · exact .inl e2
          · right; have := HZ.out; omega
end Go.Proofs.Ythmebgpleegonaa
