/- foot.Join: the walk. -/
import Derived.Test.YtmicheheibkmjaaFJoin
namespace Go.Proofs.Ytmicheheibkmjaa
set_option maxRecDepth 100000
open Go.RowKit Go.Shelf

/-- It reads as a foot of 64-bit numbers; what is nil has no room. -/
structure FtG (w : World) (x : FV) (f : Ft) : Prop where
  at_ : FtAt w x f
  nil1 : x.A = none → x.c = 0
  nil2 : x.A2 = none → x.c2 = 0
  nil3 : x.A3 = none → x.c3 = 0
  fit : ∀ s ∈ f.sp, FitS s
theorem FtG.below {w w' : World} {x : FV} {f : Ft} (h : FtG w x f) (hb : Below w.heap.size w w') : FtG w' x f := ⟨h.at_.below hb, h.nil1, h.nil2, h.nil3, h.fit⟩
def FtsG (w : World) (A : Option Addr) (n : Nat) (fs : List Ft) : Prop :=
  fs.length = n ∧ (0 < n → ∃ b off, A = some ⟨b, off, none⟩ ∧ ∀ j, j < n → ∃ x : FV, FtG w x (fs.getD j noFt) ∧ w.cell? ⟨b, off + j * 3, none⟩ = some (.slice x.A x.n x.c) ∧ w.cell? ⟨b, off + j * 3 + 1, none⟩ = some (.slice x.A2 x.n2 x.c2) ∧ w.cell? ⟨b, off + j * 3 + 2, none⟩ = some (.slice x.A3 x.n3 x.c3))
theorem FtsG.below {w w' : World} {A : Option Addr} {n : Nat} {fs : List Ft} (h : FtsG w A n fs) (hb : Below w.heap.size w w') : FtsG w' A n fs :=
  ⟨h.1, fun hn => by
    obtain ⟨b, off, e, hc⟩ := h.2 hn
    refine ⟨b, off, e, fun j hj => ?_⟩
    obtain ⟨x, h1, h2, h3, h4⟩ := hc j hj
    exact ⟨x, h1.below hb, (stays_w hb _ (World.block_lt_of_cell? _ _ h2)).trans h2, (stays_w hb _ (World.block_lt_of_cell? _ _ h3)).trans h3, (stays_w hb _ (World.block_lt_of_cell? _ _ h4)).trans h4⟩⟩
/-- No foot has more than so many of each. -/
def Few (fs : List Ft) (z : Nat) : Prop := ∀ f ∈ fs, f.rs.length ≤ z ∧ f.sp.length ≤ z ∧ f.ws.length ≤ z
def rsOf (fs : List Ft) : List K := fs.flatMap Ft.rs
def spOf (fs : List Ft) : List Sp := fs.flatMap Ft.sp
def wsOf (fs : List Ft) : List K := fs.flatMap Ft.ws
theorem few_len : ∀ (fs : List Ft) (z : Nat), Few fs z → (rsOf fs).length ≤ fs.length * z ∧ (spOf fs).length ≤ fs.length * z ∧ (wsOf fs).length ≤ fs.length * z
  | [], z, _ => by simp [rsOf, spOf, wsOf]
  | f :: fs, z, h => by
    obtain ⟨h1, h2, h3⟩ := few_len fs z (fun g hg => h g (List.mem_cons_of_mem _ hg))
    obtain ⟨g1, g2, g3⟩ := h f (by simp)
    simp only [rsOf, spOf, wsOf, List.flatMap_cons, List.length_append, List.length_cons, Nat.succ_mul] at *
    omega
theorem getD_at (fs : List Ft) (q : Nat) (hq : q < fs.length) : fs.getD q noFt = fs[q] := by simp [List.getD_eq_getElem?_getD, hq]
theorem take_of (fs : List Ft) (q : Nat) (hq : q < fs.length) : rsOf (fs.take (q + 1)) = rsOf (fs.take q) ++ (fs.getD q noFt).rs ∧ spOf (fs.take (q + 1)) = spOf (fs.take q) ++ (fs.getD q noFt).sp ∧ wsOf (fs.take (q + 1)) = wsOf (fs.take q) ++ (fs.getD q noFt).ws := by
  rw [getD_at fs q hq, List.take_succ_eq_append_getElem hq]
  simp only [rsOf, spOf, wsOf, List.flatMap_append, List.flatMap_cons, List.flatMap_nil, List.append_nil, and_self]
theorem ks_one (l : List K) : ∀ u ∈ rowV K.vals l, u.oneCell' = true := by
  intro u hu
  unfold rowV at hu
  rw [List.mem_flatMap] at hu
  obtain ⟨x, _, hx⟩ := hu
  exact vals_one x u hx
theorem ss_one (l : List Sp) : ∀ u ∈ rowV Sp.vals l, u.oneCell' = true := by
  intro u hu
  unfold rowV at hu
  rw [List.mem_flatMap] at hu
  obtain ⟨x, _, hx⟩ := hu
  exact svals_one x u hx
def joinF (fs : List Ft) : Ft := ⟨insAll [] (rsOf fs), addAll [] (spOf fs), insAll [] (wsOf fs)⟩
theorem ji_start (w : World) : JI w ((w.alloc (.cells #[.slice none 0 0, .slice none 0 0, .slice none 0 0] 30)).alloc (.cells #[.slice none 0 0, .slice none 0 0, .slice none 0 0] 30)) nilS nilS nilS [] [] [] := by
  obtain ⟨h1, h2, h3⟩ := alloc2g w (.cells #[nilS, nilS, nilS] 30) (.cells #[nilS, nilS, nilS] 30)
  exact ⟨h3, h1, h2, World.ownsRow_nil _ _ _ _, World.ownsRow_nil _ _ _ _, World.ownsRow_nil _ _ _ _, fun k hk => by simp [nilS, Value.ownBlock] at hk⟩
theorem info30 : (Try.prog.info? 30).map (·.size) = some 3 := by kernel_rfl
section
variable {w W : World} {v1 v2 v3 : Value} {r1 r3 : List K} {r2 : List Sp}
theorem ji_end (h : JI w W v1 v2 v3 r1 r2 r3) : (((W.setCell ⟨w.heap.size, 0, none⟩ v1).setCell ⟨w.heap.size, 1, none⟩ v2).setCell ⟨w.heap.size, 2, none⟩ v3).heap[w.heap.size]? = some (.cells #[v1, v2, v3] 30 (0, 0)) := by
  rw [box_set (box_set (box_set h.ret 0 v1) 1 v2) 2 v3]
  rfl
theorem row_of {α : Type} {f : α → List Value} {k B e n : Nat} {W : World} {A : Option Addr} {c : Nat} {l : List α} (h : W.ownsRow B e k (.slice A n c) n (rowV f l)) (hl : l.length = n) : RowAt f k W A n l ∧ (A = none → c = 0) := by
  obtain ⟨A', c', e1, h1, h2, _⟩ := rdv_own h
  injection e1 with a1 a2 a3
  subst a1 a3
  exact ⟨⟨hl, h1⟩, h2⟩
theorem own_len {W : World} {B e k n m : Nat} {A : Option Addr} {c : Nat} {xs : List Value} (h : W.ownsRow B e k (.slice A n c) m xs) : m = n := by
  rcases h.2 with ⟨h1, h2⟩ | ⟨g, cap, cur, h1, _⟩
  · injection h1 with _ a2
    omega
  · injection h1 with _ a2
    exact a2.symm
theorem ji_done {A1 A2 A3 : Option Addr} {m1 m2 m3 c1 c2 c3 : Nat} (h : JI w W (.slice A1 m1 c1) (.slice A2 m2 c2) (.slice A3 m3 c3) r1 r2 r3) (hf : ∀ s ∈ r2, FitS s) :
    FtG (((W.setCell ⟨w.heap.size, 0, none⟩ (.slice A1 m1 c1)).setCell ⟨w.heap.size, 1, none⟩ (.slice A2 m2 c2)).setCell ⟨w.heap.size, 2, none⟩ (.slice A3 m3 c3)) ⟨A1, m1, c1, A2, m2, c2, A3, m3, c3⟩ ⟨r1, r2, r3⟩ ∧ Below w.heap.size w (((W.setCell ⟨w.heap.size, 0, none⟩ (.slice A1 m1 c1)).setCell ⟨w.heap.size, 1, none⟩ (.slice A2 m2 c2)).setCell ⟨w.heap.size, 2, none⟩ (.slice A3 m3 c3)) := by
  have o1 := own_set_box (j := 2) (u := .slice A3 m3 c3) (own_set_box (j := 1) (u := .slice A2 m2 c2) (own_set_box (j := 0) (u := .slice A1 m1 c1) h.o1 (b := w.heap.size) (by omega)) (b := w.heap.size) (by omega)) (b := w.heap.size) (by omega)
  have o2 := own_set_box (j := 2) (u := .slice A3 m3 c3) (own_set_box (j := 1) (u := .slice A2 m2 c2) (own_set_box (j := 0) (u := .slice A1 m1 c1) h.o2 (b := w.heap.size) (by omega)) (b := w.heap.size) (by omega)) (b := w.heap.size) (by omega)
  have o3 := own_set_box (j := 2) (u := .slice A3 m3 c3) (own_set_box (j := 1) (u := .slice A2 m2 c2) (own_set_box (j := 0) (u := .slice A1 m1 c1) h.o3 (b := w.heap.size) (by omega)) (b := w.heap.size) (by omega)) (b := w.heap.size) (by omega)
  have e1 := own_len o1
  have e2 := own_len o2
  have e3 := own_len o3
  rw [e1] at o1
  rw [e2] at o2
  rw [e3] at o3
  obtain ⟨a1, a2⟩ := row_of o1 e1
  obtain ⟨b1, b2⟩ := row_of o2 e2
  obtain ⟨d1, d2⟩ := row_of o3 e3
  have q1 : m1 ≤ 9223372036854775807 := by
    rcases o1.2 with ⟨_, hv⟩ | ⟨g, cap, cur, _, _, _, hv, hw, _⟩
    · omega
    · unfold maxLen at hw; omega
  have q2 : m2 ≤ 9223372036854775807 := by
    rcases o2.2 with ⟨_, hv⟩ | ⟨g, cap, cur, _, _, _, hv, hw, _⟩
    · omega
    · unfold maxLen at hw; omega
  have q3 : m3 ≤ 9223372036854775807 := by
    rcases o3.2 with ⟨_, hv⟩ | ⟨g, cap, cur, _, _, _, hv, hw, _⟩
    · omega
    · unfold maxLen at hw; omega
  refine ⟨⟨⟨a1, b1, d1, q1, q2, q3⟩, a2, b2, d2, hf⟩, ?_⟩
  exact below_grown2 (grown_trans (grown_trans (grown_trans (r := some w.heap.size) ⟨h.below.os, h.below.tape, h.below.output, h.below.size, fun k hk _ => h.below.block k hk⟩ (grown_setCell W _ _ _)) (grown_setCell _ _ _ _)) (grown_setCell _ _ _ _)) (Nat.le_refl _) (Nat.le_refl _)
end
theorem fts_fit {w : World} {A : Option Addr} {n : Nat} {fs : List Ft} (h : FtsG w A n fs) : ∀ s ∈ spOf fs, FitS s := by
  intro s hs
  unfold spOf at hs
  rw [List.mem_flatMap] at hs
  obtain ⟨f, hf, hsf⟩ := hs
  obtain ⟨i, hi, rfl⟩ := List.getElem_of_mem hf
  have hin : i < n := by rw [← h.1]; exact hi
  obtain ⟨b, off, _, hc⟩ := h.2 (by omega)
  obtain ⟨x, hx, _⟩ := hc i hin
  rw [getD_at fs i hi] at hx
  exact hx.fit s hsf
set_option maxHeartbeats 8000000 in
theorem join_any (A : Option Addr) (n c : Nat) (fs : List Ft) (w : World) (h : FtsG w A n fs) (hn : n ≤ 100) (hf : Few fs 1000) :
    Calls Try.prog 13 #[.slice A n c] w fun e w' => ∃ x : FV, e = .returned x.val ∧ FtG w' x (joinF fs) ∧ Below w.heap.size w w' := by
  have HH := Lib.hid h
  have HL := Lib.hid h.1
  have HF := Lib.hid hf
  have HJ0 := Lib.hid (ji_start w)
  clear h hf
  go_enter Try.func13, Try.ntmps13
  go_upto_region 2 with fail
  revert HJ0
  generalize World.alloc (World.alloc w _) _ = W0
  intro HJ0
  go_wp2_with fail
  go_loopw [5, 9] (fun _ i wr => ∃ (q : Nat) (v1 v2 v3 : Value), i = .int .i64 (q : Int) ∧ q ≤ n ∧ JI w wr v1 v2 v3 (rsOf (fs.take q)) (spOf (fs.take q)) (wsOf (fs.take q))) (fun _ i _ => n - (intOf i).toNat)
  case atStart => exact ⟨0, _, _, _, rfl, by omega, HJ0.out⟩
  case round =>
    obtain ⟨q, v1, v2, v3, rfl, hq, hji⟩ := hrel
    by_cases hlt : q < n
    · have hqf : q < fs.length := by rw [HL.out]; exact hlt
      obtain ⟨b, off, rfl, hc⟩ := HH.out.2 (by omega)
      obtain ⟨x, hx, x0, x1, x2⟩ := hc q hlt
      replace x0 := (stays_w hji.below _ (World.block_lt_of_cell? _ _ x0)).trans x0
      replace x1 := (stays_w hji.below _ (World.block_lt_of_cell? _ _ x1)).trans x1
      replace x2 := (stays_w hji.below _ (World.block_lt_of_cell? _ _ x2)).trans x2
      have h1lt := fun k hk => (hji.o1.lt k hk).2
      have h2lt := fun k hk => (hji.o2.lt k hk).2
      have h3lt := fun k hk => (hji.o3.lt k hk).2
      obtain ⟨t1, t2, t3⟩ := take_of fs q hqf
      have HT1 := Lib.hid t1
      have HT2 := Lib.hid t2
      have HT3 := Lib.hid t3
      have hfew := few_len (fs.take q) 1000 (fun f hf => HF.out f (List.mem_of_mem_take hf))
      have htl : (fs.take q).length ≤ q := by rw [List.length_take]; omega
      have hfq := HF.out (fs.getD q noFt) (by rw [getD_at fs q hqf]; exact List.getElem_mem hqf)
      obtain ⟨f, hfe⟩ : ∃ f, f = fs.getD q noFt := ⟨_, rfl⟩
      rw [← hfe] at hx hfq HT1 HT2 HT3
      obtain ⟨R1, hR1⟩ : ∃ R, R = rsOf (fs.take q) := ⟨_, rfl⟩
      obtain ⟨R2, hR2⟩ : ∃ R, R = spOf (fs.take q) := ⟨_, rfl⟩
      obtain ⟨R3, hR3⟩ : ∃ R, R = wsOf (fs.take q) := ⟨_, rfl⟩
      rw [← hR1] at hji HT1 hfew
      rw [← hR2] at hji HT2 hfew
      rw [← hR3] at hji HT3 hfew
      have hbx : Below wr.heap.size wr (wr.alloc (.cells #[.slice x.A x.n x.c, .slice x.A2 x.n2 x.c2, .slice x.A3 x.n3 x.c3] 30)) := (Below.refl _ wr).alloc (Nat.le_refl _) _
      have HJ := Lib.hid (hji.keep hbx)
      have HX := Lib.hid hx
      have HV := Lib.hid (And.intro h1lt (And.intro h2lt h3lt))
      have HBX := Lib.hid (show (wr.alloc (.cells #[.slice x.A x.n x.c, .slice x.A2 x.n2 x.c2, .slice x.A3 x.n3 x.c3] 30)).heap[wr.heap.size]? = some (.cells #[.slice x.A x.n x.c, .slice x.A2 x.n2 x.c2, .slice x.A3 x.n3 x.c3] 30 (0, 0)) from heap_alloc_new wr _)
      have hlow := hji.low
      have l1 := hx.at_.rs.len
      have l2 := hx.at_.sp.len
      have l3 := hx.at_.ws.len
      have hF1 : R1.length + x.n ≤ 200000 := by omega
      have hF2 : R2.length + x.n2 ≤ 200000 := by omega
      have hF3 : R3.length + x.n3 ≤ 200000 := by omega
      clear hc hbx hji hx h1lt h2lt h3lt t1 t2 t3 hfe hR1 hR2 hR3 l1 l2 l3 hfew hfq htl
      have hne : w.heap.size + 1 ≠ wr.heap.size := by omega
      go_upto_region 5 with fail
      clear x0 x1 x2
      revert HJ HBX
      generalize World.alloc wr _ = Wb
      intro HJ HBX
      have hc1 := HJ.out.c.1
      have hb1 : Wb.cell? ⟨wr.heap.size, 0, none⟩ = some (.slice x.A x.n x.c) := (cell_of_row Wb _ 0 _ 30 (0, 0) HBX.out).trans rfl
      have HR1 := Lib.hid (HX.out.below HJ.out.below).at_.rs.row
      have hl1 := HJ.out.low
      go_upto_region 6 with (at_builtin; refine wpList_append_rowv elem27 rfl (.tmp 14) (.tmp 16) rfl (w.heap.size + 2) v1 R1.length (rowV K.vals R1) rfl HJ.out.o1 x.A x.n x.c (rowV K.vals f.rs) rfl HR1.out (ks_one _) HX.out.nil1 (by unfold maxLen; omega) (by omega) hl1 ?_; intro u1 W1 ho hg hk0; obtain ⟨A1', c1', rfl, _, _, _⟩ := rdv_own ho; have hk : ∀ q, (Value.slice A1' (R1.length + x.n) c1').ownBlock = some q → v1.ownBlock = some q ∨ Wb.heap.size ≤ q := (by intro q hq; rcases hk0 with e | e; (exact .inl (e.symm.trans hq)); (right; rw [e] at hq; injection hq with hq; omega)); have HJ1 := Lib.hid (HJ.out.app1 (m := R1.length + x.n) (r1' := R1 ++ f.rs) (by rw [rowV_append]; exact ho) (by rw [List.length_append, HX.out.at_.rs.len]) hg hk); have g3 := (HJ.out.grown hg (fun k hk => (HJ.out.o1.lt k hk).1)).2.2; have hd1 : W1.cell? ⟨w.heap.size + 1, 0, none⟩ = some v1 := (cell_of_row W1 _ 0 _ 30 (0, 0) g3).trans rfl; have hf1 := frozen_box g3 0; have HBX1 := Lib.hid (show (W1.setCell ⟨w.heap.size + 1, 0, none⟩ (.slice A1' (R1.length + x.n) c1')).heap[wr.heap.size]? = some (.cells #[.slice x.A x.n x.c, .slice x.A2 x.n2 x.c2, .slice x.A3 x.n3 x.c3] 30 (0, 0)) from (Below.heap_setCell _ _ _ _ (by first | exact hne | exact hne.symm)).trans ((hg.block _ (Array.getElem?_eq_some_iff.1 HBX.out).1 (fun e => by have := HV.out.1 _ e.symm; omega)).trans HBX.out)); clear ho hg hk0 hk g3 hc1 hb1 hl1)
      clear hd1 hf1
      revert HJ1 HBX1
      generalize World.setCell W1 _ _ = Wc1
      intro HJ1 HBX1
      have hc2 := HJ1.out.c.2.1
      have hb2 : Wc1.cell? ⟨wr.heap.size, 1, none⟩ = some (.slice x.A2 x.n2 x.c2) := (cell_of_row Wc1 _ 1 _ 30 (0, 0) HBX1.out).trans rfl
      have HR2 := Lib.hid (HX.out.below HJ1.out.below).at_.sp.row
      have hl2 := HJ1.out.low
      go_upto_region 7 with (at_builtin; refine wpList_append_rowv elem28 rfl (.tmp 20) (.tmp 22) rfl (w.heap.size + 2) v2 R2.length (rowV Sp.vals R2) rfl HJ1.out.o2 x.A2 x.n2 x.c2 (rowV Sp.vals f.sp) rfl HR2.out (ss_one _) HX.out.nil2 (by unfold maxLen; omega) (by omega) hl2 ?_; intro u2 W2 ho hg hk0; obtain ⟨A2', c2', rfl, _, _, _⟩ := rdv_own ho; have hk : ∀ q, (Value.slice A2' (R2.length + x.n2) c2').ownBlock = some q → v2.ownBlock = some q ∨ Wc1.heap.size ≤ q := (by intro q hq; rcases hk0 with e | e; (exact .inl (e.symm.trans hq)); (right; rw [e] at hq; injection hq with hq; omega)); have HJ2 := Lib.hid (HJ1.out.app2 (m := R2.length + x.n2) (r2' := R2 ++ f.sp) (by rw [rowV_append]; exact ho) (by rw [List.length_append, HX.out.at_.sp.len]) hg); have g3 := (HJ1.out.grown hg (fun k hk => (HJ1.out.o2.lt k hk).1)).2.2; have hd2 : W2.cell? ⟨w.heap.size + 1, 1, none⟩ = some v2 := (cell_of_row W2 _ 1 _ 30 (0, 0) g3).trans rfl; have hf2 := frozen_box g3 1; have HBX2 := Lib.hid (show (W2.setCell ⟨w.heap.size + 1, 1, none⟩ (.slice A2' (R2.length + x.n2) c2')).heap[wr.heap.size]? = some (.cells #[.slice x.A x.n x.c, .slice x.A2 x.n2 x.c2, .slice x.A3 x.n3 x.c3] 30 (0, 0)) from (Below.heap_setCell _ _ _ _ (by first | exact hne | exact hne.symm)).trans ((hg.block _ (Array.getElem?_eq_some_iff.1 HBX1.out).1 (fun e => by have := HV.out.2.1 _ e.symm; omega)).trans HBX1.out)); clear ho hg hk0 hk g3 hc2 hb2 hl2)
      clear hd2 hf2
      revert HJ2 HBX2
      generalize World.setCell W2 _ _ = Wc2
      intro HJ2 HBX2
      have hc3 := HJ2.out.c.2.2
      have hb3 : Wc2.cell? ⟨wr.heap.size, 2, none⟩ = some (.slice x.A3 x.n3 x.c3) := (cell_of_row Wc2 _ 2 _ 30 (0, 0) HBX2.out).trans rfl
      have HR3 := Lib.hid (HX.out.below HJ2.out.below).at_.ws.row
      have hl3 := HJ2.out.low
      go_upto_region 8 with (at_builtin; refine wpList_append_rowv elem27 rfl (.tmp 26) (.tmp 28) rfl (w.heap.size + 2) v3 R3.length (rowV K.vals R3) rfl HJ2.out.o3 x.A3 x.n3 x.c3 (rowV K.vals f.ws) rfl HR3.out (ks_one _) HX.out.nil3 (by unfold maxLen; omega) (by omega) hl3 ?_; intro u3 W3 ho hg hk0; obtain ⟨A3', c3', rfl, _, _, _⟩ := rdv_own ho; have hk : ∀ q, (Value.slice A3' (R3.length + x.n3) c3').ownBlock = some q → v3.ownBlock = some q ∨ Wc2.heap.size ≤ q := (by intro q hq; rcases hk0 with e | e; (exact .inl (e.symm.trans hq)); (right; rw [e] at hq; injection hq with hq; omega)); have HJ3 := Lib.hid (HJ2.out.app3 (m := R3.length + x.n3) (r3' := R3 ++ f.ws) (by rw [rowV_append]; exact ho) (by rw [List.length_append, HX.out.at_.ws.len]) hg hk); have g3 := (HJ2.out.grown hg (fun k hk => (HJ2.out.o3.lt k hk).1)).2.2; have hd3 : W3.cell? ⟨w.heap.size + 1, 2, none⟩ = some v3 := (cell_of_row W3 _ 2 _ 30 (0, 0) g3).trans rfl; have hf3 := frozen_box g3 2; have HBX3 := Lib.hid (show (W3.setCell ⟨w.heap.size + 1, 2, none⟩ (.slice A3' (R3.length + x.n3) c3')).heap[wr.heap.size]? = some (.cells #[.slice x.A x.n x.c, .slice x.A2 x.n2 x.c2, .slice x.A3 x.n3 x.c3] 30 (0, 0)) from (Below.heap_setCell _ _ _ _ (by first | exact hne | exact hne.symm)).trans ((hg.block _ (Array.getElem?_eq_some_iff.1 HBX2.out).1 (fun e => by have := HV.out.2.2 _ e.symm; omega)).trans HBX2.out)); clear ho hg hk0 hk g3 hc3 hb3 hl3)
      clear hd3 hf3
      revert HJ3 HBX3
      generalize World.setCell W3 _ _ = Wc3
      intro HJ3 HBX3
      go_wp2_with fail
      go_roundw
      case rel =>
        refine ⟨q + 1, .slice A1' (R1.length + x.n) c1', .slice A2' (R2.length + x.n2) c2', .slice A3' (R3.length + x.n3) c3', by go_num, by omega, ?_⟩
        rw [HT1.out, HT2.out, HT3.out]
        exact HJ3.out
      case measure => simp [intOf]; omega
    · obtain rfl : q = n := by omega
      have ht : fs.take q = fs := by rw [← HL.out, List.take_length]
      rw [ht] at hji
      have hfew := few_len fs 1000 HF.out
      have hlen := HL.out
      have hlow := hji.low
      have HI1 := Lib.hid (inorder_any v1 _ _ (rsOf fs) wr hji.o1 rfl (by omega))
      have hc1 := hji.c.1
      have HJ := Lib.hid hji
      clear hji ht
      go_wp2_with fail
      refine Calls.mono HI1.out ?_
      rintro e W1 ⟨u1, rfl, m1, hm1, hle1, ho1, hg1, hk1⟩
      obtain ⟨A1', c1', rfl, _, _, _⟩ := rdv_own ho1
      have HJ1 := Lib.hid (HJ.out.app1 ho1 hm1 hg1 (fun q hq => .inl (hk1 q hq)))
      have g3 := (HJ.out.grown hg1 (fun k hk => (HJ.out.o1.lt k hk).1)).2.2
      have hd1 : W1.cell? ⟨w.heap.size + 1, 0, none⟩ = some v1 := (cell_of_row W1 _ 0 _ 30 (0, 0) g3).trans rfl
      have hf1 := frozen_box g3 0
      clear hm1 hle1 ho1 hg1 hk1 g3 hc1
      go_upto_region 10 with fail
      clear hd1 hf1
      revert HJ1
      generalize World.setCell W1 _ _ = Wc1
      intro HJ1
      have HI2 := Lib.hid (spansinorder_any v2 _ _ (spOf fs) Wc1 HJ1.out.o2 rfl (by omega) HJ1.out.low (fts_fit HH.out))
      have hc2 := HJ1.out.c.2.1
      have hlow1 := HJ1.out.low
      go_wp2_with fail
      refine Calls.mono HI2.out ?_
      rintro e W2 ⟨u2, rfl, m2, hm2, hle2, ho2, hg2, hfit2⟩
      obtain ⟨A2', c2', rfl, _, _, _⟩ := rdv_own ho2
      have HF2 := Lib.hid hfit2
      have HJ2 := Lib.hid (HJ1.out.app2 (own_low ho2 hlow1) hm2 hg2)
      have g3 := (HJ1.out.grown hg2 (fun k hk => (HJ1.out.o2.lt k hk).1)).2.2
      have hd2 : W2.cell? ⟨w.heap.size + 1, 1, none⟩ = some v2 := (cell_of_row W2 _ 1 _ 30 (0, 0) g3).trans rfl
      have hf2 := frozen_box g3 1
      clear hm2 hle2 ho2 hg2 hfit2 g3 hc2 hlow1
      go_upto_region 11 with fail
      clear hd2 hf2
      revert HJ2
      generalize World.setCell W2 _ _ = Wc2
      intro HJ2
      have HI3 := Lib.hid (inorder_any v3 _ _ (wsOf fs) Wc2 HJ2.out.o3 rfl (by omega))
      have hc3 := HJ2.out.c.2.2
      go_wp2_with fail
      refine Calls.mono HI3.out ?_
      rintro e W3 ⟨u3, rfl, m3, hm3, hle3, ho3, hg3, hk3⟩
      obtain ⟨A3', c3', rfl, _, _, _⟩ := rdv_own ho3
      have HJ3 := Lib.hid (HJ2.out.app3 ho3 hm3 hg3 (fun q hq => .inl (hk3 q hq)))
      have g3 := (HJ2.out.grown hg3 (fun k hk => (HJ2.out.o3.lt k hk).1)).2.2
      have hd3 : W3.cell? ⟨w.heap.size + 1, 2, none⟩ = some v3 := (cell_of_row W3 _ 2 _ 30 (0, 0) g3).trans rfl
      have hf3 := frozen_box g3 2
      clear hm3 hle3 ho3 hg3 hk3 g3 hc3
      go_upto_region 12 with fail
      clear hd3 hf3
      revert HJ3
      generalize World.setCell W3 _ _ = Wc3
      intro HJ3
      obtain ⟨z1, z2, z3⟩ := HJ3.out.c
      have r0 : Wc3.cell? ⟨w.heap.size, 0, none⟩ = some (.slice none 0 0) := (cell_of_row Wc3 _ 0 _ 30 (0, 0) HJ3.out.ret).trans rfl
      have r1 : Wc3.cell? ⟨w.heap.size, 1, none⟩ = some (.slice none 0 0) := (cell_of_row Wc3 _ 1 _ 30 (0, 0) HJ3.out.ret).trans rfl
      have r2 : Wc3.cell? ⟨w.heap.size, 2, none⟩ = some (.slice none 0 0) := (cell_of_row Wc3 _ 2 _ 30 (0, 0) HJ3.out.ret).trans rfl
      have f0 := frozen_box HJ3.out.ret 0
      have f1 := frozen_box HJ3.out.ret 1
      have f2 := frozen_box HJ3.out.ret 2
      have HE := Lib.hid (ji_end HJ3.out)
      have H9 := Lib.hid (ji_done HJ3.out HF2.out)
      go_wp2_with fail
      exact bodyPost_ret (v := .agg #[.slice A1' m1 c1', .slice A2' m2 c2', .slice A3' m3 c3']) (results_cell_row rfl _ _ w.heap.size 30 _ (0, 0) _ rfl HE.out Try.underlying30 rfl info30) rfl ⟨⟨A1', m1, c1', A2', m2, c2', A3', m3, c3'⟩, rfl, H9.out.1, H9.out.2⟩
end Go.Proofs.Ytmicheheibkmjaa
