/- What a tree tells of a range, as a row. -/
import Derived.Test.YtdbckolndaodeaaTRange
import Derived.Test.YtdbckolndaodeaaTSndL
import Derived.Sort.CutIn
import Derived.RegionIn
import Derived.BigFrameIn
import Derived.BigGuardIn
namespace Go.Proofs.Ytdbckolndaodeaa
set_option maxRecDepth 100000
open Go.RowKit

theorem wpListIn_append {F : Fence} {n : Nat} {P : Program} {w w' : World} {ops : Array Oper} {rest : List Oper} {o : Oper} {a : Act} {Q : Exit → Act → World → Prop} {v : Value} (hg : o.guard = none) (d s : Operand) (dT sT : TypeId)
    (ho : o.op = .call { callee := .builtin .append, args := #[d, s], argTypes := #[dT, sT] }) (u1 u2 : Value) (hd : a.eval d = u1) (hs : a.eval s = u2)
    (hrun : (Builtin.append_ #[dT, sT] o.type #[u1, u2]).run P w = .ok v w') (h : wpListIn F n P ops Q rest (a.put o.dst v) w') : wpListIn F n P ops Q (o :: rest) a w := by
  refine wpListIn_plain hg fun K hK' => ?_
  unfold Oper.wpIn
  refine ⟨?_, ?_⟩
  · simp [Oper.about, ho, resolve, Target.leads, Sem.run_pure]
  · rw [Oper.semAt_plain F _ _ (by rw [ho]; intro c hc'; cases hc')]
    simp [execOp, ho, resolve, invoke, builtin, hd, hs, hrun, Result.andThen]
    exact hK' _ _ h
def encR (R : List Ix) (k : Nat) (_ : Value) : Array Value := #[.int .i64 (R.getD k ⟨0, ⟨0, 0, false⟩⟩).k, .agg #[.int .i64 (R.getD k ⟨0, ⟨0, 0, false⟩⟩).c.v, .int .i64 (R.getD k ⟨0, ⟨0, 0, false⟩⟩).c.s, .bool (R.getD k ⟨0, ⟨0, 0, false⟩⟩).c.dead]]
set_option maxHeartbeats 8000000 in
theorem range_hands (cb : Nat) (A : Option Addr) (c : Nat) (O : Nat → Prop) (R : List Ix) (w : World) (hb : w.cell? ⟨cb, 0, none⟩ = some (.slice A R.length c)) (hr : Rdv w A R.length 4 (rowV Ix.vals R)) (hn : R.length ≤ 100000)
    (hn0 : ∀ k, O k → k < w.heap.size) (hB0 : O cb) (hA0 : ∀ b o, A = some ⟨b, o, none⟩ → O b) :
    Hands Try.prog 40 #[.pointer (some ⟨cb, 0, none⟩)] O R.length (encR R) (fun _ _ _ _ => True) w := by
  intro l J Jx W hW hJ hJx hY h0
  have HS := Lib.hid (fun W' (h : Keeps O W W') => (⟨(World.cell?_of_block (h.2 cb hB0)).trans ((hW.cell (p := ⟨cb, 0, none⟩) (hn0 cb hB0)).trans hb), ⟨hr.1, fun hp => by
      obtain ⟨bw, ow, e, hcell⟩ := hr.2 hp
      have hbw := hA0 bw ow e
      exact ⟨bw, ow, e, fun j u hj => (World.cell?_of_block (h.2 bw hbw)).trans ((hW.cell (p := ⟨bw, ow + j, none⟩) (hn0 bw hbw)).trans (hcell j u hj))⟩⟩⟩ :
    W'.cell? ⟨cb, 0, none⟩ = some (.slice A R.length c) ∧ Rdv W' A R.length 4 (rowV Ix.vals R)))
  obtain ⟨n, hnn⟩ : ∃ n, n = R.length := ⟨_, rfl⟩
  have HN := Lib.hid hnn
  rw [← hnn] at HS hn hY ⊢
  have HJ := Lib.hid hJ
  have HY := Lib.hid hY
  have H0 := Lib.hid h0
  have HO := Lib.hid (fun k (hk : O k) => Nat.lt_of_lt_of_le (hn0 k hk) hW.size)
  obtain ⟨x1, _⟩ := HS.out W (Keeps.refl _ _)
  clear hY hJ hJx hr hb hW h0 hnn hn0
  refine callsIn_of_wp Try.func40 rfl trivial ?_ rfl
  simp only [Try.ntmps40, List.size_toArray, List.length_cons, List.length_nil, Nat.reduceAdd, Nat.reduceSub, Array.replicate_succ, Array.replicate_zero, List.push_toArray, List.append_toArray, List.nil_append, List.cons_append]
  gi_wp2_with fail
  gi_loopw [4, 7, 8, 9, 10, 11, 12, 13, 14, 15, 16, 17, 18] (fun _ ix _ _ _ _ _ _ _ _ _ _ _ wr => ∃ k : Nat, k ≤ n ∧ ix = .int .i64 (k : Int) ∧ J k wr ∧ Keeps O W wr) (fun _ ix _ _ _ _ _ _ _ _ _ _ _ _ => n - (intOf ix).toNat)
  case atStart => exact ⟨0, Nat.zero_le _, rfl, H0.out, Keeps.refl _ _⟩
  case round =>
    obtain ⟨k, hk, rfl, hJk, hb⟩ := hrel
    have HJK := Lib.hid hJk
    have HBK := Lib.hid hb
    by_cases hlt : k < n
    · obtain ⟨y1, hrd⟩ := HS.out wr hb
      have hkl : k < R.length := by rw [← HN.out]; exact hlt
      obtain ⟨bw, ow, rfl, hcell⟩ := hrd.2 (by omega)
      obtain ⟨x, hx⟩ : ∃ x, x = R[k] := ⟨_, rfl⟩
      have key : ∀ (r : Nat) (u : Value), r < 4 → (x.vals)[r]? = some u → wr.cell? ⟨bw, ow + (k * 4 + r), none⟩ = some u := fun r u hr2 hu => hcell (k * 4 + r) u ((rowV_get Ix.vals 4 Ix.vlen R k hkl r hr2).trans (by rw [← hx]; exact hu))
      have z0 : wr.cell? ⟨bw, ow + k * 4, none⟩ = some (.int .i64 x.c.v) := key 0 _ (by omega) rfl
      have z1 : wr.cell? ⟨bw, ow + k * 4 + 1, none⟩ = some (.int .i64 x.c.s) := key 1 _ (by omega) rfl
      have z2 : wr.cell? ⟨bw, ow + k * 4 + 2, none⟩ = some (.bool x.c.dead) := key 2 _ (by omega) rfl
      have z3 : wr.cell? ⟨bw, ow + k * 4 + 3, none⟩ = some (.int .i64 x.k) := key 3 _ (by omega) rfl
      have hal : Below wr.heap.size wr (wr.alloc (.cells #[.int .i64 x.c.v, .int .i64 x.c.s, .bool x.c.dead, .int .i64 x.k] 63)) := (Below.refl _ _).alloc (Nat.le_refl _) _
      have hyR := HY.out k .nilIface _ _ hlt HJK.out (HJ.out k _ _ HJK.out hal) trivial
      have hen : encR R k .nilIface = #[.int .i64 x.k, .agg #[.int .i64 x.c.v, .int .i64 x.c.s, .bool x.c.dead]] := by
        unfold encR
        rw [List.getD_eq_getElem?_getD, List.getElem?_eq_getElem hkl, hx]
        rfl
      rw [hen] at hyR
      have hka : Keeps O wr (wr.alloc (.cells #[.int .i64 x.c.v, .int .i64 x.c.s, .bool x.c.dead, .int .i64 x.k] 63)) := Keeps.of_below hal fun q hq => Nat.lt_of_lt_of_le (HO.out q hq) HBK.out.1
      have HKA := Lib.hid hka
      have hki : (k : Int) < (n : Int) := by omega
      clear x1 hb hJk hrd hcell key hx hal hen hka
      obtain ⟨fn, tmps, assign, body, hy, hR⟩ := hyR
      gi_wp2_with fail
      refine hR.mono ?_
      rintro e W3 (⟨rfl, hJ3, hk3⟩ | ⟨rfl, hJx3⟩)
      · have HJ3 := Lib.hid hJ3
        have HB3 := Lib.hid ((HBK.out.trans HKA.out).trans hk3)
        clear hJ3 hk3
        gi_wp2_with fail
        go_roundw
        case rel => exact ⟨k + 1, by omega, by go_num, HJ3.out, HB3.out⟩
        case measure => simp [intOf]; omega
      · have HX3 := Lib.hid hJx3
        clear hJx3
        gi_wp2_with fail
        refine bodyPost_ret (results_none rfl _ _ _) rfl ?_
        exact ⟨⟨_, rfl⟩, .inr ⟨k, hlt, HX3.out⟩⟩
    · obtain rfl : k = n := by omega
      clear hb
      gi_wp2_with fail
      go_end0
      exact ⟨⟨_, rfl⟩, .inl HJK.out⟩
/-- A box whose slice is an own row of items. -/
def BagI (B : Nat) (w : World) (cb : Nat) (l : List Ix) : Prop := B ≤ cb ∧ ∃ v, w.heap[cb]? = some (.cells #[v] 27 (0, 0)) ∧ Rio w B v l
theorem BagI.later {B cb : Nat} {w w' : World} {l : List Ix} (h : BagI B w cb l) (hb : Below w.heap.size w w') : BagI B w' cb l := by
  obtain ⟨h0, v, h1, h2⟩ := h
  exact ⟨h0, v, (hb.block _ (Array.getElem?_eq_some_iff.1 h1).1).trans h1, h2.below hb⟩
theorem Rio.turn {B : Nat} {w : World} {v : Value} {l : List Ix} (h : Rio w B v l) {k : Nat} {o : Obj} (o' : Obj) (ho : w.heap[k]? = some o) (hc : o.isCells = false) : Rio (w.putObj k o') B v l := own_same h fun q hq => by
  obtain ⟨_, e⟩ := own_at h hq
  exact World.putObj_heap_other (fun e2 => by subst e2; rw [e] at ho; cases ho; cases hc)
theorem BagI.turn {B cb : Nat} {w : World} {l : List Ix} (h : BagI B w cb l) {k : Nat} {o : Obj} (o' : Obj) (ho : w.heap[k]? = some o) (hc : o.isCells = false) : BagI B (w.putObj k o') cb l := by
  obtain ⟨h0, v, h1, h2⟩ := h
  exact ⟨h0, v, (World.putObj_heap_other (fun e => by subst e; rw [h1] at ho; cases ho; cases hc)).trans h1, h2.turn o' ho hc⟩
theorem BagI.put {B cb n : Nat} {w w1 : World} {v v' : Value} {l : List Ix} (h0 : B ≤ cb) (h1 : w.heap[cb]? = some (.cells #[v] 27 (0, 0))) (h2 : w.ownsRow B 65 4 v n (rowV RI l)) {x : Ix} (hn : l.length = n) (ho : w1.ownsRow B 65 4 v' (n + 1) (rowV RI l ++ RI x)) (hg : w.grownBy w1 v.ownBlock) (hq : ∀ q, v'.ownBlock = some q → v.ownBlock = some q ∨ w.heap.size ≤ q) (_ : B ≤ w.heap.size) :
    (BagI B (w1.setCell ⟨cb, 0, none⟩ v') cb (l ++ [x]) ∧ Below B w (w1.setCell ⟨cb, 0, none⟩ v')) ∧ w1.cell? ⟨cb, 0, none⟩ = some v ∧ w1.frozen? ⟨cb, 0, none⟩ = false := by
  have hcb := (Array.getElem?_eq_some_iff.1 h1).1
  have hne : v.ownBlock ≠ some cb := fun e => by
    obtain ⟨_, e2⟩ := own_at h2 e
    rw [h1] at e2
    injection e2 with e2
    injection e2 with _ e3
    exact absurd e3 (by decide)
  have h3 : w1.heap[cb]? = some (.cells #[v] 27 (0, 0)) := (hg.block _ hcb (fun e => hne e.symm)).trans h1
  have hne2 : ∀ q, v'.ownBlock = some q → q ≠ cb := fun q e e2 => by
    subst e2
    rcases hq _ e with e | e
    · exact hne e
    · omega
  refine ⟨⟨⟨h0, v', (heap_set w1 cb 0 v' h3).trans rfl, ?_⟩, ?_⟩, cell_of_row _ _ 0 _ _ _ h3, frozen_of h3 0⟩
  · show World.ownsRow _ _ _ _ _ (l ++ [x]).length _
    rw [List.length_append, hn, rowV_append]
    exact own_same (by simpa [rowV] using ho) fun q e => heap_ne _ _ _ _ (hne2 q e)
  · refine ⟨hg.os, hg.tape, hg.output, by rw [World.size_setCell]; exact hg.size, fun k hk => ?_⟩
    rw [heap_ne _ _ _ _ (by omega)]
    exact hg.block k (by omega) fun e => by have := own_ge h2 e.symm; omega
theorem keepsOthers_setCell {W : World} {p : Addr} {v : Value} : KeepsOthers W (W.setCell p v) := KeepsOthers.setCell _ _ _
set_option maxHeartbeats 8000000 in
theorem list_in {w : World} {p : Value} {R : List Ix} {lo hi : Int} (hRl : R.length ≤ 99999)
    (h : ∀ W1, Below w.heap.size w W1 → Calls Try.prog 28 #[p, .int .i64 lo, .int .i64 hi] W1 fun e w' => e = .returned (.func (.func 40) #[] #[.pointer (some ⟨W1.heap.size, 0, none⟩)]) ∧ BagR W1.heap.size w' W1.heap.size R ∧ Below W1.heap.size W1 w') :
    CallsIn Fence.wide 11 Try.prog 16 #[p, .int .i64 lo, .int .i64 hi] w fun e w' => ∃ v, e = .returned v ∧ Rio w' w.heap.size v R ∧ Below w.heap.size w w' := by
  have HRL := Lib.hid hRl
  obtain ⟨W1, hW1⟩ : ∃ W1, W1 = (w.alloc (.cells #[] 65)).alloc (.cells #[.slice (some ⟨w.heap.size, 0, none⟩) 0 0] 27) := ⟨_, rfl⟩
  have hb0 : Below w.heap.size w (w.alloc (.cells #[] 65)) := (Below.refl _ _).alloc (Nat.le_refl _) _
  have hb1 : Below w.heap.size w W1 := by rw [hW1]; exact hb0.alloc hb0.size _
  have hbag : BagI w.heap.size W1 (w.heap.size + 1) [] := by
    have e1 : (w.alloc (.cells #[] 65)).heap.size = w.heap.size + 1 := by simp
    have e2 : W1.heap[w.heap.size + 1]? = some (.cells #[.slice (some ⟨w.heap.size, 0, none⟩) 0 0] 27 (0, 0)) := by
      have := heap_alloc_new (w.alloc (.cells #[] 65)) (.cells #[.slice (some ⟨w.heap.size, 0, none⟩) 0 0] 27)
      rw [e1, ← hW1] at this
      exact this
    have e4 : Below (w.alloc (.cells #[] 65)).heap.size (w.alloc (.cells #[] 65)) W1 := by rw [hW1]; exact (Below.refl _ _).alloc (Nat.le_refl _) _
    exact ⟨Nat.le_succ _, _, e2, Rio.below (own_empty w w.heap.size _ _ _ rfl (Nat.le_refl _)) e4⟩
  have HB1 := Lib.hid hb1
  have HBG := Lib.hid hbag
  have HW1 := Lib.hid hW1
  have HRG := Lib.hid (h W1 hb1)
  clear hRl h hb0 hb1 hbag hW1
  refine callsIn_of_wp_marks Try.func16 rfl trivial ?_ rfl
  simp only [Try.ntmps16, List.size_toArray, List.length_cons, List.length_nil, Nat.reduceAdd, Nat.reduceSub, Array.replicate_succ, Array.replicate_zero, List.push_toArray, List.append_toArray, List.nil_append, List.cons_append]
  gi_upto_region 2 with (fail)
  rw [← HW1.out]
  clear HW1
  gi_wp2_with fail
  refine ⟨trivial, ?_⟩
  refine (callsIn_wide.2 HRG.out).mono ?_
  rintro e w2 ⟨rfl, ⟨_, v, hcell, hown⟩, hb2⟩
  obtain ⟨A, c, hv, hrd, _, _⟩ := rdv_own hown
  have HB2 := Lib.hid hb2
  have HB12 := Lib.hid (HB1.out.trans (hb2.mono HB1.out.size))
  have HBG2 := Lib.hid (HBG.out.later hb2)
  obtain ⟨cr, hcr⟩ : ∃ cr, cr = W1.heap.size := ⟨_, rfl⟩
  rw [← hcr] at hcell hown ⊢
  obtain ⟨O, hO⟩ : ∃ O : Nat → Prop, O = fun q => q = cr ∨ v.ownBlock = some q := ⟨_, rfl⟩
  have hOt : ∀ q, O q → q < w2.heap.size ∧ ∃ cs t m, w2.heap[q]? = some (.cells cs t m) ∧ t ≠ 65 ∧ t ≠ 27 := fun q hq => by
    rw [hO] at hq
    rcases hq with e | e
    · rw [e]; exact ⟨(Array.getElem?_eq_some_iff.1 hcell).1, _, _, _, hcell, by decide, by decide⟩
    · obtain ⟨cs, e2⟩ := own_at hown e
      exact ⟨(Array.getElem?_eq_some_iff.1 e2).1, _, _, _, e2, by decide, by decide⟩
  have HOT := Lib.hid hOt
  have hH : Hands Try.prog 40 #[.pointer (some ⟨cr, 0, none⟩)] O R.length (encR R) (fun _ _ _ _ => True) w2 :=
    range_hands cr A c O R w2 (by rw [cell_of_row _ _ 0 _ _ _ hcell, hv]; rfl) hrd (by have := HRL.out; omega) (fun q hq => (hOt q hq).1) (by rw [hO]; exact .inl rfl) (fun b o e => by rw [hO, hv, e]; exact .inr rfl)
  clear hcell hown hrd hv hO hcr hOt hb2 HRG
  gi_wp2_with fail
  refine wp_range_made (w0 := w2) (O := O) (N := R.length) (M := fun _ _ _ _ => True) (gf := 40) (lb := #[.pointer (some ⟨cr, 0, none⟩)]) (enc := encR R) rfl (enters_of Try.func40 (by kernel_rfl) rfl)
    hH (Below.refl _ _) (fun q hq => (HOT.out q hq).1) (fun _ _ => rfl) (fun k v z W l o o' hl h ho hc => h)
    (fun k W => BagI w.heap.size W (w.heap.size + 1) (R.take k) ∧ Below w.heap.size w W ∧ Keeps O w2 W) (fun c k W => False)
    (fun k W W' h hb => ⟨h.1.later hb, h.2.1.trans (hb.mono h.2.1.size), h.2.2.trans (Keeps.of_below hb fun q hq => Nat.lt_of_lt_of_le (HOT.out q hq).1 h.2.2.1)⟩)
    (fun k W l o o' hl h ho hc => ⟨h.1.turn o' ho hc, h.2.1.grown (grownBy_putObj' W l o') h.2.1.size (fun k e => by cases e; have := HB12.out.size; omega), h.2.2.trans (keeps_put o' (fun e => by have := (HOT.out l e).1; omega) ho)⟩)
    (fun c k W W' h hb => h) (fun c k W l o o' hl h ho hc => h)
    ⟨HBG2.out, HB12.out, Keeps.refl _ _⟩ ?round ?done ?stop
  case stop =>
    intro D k c W hk hi hD hK
    exact hi.elim
  case round =>
    intro lq lp k ob v0 W0 W hk _ hi hm hlp hob hol K hK
    obtain ⟨hbg, hbw, hkp⟩ := hi
    obtain ⟨x, hx⟩ : ∃ x, x = R[k] := ⟨_, rfl⟩
    have htk : R.take (k + 1) = R.take k ++ [x] := by rw [hx]; exact (List.take_append_getElem hk).symm
    have hen : encR R k v0 = #[.int .i64 x.k, .agg #[.int .i64 x.c.v, .int .i64 x.c.s, .bool x.c.dead]] := by
      unfold encR
      rw [List.getD_eq_getElem?_getD, List.getElem?_eq_getElem hk, hx]
      rfl
    rw [hen]
    have hbm : Below W.heap.size W (W.alloc (.cells #[.int .i64 x.c.v, .int .i64 x.c.s, .bool x.c.dead] 29)) := (Below.refl _ _).alloc (Nat.le_refl _) _
    have HBM := Lib.hid hbm
    have HTK := Lib.hid htk
    have HI := Lib.hid (And.intro hbg (And.intro hbw hkp))
    have HLP := Lib.hid (And.intro hlp (And.intro hob hol))
    clear hx htk hen hbm hbg hbw hkp hlp hob hol hm
    simp only [List.zip_toArray, List.zip_cons_cons, List.zip_nil_right, List.foldl_toArray, List.foldl_cons, List.foldl_nil, List.setIfInBounds_toArray, List.set_cons_succ, List.set_cons_zero]
    gi_wp2_with (rw [Oper.semAt_eq _ _ _ (fun c h => by cases h)]; go_simp)
    refine hK _ _ HBM.out ?_
    clear hK K
    obtain ⟨hlp, hob, o, hol, hoc⟩ := HLP.out
    obtain ⟨hbg, hbw, hkp⟩ := HI.out
    obtain ⟨z, hz⟩ : ∃ z, z = W.heap.size := ⟨_, rfl⟩
    obtain ⟨Wm, hWm⟩ : ∃ Wm, Wm = W.alloc (.cells #[.int .i64 x.c.v, .int .i64 x.c.s, .bool x.c.dead] 29) := ⟨_, rfl⟩
    have hlz : lp < W.heap.size := (Array.getElem?_eq_some_iff.1 hol).1
    have hbm := HBM.out
    have hzm : Wm.heap[W.heap.size]? = some (.cells #[.int .i64 x.c.v, .int .i64 x.c.s, .bool x.c.dead] 29 (0, 0)) := by rw [hWm]; exact heap_alloc_new W _
    rw [← hWm] at hbm ⊢
    have holm := (hbm.block _ hlz).trans hol
    have hbgb := (hbg.later hbm).turn ob holm hoc
    have hszl : w.heap.size ≤ lp := Nat.le_trans HB12.out.size hlp
    have hbwb : Below w.heap.size w (Wm.putObj lp ob) := (hbw.trans (hbm.mono hbw.size)).grown (grownBy_putObj' Wm lp ob) (hbw.trans (hbm.mono hbw.size)).size (fun k e => by cases e; exact hszl)
    have hkpb : Keeps O w2 (Wm.putObj lp ob) := (hkp.trans (Keeps.of_below hbm fun q hq => Nat.lt_of_lt_of_le (HOT.out q hq).1 hkp.1)).trans (keeps_put ob (fun e => by have := (HOT.out lp e).1; omega) holm)
    have hzb : (Wm.putObj lp ob).heap[z]? = some (.cells #[.int .i64 x.c.v, .int .i64 x.c.s, .bool x.c.dead] 29 (0, 0)) := by
      rw [hz]
      exact (World.putObj_heap_other (by omega)).trans hzm
    rw [← hz]
    obtain ⟨Wb, hWb⟩ : ∃ Wb, Wb = Wm.putObj lp ob := ⟨_, rfl⟩
    rw [← hWb] at hbgb hbwb hkpb hzb ⊢
    clear hWb hWm hbm hzm holm hlz hol hoc hob hlp hbg hbw hkp HBM HLP HI hz hszl
    have y0 : Wb.cell? ⟨z, 0, none⟩ = some (.int .i64 x.c.v) := by rw [cell_of_row _ _ 0 _ _ _ hzb]; rfl
    have y1 : Wb.cell? ⟨z, 1, none⟩ = some (.int .i64 x.c.s) := by rw [cell_of_row _ _ 1 _ _ _ hzb]; rfl
    have y2 : Wb.cell? ⟨z, 2, none⟩ = some (.bool x.c.dead) := by rw [cell_of_row _ _ 2 _ _ _ hzb]; rfl
    obtain ⟨hB, u, hu1, hu2⟩ := hbgb
    obtain ⟨A9, c9, rfl⟩ := own_form hu2
    obtain ⟨n9, hn9⟩ : ∃ n9, n9 = (R.take k).length := ⟨_, rfl⟩
    have hn9b : n9 ≤ 99999 := by
      have := HRL.out
      rw [hn9, List.length_take]
      omega
    have hu2' : Wb.ownsRow w.heap.size 65 4 (.slice A9 n9 c9) n9 (rowV RI (R.take k)) := by rw [hn9]; exact hu2
    rw [← hn9] at hu1
    have y7 : Wb.cell? ⟨w.heap.size + 1, 0, none⟩ = some (.slice A9 n9 c9) := by rw [cell_of_row _ _ 0 _ _ _ hu1]; rfl
    obtain ⟨Wc, hWc⟩ : ∃ Wc, Wc = Wb.alloc (.cells #[.int .i64 x.k, .int .i64 x.c.v, .int .i64 x.c.s, .bool x.c.dead] 65) := ⟨_, rfl⟩
    have hbc : Below Wb.heap.size Wb Wc := by rw [hWc]; exact (Below.refl _ _).alloc (Nat.le_refl _) _
    have hku : KeepsOthers Wb Wc := by rw [hWc]; exact KeepsOthers.alloc _ _
    have hrf : Rdv Wc (some ⟨Wb.heap.size, 0, none⟩) 1 4 (RI x) := by rw [hWc]; exact rdv_freshR Wb x _
    have hoc : Wc.ownsRow w.heap.size 65 4 (.slice A9 n9 c9) n9 (rowV RI (R.take k)) := own_same hu2' fun q hq => by
      obtain ⟨_, e⟩ := own_at hu2' hq
      exact hbc.block q (Array.getElem?_eq_some_iff.1 e).1
    have hsc : w.heap.size ≤ Wc.heap.size := Nat.le_trans hbwb.size hbc.size
    have hcc := (hbc.block _ (Array.getElem?_eq_some_iff.1 hu1).1).trans hu1
    obtain ⟨v', w', hrun, ho, hg, hq⟩ := append_block elemRI Wc w.heap.size 27 (.slice A9 n9 c9) n9 (rowV RI (R.take k)) hoc (some ⟨Wb.heap.size, 0, none⟩) 1 1 (RI x) hrf (ri1 x) (fun h => by cases h) (by unfold maxLen; omega) (by omega) hsc
    obtain ⟨A8, c8, rfl⟩ := own_form ho
    have hp := BagI.put hB hcc hoc hn9.symm ho hg hq hsc
    have HRUN := Lib.hid hrun
    have HP := Lib.hid (show BagI w.heap.size (w'.setCell ⟨w.heap.size + 1, 0, none⟩ (.slice A8 (n9 + 1) c8)) (w.heap.size + 1) (R.take (k + 1)) from by rw [HTK.out]; exact hp.1.1)
    have HPB := Lib.hid ((hbwb.trans (hbc.mono hbwb.size)).trans (hp.1.2.mono (Nat.le_refl _)))
    have HKO := Lib.hid ((hku.trans (KeepsOthers.of_grownBy hg fun j o e1 e2 => by
      obtain ⟨cs, e3⟩ := own_at hoc e1
      rw [e3] at e2
      cases e2
      rfl)).trans (KeepsOthers.setCell w' ⟨w.heap.size + 1, 0, none⟩ (.slice A8 (n9 + 1) c8)))
    have HKP := Lib.hid (show Keeps O Wb (w'.setCell ⟨w.heap.size + 1, 0, none⟩ (.slice A8 (n9 + 1) c8)) from ⟨by rw [World.size_setCell]; exact Nat.le_trans hbc.size hg.size, fun q hq => by
      obtain ⟨hq1, cs, t, m, hq2, hq3, hq4⟩ := HOT.out q hq
      have hqb : Wb.heap[q]? = some (.cells cs t m) := (hkpb.2 q hq).trans hq2
      have hqc : Wc.heap[q]? = some (.cells cs t m) := (hbc.block _ (Array.getElem?_eq_some_iff.1 hqb).1).trans hqb
      rw [heap_ne _ _ _ _ (fun e => by rw [e, hcc] at hqc; cases hqc; exact hq4 rfl), hg.block q (Array.getElem?_eq_some_iff.1 hqc).1 (fun e => by
        obtain ⟨cs2, e3⟩ := own_at hoc e.symm
        rw [e3] at hqc
        cases hqc
        exact hq3 rfl)]
      exact hqc.trans hqb.symm⟩)
    have HKB := Lib.hid hkpb
    obtain ⟨z7, zf⟩ := hp.2
    have HWC := Lib.hid hWc
    clear hp hrun ho hg hq hcc hsc hoc hrf hku hbc hWc hu1 hu2 hu2' hn9 hn9b hB hbwb hkpb hzb hk
    gi_wp2_with (first | (gi_at_builtin; rw [← HWC.out]; refine wpListIn_append rfl (.tmp 17) (.tmp 21) 27 27 rfl (.slice A9 n9 c9) (.slice (some ⟨Wb.heap.size, 0, none⟩) 1 1) rfl rfl HRUN.out ?_) | (rw [Oper.semAt_eq _ _ _ (fun c h => by cases h)]; go_simp))
    exact ⟨HKO.out, HKP.out, HP.out, HPB.out, HKB.out.trans HKP.out⟩
  case done =>
    intro D W hi hD hK
    obtain ⟨⟨hB, v, hv1, hv2⟩, hbw, _⟩ := hi
    rw [List.take_length] at hv2
    have y7 : W.cell? ⟨w.heap.size + 1, 0, none⟩ = some v := by rw [cell_of_row _ _ 0 _ _ _ hv1]; rfl
    have HV := Lib.hid hv2
    have HBW := Lib.hid hbw
    have HK := Lib.hid hK
    clear hv1 hv2 hbw hK hB
    gi_wp2_with fail
    refine ⟨by simp, .inl ⟨D, _, rfl, run_takeDeferred HK.out, ?_⟩⟩
    exact ⟨v, by simp [results, Try.results16, go_sem], v, rfl, Rio.turn HV.out (.deferred none) HK.out rfl, HBW.out.grown (grownBy_putObj' W D (.deferred none)) HBW.out.size (fun k e => by cases e; have := HB12.out.size; omega)⟩
theorem list_any {w0 w : World} {tb d n : Nat} {l : List Ix} (h : TN w0 w tb l d n) (hn : n ≤ 99999) (lo hi : Int) :
    Calls Try.prog 16 #[.pointer (some ⟨tb, 0, none⟩), .int .i64 lo, .int .i64 hi] w fun e w' => ∃ v, e = .returned v ∧ Rio w' w.heap.size v (rng lo hi l) ∧ Below w.heap.size w w' := by
  have hfew := h.few
  have hRl : (rng lo hi l).length ≤ l.length := List.length_filter_le _ _
  refine callsIn_wide.1 (list_in (by omega) fun W1 hb1 => ?_)
  obtain ⟨F1, hT1, _⟩ := (h.later hb1).ex
  exact trange_any hT1 (by omega) lo hi
end Go.Proofs.Ytdbckolndaodeaa
