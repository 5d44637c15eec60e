/- SPurge: put together. -/
import Derived.Test.YtejpjbmbcdgomaaPd08
import Derived.Test.YtejpjbmbcdgomaaPd09
import Derived.Test.YtejpjbmbcdgomaaPc16
/- Purge: dead cells are taken away. Written by gen_spurge.py. -/
namespace Go.Proofs.Ytejpjbmbcdgomaa
set_option maxRecDepth 100000
open Go.RowKit

def dropE (ts : Tb) (e : En) : Tb := if e.x.c.dead then ts.upd e.t (del e.x.k (ts e.t)) else ts
def dropsE (ts : Tb) (E : List En) : Tb := E.foldl dropE ts
def purT (ts : Tb) : Tb := fun i => (ts i).filter fun x => !x.c.dead
def hitE (i : Nat) (x : Ix) (e : En) : Bool := e.x.c.dead && (decide (e.t = i) && decide (e.x.k = x.k))
theorem dropE_at (ts : Tb) (e : En) (i : Nat) : dropE ts e i = (ts i).filter fun x => !hitE i x e := by
  unfold dropE
  cases hd : e.x.c.dead with
  | false =>
    rw [if_neg (by decide)]
    exact (List.filter_eq_self.2 fun x _ => by simp [hitE, hd]).symm
  | true =>
    rw [if_pos rfl]
    by_cases h : i = e.t
    · subst h
      rw [Tb.upd_same]
      unfold del
      refine List.filter_congr fun x _ => ?_
      unfold hitE
      rw [hd]
      by_cases h9 : x.k = e.x.k
      · simp [h9]
      · have : ¬ e.x.k = x.k := fun c => h9 c.symm
        simp [h9, this]
    · rw [Tb.upd_other _ _ h]
      have : ¬ e.t = i := fun c => h c.symm
      exact (List.filter_eq_self.2 fun x _ => by simp [hitE, this]).symm
theorem dropsE_at : ∀ (E : List En) (ts : Tb) (i : Nat), dropsE ts E i = (ts i).filter fun x => !E.any (hitE i x)
  | [], ts, i => (List.filter_eq_self.2 fun x _ => by simp).symm
  | e :: E, ts, i => by
    have h : dropsE ts (e :: E) i = dropsE (dropE ts e) E i := rfl
    rw [h, dropsE_at E, dropE_at, List.filter_filter]
    refine List.filter_congr fun x _ => ?_
    rw [List.any_cons]
    cases hitE i x e <;> simp
theorem dropsE_len (E : List En) (ts : Tb) (i : Nat) : (dropsE ts E i).length ≤ (ts i).length := by
  rw [dropsE_at]; exact List.length_filter_le _ _
theorem dropsE_snoc (E : List En) (ts : Tb) (e : En) : dropsE ts (E ++ [e]) = dropE (dropsE ts E) e := by
  unfold dropsE
  rw [List.foldl_append]
  rfl
/-- Entries of other tables leave a table. -/
theorem dropsE_other {E : List En} {i : Nat} (h : ∀ e ∈ E, e.t ≠ i) (ts : Tb) : dropsE ts E i = ts i := by
  rw [dropsE_at]
  exact List.filter_eq_self.2 fun x _ => by
    rw [Bool.not_eq_true', List.any_eq_false]
    intro e he
    simp [hitE, h e he]
theorem mem_ents {ts : Tb} {i : Nat} (hi : i < 4) {x : Ix} (hx : x ∈ ts i) : (⟨i, x⟩ : En) ∈ ents ts := by
  rw [ents_cut ts hi, List.mem_append, List.mem_append]
  exact .inr (.inl (List.mem_map.2 ⟨x, hx, rfl⟩))
theorem up_uniq {l : List Ix} (h : Up l) {x y : Ix} (hx : x ∈ l) (hy : y ∈ l) (hk : x.k = y.k) : x = y := by
  induction l with
  | nil => cases hx
  | cons z l ih =>
    obtain ⟨h1, h2⟩ := List.pairwise_cons.1 h
    rcases List.mem_cons.1 hx with ex | hx2
    · rcases List.mem_cons.1 hy with ey | hy2
      · rw [ex, ey]
      · have := h1 y hy2; rw [← ex] at this; omega
    · rcases List.mem_cons.1 hy with ey | hy2
      · have := h1 x hx2; rw [← ey] at this; omega
      · exact ih h2 hx2 hy2
theorem dropsE_all {ts : Tb} (hu : ∀ i, i < 4 → Up (ts i)) : ∀ i, i < 4 → dropsE ts (ents ts) i = purT ts i := fun i hi => by
  rw [dropsE_at]
  unfold purT
  refine List.filter_congr fun x hx => ?_
  cases hd : x.c.dead with
  | true =>
    have : (ents ts).any (hitE i x) = true := List.any_eq_true.2 ⟨⟨i, x⟩, mem_ents hi hx, by simp [hitE, hd]⟩
    rw [this]
  | false =>
    have : (ents ts).any (hitE i x) = false := by
      rw [List.any_eq_false]
      intro e he h9
      unfold hitE at h9
      simp only [Bool.and_eq_true, decide_eq_true_eq] at h9
      obtain ⟨h1, h2, h3⟩ := h9
      obtain ⟨_, _, h4⟩ := mem_allE he
      rw [h2] at h4
      have := up_uniq (hu i hi) h4 hx h3
      rw [this, hd] at h1
      cases h1
    rw [this]
theorem purT_live (ts : Tb) : liveT (purT ts) = liveT ts := by
  unfold liveT liveL purT
  simp only [List.countP_filter, Bool.and_self]
theorem purT_up {ts : Tb} (hu : ∀ i, i < 4 → Up (ts i)) : ∀ i, i < 4 → Up (purT ts i) := fun i hi => (hu i hi).filter _
theorem purT_len (ts : Tb) (i : Nat) : (purT ts i).length ≤ (ts i).length := List.length_filter_le _ _
theorem NumT.pur {ts : Tb} (h : NumT ts) : NumT (purT ts) := fun i hi x hx => h i hi x (List.mem_filter.1 hx).1
/-- Between two rounds. -/
structure PGI (w : World) (G0 : Nat → Prop) (p sb : Nat) (ts : Tb) (live last : Int) (O : Nat → Prop) (W : World) : Prop where
  low : ∀ q, O q → w.heap.size ≤ q
  ex : ∃ G, SM W G sb ts live last ∧ (∀ q, O q → ¬ G q) ∧ Cg w W G0 G ∧ ¬ G p
  box : W.heap[p]? = some (.cells #[.pointer (some ⟨sb, 0, none⟩)] 27 (0, 0)) ∧ ¬ O p ∧ w.heap.size ≤ p
theorem PGI.st (w : World) (G0 : Nat → Prop) (p sb : Nat) (ts : Tb) (live last : Int) : St2 (PGI w G0 p sb ts live last) := by
  intro O O' W W' ⟨h1, ⟨G, h2, h3, h4, h5⟩, h6, h7, h8⟩ hC hG
  have hp := (Array.getElem?_eq_some_iff.1 h6).1
  refine ⟨fun q e => ?_, ⟨G, h2.keep fun q e => hC.block q (h2.lt e) (fun c => h3 q c e), fun q e c => ?_, ⟨⟨hC.os.trans h4.ch.os, hC.tape.trans h4.ch.tape, hC.output.trans h4.ch.output, Nat.le_trans h4.ch.size hC.size, fun q hq hn => (hC.block q (Nat.lt_of_lt_of_le hq h4.ch.size) (fun c => by have := h1 q c; omega)).trans (h4.ch.block q hq hn)⟩, h4.fr⟩, h5⟩, (hC.block p hp h7).trans h6, fun e => ?_, h8⟩
  · rcases hG.2 q e with e | e
    · exact h1 q e
    · have := h4.ch.size; omega
  · rcases hG.2 q e with e | e
    · exact h3 q e c
    · have := h2.lt c; omega
  · rcases hG.2 p e with e | e
    · exact h7 e
    · omega
section
variable {w W W1 : World} {G0 : Nat → Prop} {p sb y : Nat} {ts : Tb} {live last : Int} {O O' : Nat → Prop}
theorem PGI.mono (h : PGI w G0 p sb ts live last O W) (hs : ∀ q, O' q → O q) : PGI w G0 p sb ts live last O' W := by
  obtain ⟨h1, ⟨G, h2, h3, h4, h5⟩, h6, h7, h8⟩ := h
  exact ⟨fun q e => h1 q (hs q e), ⟨G, h2, fun q e => h3 q (hs q e), h4, h5⟩, h6, fun e => h7 (hs p e), h8⟩
theorem PGI.grow (h : PGI w G0 p sb ts live last O W) (hb : Below W.heap.size W W1) (hz : W.heap.size ≤ y) (hz1 : y < W1.heap.size) : PGI w G0 p sb ts live last (fun q => O q ∨ q = y) W1 :=
  PGI.st w G0 p sb ts live last O _ W W1 h (Ch.of_below hb _) ⟨fun q e => .inl e, fun q e => e.imp id fun e => by subst e; exact ⟨hz, hz1⟩⟩
end
set_option maxHeartbeats 16000000 in
theorem spurge_any {w : World} {G : Nat → Prop} {sb : Nat} {ts : Tb} {live last : Int} (hM : SM w G sb ts live last) (hN : ∀ i, i < 4 → (ts i).length ≤ 100000) (hnum : ∀ i, i < 4 → NumL (ts i)) :
    Calls Try.prog 48 #[.pointer (some ⟨sb, 0, none⟩)] w fun e w' => e = .returned (.tuple #[]) ∧ ∃ G', SM w' G' sb (purT ts) live last ∧ Cg w w' G G' := by
  refine (callsIn_wide (n := 11)).1 ?_
  have HH := Lib.hid (fun (W : World) (b1 b2 : Nat) (O0 : Nat → Prop) hf hs h1 h2 => entries_hands (w := W) (sb := sb) (b1 := b1) (b2 := b2) (t := 0) (k := -9223372036854775808) (ts := ts) (O0 := O0) hf hs h1 h2 hN)
  have hE0 : fromE 0 (-9223372036854775808) ts = ents ts := fromE_all hnum
  rw [hE0] at HH
  have HOF : Hid (∀ i, i < 4 → offE (partF 0 (-9223372036854775808) ts) (i0F 0) i = (allE ts 0 i).length) := Lib.hid fun i hi => by
    show (allE (partF 0 (-9223372036854775808) ts) 0 (i - 0)).length = _
    rw [Nat.sub_zero]
    congr 1
    refine allE_congr fun j _ hj => ?_
    unfold partF
    have : (if (j : Int) = 0 then (-9223372036854775808 : Int) else loI) = loI := by split <;> rfl
    rw [this, rng_full (hnum j (by omega))]
  obtain ⟨E, hE⟩ : ∃ E, E = ents ts := ⟨_, rfl⟩
  rw [← hE] at HH
  have HEN := Lib.hid hE
  have HIN := Lib.hid (And.intro hM (And.intro hN hM.up))
  clear hM hN hE hE0 hnum
  refine callsIn_of_wp_marks Try.func48 rfl trivial ?_ rfl
  simp only [Try.ntmps48, List.size_toArray, List.length_cons, List.length_nil, Nat.reduceAdd, Nat.reduceSub, Array.replicate_succ, Array.replicate_zero, List.push_toArray, List.append_toArray, List.nil_append, List.cons_append]
  obtain ⟨p, hp⟩ : ∃ p, p = w.heap.size := ⟨_, rfl⟩
  obtain ⟨W1, hW1⟩ : ∃ W1, W1 = w.alloc (.cells #[.pointer (some ⟨sb, 0, none⟩)] 27) := ⟨_, rfl⟩
  have hb1 : Below w.heap.size w W1 := by rw [hW1]; exact (Below.refl _ _).alloc (Nat.le_refl _) _
  have hx1 : W1.heap[p]? = some (.cells #[.pointer (some ⟨sb, 0, none⟩)] 27 (0, 0)) := by rw [hW1, hp]; exact heap_alloc_new w _
  have HF1 : Hid (PGI w G p sb (dropsE ts (E.take 0)) live last (fun _ => False) W1) := Lib.hid ⟨fun q e => e.elim, ⟨G, HIN.out.1.below hb1, fun q e => e.elim, Cg.of_below hb1 G, fun e => by have := HIN.out.1.lt e; omega⟩, hx1, id, by omega⟩
  have HS1 : Hid (∀ W2, Below W1.drew.heap.size W1.drew W2 → W2.cell? ⟨p, 0, none⟩ = some (.pointer (some ⟨sb, 0, none⟩))) := Lib.hid fun W2 hw => by
    have hw3 : Below W1.heap.size W1 W2 := (Below.refl _ _).drew.trans hw
    rw [cell_of_row _ _ 0 _ _ _ ((hw3.block p (Array.getElem?_eq_some_iff.1 hx1).1).trans hx1)]; rfl
  have HW := Lib.hid hW1
  have HP := Lib.hid hp
  clear hW1 hb1 hx1 hp
  gi_upto_region 1 with (fail)
  rw [← HW.out, ← HP.out]
  refine wpIn_wide.2 ?_
  refine wp_region_noPanic ?_
  refine wp_region_abs 2 19 [
    .is (.pointer (some ⟨sb, 0, none⟩)),
    .is (.agg #[.int .i64 0, .int .i64 (-9223372036854775808)])]
    [3, 4]
    [[], []] (by kernel_rfl) (by rfl) rfl rfl (by kernel_rfl) (fun _ _ _ _ h => h.elim) ?_ ?_
  · refine ⟨?_, ?_, trivial⟩
    · intro W2 hw K hK
      have s1 := HS1.out W2 hw
      go_simp
      exact hK _ _ rfl (Below.refl _ _)
    · intro W2 hw K hK
      go_simp
      refine Calls.mono (first_any W2) ?_
      rintro e9 w9 ⟨rfl, hb9⟩
      exact hK _ _ rfl hb9
  · intro w2 hw2
    simp only [Behind]
    have HB2 := Lib.hid ((Below.refl _ W1).drew.trans hw2)
    clear hw2
    simp only [List.drop, Act.put, List.setIfInBounds_toArray, List.set_cons_zero, List.set_cons_succ]
    go_wp2_with fail
    refine Calls.mono entries_any ?_
    rintro e w3 ⟨rfl, hk3, hs3, hb3, hz3⟩
    obtain ⟨b1, hb1⟩ : ∃ b1, b1 = w2.heap.size + 1 := ⟨_, rfl⟩
    obtain ⟨b2, hb2'⟩ : ∃ b2, b2 = w2.heap.size := ⟨_, rfl⟩
    rw [← hb1] at hk3
    rw [← hb2'] at hs3
    have hP3 : PGI w G p sb (dropsE ts (E.take 0)) live last (fun q => q = b1 ∨ q = b2) w3 := by
      refine PGI.st w G p sb _ live last _ _ W1 w3 HF1.out (Ch.of_below (HB2.out.trans (hb3.mono HB2.out.size)) _) ⟨fun q e => e.elim, fun q e => .inr ?_⟩
      have := HB2.out.size
      omega
    have HP3 := Lib.hid hP3
    have HHH := Lib.hid (HH.out w3 b1 b2 (fun q => q = b1 ∨ q = b2) hk3 hs3 (.inl rfl) (.inr rfl))
    have HLT3 : Hid (b1 < w3.heap.size ∧ b2 < w3.heap.size) := Lib.hid (by omega)
    clear hP3 hk3 hs3 hb3 hz3 HH
    go_wp2_with fail
    rw [← hb1, ← hb2']
    clear hb1 hb2'
    refine NoPanic.normal ?_
    gi_wp2_with (fail)
    refine wp_range2 (w0 := w3) (O0 := fun q => q = b1 ∨ q = b2) (O := fun q => q = b1 ∨ q = b2) (N := E.length) (enc := encE E) (gf := 89) (lb := #[.pointer (some ⟨b1, 0, none⟩), .pointer (some ⟨b2, 0, none⟩)]) rfl (enters_of Try.func89 (by kernel_rfl) rfl) HHH.out (Kps.refl _ _) (fun _ => rfl)
      (fun k O W => PGI w G p sb (dropsE ts (E.take k)) live last O W) (fun _ _ _ _ => False) (fun k => PGI.st _ _ _ _ _ _ _) (fun _ _ _ _ _ _ h => h.elim) ?req HP3.out (fun _ h => h) (fun q e => by have := HLT3.out; rcases e with rfl | rfl <;> omega) ?round ?done ?stop
    case stop =>
      intro D k c O1 W _ h
      exact h.elim
    case req =>
      intro k O W hk h i _ hi4 hoff
      rw [HOF.out i hi4] at hoff
      obtain ⟨G', h2, _⟩ := h.ex
      have h9 := h2.tab hi4
      have h8 : E.take k = allE ts 0 i := by
        rw [HEN.out]
        unfold ents
        have e : 4 = i + (4 - i) := by omega
        rw [e, allE_add, ← hoff]
        exact List.take_left' rfl
      rw [h8, dropsE_other (fun e he => by have := (mem_allE he).2.1; omega)] at h9
      exact h9
    case round =>
      intro l2 lp k ob Oq Wq hk hI hsub2 hlt2 hlp hlpg K hK
      obtain ⟨e, he⟩ : ∃ e, e = E[k] := ⟨_, rfl⟩
      have heo : E[k]? = some e := by rw [he]; exact List.getElem?_eq_getElem hk
      have hem : e ∈ E := by rw [he]; exact List.getElem_mem hk
      have htk : E.take (k + 1) = E.take k ++ [e] := by rw [he]; exact (List.take_append_getElem hk).symm
      rw [encE_at heo]
      have hbm : Below Wq.heap.size Wq (Wq.alloc (.cells #[.int .i64 (e.t : Int), .int .i64 e.x.k, .int .i64 e.x.c.v, .int .i64 e.x.c.s, .bool e.x.c.dead] 112)) := (Below.refl _ _).alloc (Nat.le_refl _) _
      have HBM := Lib.hid hbm
      have HQ := Lib.hid (And.intro hI (And.intro hlp (And.intro hlt2 hk)))
      have HTK := Lib.hid htk
      have HI4 : Hid (e.t < 4) := Lib.hid (by rw [HEN.out] at hem; have := (mem_allE hem).2.1; omega)
      clear hI hsub2 hlt2 hlp hlpg hk he heo hbm htk hem
      simp only [List.zip_toArray, List.zip_cons_cons, List.zip_nil_right, List.foldl_toArray, List.foldl_cons, List.foldl_nil, List.setIfInBounds_toArray, List.set_cons_succ, List.set_cons_zero]
      gi_wp2_with (rw [Oper.semAt_eq _ _ _ (fun c h => by cases h)]; go_simp)
      refine hK _ _ HBM.out ?_
      clear hK K
      obtain ⟨hI, hlp, hlt2, hk⟩ := HQ.out
      obtain ⟨y, hy⟩ : ∃ y, y = Wq.heap.size := ⟨_, rfl⟩
      obtain ⟨Wm, hWm⟩ : ∃ Wm, Wm = Wq.alloc (.cells #[.int .i64 (e.t : Int), .int .i64 e.x.k, .int .i64 e.x.c.v, .int .i64 e.x.c.s, .bool e.x.c.dead] 112) := ⟨_, rfl⟩
      have hbm := HBM.out
      have hzm : Wm.heap[Wq.heap.size]? = some (.cells #[.int .i64 (e.t : Int), .int .i64 e.x.k, .int .i64 e.x.c.v, .int .i64 e.x.c.s, .bool e.x.c.dead] 112 (0, 0)) := by rw [hWm]; exact heap_alloc_new Wq _
      rw [← hWm] at hbm ⊢
      rw [← hy] at hzm ⊢
      have hzl := (Array.getElem?_eq_some_iff.1 hzm).1
      have hne : y ≠ lp := by have := hlt2 lp hlp; omega
      have hP := (PGI.st w G p sb (dropsE ts (E.take k)) live last).put ob (hI.grow hbm (Nat.le_of_eq hy.symm) hzl) (.inl hlp)
      have hzb := (World.putObj_heap_other (w := Wm) (o := ob) hne).trans hzm
      have hszb : (Wm.putObj lp ob).heap.size = Wm.heap.size := World.putObj_size
      obtain ⟨W0, hW0⟩ : ∃ W0, W0 = Wm.putObj lp ob := ⟨_, rfl⟩
      rw [← hW0] at hP hzb hszb ⊢
      have hlt0 : ∀ q, (Oq q ∨ q = y) → q < W0.heap.size := fun q c => by
        rw [hszb]
        rcases c with c | c
        · exact Nat.lt_of_lt_of_le (hlt2 q c) hbm.size
        · rw [c]; exact hzl
      obtain ⟨O2, hO2⟩ : ∃ O2 : Nat → Prop, O2 = fun q => Oq q ∨ q = y := ⟨_, rfl⟩
      have HSB : Hid (∀ q, Oq q → O2 q) := Lib.hid (by rw [hO2]; exact fun q hq => .inl hq)
      have HL0 : Hid (∀ q, O2 q → q < W0.heap.size) := Lib.hid (by rw [hO2]; exact hlt0)
      rw [← hO2] at hP
      have HP0 := Lib.hid hP
      obtain ⟨vd, hvd⟩ : ∃ vd, vd = e.x.c.dead := ⟨_, rfl⟩
      rw [← hvd] at hzb
      have HZB := Lib.hid hzb
      have z4 : W0.cell? ⟨y, 4, none⟩ = some (.bool vd) := by rw [cell_of_row _ _ 4 _ _ _ hzb]; rfl
      have HVD := Lib.hid hvd
      clear hI hlp hlt2 hk hy hWm hbm hzm hzl hne hP hszb hW0 hlt0 hzb hvd hO2
      cases vd with
      | false =>
        have HNX : Hid (PGI w G p sb (dropsE ts (E.take (k + 1))) live last O2 W0) := Lib.hid (by
          rw [HTK.out, dropsE_snoc]
          unfold dropE
          rw [← HVD.out, if_neg (by decide)]
          exact HP0.out)
        gi_wp2_with (rw [Oper.semAt_eq _ _ _ (fun c h => by cases h)]; go_simp)
        exact ⟨Kps.refl _ _, HNX.out.mono HSB.out⟩
      | true =>
        have HNT : Hid (dropsE ts (E.take (k + 1)) = (dropsE ts (E.take k)).upd e.t (del e.x.k (dropsE ts (E.take k) e.t))) := Lib.hid (by
          rw [HTK.out, dropsE_snoc]
          unfold dropE
          rw [← HVD.out, if_pos rfl])
        obtain ⟨G', h2, h3, h4, h5⟩ := HP0.out.ex
        obtain ⟨i, hi⟩ : ∃ i, i = e.t := ⟨_, rfl⟩
        rw [← hi] at HNT HI4 HZB
        obtain ⟨tb, F, d, hc, hT, hFG, hturn⟩ := h2.table HI4.out
        have HCE : Hid (∀ W2, Below W0.drew.heap.size W0.drew W2 → W2.cell? ⟨p, 0, none⟩ = some (.pointer (some ⟨sb, 0, none⟩)) ∧ W2.cell? ⟨y, 0, none⟩ = some (.int .i64 (i : Int)) ∧ W2.cell? ⟨y, 1, none⟩ = some (.int .i64 e.x.k) ∧ W2.cell? ⟨sb, i, none⟩ = some (.pointer (some ⟨tb, 0, none⟩))) := Lib.hid fun W2 hw => by
          have hw3 : Below W0.heap.size W0 W2 := (Below.refl _ _).drew.trans hw
          have b1 := (hw3.block p (Array.getElem?_eq_some_iff.1 HP0.out.box.1).1).trans HP0.out.box.1
          have b2 := (hw3.block y (Array.getElem?_eq_some_iff.1 HZB.out).1).trans HZB.out
          exact ⟨by rw [cell_of_row _ _ 0 _ _ _ b1]; rfl, by rw [cell_of_row _ _ 0 _ _ _ b2]; rfl, by rw [cell_of_row _ _ 1 _ _ _ b2]; rfl, (hw3.cell (p := ⟨sb, i, none⟩) (World.block_lt_of_cell? _ _ hc)).trans hc⟩
        have HDR : Hid (∀ W2, Below W0.heap.size W0 W2 → Calls Try.prog 85 #[.pointer (some ⟨tb, 0, none⟩), .int .i64 e.x.k] W2 fun e9 w9 => (∃ v9, e9 = .returned v9) ∧ Kps O2 W0 w9 ∧ PGI w G p sb (dropsE ts (E.take (k + 1))) live last O2 w9) := Lib.hid fun W2 hw => by
          refine Calls.mono (tdrop_any (hT.below hw) e.x.k (Nat.le_trans (dropsE_len _ _ _) (HIN.out.2.1 i HI4.out))) ?_
          rintro e9 w9 ⟨he9, F', d', hT9, hC9⟩
          obtain ⟨G9, hM9, hCG⟩ := hturn W2 hw w9 F' _ d' hT9 hC9
          have hkp : Kps O2 W0 w9 := ⟨Nat.le_trans hw.size hCG.ch.size, fun q hq => (hCG.ch.block q (Nat.lt_of_lt_of_le (HL0.out q hq) hw.size) (h3 q hq)).trans (hw.block q (HL0.out q hq))⟩
          have hfr : ∀ q, q < W0.heap.size → ¬ G' q → ¬ G9 q := fun q hq hn c => by
            rcases hCG.fr q c with c | c
            · exact hn c
            · have := hw.size; omega
          refine ⟨⟨_, he9⟩, hkp, HP0.out.low, ⟨G9, by rw [HNT.out]; exact hM9, fun q hq => hfr q (HL0.out q hq) (h3 q hq), ?_, hfr p (Array.getElem?_eq_some_iff.1 HP0.out.box.1).1 h5⟩, ?_, HP0.out.box.2⟩
          · exact h4.trans ((Cg.of_below hw G').trans hCG)
          · have hp := (Array.getElem?_eq_some_iff.1 HP0.out.box.1).1
            exact ((hCG.ch.block p (Nat.lt_of_lt_of_le hp hw.size) h5).trans (hw.block p hp)).trans HP0.out.box.1
        clear h2 h3 h4 h5 hc hT hFG hturn
        gi_upto_region 4 with (rw [Oper.semAt_eq _ _ _ (fun c h => by cases h)]; go_simp)
        rw [← hi]
        clear hi z4
        refine wpIn_world (R := fun W3 => Kps O2 W0 W3 ∧ PGI w G p sb (dropsE ts (E.take (k + 1))) live last O2 W3) ?_ (fun a9 w9 h9 => ?fin)
        refine roundIn_region_abs 8 19 [
          .is (.pointer (some ⟨sb, 0, none⟩)),
          .is (.pointer (some ⟨y, 0, none⟩)),
          .is (.pointer (some ⟨y, 0, none⟩)),
          .is (.int .i64 (i : Int)),
          .is (.pointer (some ⟨tb, 0, none⟩)),
          .is (.pointer (some ⟨y, 0, none⟩)),
          .is (.pointer (some ⟨y, 1, none⟩)),
          .is (.int .i64 e.x.k)]
          [10, 11, 12, 13, 14, 15, 16, 17]
          [[], [], [1], [2], [0, 3], [], [5], [6]] (by kernel_rfl) (by kernel_rfl) not_out' (by rfl) rfl rfl (by kernel_rfl) not_panic' ?_ ?_
        · refine ⟨?_, ?_, ?_, ?_, ?_, ?_, ?_, ?_, trivial⟩
          · intro W2 hw K hK
            obtain ⟨s1, z0, z1, ht⟩ := HCE.out W2 hw
            go_simp
            exact hK _ _ rfl (Below.refl _ _)
          · intro W2 hw K hK
            go_simp
            exact hK _ _ rfl (Below.refl _ _)
          · intro W2 hw K hK
            go_simp
            exact hK _ _ rfl (Below.refl _ _)
          · intro W2 hw K hK
            obtain ⟨s1, z0, z1, ht⟩ := HCE.out W2 hw
            go_simp
            exact hK _ _ rfl (Below.refl _ _)
          · intro W2 hw K hK
            obtain ⟨s1, z0, z1, ht⟩ := HCE.out W2 hw
            go_simp
            refine Calls.mono (table_at HI4.out ht) ?_
            rintro e9 w9 ⟨rfl, rfl⟩
            exact hK _ _ rfl (Below.refl _ _)
          · intro W2 hw K hK
            go_simp
            exact hK _ _ rfl (Below.refl _ _)
          · intro W2 hw K hK
            go_simp
            exact hK _ _ rfl (Below.refl _ _)
          · intro W2 hw K hK
            obtain ⟨s1, z0, z1, ht⟩ := HCE.out W2 hw
            go_simp
            exact hK _ _ rfl (Below.refl _ _)
        · intro w2 hw2
          simp only [Behind]
          have HB2 := Lib.hid ((Below.refl _ W0).drew.trans hw2)
          clear hw2
          simp only [List.drop, Act.put, List.setIfInBounds_toArray, List.set_cons_zero, List.set_cons_succ]
          go_wp2_with fail
          refine Calls.mono (HDR.out w2 HB2.out) ?_
          rintro e9 w9 ⟨⟨v9, rfl⟩, h9⟩
          have HR := Lib.hid h9
          clear h9
          go_wp2_with fail
          exact HR.out
        case fin =>
          exact ⟨h9.1.mono HSB.out, h9.2.mono HSB.out⟩
    case done =>
      rintro D O1 WD hI _ hOD _ hDge hD
      rw [List.take_length] at hI
      have HI := Lib.hid hI
      have HD := Lib.hid (And.intro hD (And.intro hOD (show w.heap.size ≤ D from hI.low D hOD)))
      clear hI hOD hDge hD
      refine leaves_marks (v := .tuple #[]) _ _ (fun d hd => ⟨D, by rw [List.mem_singleton.1 hd], HD.out.1⟩) (List.pairwise_singleton _ _) fun w1 e1 e2 e3 e4 e5 => ⟨by simp [results, Try.results48, go_sem], rfl, ?_⟩
      obtain ⟨G', h2, h3, h4, _⟩ := HI.out.ex
      have hne : ∀ q, q ≠ D → w1.heap[q]? = WD.heap[q]? := fun q hq => e5 q fun d hd c => by
        rw [List.mem_singleton.1 hd] at c
        have e6 : D = q := by simpa using c
        exact hq e6.symm
      refine ⟨G', (h2.keep fun q hq => hne q fun e => h3 D HD.out.2.1 (e ▸ hq)).congr fun i hi => ?_, ⟨⟨e2.trans h4.ch.os, e3.trans h4.ch.tape, e4.trans h4.ch.output, by rw [e1]; exact h4.ch.size, fun q hq hn => (hne q (by have := HD.out.2.2; omega)).trans (h4.ch.block q hq hn)⟩, h4.fr⟩⟩
      rw [HEN.out]
      exact (dropsE_all HIN.out.2.2 i hi).symm
end Go.Proofs.Ytejpjbmbcdgomaa
