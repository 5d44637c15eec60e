/- SPutM, SPut: put together. -/
import Derived.Test.YtejpjbmbcdgomaaPt22
import Derived.Test.YtejpjbmbcdgomaaPt24
import Derived.Test.YtejpjbmbcdgomaaPt18
/- A store's text. -/
namespace Go.Proofs.Ytejpjbmbcdgomaa
set_option maxRecDepth 100000
open Go.RowKit

theorem callsIn_round {l n : Nat} {P : Program} {f : FuncId} {args : Array Value} {w : World} {R : Ending → World → Prop} (h : Calls P f args w R) : CallsIn (Fence.wide.inRound l) n P f args w R :=
  ⟨trivial, fun cs hr => ((callsIn_wide (n := n)).2 h).2 cs hr⟩
def entB (e : En) : List Nat := cntN e.t ++ (cntN (foldN e.x.k) ++ (cntN (foldN e.x.c.v) ++ cntN e.x.c.s.toNat))
def putB (ts : Tb) : List Nat := cntN (liveT ts) ++ ((liveE (ents ts)).flatMap entB ++ [83])
theorem cntN_len (n : Nat) (h : n < 18446744073709551616) : (cntN n).length ≤ 10 := by
  unfold cntN preN
  have : sizeN n ≤ 10 := by
    unfold sizeN
    have := Lib.bitLen_le n 64 (Nat.le_refl _) h
    omega
  simp
  omega
/-- Numbers are numbers. -/
def CellOk (x : Ix) : Prop := Fits x.k ∧ Fits x.c.v ∧ 0 ≤ x.c.s ∧ x.c.s ≤ 9223372036854775807
def NumT (ts : Tb) : Prop := ∀ i, i < 4 → ∀ x ∈ ts i, CellOk x
theorem NumT.ents {ts : Tb} (h : NumT ts) : ∀ e ∈ ents ts, e.t < 4 ∧ CellOk e.x := fun e he => by
  unfold Go.Proofs.Ytejpjbmbcdgomaa.ents at he
  simp only [allE, tag, List.mem_append, List.mem_map, List.not_mem_nil, or_false] at he
  rcases he with ⟨x, hx, rfl⟩ | ⟨x, hx, rfl⟩ | ⟨x, hx, rfl⟩ | ⟨x, hx, rfl⟩
  · exact ⟨by show 0 < 4; omega, h 0 (by omega) x hx⟩
  · exact ⟨by show 1 < 4; omega, h 1 (by omega) x hx⟩
  · exact ⟨by show 2 < 4; omega, h 2 (by omega) x hx⟩
  · exact ⟨by show 3 < 4; omega, h 3 (by omega) x hx⟩
theorem NumT.numL {ts : Tb} (h : NumT ts) : ∀ i, i < 4 → NumL (ts i) := fun i hi x hx => (h i hi x hx).1
theorem entB_len {e : En} (ht : e.t < 4) (h : CellOk e.x) : (entB e).length ≤ 40 := by
  unfold entB
  have h1 := cntN_len e.t (by omega)
  have h2 := cntN_len (foldN e.x.k) (foldN_lt h.1)
  have h3 := cntN_len (foldN e.x.c.v) (foldN_lt h.2.1)
  have h4 := cntN_len e.x.c.s.toNat (by have := h.2.2; omega)
  simp only [List.length_append]
  omega
theorem flat_len : ∀ (l : List En), (∀ e ∈ l, e.t < 4 ∧ CellOk e.x) → (l.flatMap entB).length ≤ 40 * l.length
  | [], _ => by simp
  | e :: l, h => by
    have h1 := entB_len (h e (by simp)).1 (h e (by simp)).2
    have h2 := flat_len l fun e he => h e (by simp [he])
    simp only [List.flatMap_cons, List.length_append, List.length_cons]
    omega
theorem ents_len {ts : Tb} {n : Nat} (h : ∀ i, i < 4 → (ts i).length ≤ n) : (ents ts).length ≤ 4 * n := by
  unfold ents
  simp only [allE, List.length_append, tag_len, List.length_nil]
  have h0 := h 0 (by omega)
  have h1 := h 1 (by omega)
  have h2 := h 2 (by omega)
  have h3 := h 3 (by omega)
  show (ts 0).length + ((ts 1).length + ((ts 2).length + ((ts 3).length + 0))) ≤ _
  omega
theorem live_take {l : List En} {k : Nat} {e : En} (h : l[k]? = some e) : liveE (l.take (k + 1)) = liveE (l.take k) ++ (if e.x.c.dead then [] else [e]) := by
  obtain ⟨hk, he⟩ := List.getElem?_eq_some_iff.1 h
  have : l.take (k + 1) = l.take k ++ [e] := by rw [← he]; exact (List.take_append_getElem hk).symm
  rw [this]
  unfold liveE
  rw [List.filter_append]
  congr 1
  cases hd : e.x.c.dead <;> simp [hd]
theorem TabAt.below {W W' : World} {sb i : Nat} {l : List Ix} (h : TabAt W sb i l) (hb : Below W.heap.size W W') : TabAt W' sb i l := by
  obtain ⟨b, F, d, h1, h2⟩ := h
  exact ⟨b, F, d, (hb.cell (p := ⟨sb, i, none⟩) (World.block_lt_of_cell? _ _ h1)).trans h1, h2.below hb⟩
theorem first_any (w : World) : Calls Try.prog 72 #[] w fun e w' => e = .returned (.agg #[.int .i64 0, .int .i64 (-9223372036854775808)]) ∧ Below w.heap.size w w' := by
  have hb : Below w.heap.size w (w.alloc (.cells #[.int .i64 0, .int .i64 (-9223372036854775808)] 42)) := (Below.refl _ _).alloc (Nat.le_refl _) _
  have hn := heap_alloc_new w (.cells #[.int .i64 0, .int .i64 (-9223372036854775808)] 42)
  have c0 : (w.alloc (.cells #[.int .i64 0, .int .i64 (-9223372036854775808)] 42)).cell? ⟨w.heap.size, 0, none⟩ = some (.int .i64 0) := by rw [cell_of_row _ _ 0 _ _ _ hn]; rfl
  have c1 : (w.alloc (.cells #[.int .i64 0, .int .i64 (-9223372036854775808)] 42)).cell? ⟨w.heap.size, 1, none⟩ = some (.int .i64 (-9223372036854775808)) := by rw [cell_of_row _ _ 1 _ _ _ hn]; rfl
  have HC := Lib.hid (And.intro c0 (And.intro c1 hb))
  clear c0 c1 hb hn
  go_enter Try.func72, Try.ntmps72
  go_wp2_with fail
  refine bodyPost_ret (v := .agg #[.int .i64 0, .int .i64 (-9223372036854775808)]) (by simp [results, Try.results72, go_sem, HC.out.1, HC.out.2.1]) rfl ⟨rfl, HC.out.2.2⟩
theorem entries_any {w : World} {p : Option Addr} {t k : Int} : Calls Try.prog 55 #[.pointer p, .agg #[.int .i64 t, .int .i64 k]] w fun e w' =>
    e = .returned (.func (.func 89) #[] #[.pointer (some ⟨w.heap.size + 1, 0, none⟩), .pointer (some ⟨w.heap.size, 0, none⟩)]) ∧
      w'.heap[w.heap.size + 1]? = some (.cells #[.int .i64 t, .int .i64 k] 42 (0, 0)) ∧ w'.heap[w.heap.size]? = some (.cells #[.pointer p] 27 (0, 0)) ∧ Below w.heap.size w w' ∧ w'.heap.size = w.heap.size + 2 := by
  obtain ⟨W, hW⟩ : ∃ W, W = (w.alloc (.cells #[.pointer p] 27)).alloc (.cells #[.int .i64 t, .int .i64 k] 42) := ⟨_, rfl⟩
  have hb : Below w.heap.size w W := by rw [hW]; exact ((Below.refl _ _).alloc (Nat.le_refl _) _).alloc (by simp) _
  have hs : W.heap.size = w.heap.size + 2 := by rw [hW]; simp
  have e2 : W.heap[w.heap.size]? = some (.cells #[.pointer p] 27 (0, 0)) := by
    rw [hW, ((Below.refl _ (w.alloc (.cells #[.pointer p] 27))).alloc (Nat.le_refl _) _).block _ (by simp)]
    exact heap_alloc_new w _
  have e1 : W.heap[w.heap.size + 1]? = some (.cells #[.int .i64 t, .int .i64 k] 42 (0, 0)) := by
    have := heap_alloc_new (w.alloc (.cells #[.pointer p] 27)) (.cells #[.int .i64 t, .int .i64 k] 42)
    have e : (w.alloc (.cells #[.pointer p] 27)).heap.size = w.heap.size + 1 := by simp
    rw [e, ← hW] at this
    exact this
  have HE := Lib.hid (And.intro e1 (And.intro e2 (And.intro hb hs)))
  have HW := Lib.hid hW
  clear hW hb hs e1 e2
  go_enter Try.func55, Try.ntmps55
  go_wp2_with fail
  go_ret
  rw [← HW.out]
  exact ⟨rfl, HE.out⟩
/-- The writer between two rounds. -/
structure PI (w : World) (g : Nat) (xs : List Nat) (O : Nat → Prop) (W : World) : Prop where
  b : Below w.heap.size w W
  low : ∀ q, O q → w.heap.size ≤ q
  wt : ∃ v, Wtr W w.heap.size g v xs ∧ ∀ q, O q → q ≠ g ∧ v.ownBlock ≠ some q
theorem PI.st (w : World) (g : Nat) (xs : List Nat) : St2 (PI w g xs) := by
  intro O O' W W' ⟨h1, h2, v, h3, h4⟩ hC hG
  have hs := h1.size
  refine ⟨⟨hC.os.trans h1.os, hC.tape.trans h1.tape, hC.output.trans h1.output, Nat.le_trans hs hC.size, fun q hq => (hC.block q (by omega) (fun e => by have := h2 q e; omega)).trans (h1.block q hq)⟩, fun q e => ?_, v, ⟨h3.low, (hC.block g h3.lt (fun e => (h4 g e).1 rfl)).trans h3.block, ?_⟩, fun q e => ?_⟩
  · rcases hG.2 q e with e | e
    · exact h2 q e
    · omega
  · exact row_stays h3.own fun k e => hC.block k (h3.own.lt k e).2 (fun c => (h4 k c).2 e)
  · rcases hG.2 q e with c | c
    · exact h4 q c
    · refine ⟨fun c2 => ?_, fun c2 => ?_⟩
      · have := h3.lt; omega
      · have := (h3.own.lt q c2).2; omega
/-- Something was written. -/
theorem PI.wrote {w W W' : World} {g : Nat} {xs ys : List Nat} {O : Nat → Prop} {v v' : Value} (hg : w.heap.size ≤ g) (h1 : Below w.heap.size w W) (h2 : ∀ q, O q → w.heap.size ≤ q) (hlt : ∀ q, O q → q < W.heap.size) (h3 : Wtr W w.heap.size g v xs) (h4 : ∀ q, O q → q ≠ g ∧ v.ownBlock ≠ some q) (hW : Wrote W W' w.heap.size g v v' ys) : PI w g ys O W' ∧ Kps O W W' := by
  refine ⟨⟨?_, h2, v', hW.wtr, fun q e => ⟨(h4 q e).1, fun c => ?_⟩⟩, hW.touch.size, fun q e => hW.touch.block q (hlt q e) (h4 q e).1 (h4 q e).2⟩
  · exact h1.trans (hW.touch.below hg (row_low h3.own) h1.size)
  · rcases hW.row with c2 | ⟨k, c2, c3⟩
    · exact (h4 q e).2 (c2.symm.trans c)
    · rw [c] at c2
      cases c2
      have := hlt q e
      omega
end Go.Proofs.Ytejpjbmbcdgomaa

/- Put: a store's text is written. -/
namespace Go.Proofs.Ytejpjbmbcdgomaa
set_option maxRecDepth 100000
open Go.RowKit

theorem PI.mono {w W : World} {g : Nat} {xs : List Nat} {O O' : Nat → Prop} (h : PI w g xs O W) (hs : ∀ q, O' q → O q) : PI w g xs O' W := by
  obtain ⟨h1, h2, v, h3, h4⟩ := h
  exact ⟨h1, fun q e => h2 q (hs q e), v, h3, fun q e => h4 q (hs q e)⟩
/-- One block more. -/
theorem PI.box {w W W1 : World} {g z : Nat} {xs : List Nat} {O : Nat → Prop} (h : PI w g xs O W) (hb : Below W.heap.size W W1) (hz : W.heap.size ≤ z) (hz1 : z < W1.heap.size) : PI w g xs (fun q => O q ∨ q = z) W1 :=
  PI.st w g xs O _ W W1 h (Ch.of_below hb _) ⟨fun q e => .inl e, fun q e => e.imp id fun e => by subst e; exact ⟨hz, hz1⟩⟩
/-- A write's call, in a round. -/
theorem PI.call {w W : World} {g f : Nat} {xs ys : List Nat} {args : Array Value} {O : Nat → Prop} (h : PI w g xs O W) (hlt : ∀ q, O q → q < W.heap.size) (hg : w.heap.size ≤ g)
    (hc : ∀ v, Wtr W w.heap.size g v xs → Calls Try.prog f args W fun e w' => e = .returned (.tuple #[]) ∧ ∃ v', Wrote W w' w.heap.size g v v' ys) : Calls Try.prog f args W fun e w' => e = .returned (.tuple #[]) ∧ PI w g ys O w' ∧ Kps O W w' := by
  obtain ⟨h1, h2, v, h3, h4⟩ := h
  refine Calls.mono (hc v h3) ?_
  rintro e w' ⟨rfl, v', hW⟩
  exact ⟨rfl, PI.wrote hg h1 h2 hlt h3 h4 hW⟩
set_option maxHeartbeats 16000000 in
theorem sput_any {w : World} {G : Nat → Prop} {sb : Nat} {ts : Tb} {last : Int} (hM : SM w G sb ts (liveT ts : Int) last) (hN : ∀ i, i < 4 → (ts i).length ≤ 100000) (hnum : NumT ts) :
    Calls Try.prog 28 #[.pointer (some ⟨sb, 0, none⟩)] w fun e w' => ∃ A c, e = .returned (.slice A (putB ts).length c) ∧ Rdv w' A (putB ts).length 1 (valsB (putB ts)) ∧ (∀ b o, A = some ⟨b, o, none⟩ → w.heap.size ≤ b) ∧ Below w.heap.size w w' := by
  refine (callsIn_wide (n := 11)).1 ?_
  have hlv : liveT ts ≤ 400000 := liveT_le (n := 100000) hN
  have hE : fromE 0 (-9223372036854775808) ts = ents ts := fromE_all hnum.numL
  obtain ⟨E, hEE⟩ : ∃ E, E = ents ts := ⟨_, rfl⟩
  have hEl : E.length ≤ 400000 := by rw [hEE]; exact ents_len hN
  have hEn : ∀ e ∈ E, e.t < 4 ∧ CellOk e.x := by rw [hEE]; exact hnum.ents
  have HPB : Hid (putB ts = cntN (liveT ts) ++ ((liveE E).flatMap entB ++ [83])) := Lib.hid (by rw [hEE]; rfl)
  have HH := Lib.hid (fun (W : World) (b1 b2 : Nat) (O0 : Nat → Prop) hf hs h1 h2 => entries_hands (w := W) (sb := sb) (b1 := b1) (b2 := b2) (t := 0) (k := -9223372036854775808) (ts := ts) (O0 := O0) hf hs h1 h2 hN)
  rw [hE, ← hEE] at HH
  obtain ⟨pb, hpb⟩ : ∃ pb, pb = putB ts := ⟨_, rfl⟩
  rw [← hpb] at HPB ⊢
  have HTB : Hid (∀ W, Below w.heap.size w W → ∀ i, i < 4 → TabAt W sb i (ts i)) := Lib.hid fun W hb i hi => (hM.tab hi).below hb
  have HM := Lib.hid hM
  have HEL := Lib.hid (And.intro hEl hEn)
  obtain ⟨lv, hlvn⟩ : ∃ lv, lv = liveT ts := ⟨_, rfl⟩
  rw [← hlvn] at HM HPB hlv
  have f1 : IntKind.u64.wrap (lv : Int) = (lv : Int) := by rw [IntKind.wrap_u64]; omega
  obtain ⟨Wb, hWb⟩ : ∃ Wb, Wb = w.alloc (.cells #[.slice none 0 0] 133) := ⟨_, rfl⟩
  have hbw : Below w.heap.size w Wb := by rw [hWb]; exact (Below.refl _ _).alloc (Nat.le_refl _) _
  have hwt : Wtr Wb w.heap.size w.heap.size (.slice none 0 0) [] := ⟨Nat.le_refl _, by rw [hWb]; exact heap_alloc_new w _, World.ownsRow_nil _ _ _ _⟩
  have c4 := (HM.out.below hbw).live4
  have HC := Lib.hid (count_any w.heap.size w.heap.size _ _ lv (by omega) Wb hwt (by decide))
  have HBW := Lib.hid hbw
  have HWT := Lib.hid hwt
  have HW := Lib.hid hWb
  have HLV := Lib.hid hlv
  clear hM hN hnum hE hEE hEl hEn hpb hlvn hWb hbw hwt hlv
  obtain ⟨g, hg⟩ : ∃ g, g = w.heap.size := ⟨_, rfl⟩
  have HG := Lib.hid hg
  rw [← hg] at HC
  refine callsIn_of_wp_marks Try.func28 rfl trivial ?_ rfl
  simp only [Try.ntmps28, List.size_toArray, List.length_cons, List.length_nil, Nat.reduceAdd, Nat.reduceSub, Array.replicate_succ, Array.replicate_zero, List.push_toArray, List.append_toArray, List.nil_append, List.cons_append]
  gi_upto_region 4 with (fail)
  rw [← hg, ← HW.out]
  clear hg
  gi_wp2_with fail
  refine ⟨trivial, ?_⟩
  refine (callsIn_wide.2 HC.out).mono ?_
  rintro e w1 ⟨rfl, v1, hW1⟩
  rw [List.nil_append] at hW1
  have hPI1 : PI w g (cntN lv) (fun _ => False) w1 := by
    rw [HG.out] at hW1 ⊢
    exact (PI.wrote (Nat.le_refl _) HBW.out (fun q e => e.elim) (fun q e => e.elim) HWT.out (fun q e => e.elim) hW1).1
  have HPI1 := Lib.hid hPI1
  clear hW1 hPI1 c4 HC
  gi_wp2_with fail
  refine ⟨trivial, ?_⟩
  refine (callsIn_wide.2 (first_any w1)).mono ?_
  rintro e w2 ⟨rfl, hb2⟩
  gi_wp2_with fail
  refine ⟨trivial, ?_⟩
  refine (callsIn_wide.2 entries_any).mono ?_
  rintro e w3 ⟨rfl, hk3, hs3, hb3, hz3⟩
  obtain ⟨b1, hb1⟩ : ∃ b1, b1 = w2.heap.size + 1 := ⟨_, rfl⟩
  obtain ⟨b2, hb2'⟩ : ∃ b2, b2 = w2.heap.size := ⟨_, rfl⟩
  rw [← hb1] at hk3
  rw [← hb2'] at hs3
  have hP3 : PI w g (cntN lv ++ (liveE (E.take 0)).flatMap entB) (fun q => q = b1 ∨ q = b2) w3 := by
    have e0 : cntN lv ++ (liveE (E.take 0)).flatMap entB = cntN lv := by simp [liveE]
    rw [e0]
    refine PI.st w g _ _ _ w1 w3 HPI1.out (Ch.of_below (hb2.trans (hb3.mono hb2.size)) _) ⟨fun q e => e.elim, fun q e => .inr ?_⟩
    have := hb2.size
    omega
  have HP3 := Lib.hid hP3
  have HHH := Lib.hid (HH.out w3 b1 b2 (fun q => q = b1 ∨ q = b2) hk3 hs3 (.inl rfl) (.inr rfl))
  have HLT3 : Hid (b1 < w3.heap.size ∧ b2 < w3.heap.size) := Lib.hid (by omega)
  clear hP3 hk3 hs3 hb3 hz3 hb2 HH
  gi_wp2_with fail
  rw [← hb1, ← hb2']
  clear hb1 hb2'
  refine wp_range2 (w0 := w3) (O0 := fun q => q = b1 ∨ q = b2) (O := fun q => q = b1 ∨ q = b2) (N := E.length) (enc := encE E) (gf := 89) (lb := #[.pointer (some ⟨b1, 0, none⟩), .pointer (some ⟨b2, 0, none⟩)]) rfl (enters_of Try.func89 (by kernel_rfl) rfl) HHH.out (Kps.refl _ _) (fun _ => rfl)
    (fun k O W => PI w g (cntN lv ++ (liveE (E.take k)).flatMap entB) O W) (fun _ _ _ _ => False) (fun k => PI.st _ _ _) (fun _ _ _ _ _ _ h => h.elim) (fun k O W _ h i _ hi _ => HTB.out W h.b i hi) HP3.out (fun _ h => h) (fun q e => by have := HLT3.out; rcases e with rfl | rfl <;> omega) ?round ?done ?stop
  case stop =>
    intro D k c O1 W _ h
    exact h.elim
  case round =>
    intro l2 lp k ob Oq Wq hk hI hsub2 hlt2 hlp hlpg K hK
    obtain ⟨e, he⟩ : ∃ e, e = E[k] := ⟨_, rfl⟩
    have heo : E[k]? = some e := by rw [he]; exact List.getElem?_eq_getElem hk
    have hok := HEL.out.2 e (by rw [he]; exact List.getElem_mem hk)
    rw [encE_at heo]
    have hbm : Below Wq.heap.size Wq (Wq.alloc (.cells #[.int .i64 (e.t : Int), .int .i64 e.x.k, .int .i64 e.x.c.v, .int .i64 e.x.c.s, .bool e.x.c.dead] 112)) := (Below.refl _ _).alloc (Nat.le_refl _) _
    have HBM := Lib.hid hbm
    have HQ := Lib.hid (And.intro hI (And.intro hlp (And.intro hlt2 (And.intro hk (And.intro heo hok)))))
    clear hI hsub2 hlt2 hlp hlpg hk he heo hok hbm
    simp only [List.zip_toArray, List.zip_cons_cons, List.zip_nil_right, List.foldl_toArray, List.foldl_cons, List.foldl_nil, List.setIfInBounds_toArray, List.set_cons_succ, List.set_cons_zero]
    gi_wp2_with (rw [Oper.semAt_eq _ _ _ (fun c h => by cases h)]; go_simp)
    refine hK _ _ HBM.out ?_
    clear hK K
    obtain ⟨hI, hlp, hlt2, hk, heo, hok⟩ := HQ.out
    obtain ⟨z, hz⟩ : ∃ z, z = Wq.heap.size := ⟨_, rfl⟩
    obtain ⟨Wm, hWm⟩ : ∃ Wm, Wm = Wq.alloc (.cells #[.int .i64 (e.t : Int), .int .i64 e.x.k, .int .i64 e.x.c.v, .int .i64 e.x.c.s, .bool e.x.c.dead] 112) := ⟨_, rfl⟩
    have hbm := HBM.out
    have hzm : Wm.heap[Wq.heap.size]? = some (.cells #[.int .i64 (e.t : Int), .int .i64 e.x.k, .int .i64 e.x.c.v, .int .i64 e.x.c.s, .bool e.x.c.dead] 112 (0, 0)) := by rw [hWm]; exact heap_alloc_new Wq _
    rw [← hWm] at hbm ⊢
    rw [← hz] at hzm ⊢
    have hzl := (Array.getElem?_eq_some_iff.1 hzm).1
    have hne : z ≠ lp := by have := hlt2 lp hlp; omega
    have hP := (PI.st w g (cntN lv ++ (liveE (E.take k)).flatMap entB)).put ob (hI.box hbm (Nat.le_of_eq hz.symm) hzl) (.inl hlp)
    have hzb := (World.putObj_heap_other (w := Wm) (o := ob) hne).trans hzm
    have hszb : (Wm.putObj lp ob).heap.size = Wm.heap.size := World.putObj_size
    obtain ⟨W0, hW0⟩ : ∃ W0, W0 = Wm.putObj lp ob := ⟨_, rfl⟩
    rw [← hW0] at hP hzb hszb ⊢
    have hlt0 : ∀ q, (Oq q ∨ q = z) → q < W0.heap.size := fun q c => by
      rw [hszb]
      rcases c with c | c
      · exact Nat.lt_of_lt_of_le (hlt2 q c) hbm.size
      · rw [c]; exact hzl
    obtain ⟨O2, hO2⟩ : ∃ O2 : Nat → Prop, O2 = fun q => Oq q ∨ q = z := ⟨_, rfl⟩
    rw [← hO2] at hP
    have HO2 : Hid (∀ q, O2 q ↔ Oq q ∨ q = z) := Lib.hid fun q => by rw [hO2]
    have HZ := Lib.hid (fun (W : World) (hk : Kps O2 W0 W) => (hk.2 z ((HO2.out z).2 (.inr rfl))).trans hzb)
    have HL := Lib.hid (fun (W : World) (hk : Kps O2 W0 W) q (hq : O2 q) => Nat.lt_of_lt_of_le (hlt0 q ((HO2.out q).1 hq)) hk.1)
    have HP := Lib.hid hP
    obtain ⟨xs, hxs⟩ : ∃ xs, xs = cntN lv ++ (liveE (E.take k)).flatMap entB := ⟨_, rfl⟩
    rw [← hxs] at HP
    have HXS := Lib.hid hxs
    have HNX : Hid (cntN lv ++ (liveE (E.take (k + 1))).flatMap entB = xs ++ (if e.x.c.dead then [] else entB e)) := Lib.hid (by
      rw [hxs, live_take heo, List.flatMap_append, List.append_assoc]
      congr 2
      cases e.x.c.dead <;> simp)
    have HXL : Hid (xs.length ≤ 10 + 40 * 400000) := Lib.hid (by
      rw [hxs, List.length_append]
      have h1 := cntN_len lv (by have := HLV.out; omega)
      have h2 := flat_len (liveE (E.take k)) fun e he => HEL.out.2 e (List.mem_of_mem_take (List.mem_filter.1 he).1)
      have h3 : (liveE (E.take k)).length ≤ (E.take k).length := List.length_filter_le _ _
      have h4 : (E.take k).length ≤ E.length := by rw [List.length_take]; omega
      have := HEL.out.1
      omega)
    have HOK := Lib.hid hok
    have z2 : W0.cell? ⟨z, 4, none⟩ = some (.bool e.x.c.dead) := by rw [cell_of_row _ _ 4 _ _ _ hzb]; rfl
    have hKO : ∀ W, Kps O2 W0 W → Kps Oq W0 W := fun W h => h.mono fun q hq => (HO2.out q).2 (.inl hq)
    have HKO := Lib.hid hKO
    have HMO := Lib.hid (fun (W : World) (ys : List Nat) (h : PI w g ys O2 W) => h.mono (fun q hq => (HO2.out q).2 (.inl hq) : ∀ q, Oq q → O2 q))
    rw [HNX.out]
    clear hI hlp hlt2 hk heo hok hz hWm hbm hzm hzl hne hP hzb hszb hW0 hlt0 hO2 hxs hKO
    cases hdd : e.x.c.dead with
    | true =>
      rw [hdd] at z2
      rw [if_pos rfl, List.append_nil]
      clear hdd
      gi_wp2_with (rw [Oper.semAt_eq _ _ _ (fun c h => by cases h)]; go_simp)
      exact ⟨Kps.refl _ _, HMO.out _ _ HP.out⟩
    | false =>
      rw [hdd] at z2
      rw [if_neg (by decide)]
      clear hdd
      have HGL : Hid (w.heap.size ≤ g) := Lib.hid (Nat.le_of_eq HG.out.symm)
      obtain ⟨q, hq⟩ : ∃ q : Nat, q = e.x.c.s.toNat := ⟨_, rfl⟩
      have hqs : e.x.c.s = (q : Int) := by have := HOK.out.2.2.2.1; omega
      have HQ2 : Hid (e.t < 4 ∧ q < 18446744073709551616 ∧ (cntN e.t).length ≤ 10 ∧ (cntN (foldN e.x.k)).length ≤ 10 ∧ (cntN (foldN e.x.c.v)).length ≤ 10) := Lib.hid
        ⟨HOK.out.1, by have := HOK.out.2.2.2.2; omega, cntN_len _ (by have := HOK.out.1; omega), cntN_len _ (foldN_lt HOK.out.2.1), cntN_len _ (foldN_lt HOK.out.2.2.1)⟩
      have HEB : Hid (entB e = cntN e.t ++ (cntN (foldN e.x.k) ++ (cntN (foldN e.x.c.v) ++ cntN q))) := Lib.hid (by rw [hq]; rfl)
      have u1 : IntKind.u64.wrap (e.t : Int) = (e.t : Int) := by have := HOK.out.1; rw [IntKind.wrap_u64]; omega
      have u2 : IntKind.u64.wrap (q : Int) = (q : Int) := by have := HQ2.out.2.1; rw [IntKind.wrap_u64]; omega
      have HP1 := HP
      rw [hqs] at HZ
      clear hq hqs
      have HK1 : Hid (Kps O2 W0 W0) := Lib.hid (Kps.refl _ _)
      have HC1 := Lib.hid (HP1.out.call (HL.out W0 HK1.out) HGL.out (fun v hw => count_any w.heap.size g v xs e.t (by have := HQ2.out.1; omega) W0 hw (by have := HXL.out; omega)))
      have yc : W0.cell? ⟨z, 0, none⟩ = some (.int .i64 (e.t : Int)) := by rw [cell_of_row _ _ 0 _ _ _ (HZ.out W0 HK1.out)]; rfl
      gi_wp2_with (rw [Oper.semAt_eq _ _ _ (fun c h => by cases h)]; go_simp)
      refine ⟨trivial, ?_⟩
      refine (callsIn_round HC1.out).mono ?_
      rintro _ W1 ⟨rfl, hP', hk'⟩
      have HP2 := Lib.hid hP'
      have HK2 := Lib.hid (HK1.out.trans hk')
      clear hP' hk' HC1
      clear yc
      have HC2 := Lib.hid (HP2.out.call (HL.out W1 HK2.out) HGL.out (fun v hw => num_any w.heap.size g v _ e.x.k HOK.out.2.1 W1 hw (by have := HXL.out; have := HQ2.out; simp only [List.length_append]; omega)))
      have yc : W1.cell? ⟨z, 1, none⟩ = some (.int .i64 e.x.k) := by rw [cell_of_row _ _ 1 _ _ _ (HZ.out W1 HK2.out)]; rfl
      gi_wp2_with (rw [Oper.semAt_eq _ _ _ (fun c h => by cases h)]; go_simp)
      refine ⟨trivial, ?_⟩
      refine (callsIn_round HC2.out).mono ?_
      rintro _ W2 ⟨rfl, hP', hk'⟩
      have HP3 := Lib.hid hP'
      have HK3 := Lib.hid (HK2.out.trans hk')
      clear hP' hk' HC2
      clear yc
      have HC3 := Lib.hid (HP3.out.call (HL.out W2 HK3.out) HGL.out (fun v hw => num_any w.heap.size g v _ e.x.c.v HOK.out.2.2.1 W2 hw (by have := HXL.out; have := HQ2.out; simp only [List.length_append]; omega)))
      have yc : W2.cell? ⟨z, 2, none⟩ = some (.int .i64 e.x.c.v) := by rw [cell_of_row _ _ 2 _ _ _ (HZ.out W2 HK3.out)]; rfl
      gi_wp2_with (rw [Oper.semAt_eq _ _ _ (fun c h => by cases h)]; go_simp)
      refine ⟨trivial, ?_⟩
      refine (callsIn_round HC3.out).mono ?_
      rintro _ W3 ⟨rfl, hP', hk'⟩
      have HP4 := Lib.hid hP'
      have HK4 := Lib.hid (HK3.out.trans hk')
      clear hP' hk' HC3
      clear yc
      have HC4 := Lib.hid (HP4.out.call (HL.out W3 HK4.out) HGL.out (fun v hw => count_any w.heap.size g v _ q HQ2.out.2.1 W3 hw (by have := HXL.out; have := HQ2.out; simp only [List.length_append]; omega)))
      have yc : W3.cell? ⟨z, 3, none⟩ = some (.int .i64 (q : Int)) := by rw [cell_of_row _ _ 3 _ _ _ (HZ.out W3 HK4.out)]; rfl
      gi_wp2_with (rw [Oper.semAt_eq _ _ _ (fun c h => by cases h)]; go_simp)
      refine ⟨trivial, ?_⟩
      refine (callsIn_round HC4.out).mono ?_
      rintro _ W4 ⟨rfl, hP', hk'⟩
      have HP5 := Lib.hid hP'
      have HK5 := Lib.hid (HK4.out.trans hk')
      clear hP' hk' HC4
      clear yc
      have HFN : Hid (PI w g (xs ++ entB e) O2 W4) := Lib.hid (by
        have := HP5.out
        rw [HEB.out]
        simpa only [List.append_assoc] using this)
      gi_wp2_with (rw [Oper.semAt_eq _ _ _ (fun c h => by cases h)]; go_simp)
      exact ⟨HKO.out _ HK5.out, HMO.out _ _ HFN.out⟩
  case done =>
    intro D Oq Wd hI hsub2 hOD hlt2 hDge hD
    have hgle : w.heap.size ≤ g := Nat.le_of_eq HG.out.symm
    rw [List.take_length] at hI
    obtain ⟨xs, hxs⟩ : ∃ xs, xs = cntN lv ++ (liveE E).flatMap entB := ⟨_, rfl⟩
    rw [← hxs] at hI
    have HXL : Hid (xs.length ≤ 10 + 40 * 400000) := Lib.hid (by
      rw [hxs, List.length_append]
      have h1 := cntN_len lv (by have := HLV.out; omega)
      have h2 := flat_len (liveE E) fun e he => HEL.out.2 e (List.mem_filter.1 he).1
      have h3 : (liveE E).length ≤ E.length := List.length_filter_le _ _
      have := HEL.out.1
      omega)
    have HPX : Hid (pb = xs ++ [83]) := Lib.hid (by rw [HPB.out, hxs, List.append_assoc])
    have HC1 := Lib.hid (hI.call hlt2 hgle (fun v hw => byte_any w.heap.size g v xs 83 Wd hw (by have := HXL.out; omega)))
    have HD := Lib.hid (And.intro hOD (And.intro hlt2 (And.intro hDge hD)))
    have HLO : Hid (w.heap.size ≤ D) := Lib.hid (hI.low D hOD)
    clear hI hsub2 hOD hlt2 hDge hD hxs hgle
    gi_wp2_with fail
    refine ⟨trivial, ?_⟩
    refine (callsIn_wide.2 HC1.out).mono ?_
    rintro _ W1 ⟨rfl, hP1, hk1⟩
    obtain ⟨h1, h2, v, h3, h4⟩ := hP1
    have HCO := Lib.hid (out_any w.heap.size g v (xs ++ [83]) W1 h3 (by have := HXL.out; simp only [List.length_append, List.length_cons, List.length_nil]; omega))
    rw [← HPX.out] at HCO
    have HB1 := Lib.hid h1
    have HD1 : Hid (W1.heap[D]? = some (.deferred (some []))) := Lib.hid ((hk1.2 D HD.out.1).trans HD.out.2.2.2)
    clear h1 h2 h3 h4 hk1 HC1
    gi_wp2_with fail
    refine ⟨trivial, ?_⟩
    refine (callsIn_wide.2 HCO.out).mono ?_
    rintro _ W2 ⟨vo, rfl, A', c', rfl, hr, hnew, hb2⟩
    have HR := Lib.hid (And.intro hr (And.intro hnew hb2))
    have hD2 : W2.heap[D]? = some (.deferred (some [])) := (hb2.block D (Array.getElem?_eq_some_iff.1 HD1.out).1).trans HD1.out
    have HD2 := Lib.hid hD2
    clear hr hnew hb2 hD2 HCO
    gi_wp2_with fail
    refine leaves_marks (v := .slice A' pb.length c') _ _ (fun d hd => ⟨D, by rw [List.mem_singleton.1 hd], HD2.out⟩) (List.pairwise_singleton _ _) fun w1 e1 e2 e3 e4 e5 => ⟨by simp [results, Try.results28, go_sem], A', c', rfl, ?_, fun b o eb => ?_, ?_⟩
    · refine ⟨HR.out.1.1, fun hp => ?_⟩
      obtain ⟨b, o, eb, hc⟩ := HR.out.1.2 hp
      refine ⟨b, o, eb, fun j u hj => ?_⟩
      have hcj := hc j u hj
      refine (World.cell?_of_block (e5 b fun d hd c => ?_)).trans hcj
      have e6 : D = b := by rw [List.mem_singleton.1 hd] at c; simpa using c
      rw [← e6] at hcj
      unfold World.cell? at hcj
      rw [HD2.out] at hcj
      simp at hcj
    · rcases HR.out.2.1 with ⟨h0, _⟩ | ⟨b', h0, h5, _⟩
      · rw [h0] at eb; cases eb
      · rw [h0] at eb
        cases eb
        exact Nat.le_trans HB1.out.size h5
    · have hb := HB1.out.trans (HR.out.2.2.mono HB1.out.size)
      refine ⟨e2.trans hb.os, e3.trans hb.tape, e4.trans hb.output, by rw [e1]; exact hb.size, fun q hq => (e5 q fun d hd c => ?_).trans (hb.block q hq)⟩
      have e6 : D = q := by rw [List.mem_singleton.1 hd] at c; simpa using c
      have := HLO.out
      omega
end Go.Proofs.Ytejpjbmbcdgomaa
