/- SFrom, VSw: put together. -/
import Derived.Test.YtejpjbmbcdgomaaPt25
import Derived.Test.YtejpjbmbcdgomaaPt27
import Derived.Test.YtejpjbmbcdgomaaPt30
import Derived.Test.YtejpjbmbcdgomaaPt21
/- From: live entries from a key on. -/
namespace Go.Proofs.Ytejpjbmbcdgomaa
set_option maxRecDepth 100000
open Go.RowKit

theorem elemSn : ElemT Try.prog 53 112 5 40 :=
  ⟨Try.underlying53, by kernel_rfl, by
    obtain ⟨i, hi, hz, h1, _⟩ := info_parts (show (Try.prog.info? 112).map (fun i => (i.zero, i.size, i.bytes)) = some (some (.agg #[.int .i64 0, .int .i64 0, .int .i64 0, .int .i64 0, .bool false]), 5, 40) by kernel_rfl)
    exact ⟨i, _, hi, hz, rfl⟩, by decide⟩
/-- An own row of entries. -/
abbrev Sno (w : World) (B : Nat) (v : Value) (l : List En) : Prop := w.ownsRow B 112 5 v l.length (rowV En.vals l)
theorem Sno.below {w w' : World} {B : Nat} {v : Value} {l : List En} (h : Sno w B v l) (hb : Below w.heap.size w w') : Sno w' B v l := own_same h fun q hq => by
  obtain ⟨_, e⟩ := own_at h hq
  exact hb.block q (Array.getElem?_eq_some_iff.1 e).1
theorem allE_le {ps : Nat → List Ix} {N : Nat} : ∀ n i, (∀ j, i ≤ j → j < i + n → (ps j).length ≤ N) → (allE ps i n).length ≤ n * N
  | 0, _, _ => by simp [allE]
  | n + 1, i, h => by
    rw [allE, List.length_append, tag_len, Nat.succ_mul]
    have h1 := h i (Nat.le_refl _) (by omega)
    have h2 := allE_le n (i + 1) fun j a b => h j (by omega) (by omega)
    omega
theorem fromE_le {ts : Tb} (hN : ∀ i, i < 4 → (ts i).length ≤ 100000) (t k : Int) : (fromE t k ts).length ≤ 400000 := by
  unfold fromE
  have hi0 : i0F t ≤ 4 := Nat.min_le_right _ _
  have h1 := allE_le (ps := partF t k ts) (N := 100000) (4 - i0F t) (i0F t) fun j _ hj => Nat.le_trans (List.length_filter_le _ _) (hN j (by omega))
  have h2 : (4 - i0F t) * 100000 ≤ 4 * 100000 := Nat.mul_le_mul_right _ (by omega)
  omega
theorem wpListIn_append {F : Fence} {n : Nat} {P : Program} {w w' : World} {ops : Array Oper} {rest : List Oper} {o : Oper} {a : Act} {Q : Exit → Act → World → Prop} {v : Value} (hg : o.guard = none) (d s : Operand) (dT sT : TypeId)
    (ho : o.op = .call { callee := .builtin .append, args := #[d, s], argTypes := #[dT, sT] }) (u1 u2 : Value) (hd : a.eval d = u1) (hs : a.eval s = u2)
    (hrun : (Builtin.append_ #[dT, sT] o.type #[u1, u2]).run P w = .ok v w') (h : wpListIn F n P ops Q rest (a.put o.dst v) w') : wpListIn F n P ops Q (o :: rest) a w := by
  refine wpListIn_plain hg fun K hK' => ?_
  unfold Oper.wpIn
  refine ⟨?_, ?_⟩
  · simp [Oper.about, ho, resolve, Target.leads, Sem.run_pure]
  · rw [Oper.semAt_plain F _ _ (by rw [ho]; intro c hc'; cases hc')]
    simp [execOp, ho, resolve, invoke, builtin, hd, hs, hrun, Result.andThen]
    exact hK' _ _ h
/-- The row in its box between two rounds, and a box beside it. -/
structure FRI (w : World) (z s : Nat) (so : Obj) (xs : List En) (O : Nat → Prop) (W : World) : Prop where
  b : Below w.heap.size w W
  low : ∀ q, O q → w.heap.size ≤ q
  zl : w.heap.size ≤ z
  side : W.heap[s]? = some so ∧ ¬ O s ∧ s ≠ z
  row : ∃ v, W.heap[z]? = some (.cells #[v] 53 (0, 0)) ∧ Sno W w.heap.size v xs ∧ v.ownBlock ≠ some z ∧ v.ownBlock ≠ some s ∧ ∀ q, O q → q ≠ z ∧ v.ownBlock ≠ some q
theorem FRI.st (w : World) (z s : Nat) (so : Obj) (xs : List En) : St2 (FRI w z s so xs) := by
  intro O O' W W' ⟨h1, h2, h0, ⟨hs1, hs2, hs3⟩, v, h3, h4, h6, h7, h5⟩ hC hG
  have hs := h1.size
  have hz := (Array.getElem?_eq_some_iff.1 h3).1
  have hsl := (Array.getElem?_eq_some_iff.1 hs1).1
  refine ⟨⟨hC.os.trans h1.os, hC.tape.trans h1.tape, hC.output.trans h1.output, Nat.le_trans hs hC.size, fun q hq => (hC.block q (by omega) (fun e => by have := h2 q e; omega)).trans (h1.block q hq)⟩, fun q e => ?_, h0, ⟨(hC.block s hsl hs2).trans hs1, fun e => ?_, hs3⟩, v, (hC.block z hz (fun e => (h5 z e).1 rfl)).trans h3, ?_, h6, h7, fun q e => ?_⟩
  · rcases hG.2 q e with e | e
    · exact h2 q e
    · omega
  · rcases hG.2 s e with e | e
    · exact hs2 e
    · omega
  · refine own_same h4 fun k e => ?_
    obtain ⟨_, e2⟩ := own_at h4 e
    exact hC.block k (Array.getElem?_eq_some_iff.1 e2).1 (fun c => (h5 k c).2 e)
  · rcases hG.2 q e with c | c
    · exact h5 q c
    · refine ⟨fun c2 => by omega, fun c2 => ?_⟩
      obtain ⟨_, e2⟩ := own_at h4 c2
      have := (Array.getElem?_eq_some_iff.1 e2).1
      omega
section
variable {w W W1 : World} {z s y : Nat} {so : Obj} {xs : List En} {e : En} {O O' : Nat → Prop} {v v' : Value} {o : Obj}
theorem FRI.mono (h : FRI w z s so xs O W) (hs : ∀ q, O' q → O q) : FRI w z s so xs O' W := by
  obtain ⟨h1, h2, h0, ⟨g1, g2, g3⟩, v, h3, h4, h6, h7, h5⟩ := h
  exact ⟨h1, fun q e => h2 q (hs q e), h0, ⟨g1, fun e => g2 (hs s e), g3⟩, v, h3, h4, h6, h7, fun q e => h5 q (hs q e)⟩
theorem FRI.box (h : FRI w z s so xs O W) (hb : Below W.heap.size W W1) (hz : W.heap.size ≤ y) (hz1 : y < W1.heap.size) : FRI w z s so xs (fun q => O q ∨ q = y) W1 :=
  FRI.st w z s so xs O _ W W1 h (Ch.of_below hb _) ⟨fun q e => .inl e, fun q e => e.imp id fun e => by subst e; exact ⟨hz, hz1⟩⟩
/-- One more is put behind. -/
theorem FRI.push (h : FRI w z s so xs O W) (h3 : W.heap[z]? = some (.cells #[v] 53 (0, 0))) (h4 : Sno W w.heap.size v xs) (h6 : v.ownBlock ≠ some z) (h7 : v.ownBlock ≠ some s) (h5 : ∀ q, O q → q ≠ z ∧ v.ownBlock ≠ some q) (hlt : ∀ q, O q → q < W.heap.size)
    (ho : W1.ownsRow w.heap.size 112 5 v' (xs.length + 1) (rowV En.vals xs ++ e.vals)) (hg : (W.alloc o).grownBy W1 v.ownBlock) (hq : ∀ q, v'.ownBlock = some q → v.ownBlock = some q ∨ (W.alloc o).heap.size ≤ q) :
    FRI w z s so (xs ++ [e]) O (W1.setCell ⟨z, 0, none⟩ v') ∧ Kps O W (W1.setCell ⟨z, 0, none⟩ v') ∧ W1.heap[z]? = some (.cells #[v] 53 (0, 0)) ∧ (W1.setCell ⟨z, 0, none⟩ v').heap[z]? = some (.cells #[v'] 53 (0, 0)) := by
  obtain ⟨h1, h2, h0, ⟨g1, g2, g3⟩, _⟩ := h
  have hbl := (Below.refl W.heap.size W).alloc (Nat.le_refl _) o
  have hz := (Array.getElem?_eq_some_iff.1 h3).1
  have hsl := (Array.getElem?_eq_some_iff.1 g1).1
  have hk : ∀ q, q < W.heap.size → v.ownBlock ≠ some q → W1.heap[q]? = W.heap[q]? := fun q hq hn => (hg.block q (Nat.lt_of_lt_of_le hq hbl.size) (fun e => hn e.symm)).trans (hbl.block q hq)
  have hw1 := (hk z hz h6).trans h3
  have hfresh : ∀ q, q < W.heap.size → v.ownBlock ≠ some q → v'.ownBlock ≠ some q := fun q hq1 hn c => by
    rcases hq _ c with c2 | c2
    · exact hn c2
    · have := hbl.size
      omega
  have hlow : ∀ q, v.ownBlock = some q → w.heap.size ≤ q := fun q e => own_ge h4 e
  have hsz := h1.size
  refine ⟨⟨⟨hg.os.trans (hbl.os.trans h1.os), hg.tape.trans (hbl.tape.trans h1.tape), hg.output.trans (hbl.output.trans h1.output), by rw [World.size_setCell]; exact Nat.le_trans hsz (Nat.le_trans hbl.size hg.size), fun q hq2 => (heap_ne _ _ _ _ (by omega)).trans ((hk q (by omega) (fun c => by have := hlow q c; omega)).trans (h1.block q hq2))⟩, h2, h0, ⟨(heap_ne _ _ _ _ g3).trans ((hk s hsl h7).trans g1), g2, g3⟩, v', (heap_set W1 z 0 v' hw1).trans rfl, ?_, hfresh z hz h6, hfresh s hsl h7, fun q e => ⟨(h5 q e).1, hfresh q (hlt q e) (h5 q e).2⟩⟩, ⟨by rw [World.size_setCell]; exact Nat.le_trans hbl.size hg.size, fun q e => (heap_ne _ _ _ _ (h5 q e).1).trans (hk q (hlt q e) (h5 q e).2)⟩, hw1, (heap_set W1 z 0 v' hw1).trans rfl⟩
  have h9 : W1.ownsRow w.heap.size 112 5 v' (xs ++ [e]).length (rowV En.vals (xs ++ [e])) := by
    rw [List.length_append, rowV_append]
    simpa [rowV] using ho
  exact own_same h9 fun q hq2 => heap_ne _ _ _ _ fun c => hfresh z hz h6 (by rw [hq2, c])
end
theorem live_prefix (E : List En) (j : Nat) : (liveE E).take (liveE (E.take j)).length = liveE (E.take j) := by
  have h : liveE E = liveE (E.take j) ++ liveE (E.drop j) := by
    unfold liveE
    rw [← List.filter_append, List.take_append_drop]
  rw [h, List.take_left' rfl]
set_option maxHeartbeats 16000000 in
theorem sfrom_any {w : World} {G : Nat → Prop} {sb : Nat} {ts : Tb} {live last : Int} (hM : SM w G sb ts live last) (hN : ∀ i, i < 4 → (ts i).length ≤ 100000) (t k m : Int) :
    Calls Try.prog 18 #[.pointer (some ⟨sb, 0, none⟩), .agg #[.int .i64 t, .int .i64 k], .int .i64 m] w fun e w' => ∃ v, e = .returned v ∧ Sno w' w.heap.size v ((liveE (fromE t k ts)).take m.toNat) ∧ Below w.heap.size w w' := by
  refine (callsIn_wide (n := 11)).1 ?_
  have HH := Lib.hid (fun (W : World) (b1 b2 : Nat) (O0 : Nat → Prop) hf hs h1 h2 => entries_hands (w := W) (sb := sb) (b1 := b1) (b2 := b2) (t := t) (k := k) (ts := ts) (O0 := O0) hf hs h1 h2 hN)
  obtain ⟨E, hE⟩ : ∃ E, E = fromE t k ts := ⟨_, rfl⟩
  rw [← hE] at HH ⊢
  have HTB : Hid (∀ W, Below w.heap.size w W → ∀ i, i < 4 → TabAt W sb i (ts i)) := Lib.hid fun W hb i hi => (hM.tab hi).below hb
  have HEL : Hid (E.length ≤ 400000) := Lib.hid (by rw [hE]; exact fromE_le hN t k)
  clear hM hN hE
  refine callsIn_of_wp_marks Try.func18 rfl trivial ?_ rfl
  simp only [Try.ntmps18, List.size_toArray, List.length_cons, List.length_nil, Nat.reduceAdd, Nat.reduceSub, Array.replicate_succ, Array.replicate_zero, List.push_toArray, List.append_toArray, List.nil_append, List.cons_append]
  by_cases hm : m < 1
  · have HM0 : Hid (m.toNat = 0) := Lib.hid (by omega)
    have HB2 : Hid (∀ o o', Below w.heap.size w ((w.alloc o).alloc o')) := Lib.hid fun o o' => ((Below.refl _ w).alloc (Nat.le_refl _) o).alloc (by simp) o'
    gi_wp2_with (fail)
    refine leaves_marks (v := .slice none 0 0) [] _ (fun d hd => by cases hd) List.Pairwise.nil fun w1 e1 e2 e3 e4 e5 => ⟨by simp [results, Try.results18, go_sem], _, rfl, ?_, ?_⟩
    · rw [HM0.out, List.take_zero]
      exact World.ownsRow_nil _ _ _ _
    · have hb := HB2.out (.cells #[.int .i64 t, .int .i64 k] 42) (.cells #[.int .i64 m] 3)
      exact ⟨e2.trans hb.os, e3.trans hb.tape, e4.trans hb.output, by rw [e1]; exact hb.size, fun q hq => (e5 q fun d hd c => by cases hd).trans (hb.block q hq)⟩
  · obtain ⟨N, hNN⟩ : ∃ N : Nat, m = (N : Int) := ⟨m.toNat, by omega⟩
    subst hNN
    have HN1 : Hid (1 ≤ N) := Lib.hid (by omega)
    rw [Int.toNat_natCast]
    obtain ⟨p4, hp4⟩ : ∃ p4, p4 = w.heap.size := ⟨_, rfl⟩
    obtain ⟨p5, hp5⟩ : ∃ p5, p5 = p4 + 1 := ⟨_, rfl⟩
    obtain ⟨z, hz⟩ : ∃ z, z = p5 + 1 := ⟨_, rfl⟩
    obtain ⟨W3, hW3⟩ : ∃ W3, W3 = (((w.alloc (.cells #[.int .i64 t, .int .i64 k] 42)).alloc (.cells #[.int .i64 (N : Int)] 3)).alloc (.cells #[.slice none 0 0] 53)) := ⟨_, rfl⟩
    have h3 := blocks3 w (.cells #[.int .i64 t, .int .i64 k] 42) (.cells #[.int .i64 (N : Int)] 3) (.cells #[.slice none 0 0] 53)
    rw [← hW3, ← hp4, ← hp5, ← hz] at h3
    obtain ⟨g0, g1, g2, g3, g4⟩ := h3
    have k0 : W3.cell? ⟨p4, 0, none⟩ = some (.int .i64 t) := by rw [cell_of_row _ _ 0 _ _ _ g0]; rfl
    have k1 : W3.cell? ⟨p4, 1, none⟩ = some (.int .i64 k) := by rw [cell_of_row _ _ 1 _ _ _ g0]; rfl
    have HP := Lib.hid (And.intro hp4 (And.intro hp5 hz))
    have HW := Lib.hid hW3
    have hF3 : FRI w z p5 (.cells #[.int .i64 (N : Int)] 3 (0, 0)) [] (fun _ => False) W3 := ⟨by rw [hp4] at g4; exact g4, fun q e => e.elim, by omega, ⟨g1, id, by omega⟩, .slice none 0 0, g2, World.ownsRow_nil _ _ _ _, (fun h => by cases h), (fun h => by cases h), fun q e => e.elim⟩
    have HF3 := Lib.hid hF3
    clear g0 g1 g2 g3 g4 hp4 hp5 hz hW3 hF3 hm
    have hn1 : ¬ (N : Int) < 1 := by have := HN1.out; omega
    gi_upto_region 4 with (fail)
    clear hn1
    rw [← HW.out, ← HP.out.1, ← HP.out.2.1, ← HP.out.2.2]
    gi_wp2_with (fail)
    refine ⟨trivial, ?_⟩
    refine (callsIn_wide.2 entries_any).mono ?_
    rintro e w3 ⟨rfl, hk3, hs3, hb3, hz3⟩
    obtain ⟨b1, hb1⟩ : ∃ b1, b1 = W3.heap.size + 1 := ⟨_, rfl⟩
    obtain ⟨b2, hb2'⟩ : ∃ b2, b2 = W3.heap.size := ⟨_, rfl⟩
    rw [← hb1] at hk3
    rw [← hb2'] at hs3
    have hP3 : FRI w z p5 (.cells #[.int .i64 (N : Int)] 3 (0, 0)) (liveE (E.take 0)) (fun q => q = b1 ∨ q = b2) w3 := by
      refine FRI.st w z p5 _ _ _ _ W3 w3 HF3.out (Ch.of_below hb3 _) ⟨fun q e => e.elim, fun q e => .inr ?_⟩
      omega
    have HP3 := Lib.hid (show FRI w z p5 (.cells #[.int .i64 (N : Int)] 3 (0, 0)) (liveE (E.take 0)) (fun q => q = b1 ∨ q = b2) w3 ∧ (liveE (E.take 0)).length < N from ⟨hP3, by have := HN1.out; simp only [List.take_zero]; exact this⟩)
    have HHH := Lib.hid (HH.out w3 b1 b2 (fun q => q = b1 ∨ q = b2) hk3 hs3 (.inl rfl) (.inr rfl))
    have HLT3 : Hid (b1 < w3.heap.size ∧ b2 < w3.heap.size) := Lib.hid (by omega)
    clear hP3 hk3 hs3 hb3 hz3 HH k0 k1
    gi_wp2_with (fail)
    rw [← hb1, ← hb2']
    clear hb1 hb2'
    refine wp_range2 (w0 := w3) (O0 := fun q => q = b1 ∨ q = b2) (O := fun q => q = b1 ∨ q = b2) (N := E.length) (enc := encE E) (gf := 89) (lb := #[.pointer (some ⟨b1, 0, none⟩), .pointer (some ⟨b2, 0, none⟩)]) rfl (enters_of Try.func89 (by kernel_rfl) rfl) HHH.out (Kps.refl _ _) (fun _ => rfl)
      (fun k O W => FRI w z p5 (.cells #[.int .i64 (N : Int)] 3 (0, 0)) (liveE (E.take k)) O W ∧ (liveE (E.take k)).length < N) (fun c k O W => c = .exit 0 ∧ FRI w z p5 (.cells #[.int .i64 (N : Int)] 3 (0, 0)) (liveE (E.take k)) O W ∧ (liveE (E.take k)).length = N)
      (fun k O O' W W' h hC hG => ⟨FRI.st _ _ _ _ _ O O' W W' h.1 hC hG, h.2⟩) (fun c k O O' W W' h hC hG => ⟨h.1, FRI.st _ _ _ _ _ O O' W W' h.2.1 hC hG, h.2.2⟩) (fun k O W _ h i _ hi _ => HTB.out W h.1.b i hi) HP3.out (fun _ h => h) (fun q e => by have := HLT3.out; rcases e with rfl | rfl <;> omega) ?round ?done ?stop
    case stop =>
      rintro D j c O1 WD _ ⟨rfl, hI, hIl⟩ _ _ _ hDge hD
      obtain ⟨h1, _, _, _, v, h3, h4, _, _, _⟩ := hI
      have hRES : (liveE E).take N = liveE (E.take (j + 1)) := by
        rw [← hIl]
        exact live_prefix E (j + 1)
      have HW3 := Lib.hid (show w3.heap.size ≤ D from hDge)
      have hw3 := HP3.out.1.b.size
      have h1' : Below w.heap.size w WD := h1
      clear hIl hDge
      have y7 : WD.cell? ⟨z, 0, none⟩ = some v := by rw [cell_of_row _ _ 0 _ _ _ h3]; rfl
      have HV := Lib.hid (And.intro h4 (And.intro h1 hRES))
      have HD := Lib.hid (And.intro hD (show w.heap.size ≤ D from Nat.le_trans hw3 HW3.out))
      clear h1 h1' hw3 h3 h4 hD hRES
      gi_wp2_with fail
      refine leaves_marks (v := v) _ _ (fun d hd => ⟨D, by rw [List.mem_singleton.1 hd], HD.out.1⟩) (List.pairwise_singleton _ _) fun w1 e1 e2 e3 e4 e5 => ⟨by simp [results, Try.results18, go_sem], v, rfl, ?_, ?_⟩
      · rw [HV.out.2.2]
        refine own_same HV.out.1 fun q hq => e5 q fun d hd c => ?_
        have e6 : D = q := by rw [List.mem_singleton.1 hd] at c; simpa using c
        obtain ⟨cur, e7⟩ := own_at HV.out.1 hq
        rw [← e6, HD.out.1] at e7
        simp at e7
      · have hb := HV.out.2.1
        refine ⟨e2.trans hb.os, e3.trans hb.tape, e4.trans hb.output, by rw [e1]; exact hb.size, fun q hq => (e5 q fun d hd c => ?_).trans (hb.block q hq)⟩
        have e6 : D = q := by rw [List.mem_singleton.1 hd] at c; simpa using c
        have := HD.out.2
        omega
    case round =>
      intro l2 lp k ob Oq Wq hk hI hsub2 hlt2 hlp hlpg K hK
      obtain ⟨e, he⟩ : ∃ e, e = E[k] := ⟨_, rfl⟩
      have heo : E[k]? = some e := by rw [he]; exact List.getElem?_eq_getElem hk
      rw [encE_at heo]
      have hbm : Below Wq.heap.size Wq (Wq.alloc (.cells #[.int .i64 (e.t : Int), .int .i64 e.x.k, .int .i64 e.x.c.v, .int .i64 e.x.c.s, .bool e.x.c.dead] 112)) := (Below.refl _ _).alloc (Nat.le_refl _) _
      have HBM := Lib.hid hbm
      have HQ := Lib.hid (And.intro hI (And.intro hlp (And.intro hlt2 (And.intro hk heo))))
      clear hI hsub2 hlt2 hlp hlpg hk he heo hbm
      simp only [List.zip_toArray, List.zip_cons_cons, List.zip_nil_right, List.foldl_toArray, List.foldl_cons, List.foldl_nil, List.setIfInBounds_toArray, List.set_cons_succ, List.set_cons_zero]
      gi_wp2_with (rw [Oper.semAt_eq _ _ _ (fun c h => by cases h)]; go_simp)
      refine hK _ _ HBM.out ?_
      clear hK K
      obtain ⟨⟨hI, hIl⟩, hlp, hlt2, hk, heo⟩ := HQ.out
      obtain ⟨y, hy⟩ : ∃ y, y = Wq.heap.size := ⟨_, rfl⟩
      obtain ⟨Wm, hWm⟩ : ∃ Wm, Wm = Wq.alloc (.cells #[.int .i64 (e.t : Int), .int .i64 e.x.k, .int .i64 e.x.c.v, .int .i64 e.x.c.s, .bool e.x.c.dead] 112) := ⟨_, rfl⟩
      have hbm := HBM.out
      have hzm : Wm.heap[Wq.heap.size]? = some (.cells #[.int .i64 (e.t : Int), .int .i64 e.x.k, .int .i64 e.x.c.v, .int .i64 e.x.c.s, .bool e.x.c.dead] 112 (0, 0)) := by rw [hWm]; exact heap_alloc_new Wq _
      rw [← hWm] at hbm ⊢
      rw [← hy] at hzm ⊢
      have hzl := (Array.getElem?_eq_some_iff.1 hzm).1
      have hne : y ≠ lp := by have := hlt2 lp hlp; omega
      have hP := (FRI.st w z p5 (.cells #[.int .i64 (N : Int)] 3 (0, 0)) (liveE (E.take k))).put ob (hI.box hbm (Nat.le_of_eq hy.symm) hzl) (.inl hlp)
      have hzb := (World.putObj_heap_other (w := Wm) (o := ob) hne).trans hzm
      have hszb : (Wm.putObj lp ob).heap.size = Wm.heap.size := World.putObj_size
      obtain ⟨W0, hW0⟩ : ∃ W0, W0 = Wm.putObj lp ob := ⟨_, rfl⟩
      rw [← hW0] at hP hzb hszb ⊢
      have hlt0 : ∀ q, (Oq q ∨ q = y) → q < W0.heap.size := fun q c => by
        rw [hszb]
        rcases c with c | c
        · exact Nat.lt_of_lt_of_le (hlt2 q c) hbm.size
        · rw [c]; exact hzl
      have HP := Lib.hid hP
      have HL0 := Lib.hid hlt0
      obtain ⟨xs, hxs⟩ : ∃ xs, xs = liveE (E.take k) := ⟨_, rfl⟩
      rw [← hxs] at HP hIl
      have HXL := Lib.hid hIl
      have HNX : Hid (liveE (E.take (k + 1)) = xs ++ (if e.x.c.dead then [] else [e])) := Lib.hid (by rw [hxs, live_take heo])
      have HXB : Hid (xs.length ≤ 400000) := Lib.hid (by
        have h3 : (liveE (E.take k)).length ≤ (E.take k).length := List.length_filter_le _ _
        have h4 : (E.take k).length ≤ E.length := by rw [List.length_take]; omega
        have := HEL.out
        rw [hxs]
        omega)
      obtain ⟨vd, hvd⟩ : ∃ vd, vd = e.x.c.dead := ⟨_, rfl⟩
      rw [← hvd] at hzb HNX
      have z0 : W0.cell? ⟨y, 0, none⟩ = some (.int .i64 (e.t : Int)) := by rw [cell_of_row _ _ 0 _ _ _ hzb]; rfl
      have z1 : W0.cell? ⟨y, 1, none⟩ = some (.int .i64 e.x.k) := by rw [cell_of_row _ _ 1 _ _ _ hzb]; rfl
      have z2 : W0.cell? ⟨y, 2, none⟩ = some (.int .i64 e.x.c.v) := by rw [cell_of_row _ _ 2 _ _ _ hzb]; rfl
      have z3 : W0.cell? ⟨y, 3, none⟩ = some (.int .i64 e.x.c.s) := by rw [cell_of_row _ _ 3 _ _ _ hzb]; rfl
      have z4 : W0.cell? ⟨y, 4, none⟩ = some (.bool vd) := by rw [cell_of_row _ _ 4 _ _ _ hzb]; rfl
      have HVD := Lib.hid hvd
      rw [HNX.out]
      clear hI hlp hlt2 hk heo hy hWm hbm hzm hzl hne hP hszb hW0 hlt0 hxs hzb hvd hIl
      cases vd with
      | true =>
        rw [if_pos rfl, List.append_nil]
        gi_wp2_with (rw [Oper.semAt_eq _ _ _ (fun c h => by cases h)]; go_simp)
        exact ⟨Kps.refl _ _, HP.out.mono fun q hq => .inl hq, HXL.out⟩
      | false =>
        rw [if_neg (by decide)]
        obtain ⟨_, _, _, ⟨q1, q2, q3⟩, v, h3, h4, h6, h7, h5⟩ := HP.out
        obtain ⟨A9, c9, rfl⟩ := own_form h4
        obtain ⟨n9, hn9⟩ : ∃ n9, n9 = xs.length := ⟨_, rfl⟩
        have hbl := HXB.out
        have hsw := HP.out.b.size
        obtain ⟨Wc, hWc⟩ : ∃ Wc, Wc = W0.alloc (.cells #[.int .i64 (e.t : Int), .int .i64 e.x.k, .int .i64 e.x.c.v, .int .i64 e.x.c.s, .bool false] 112) := ⟨_, rfl⟩
        have hbc : Below W0.heap.size W0 Wc := by rw [hWc]; exact (Below.refl _ _).alloc (Nat.le_refl _) _
        have hrf : Rdv Wc (some ⟨W0.heap.size, 0, none⟩) 1 5 e.vals := by
          have h9 := rdv_freshE W0 e 112
          rw [← HVD.out] at h9
          rw [hWc]
          exact h9
        obtain ⟨v', w', hrun, ho, hg, hq⟩ := append_block elemSn Wc w.heap.size 53 (.slice A9 xs.length c9) xs.length (rowV En.vals xs) (h4.below hbc) (some ⟨W0.heap.size, 0, none⟩) 1 1 e.vals hrf (en1 e) (fun h => by cases h) (by unfold maxLen; omega) (by omega) (Nat.le_trans hsw hbc.size)
        obtain ⟨A8, c8, rfl⟩ := own_form ho
        have hpp := HP.out.push (e := e) h3 h4 h6 h7 h5 HL0.out ho (by rw [hWc] at hg; exact hg) (by rw [hWc] at hq; exact hq)
        have y7 : W0.cell? ⟨z, 0, none⟩ = some (.slice A9 n9 c9) := by rw [cell_of_row _ _ 0 _ _ _ h3, hn9]; rfl
        have yf := frozen_of hpp.2.2.1
        have y6 : w'.cell? ⟨z, 0, none⟩ = some (.slice A9 n9 c9) := by rw [cell_of_row _ _ 0 _ _ _ hpp.2.2.1, hn9]; rfl
        have y8 : (w'.setCell ⟨z, 0, none⟩ (.slice A8 (n9 + 1) c8)).cell? ⟨z, 0, none⟩ = some (.slice A8 (n9 + 1) c8) := by rw [hn9, cell_of_row _ _ 0 _ _ _ hpp.2.2.2]; rfl
        have y9 : (w'.setCell ⟨z, 0, none⟩ (.slice A8 (n9 + 1) c8)).cell? ⟨p5, 0, none⟩ = some (.int .i64 (N : Int)) := by rw [hn9, cell_of_row _ _ 0 _ _ _ hpp.1.side.1]; rfl
        have HPP := Lib.hid (And.intro hpp.1 hpp.2.1)
        rw [← hn9] at hrun HPP
        have HRUN := Lib.hid hrun
        have HWC := Lib.hid hWc
        have HN9 := Lib.hid hn9
        clear h3 h4 h6 h7 h5 q1 q2 q3 hbl hsw hWc hbc hrf hrun ho hg hq hpp hn9
        obtain ⟨m9, hm9⟩ : ∃ m9, m9 = n9 + 1 := ⟨_, rfl⟩
        have HM9 := Lib.hid hm9
        rw [← hm9] at HRUN HPP y8 y9
        clear hm9
        by_cases hN9 : m9 = N
        · have d1 : ((m9 : Int) == (N : Int)) = true := by rw [hN9]; simp
          have HMN := Lib.hid hN9
          clear hN9
          gi_wp2_with (first | (gi_at_builtin; rw [← HWC.out]; refine wpListIn_append rfl (.tmp 18) (.tmp 20) 53 53 rfl (.slice A9 n9 c9) (.slice (some ⟨W0.heap.size, 0, none⟩) 1 1) rfl rfl HRUN.out ?_) | (rw [Oper.semAt_eq _ _ _ (fun c h => by cases h)]; go_simp))
          exact ⟨HPP.out.2.mono fun q hq => .inl hq, rfl, HPP.out.1.mono fun q hq => .inl hq, by have := HM9.out; have := HMN.out; have := HN9.out; simp only [List.length_append, List.length_cons, List.length_nil]; omega⟩
        · have d1 : ((m9 : Int) == (N : Int)) = false := by
            have : ¬ (m9 : Int) = (N : Int) := by omega
            simpa using this
          have HMN := Lib.hid hN9
          clear hN9
          gi_wp2_with (first | (gi_at_builtin; rw [← HWC.out]; refine wpListIn_append rfl (.tmp 18) (.tmp 20) 53 53 rfl (.slice A9 n9 c9) (.slice (some ⟨W0.heap.size, 0, none⟩) 1 1) rfl rfl HRUN.out ?_) | (rw [Oper.semAt_eq _ _ _ (fun c h => by cases h)]; go_simp))
          exact ⟨HPP.out.2.mono fun q hq => .inl hq, HPP.out.1.mono fun q hq => .inl hq, by have := HM9.out; have := HMN.out; have := HN9.out; have := HXL.out; simp only [List.length_append, List.length_cons, List.length_nil]; omega⟩
    case done =>
      rintro D O1 WD ⟨hI, hIl⟩ _ _ _ hDge hD
      rw [List.take_length] at hI hIl
      obtain ⟨h1, _, _, _, v, h3, h4, _, _, _⟩ := hI
      have hRES : (liveE E).take N = liveE E := List.take_of_length_le (Nat.le_of_lt hIl)
      have HW3 := Lib.hid (show w3.heap.size ≤ D from hDge)
      have hw3 := HP3.out.1.b.size
      clear hIl hDge
      have y7 : WD.cell? ⟨z, 0, none⟩ = some v := by rw [cell_of_row _ _ 0 _ _ _ h3]; rfl
      have HV := Lib.hid (And.intro h4 (And.intro h1 hRES))
      have HD := Lib.hid (And.intro hD (show w.heap.size ≤ D from Nat.le_trans hw3 HW3.out))
      clear h1 hw3 h3 h4 hD hRES
      gi_wp2_with fail
      refine leaves_marks (v := v) _ _ (fun d hd => ⟨D, by rw [List.mem_singleton.1 hd], HD.out.1⟩) (List.pairwise_singleton _ _) fun w1 e1 e2 e3 e4 e5 => ⟨by simp [results, Try.results18, go_sem], v, rfl, ?_, ?_⟩
      · rw [HV.out.2.2]
        refine own_same HV.out.1 fun q hq => e5 q fun d hd c => ?_
        have e6 : D = q := by rw [List.mem_singleton.1 hd] at c; simpa using c
        obtain ⟨cur, e7⟩ := own_at HV.out.1 hq
        rw [← e6, HD.out.1] at e7
        simp at e7
      · have hb := HV.out.2.1
        refine ⟨e2.trans hb.os, e3.trans hb.tape, e4.trans hb.output, by rw [e1]; exact hb.size, fun q hq => (e5 q fun d hd c => ?_).trans (hb.block q hq)⟩
        have e6 : D = q := by rw [List.mem_singleton.1 hd] at c; simpa using c
        have := HD.out.2
        omega
end Go.Proofs.Ytejpjbmbcdgomaa

/- A sweep in memory; Begin, Done. -/
namespace Go.Proofs.Ytejpjbmbcdgomaa
set_option maxRecDepth 100000
open Go.RowKit

/-- A sweep's block: its store, its cursor, its notes, what it took, is it done. -/
abbrev SwM (w : World) (xb : Nat) (so : Option Addr) (ct ck : Int) (nv tv : Value) (d : Bool) : Prop := w.heap[xb]? = some (.cells #[.pointer so, .int .i64 ct, .int .i64 ck, nv, tv, .bool d] 145 (0, 0))
section
variable {w : World} {xb : Nat} {so : Option Addr} {ct ck : Int} {nv tv : Value} {d : Bool}
theorem SwM.at (h : SwM w xb so ct ck nv tv d) : w.cell? ⟨xb, 0, none⟩ = some (.pointer so) ∧ w.cell? ⟨xb, 1, none⟩ = some (.int .i64 ct) ∧ w.cell? ⟨xb, 2, none⟩ = some (.int .i64 ck) ∧ w.cell? ⟨xb, 3, none⟩ = some nv ∧ w.cell? ⟨xb, 4, none⟩ = some tv ∧ w.cell? ⟨xb, 5, none⟩ = some (.bool d) :=
  ⟨by rw [cell_of_row _ _ 0 _ _ _ h]; rfl, by rw [cell_of_row _ _ 1 _ _ _ h]; rfl, by rw [cell_of_row _ _ 2 _ _ _ h]; rfl, by rw [cell_of_row _ _ 3 _ _ _ h]; rfl, by rw [cell_of_row _ _ 4 _ _ _ h]; rfl, by rw [cell_of_row _ _ 5 _ _ _ h]; rfl⟩
theorem SwM.lt (h : SwM w xb so ct ck nv tv d) : xb < w.heap.size := (Array.getElem?_eq_some_iff.1 h).1
theorem SwM.below {w1 : World} (h : SwM w xb so ct ck nv tv d) (hb : Below w.heap.size w w1) : SwM w1 xb so ct ck nv tv d := (hb.block xb h.lt).trans h
end
theorem swdone_any {w : World} {xb : Nat} {so : Option Addr} {ct ck : Int} {nv tv : Value} {d : Bool} (h : SwM w xb so ct ck nv tv d) : Calls Try.prog 44 #[.pointer (some ⟨xb, 0, none⟩)] w fun e w' => e = .returned (.bool d) ∧ w = w' := by
  obtain ⟨_, _, _, _, _, c5⟩ := h.at
  clear h
  go_enter Try.func44, Try.ntmps44
  go_wp2_with fail
  go_ret
  exact ⟨rfl, rfl⟩
theorem swbegin_any (w : World) (so : Option Addr) : Calls Try.prog 38 #[.pointer so] w fun e w' => e = .returned (.pointer (some ⟨w.heap.size, 0, none⟩)) ∧ SwM w' w.heap.size so 0 (-9223372036854775808) (.slice none 0 0) (.slice none 0 0) false ∧ Below w.heap.size w w' := by
  have HN := Lib.hid (heap_alloc_new w (.cells #[.pointer so, .int .i64 0, .int .i64 (-9223372036854775808), .slice none 0 0, .slice none 0 0, .bool false] 145))
  have HB := Lib.hid ((Below.refl _ w).alloc (Nat.le_refl _) (.cells #[.pointer so, .int .i64 0, .int .i64 (-9223372036854775808), .slice none 0 0, .slice none 0 0, .bool false] 145))
  go_enter Try.func38, Try.ntmps38
  go_wp2_with fail
  go_ret
  exact ⟨rfl, HN.out, HB.out⟩
end Go.Proofs.Ytejpjbmbcdgomaa
