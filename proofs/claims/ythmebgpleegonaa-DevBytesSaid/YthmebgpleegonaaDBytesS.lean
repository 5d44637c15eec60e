/- The rows of bytes beside a set of devices. -/
import Derived.Test.YthmebgpleegonaaDBytesR
import Derived.Test.YthmebgpleegonaaDDo
import Derived.Test.YthmebgpleegonaaDAloneM
namespace Go.Proofs.Ythmebgpleegonaa
set_option maxRecDepth 100000
open Go.RowKit

structure May (W : World) (mb : Nat) (L : List Br) : Prop where
  block : W.heap[mb]? = some (.cells (L.map Br.v ++ List.replicate (10 - L.length) (Value.slice none 0 0)).toArray 47 (0, 0))
  len : L.length ≤ 10
  each : ∀ r ∈ L, BrOk W r
  apart : ∀ i j (hi : i < L.length) (hj : j < L.length), i ≠ j → L[i].b ≠ L[j].b
/-- The blocks of the rows. -/
def Yb (mb : Nat) (L : List Br) (k : Nat) : Prop := k = mb ∨ ∃ r ∈ L, k = r.b
section
variable {W W' : World} {mb : Nat} {L : List Br}
theorem BrOk.ne {r : Br} (h : BrOk W r) {c : Array Value} (hb : W.heap[mb]? = some (.cells c 47 (0, 0))) : r.b ≠ mb := by
  intro e
  obtain ⟨cur, h1, _⟩ := h.blk
  rw [e, hb] at h1
  injection h1 with h1
  injection h1 with _ a
  exact absurd a (by decide)
theorem May.lt (h : May W mb L) : ∀ k, Yb mb L k → k < W.heap.size := fun k e => by
  rcases e with rfl | ⟨r, hr, rfl⟩
  · exact (Array.getElem?_eq_some_iff.1 h.block).1
  · exact (h.each r hr).lt
theorem May.keep (h : May W mb L) (hk : ∀ k, Yb mb L k → W'.heap[k]? = W.heap[k]?) : May W' mb L :=
  ⟨(hk mb (.inl rfl)).trans h.block, h.len, fun r hr => (h.each r hr).keep (hk _ (.inr ⟨r, hr, rfl⟩)), h.apart⟩
theorem May.below (h : May W mb L) (hb : Below W.heap.size W W') : May W' mb L := h.keep fun k e => hb.block k (h.lt k e)
theorem May.cell (h : May W mb L) (k : Nat) (hk : k < L.length) : W.cell? ⟨mb, k, none⟩ = some L[k].v := by
  rw [cell_of_row W mb k _ _ (0, 0) h.block, List.getElem?_toArray, List.getElem?_append_left (by rw [List.length_map]; exact hk), List.getElem?_map, List.getElem?_eq_getElem hk]
  rfl
theorem May.cellN (h : May W mb L) (k : Nat) (hk : L.length ≤ k) (h10 : k < 10) : W.cell? ⟨mb, k, none⟩ = some (.slice none 0 0) := by
  rw [cell_of_row W mb k _ _ (0, 0) h.block, List.getElem?_toArray, List.getElem?_append_right (by rw [List.length_map]; exact hk), List.getElem?_replicate, if_pos (by rw [List.length_map]; omega)]
theorem May.fr (h : May W mb L) (k : Nat) : W.frozen? ⟨mb, k, none⟩ = false := frozen_at h.block k
theorem May.push (h : May W mb L) (hl : L.length < 10) (r : Br) (hr : BrOk W r) (hn : ∀ q ∈ L, q.b ≠ r.b) : May (W.setCell ⟨mb, L.length, none⟩ r.v) mb (L ++ [r]) := by
  have keep2 : ∀ k, k ≠ mb → (W.setCell ⟨mb, L.length, none⟩ r.v).heap[k]? = W.heap[k]? := fun k hk => Deep.blk_setCell_other W ⟨mb, L.length, none⟩ r.v k hk
  refine ⟨?_, by rw [List.length_append]; simp; omega, fun q hq => ?_, fun i j hi hj hne => ?_⟩
  · rw [box_set h.block]
    congr 2
    apply Array.ext'
    rw [Array.toList_setIfInBounds]
    dsimp only
    obtain ⟨m, hm⟩ : ∃ m, 10 - L.length = m + 1 := ⟨9 - L.length, by omega⟩
    rw [hm, List.replicate_succ, List.set_append_right _ _ (by rw [List.length_map]; exact Nat.le_refl _), List.length_map, Nat.sub_self, List.set_cons_zero, List.length_append, List.length_singleton, show 10 - (L.length + 1) = m by omega, List.map_append]
    simp
  · rcases List.mem_append.1 hq with e | e
    · exact (h.each q e).keep (keep2 _ ((h.each q e).ne h.block))
    · rw [List.mem_singleton.1 e]; exact hr.keep (keep2 _ (hr.ne h.block))
  · rw [List.length_append, List.length_singleton] at hi hj
    rw [List.getElem_append, List.getElem_append]
    by_cases h1 : i < L.length
    · by_cases h2 : j < L.length
      · rw [dif_pos h1, dif_pos h2]; exact h.apart i j h1 h2 hne
      · rw [dif_pos h1, dif_neg h2]
        simp only [List.getElem_singleton]
        exact hn _ (List.getElem_mem h1)
    · by_cases h2 : j < L.length
      · rw [dif_neg h1, dif_pos h2]
        simp only [List.getElem_singleton]
        exact fun e => hn _ (List.getElem_mem h2) e.symm
      · omega
/-- One row turned. -/
theorem May.turn (h : May W mb L) (k : Nat) (hk : k < L.length) (r : Br) (hg : W.grownBy W' (some L[k].b)) (hr : BrOk W' r) (hb : r.b = L[k].b ∨ W.heap.size ≤ r.b) :
    W'.cell? ⟨mb, k, none⟩ = some L[k].v ∧ W'.frozen? ⟨mb, k, none⟩ = false ∧ May (W'.setCell ⟨mb, k, none⟩ r.v) mb (L.set k r) ∧ ∀ j, Yb mb (L.set k r) j → Yb mb L j ∨ W.heap.size ≤ j := by
  have hmb : W'.heap[mb]? = W.heap[mb]? := hg.block mb (h.lt mb (.inl rfl)) (fun e => by injection e with e; exact (h.each _ (List.getElem_mem hk)).ne h.block e.symm)
  have hblk := hmb.trans h.block
  have keep2 : ∀ q, q ≠ mb → (W'.setCell ⟨mb, k, none⟩ r.v).heap[q]? = W'.heap[q]? := fun q hq => Deep.blk_setCell_other W' ⟨mb, k, none⟩ r.v q hq
  have hc := h.cell k hk
  refine ⟨by rw [World.cell?_of_block hmb]; exact hc, frozen_at hblk k, ⟨?_, by rw [List.length_set]; exact h.len, fun q hq => ?_, fun i j hi hj hne => ?_⟩, fun j e => ?_⟩
  · rw [box_set hblk]
    congr 2
    apply Array.ext'
    rw [Array.toList_setIfInBounds]
    simp only [List.length_set]
    rw [List.set_append_left _ _ (by rw [List.length_map]; exact hk), List.map_set]
  · obtain ⟨i, hi, rfl⟩ := List.getElem_of_mem hq
    rw [List.length_set] at hi
    rw [List.getElem_set]
    split
    · exact hr.keep (keep2 _ (hr.ne hblk))
    · rename_i hik
      have hri := h.each _ (List.getElem_mem hi)
      exact (hri.keep (hg.block _ hri.lt (fun e => by injection e with e; exact h.apart i k hi hk (fun e2 => hik e2.symm) e))).keep (keep2 _ (hri.ne h.block))
  · rw [List.length_set] at hi hj
    rw [List.getElem_set, List.getElem_set]
    by_cases h1 : k = i
    · by_cases h2 : k = j
      · omega
      · rw [if_pos h1, if_neg h2]
        rcases hb with e | e
        · rw [e]; subst h1; exact h.apart k j hk hj hne
        · intro e2
          have := (h.each _ (List.getElem_mem hj)).lt
          omega
    · by_cases h2 : k = j
      · rw [if_neg h1, if_pos h2]
        rcases hb with e | e
        · rw [e]; subst h2; exact h.apart i k hi hk hne
        · intro e2
          have := (h.each _ (List.getElem_mem hi)).lt
          omega
      · rw [if_neg h1, if_neg h2]; exact h.apart i j hi hj hne
  · rcases e with e | ⟨q, hq, rfl⟩
    · exact .inl (.inl e)
    · rcases List.mem_or_eq_of_mem_set hq with e | e
      · exact .inl (.inr ⟨q, e, rfl⟩)
      · subst e
        rcases hb with e | e
        · exact .inl (.inr ⟨_, List.getElem_mem hk, e⟩)
        · exact .inr e
end
def RL (L : List Br) (j : Nat) (i : Int) : List Nat := (L.getD (5 * j + i.toNat) ⟨0, 0, 0, []⟩).xs
/-- The devices and the rows, between two acts. -/
structure BM (w wr : World) (g mb q : Nat) (F : Nat → Prop) (p : Pw) (ds : List Dk) (L : List Br) : Prop where
  st : St wr F g p ds q
  may : May wr mb L
  fy : ∀ k, Yb mb L k → ¬ F k
  low : ∀ k, Yb mb L k → w.heap.size ≤ k
  on : On p
  ps : p.steps ≤ q
  pa : p.armed ≤ 9223372036854775807
  sz : ds.map Dk.size = [5, 5]
  few : ∀ r ∈ L, r.xs.length ≤ q + 1
  ch : Chg w wr (fun _ => False) F
section
variable {w wr wq : World} {g mb q : Nat} {F F' : Nat → Prop} {p p' : Pw} {ds ds' : List Dk} {L : List Br}
theorem BM.below (h : BM w wr g mb q F p ds L) (hb : Below wr.heap.size wr wq) : BM w wq g mb q F p ds L :=
  ⟨h.st.below hb, h.may.below hb, h.fy, h.low, h.on, h.ps, h.pa, h.sz, h.few, h.ch.trans (Chg.of_below hb F)⟩
theorem BM.mono (h : BM w wr g mb q F p ds L) : BM w wr g mb (q + 1) F p ds L :=
  ⟨h.st.mono (by omega), h.may, h.fy, h.low, h.on, Nat.le_succ_of_le h.ps, h.pa, h.sz, fun r hr => Nat.le_succ_of_le (h.few r hr), h.ch⟩
/-- The set has changed. -/
theorem BM.act (h : BM w wr g mb q F p ds L) (hs : St wq F' g p' ds' (q + 1)) (hc : Chg wr wq F F') (ho : On p') (hp : p'.steps ≤ q + 1) (ha : p'.armed ≤ 9223372036854775807) (hz : ds'.map Dk.size = [5, 5]) : BM w wq g mb (q + 1) F' p' ds' L :=
  ⟨hs, h.may.keep fun k e => hc.block k (h.may.lt k e) (h.fy k e), fun k e e2 => by
    rcases hc.new k e2 with e3 | e3
    · exact h.fy k e e3
    · have := h.may.lt k e; omega, h.low, ho, hp, ha, hz, fun r hr => Nat.le_succ_of_le (h.few r hr), h.ch.trans hc⟩
/-- One row has turned. -/
theorem BM.turn {W' : World} (h : BM w wr g mb q F p ds L) (k : Nat) (hk : k < L.length) (r : Br) (hg : wr.grownBy W' (some L[k].b)) (hr : BrOk W' r) (hb : r.b = L[k].b ∨ wr.heap.size ≤ r.b) (hx : r.xs.length ≤ q + 1) :
    W'.cell? ⟨mb, k, none⟩ = some L[k].v ∧ W'.frozen? ⟨mb, k, none⟩ = false ∧ BM w (W'.setCell ⟨mb, k, none⟩ r.v) g mb q F p ds (L.set k r) := by
  obtain ⟨h1, h2, h3, h4⟩ := h.may.turn k hk r hg hr hb
  have hlow := h.low
  have hws := h.ch.size
  have hc : Chg wr (W'.setCell ⟨mb, k, none⟩ r.v) (fun j => j = mb ∨ j = L[k].b) (fun j => j = mb ∨ j = L[k].b) :=
    ⟨hg.os, hg.tape, hg.output, by rw [World.size_setCell]; exact hg.size, fun j hj hn => (Deep.blk_setCell_other W' ⟨mb, k, none⟩ r.v j (fun e => hn (.inl e))).trans (hg.block j hj (fun e => by injection e with e; exact hn (.inr e))), fun j e => .inl e⟩
  have hin : ∀ j, (j = mb ∨ j = L[k].b) → Yb mb L j := fun j e => by
    rcases e with e | e
    · exact .inl e
    · exact .inr ⟨_, List.getElem_mem hk, e⟩
  refine ⟨h1, h2, ⟨h.st.stay hc fun j e e2 => h.fy j (hin j e2) e, h3, fun j e e2 => ?_, fun j e => ?_, h.on, h.ps, h.pa, h.sz, fun s hs => ?_, h.ch.beside hc fun j e => hlow j (hin j e)⟩⟩
  · rcases h4 j e with e3 | e3
    · exact h.fy j e3 e2
    · have := h.st.lt j e2; omega
  · rcases h4 j e with e3 | e3
    · exact hlow j e3
    · omega
  · rcases List.mem_or_eq_of_mem_set hs with e | e
    · exact h.few s e
    · rw [e]; exact hx
end
/-- One byte more, as a step of a region. -/
theorem wp_append_br {w : World} {o : Oper} {a : Act} {K : Act → World → Prop} {Q : Exit → Act → World → Prop} (s x : Operand)
    (ho : o.op = .call { callee := .builtin .append, args := #[s, x], argTypes := #[45, 45] }) (r : Br) (hs : a.eval s = r.v) (h : BrOk w r) (xb g2 : Nat) (hx : a.eval x = .slice (some ⟨g2, 0, none⟩) 1 1) (hg2 : w.heap[g2]? = some (.cells #[.int .u8 (xb : Int)] 5 (0, 0))) (hl : r.xs.length ≤ 1000)
    (hK : ∀ r' w', r'.xs = r.xs ++ [xb] → BrOk w' r' → w.grownBy w' (some r.b) → (r'.b = r.b ∨ w.heap.size ≤ r'.b) → K (a.put o.dst (.slice (some ⟨r'.b, r'.off, none⟩) r'.xs.length r'.cap)) w') : Oper.wp Try.prog o a w K Q := by
  obtain ⟨r', w', hrun, h1, h2, h3, h4⟩ := br_append h o.type xb g2 hg2 hl
  have h5 := hK r' w' h1 h2 h3 h4
  unfold Oper.wp
  simp [execOp, ho, resolve, invoke, builtin, hs, hx, hrun, Result.andThen]
  exact h5
theorem writeM_yes {p : Pw} (h : On p) (ds : List Dk) (d i : Int) (x : Sx) (hb : hasB ds d i = true) : writeM p ds d i x = (.nilIface, (stepP p).2, setAt ds d.toNat fun e => e.more ⟨i, x⟩) := by
  unfold writeM
  rw [if_neg (by rw [hb]; decide), if_neg (by rw [h.step.1]; decide)]
theorem flushM_yes {p : Pw} (h : On p) (ds : List Dk) (d : Int) (hb : hasB ds d 0 = true) : flushM p ds d = (.nilIface, (stepP p).2, setAt ds d.toNat Dk.flushed) := by
  unfold flushM
  rw [if_neg (by rw [hb]; decide), if_neg (by rw [h.step.1]; decide)]
theorem has_five {ds : List Dk} (hz : ds.map Dk.size = [5, 5]) {d i : Int} (h : hasB ds d i = true) : ∃ j m : Nat, d = (j : Int) ∧ i = (m : Int) ∧ j < 2 ∧ m < 5 ∧ j < ds.length := by
  obtain ⟨j, rfl, hj, h0, h1⟩ := hasB_true h
  have hl : ds.length = 2 := by have := congrArg List.length hz; simpa using this
  have h5 : ds[j].size = 5 := by
    have e : (ds.map Dk.size)[j]? = ([5, 5] : List Nat)[j]? := by rw [hz]
    rw [List.getElem?_map, List.getElem?_eq_getElem hj] at e
    have : j = 0 ∨ j = 1 := by omega
    rcases this with rfl | rfl
    · simpa using e
    · simpa using e
  exact ⟨j, i.toNat, rfl, by omega, by omega, by omega, hj⟩
/-- The rows tell what each byte may be. -/
def HL (ds : List Dk) (L : List Br) : Prop := ∀ j (hj : j < ds.length), Hist ds[j] (RL L j)
theorem setAt_len (ds : List Dk) (j : Nat) (f : Dk → Dk) : (setAt ds j f).length = ds.length := by
  unfold setAt
  split <;> simp
theorem setAt_at (ds : List Dk) (j : Nat) (hj : j < ds.length) (f : Dk → Dk) (i : Nat) (hi : i < (setAt ds j f).length) : (setAt ds j f)[i] = if j = i then f ds[j] else ds[i]'(by rw [setAt_len] at hi; exact hi) := by
  unfold setAt
  simp only [List.getElem?_eq_getElem hj, List.getElem_set]
theorem RL_set {L : List Br} (hL : L.length = 10) (r : Br) (k j : Nat) (i : Int) : RL (L.set k r) j i = if 5 * j + i.toNat = k ∧ k < 10 then r.xs else RL L j i := by
  unfold RL
  rw [List.getD_eq_getElem?_getD, List.getD_eq_getElem?_getD, List.getElem?_set]
  by_cases h : k = 5 * j + i.toNat
  · subst h
    by_cases h2 : 5 * j + i.toNat < 10
    · rw [if_pos rfl, if_pos (by omega), if_pos ⟨rfl, h2⟩]; rfl
    · rw [if_pos rfl, if_neg (by omega), if_neg (fun e => h2 e.2), List.getElem?_eq_none (by omega)]
  · rw [if_neg h, if_neg (fun e => h e.1.symm)]
theorem HL.more {ds : List Dk} {L : List Br} (h : HL ds L) (hL : L.length = 10) (j m b : Nat) (hj : j < ds.length) (hj2 : j < 2) (hm : m < 5) (hb : b < 256) (r : Br) (hr : r.xs = RL L j (m : Int) ++ [b]) : HL (setAt ds j fun e => e.more ⟨(m : Int), Sx.full b hb⟩) (L.set (5 * j + m) r) := by
  intro i hi
  rw [setAt_at ds j hj]
  have hi2 : i < ds.length := by rw [setAt_len] at hi; exact hi
  by_cases e : j = i
  · rw [if_pos e]
    subst e
    have h2 := (h j hj).more (m : Int) b hb
    refine ⟨h2.uni, h2.sure, fun q h0 h1 => ?_⟩
    have h3 := h2.row q h0 h1
    rw [← h3, RL_set hL r _ _ q]
    by_cases e2 : (m : Int) = q
    · rw [if_pos ⟨by omega, by omega⟩, if_pos e2, hr, e2]
    · rw [if_neg (by omega), if_neg e2]
  · rw [if_neg e]
    have h2 := h i hi2
    refine ⟨h2.uni, h2.sure, fun q h0 h1 => ?_⟩
    rw [RL_set hL r _ _ q, if_neg (by omega)]
    exact h2.row q h0 h1
/-- The last byte alone. -/
def Br.last (r : Br) : Br := ⟨r.b, r.off + (r.xs.length - 1), r.cap - (r.xs.length - 1), r.xs.drop (r.xs.length - 1)⟩
theorem BrOk.last {W : World} {r : Br} (h : BrOk W r) : BrOk W r.last := by
  obtain ⟨cur, h1, h2, h3⟩ := h.blk
  have hp := h.pos
  have hl := h.le
  refine ⟨⟨cur, h1, ?_, fun j u hj => ?_⟩, ?_, ?_⟩
  · show r.off + (r.xs.length - 1) + (r.cap - (r.xs.length - 1)) ≤ cur.size
    omega
  · show cur[r.off + (r.xs.length - 1) + j]? = some u
    rw [Nat.add_assoc]
    refine h3 _ u ?_
    have e : (valsB r.last.xs) = (valsB r.xs).drop (r.xs.length - 1) := by
      show valsB (r.xs.drop (r.xs.length - 1)) = _
      simp [valsB]
    rw [e, List.getElem?_drop] at hj
    exact hj
  · show (r.xs.drop (r.xs.length - 1)).length ≤ r.cap - (r.xs.length - 1)
    rw [List.length_drop]; omega
  · show 0 < (r.xs.drop (r.xs.length - 1)).length
    rw [List.length_drop]; omega
theorem Br.last_len {W : World} {r : Br} (h : BrOk W r) : r.last.xs.length = 1 := by
  have hp := h.pos
  show (r.xs.drop (r.xs.length - 1)).length = 1
  rw [List.length_drop]; omega
def br0 : Br := ⟨0, 0, 0, []⟩
/-- The first m rows of a device are cut to their last bytes. -/
def Turned (L0 : List Br) (j m : Nat) (L : List Br) : Prop := L.length = 10 ∧ ∀ i, i < 10 → L.getD i br0 = if 5 * j ≤ i ∧ i < 5 * j + m then (L0.getD i br0).last else L0.getD i br0
theorem Turned.start {L0 : List Br} (h : L0.length = 10) (j : Nat) : Turned L0 j 0 L0 := ⟨h, fun i _ => by rw [if_neg (by omega)]⟩
theorem Turned.next {L0 L : List Br} {j m : Nat} (h : Turned L0 j m L) (_ : j < 2) (hm : m < 5) (r : Br) (hr : r = (L0.getD (5 * j + m) br0).last) : Turned L0 j (m + 1) (L.set (5 * j + m) r) := by
  refine ⟨by rw [List.length_set]; exact h.1, fun i hi => ?_⟩
  have h2 := h.2 i hi
  rw [List.getD_eq_getElem?_getD] at h2 ⊢
  rw [List.getElem?_set]
  by_cases e : 5 * j + m = i
  · subst e
    rw [if_pos rfl, if_pos (by rw [h.1]; exact hi), if_pos (by omega), hr]
    rfl
  · rw [if_neg e, h2]
    by_cases e2 : 5 * j ≤ i ∧ i < 5 * j + m
    · rw [if_pos e2, if_pos (by omega)]
    · rw [if_neg e2, if_neg (by omega)]
theorem HL.flush {ds : List Dk} {L L2 : List Br} (h : HL ds L) (j : Nat) (hj : j < ds.length) (hj2 : ds.length = 2) (ht : Turned L j 5 L2) : HL (setAt ds j Dk.flushed) L2 := by
  intro i hi
  rw [setAt_at ds j hj]
  have hi2 : i < ds.length := by rw [setAt_len] at hi; exact hi
  have key : ∀ q : Int, 0 ≤ q → q < 5 → RL L2 i q = if j = i then (RL L i q).drop ((RL L i q).length - 1) else RL L i q := fun q h0 h1 => by
    have h2 := ht.2 (5 * i + q.toNat) (by omega)
    show (L2.getD (5 * i + q.toNat) br0).xs = _
    rw [h2]
    by_cases e : j = i
    · rw [if_pos (by omega), if_pos e]; rfl
    · rw [if_neg (by omega), if_neg e]; rfl
  by_cases e : j = i
  · rw [if_pos e]
    subst e
    have h2 := (h j hj).flushed
    refine ⟨h2.uni, h2.sure, fun q h0 h1 => ?_⟩
    have h3 := h2.row q h0 h1
    rw [key q h0 h1, if_pos rfl]
    exact h3
  · rw [if_neg e]
    have h2 := h i hi2
    refine ⟨h2.uni, h2.sure, fun q h0 h1 => ?_⟩
    rw [key q h0 h1, if_neg e]
    exact h2.row q h0 h1
/-- The five slices of a device. -/
def rowArr (L : List Br) (j : Nat) : Array Value := (((L.drop (5 * j)).take 5).map Br.v).toArray
theorem rowArr_size {L : List Br} (h : L.length = 10) (j : Nat) (hj : j < 2) : (rowArr L j).size = 5 := by
  unfold rowArr
  rw [List.size_toArray, List.length_map, List.length_take, List.length_drop, h]; omega
theorem rowArr_get {L : List Br} (h : L.length = 10) (j m : Nat) (hj : j < 2) (hm : m < 5) : (rowArr L j)[m]? = some (L.getD (5 * j + m) br0).v := by
  unfold rowArr
  rw [List.getElem?_toArray, List.getElem?_map, List.getElem?_take_of_lt hm, List.getElem?_drop, List.getElem?_eq_getElem (by omega), List.getD_eq_getElem?_getD, List.getElem?_eq_getElem (by omega)]
  rfl
theorem May.row {W : World} {mb : Nat} {L : List Br} (h : May W mb L) (hL : L.length = 10) (j : Nat) (hj : j < 2) : At W mb (j * 5) (rowArr L j).toList := fun m u hm => by
  have hm5 : m < 5 := by
    have := (List.getElem?_eq_some_iff.1 hm).1
    rw [Array.length_toList, rowArr_size hL j hj] at this
    exact this
  rw [Array.getElem?_toList, rowArr_get hL j m hj hm5] at hm
  injection hm with hm
  have h2 := h.cell (5 * j + m) (by omega)
  rw [List.getD_eq_getElem?_getD, List.getElem?_eq_getElem (by omega)] at hm
  rw [Nat.mul_comm j 5, h2, ← hm]
  rfl
theorem load_row {W : World} {mb : Nat} {L : List Br} (h : May W mb L) (hL : L.length = 10) (j : Nat) (hj : j < 2) : (loadVar 46 ⟨mb, j * 5, none⟩).run Try.prog W = .ok (.agg (rowArr L j)) W :=
  run_loadVar_at 46 _ (rowArr L j) (h.row hL j hj) Try.underlying46 rfl (by rw [rowArr_size hL j hj]; kernel_rfl)
end Go.Proofs.Ythmebgpleegonaa
