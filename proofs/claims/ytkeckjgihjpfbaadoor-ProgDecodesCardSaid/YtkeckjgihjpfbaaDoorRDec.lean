/- The document's Decode: count, and what stands in its rounds. -/
import Derived.Test.YtkeckjgihjpfbaaDoorREnc
import Derived.Test.YtkeckjgihjpfbaaDoorBackP
import Derived.Test.YtkeckjgihjpfbaaDoorRfN
import Derived.Test.YtkeckjgihjpfbaaDoorDec
namespace Go.Proofs.YtkeckjgihjpfbaaDoor
set_option maxRecDepth 100000
open Go.RowKit

def refc (n : Nat) : Int := if 100000 < n then -1 else (n : Int)
theorem refc_cv : ∀ n, n ≤ 100000 → refc n = (n : Int) := fun n h => if_neg (by omega)
set_option maxHeartbeats 400000 in
theorem refc_any (B g : Nat) (bs : List Nat) (bad : Bool) (w : World) (h : Rfx w B g bs bad) :
    Calls Tryd.prog 50 #[.pointer (some ⟨g, 0, none⟩)] w fun e w' => e = .returned (.int .i64 (refc (rcount bs).1)) ∧ Rfx w' B g (rcount bs).2.1 (rcount bs).2.2 ∧ OnlyG w w' g := by
  have HC := Lib.hid (mcount_any B g bs bad w h)
  have hlt := rcount_lt bs h.small
  obtain ⟨u, hu⟩ : ∃ u, u = (rcount bs).1 := ⟨_, rfl⟩
  rw [← hu] at HC hlt ⊢
  clear h hu
  by_cases hl : 100000 < u
  · have d1 : decide ((100000 : Int) < (u : Int)) = true := decide_eq_true (by omega)
    have HE := Lib.hid (show refc u = -1 from if_pos hl)
    clear hl
    go_enter Tryd.func50, Tryd.ntmps50
    go_wp2_with fail
    refine Calls.mono HC.out ?_
    rintro e w1 ⟨rfl, h1, h2⟩
    have H1 := Lib.hid h1
    have H2 := Lib.hid h2
    clear h1 h2
    go_wp2_with fail
    go_ret
    exact ⟨by rw [HE.out]; rfl, H1.out, H2.out⟩
  · have d1 : decide ((100000 : Int) < (u : Int)) = false := decide_eq_false (by omega)
    have HE := Lib.hid (show refc u = (u : Int) from if_neg hl)
    have e1 : IntKind.i64.wrap (u : Int) = ((u : Nat) : Int) := by rw [IntKind.wrap_i64]; omega
    clear hl
    go_enter Tryd.func50, Tryd.ntmps50
    go_wp2_with fail
    refine Calls.mono HC.out ?_
    rintro e w1 ⟨rfl, h1, h2⟩
    have H1 := Lib.hid h1
    have H2 := Lib.hid h2
    clear h1 h2
    go_wp2_with fail
    go_ret
    exact ⟨by rw [HE.out]; rfl, H1.out, H2.out⟩
/-- What stands in the document's Decode's round. -/
structure RI (w : World) (q g : Nat) (wr : World) (f : Int) (v : Value) (s : List Ins × List Nat × Bool) : Prop where
  rf : Rfx wr g g s.2.1 s.2.2
  below : Below w.heap.size w wr
  out : wr.heap[w.heap.size]? = some (.cells #[.int .i64 0, .slice none 0 0] 24 (0, 0))
  cur : wr.heap[q]? = some (.cells #[.int .i64 f, v] 24 (0, 0))
  own : wr.ownsRow w.heap.size 43 6 v s.1.length (insV s.1)
  away : ∀ b, v.ownBlock = some b → g < b
  lo : w.heap.size < g
  gq : g < q
  lt : q + 1 ≤ wr.heap.size
theorem RI.step {w wr w2 : World} {q g : Nat} {f : Int} {v : Value} {s : List Ins × List Nat × Bool} {bs : List Nat} {bad : Bool} (h : RI w q g wr f v s) (hr : Rfx w2 g g bs bad) (ho : OnlyG wr w2 g) : RI w q g w2 f v (s.1, bs, bad) := by
  have lt := h.lt
  have gq := h.gq
  have lo := h.lo
  have hz := h.below.size
  refine ⟨hr, ⟨ho.os.trans h.below.os, ho.tape.trans h.below.tape, ho.output.trans h.below.output, Nat.le_trans hz ho.size, fun k hk => (ho.at (by omega) (by omega)).trans (h.below.block k hk)⟩, (ho.at (by omega) (by omega)).trans h.out, (ho.at (by omega) (by omega)).trans h.cur, own_keep h.own fun b _ e1 e => ho.at (Array.getElem?_eq_some_iff.1 e).1 (by have := h.away b e1; omega), h.away, lo, gq, Nat.le_trans lt ho.size⟩
theorem RI.later {w wr w2 : World} {q g : Nat} {f : Int} {v : Value} {s : List Ins × List Nat × Bool} (h : RI w q g wr f v s) (hb : Below wr.heap.size wr w2) : RI w q g w2 f v s := by
  have lt := h.lt
  have gq := h.gq
  have lo := h.lo
  exact ⟨h.rf.stays (hb.block _ (by omega)) (fun k hk => hb.block k (by omega)), h.below.trans (hb.mono h.below.size), (hb.block _ (by omega)).trans h.out, (hb.block _ (by omega)).trans h.cur, own_keep h.own fun b _ _ e => hb.block b (Array.getElem?_eq_some_iff.1 e).1, h.away, lo, gq, Nat.le_trans lt hb.size⟩
theorem RI.push {w wr w3 : World} {q g : Nat} {f : Int} {v v' : Value} {s : List Ins × List Nat × Bool} {x : Ins} {o : Obj} (h : RI w q g wr f v s) (hown : w3.ownsRow w.heap.size 43 6 v' (s.1.length + 1) (insV s.1 ++ insV [x]))
    (hg : (wr.alloc o).grownBy w3 v.ownBlock) (hv : v'.ownBlock = v.ownBlock ∨ v'.ownBlock = some (wr.alloc o).heap.size) :
    w3.heap[q]? = some (.cells #[.int .i64 f, v] 24 (0, 0)) ∧ RI w q g (w3.setCell ⟨q, 1, none⟩ v') f v' (s.1 ++ [x], s.2) := by
  have hs := hg.size
  rw [World.size_alloc] at hs
  have lt := h.lt
  have gq := h.gq
  have lo := h.lo
  have hsz := h.below.size
  have vt : ∀ b cur t, wr.heap[b]? = some (.cells cur t (0, 0)) → t ≠ 43 → v.ownBlock ≠ some b := fun b cur t e ht e2 => by
    obtain ⟨_, _, c2, h2⟩ := own_cells h.own b e2
    rw [e] at h2
    injection h2 with h2
    injection h2 with _ h2
    exact ht h2
  have keep : ∀ b, b < wr.heap.size → v.ownBlock ≠ some b → w3.heap[b]? = wr.heap[b]? := fun b hb hne => (hg.block b (by rw [World.size_alloc]; omega) (fun e => hne e.symm)).trans (heap_alloc_old wr o hb)
  have hq : w3.heap[q]? = some (.cells #[.int .i64 f, v] 24 (0, 0)) := (keep q (by omega) (vt _ _ _ h.cur (by decide))).trans h.cur
  have keep2 : ∀ b, b ≤ g → (w3.setCell ⟨q, 1, none⟩ v').heap[b]? = wr.heap[b]? := fun b hb => (Deep.blk_setCell_other w3 _ _ b (by show b ≠ q; omega)).trans (keep b (by omega) (fun e => by have := h.away b e; omega))
  refine ⟨hq, ⟨h.rf.stays (keep2 g (Nat.le_refl _)) (fun k hk => keep2 k (by omega)), ?_, (keep2 _ (by omega)).trans h.out, heap_at hq 1 v', ?_, ?_, lo, gq, by rw [World.size_setCell]; omega⟩⟩
  · have h1 : Below w.heap.size w (wr.alloc o) := h.below.alloc hsz o
    exact (h1.grown hg (by rw [World.size_alloc]; omega) (fun k e => (own_cells h.own k e).1)).setCell (by show w.heap.size ≤ q; omega) v'
  · rw [List.length_append, insV_append]
    exact own_keep hown fun b _ _ e => Deep.blk_setCell_other w3 _ _ b (fun e2 => by have e3 : b = q := e2; subst e3; rw [hq] at e; cases e)
  · intro b e
    rcases hv with hv | hv
    · exact h.away b (hv ▸ e)
    · rw [hv, World.size_alloc] at e
      injection e with e
      omega
theorem RI.fin {w wr : World} {q g : Nat} {f : Int} {v : Value} {s : List Ins × List Nat × Bool} (h : RI w q g wr f v s) (z : Int) (u : Value) :
    ((wr.setCell ⟨w.heap.size, 0, none⟩ (.int .i64 z)).setCell ⟨w.heap.size, 1, none⟩ u).heap[w.heap.size]? = some (.cells #[.int .i64 z, u] 24 (0, 0)) ∧
    ((wr.setCell ⟨w.heap.size, 0, none⟩ (.int .i64 z)).setCell ⟨w.heap.size, 1, none⟩ u).ownsRow w.heap.size 43 6 v s.1.length (insV s.1) ∧
    Below w.heap.size w ((wr.setCell ⟨w.heap.size, 0, none⟩ (.int .i64 z)).setCell ⟨w.heap.size, 1, none⟩ u) := by
  refine ⟨heap_at (heap_at h.out 0 _) 1 u, own_keep h.own fun b cur _ e => ?_, (h.below.setCell (by show w.heap.size ≤ w.heap.size; omega) _).setCell (by show w.heap.size ≤ w.heap.size; omega) _⟩
  have hne : b ≠ w.heap.size := fun e2 => by subst e2; rw [h.out] at e; cases e
  exact (Deep.blk_setCell_other _ _ _ b hne).trans (Deep.blk_setCell_other _ _ _ b hne)
/-- And the instruction that is read. -/
structure RJ (w : World) (q g z : Nat) (wr : World) (f : Int) (v : Value) (l : List Ins) (x : Ins × List Nat × Bool) : Prop where
  ri : RI w q g wr f v (l, x.2)
  ins : wr.heap[z]? = some (.cells x.1.vals.toArray 43 (0, 0))
  zlo : q < z
  zne : v.ownBlock ≠ some z
theorem RJ.step {w wr w2 : World} {q g z : Nat} {f : Int} {v : Value} {l : List Ins} {x : Ins × List Nat × Bool} {bs : List Nat} {bad : Bool} (h : RJ w q g z wr f v l x) (hr : Rfx w2 g g bs bad) (ho : OnlyG wr w2 g) : RJ w q g z w2 f v l (x.1, bs, bad) :=
  ⟨h.ri.step hr ho, (ho.at (Array.getElem?_eq_some_iff.1 h.ins).1 (by have := h.zlo; have := h.ri.gq; omega)).trans h.ins, h.zlo, h.zne⟩
theorem RJ.put {w wr : World} {q g z : Nat} {f : Int} {v : Value} {l : List Ins} {x : Ins × List Nat × Bool} (h : RJ w q g z wr f v l x) (o : Nat) (ho : 1 ≤ o ∧ o ≤ 5) (u : Int) : RJ w q g z (wr.setCell ⟨z, o, none⟩ (.int .i64 u)) f v l (x.1.set o u, x.2) := by
  have zlo := h.zlo
  have gq := h.ri.gq
  have lo := h.ri.lo
  have keep : ∀ b, b ≠ z → (wr.setCell ⟨z, o, none⟩ (.int .i64 u)).heap[b]? = wr.heap[b]? := fun b hb => Deep.blk_setCell_other wr _ _ b hb
  exact ⟨⟨h.ri.rf.stays (keep g (by omega)) (fun k hk => keep k (by omega)), h.ri.below.setCell (by show w.heap.size ≤ z; omega) _, (keep _ (by omega)).trans h.ri.out, (keep _ (by omega)).trans h.ri.cur, own_keep h.ri.own fun b _ e _ => keep b (fun e2 => by subst e2; exact h.zne e), h.ri.away, lo, gq, by rw [World.size_setCell]; exact h.ri.lt⟩, heap_set h.ins ho u, zlo, h.zne⟩
theorem RJ.start {w wr : World} {q g : Nat} {f : Int} {v : Value} {l : List Ins} {bs : List Nat} {bad : Bool} (h : RI w q g wr f v (l, bs, bad)) (b : Nat) : RJ w q g wr.heap.size (wr.alloc (.cells #[.int .i64 (b : Int), .int .i64 0, .int .i64 0, .int .i64 0, .int .i64 0, .int .i64 0] 43)) f v l ({ Ins.zero with op := (b : Int) }, bs, bad) :=
  ⟨h.later ((Below.refl _ wr).alloc (Nat.le_refl _) _), heap_alloc_new wr _, h.lt, fun e => by have := (own_cells h.own _ e).2.1; omega⟩
/-- What the walk of the rounds comes to, if the bytes are a good program's. -/
theorem rdec_known {xs : List Nat} (hs : ∀ b ∈ xs, b < 256) (hd : decOk xs = true) : ∃ (F : Int) (l : List Ins), chk F l = -2 ∧ xs = encP F.toNat l ∧ readP xs = (F, l, [], false) ∧ refc (rcount xs).1 = F ∧ (rcount xs).2.2 = false ∧
    refc (rcount (rcount xs).2.1).1 = (l.length : Int) ∧ (rcount (rcount xs).2.1).2.2 = false ∧ ∀ k, k ≤ l.length → takeGN refc k (rcount (rcount xs).2.1).2.1 false = (l.take k, encIs (l.drop k), false) := by
  obtain ⟨e, hc⟩ := dec_yes hs hd
  obtain ⟨hh, _⟩ := chk_good hc
  have hf := readP_fits xs hs
  obtain ⟨F, l, hF, hl⟩ : ∃ F l, F = (readP xs).1 ∧ l = (readP xs).2.1 := ⟨_, _, rfl, rfl⟩
  rw [← hF, ← hl] at e hc hh
  rw [← hl] at hf
  have hrd := read_back hc hf
  rw [← e] at hrd
  have e1 : rcount xs = (F.toNat, cntN l.length ++ encIs l, false) := by
    rw [e]; unfold encP; rw [List.append_assoc, rcount_cntN _ (by omega)]
  have e2 : rcount (cntN l.length ++ encIs l) = (l.length, encIs l, false) := rcount_cntN _ (by omega) _
  refine ⟨F, l, hc, e, hrd, ?_, by rw [e1], ?_, by rw [e1]; simp only []; rw [e2], fun k hk => ?_⟩
  · rw [e1]; simp only []; rw [refc_cv _ (by omega)]; omega
  · rw [e1]; simp only []; rw [e2]; simp only []; rw [refc_cv _ (by omega)]
  · rw [e1]; simp only []; rw [e2]; simp only []
    have := takes_back refc_cv l (good_small hc hf) [] k hk
    rw [List.append_nil, List.append_nil] at this
    exact this
theorem refc_fits (n : Nat) : Fits (refc n) := by unfold refc Fits; split <;> omega
theorem foldG_fits : ∀ (ls : List Nat) (s : Ins × List Nat × Bool), (∀ b ∈ s.2.1, b < 256) → Fits s.1.n → Fits (ls.foldl (stepG refc) s).1.n ∧ ∀ b ∈ (ls.foldl (stepG refc) s).2.1, b < 256
  | [], _, hs, h => ⟨h, hs⟩
  | l :: ls, s, hs, h => by
    rw [List.foldl_cons]
    refine foldG_fits ls _ (rest_small s.2.1 hs) ?_
    refine set_n _ _ _ h ?_
    split
    · exact unfoldN_fits _ (rcount_lt _ hs)
    · exact refc_fits _
theorem takeGN_fits (k : Nat) (bs : List Nat) (bad : Bool) (hs : ∀ b ∈ bs, b < 256) : (∀ x ∈ (takeGN refc k bs bad).1, Fits x.n) ∧ ∀ b ∈ (takeGN refc k bs bad).2.1, b < 256 := by
  induction k with
  | zero => exact ⟨(fun x hx => by cases hx), hs⟩
  | succ k ih =>
    have h1 : Fits (takeG refc (takeGN refc k bs bad).2.1 (takeGN refc k bs bad).2.2).1.n ∧ ∀ b ∈ (takeG refc (takeGN refc k bs bad).2.1 (takeGN refc k bs bad).2.2).2.1, b < 256 := foldG_fits _ _ (fun b hb => ih.2 b (List.mem_of_mem_drop hb)) (by show Fits 0; unfold Fits; decide)
    rw [takeGN]
    refine ⟨fun x hx => ?_, h1.2⟩
    rcases List.mem_append.1 hx with hx | hx
    · exact ih.1 x hx
    · rw [List.mem_singleton.1 hx]; exact h1.1
theorem takeGN_len (k : Nat) (bs : List Nat) (bad : Bool) : (takeGN refc k bs bad).1.length = k := by
  induction k with
  | zero => rfl
  | succ k ih => simp [takeGN, ih]
def takeGL (bs : List Nat) (bad : Bool) (k : Nat) : Ins × List Nat × Bool := ((shapeL (byteT bs : Int)).take k).foldl (stepG refc) (startI bs bad)
theorem takeGL_succ (bs : List Nat) (bad : Bool) (k : Nat) (hk : k < (shapeL (byteT bs : Int)).length) : takeGL bs bad (k + 1) = stepG refc (takeGL bs bad k) (shapeL (byteT bs : Int))[k] := by
  unfold takeGL
  rw [List.take_succ_eq_append_getElem hk, List.foldl_append]
  rfl
theorem takeGL_all (bs : List Nat) (bad : Bool) (k : Nat) (hk : (shapeL (byteT bs : Int)).length = k) : takeGL bs bad k = takeG refc bs bad := by
  unfold takeGL takeG
  rw [← hk, List.take_length]
end Go.Proofs.YtkeckjgihjpfbaaDoor
