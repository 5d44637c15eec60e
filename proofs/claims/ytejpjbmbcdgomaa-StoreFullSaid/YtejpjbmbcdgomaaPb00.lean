/- SCopy, SFullP, SFull: put together. -/
import Derived.Test.YtejpjbmbcdgomaaPa40
import Derived.Test.YtejpjbmbcdgomaaPa48
import Derived.Test.YtejpjbmbcdgomaaPa53
import Derived.Test.YtejpjbmbcdgomaaPa52
/- Copy: another store like it. -/
namespace Go.Proofs.Ytejpjbmbcdgomaa
set_option maxRecDepth 100000
open Go.RowKit

def stC (tb : Nat → Nat) (live last : Int) (i : Nat) : Array Value := #[pvN tb i 0, pvN tb i 1, pvN tb i 2, pvN tb i 3, .int .i64 live, .int .i64 last]
theorem stC_set (tb : Nat → Nat) (live last : Int) {i : Nat} (hi : i < 4) (b : Nat) : (stC tb live last i).setIfInBounds i (.pointer (some ⟨b, 0, none⟩)) = stC (fun j => if j = i then b else tb j) live last (i + 1) := by
  have : i = 0 ∨ i = 1 ∨ i = 2 ∨ i = 3 := by omega
  rcases this with rfl | rfl | rfl | rfl
  · show #[_, _, _, _, _, _] = stC _ _ _ _
    unfold stC
    rw [pvN_eq, pvN_ne (by decide), pvN_ne (by decide), pvN_ne (by decide)]
  · show #[_, _, _, _, _, _] = stC _ _ _ _
    unfold stC
    rw [pvN_eq, pvN_ne (by decide), pvN_ne (by decide), pvN_ne (by decide)]
  · show #[_, _, _, _, _, _] = stC _ _ _ _
    unfold stC
    rw [pvN_eq, pvN_ne (by decide), pvN_ne (by decide), pvN_ne (by decide)]
  · show #[_, _, _, _, _, _] = stC _ _ _ _
    unfold stC
    rw [pvN_eq, pvN_ne (by decide), pvN_ne (by decide), pvN_ne (by decide)]
/-- The first i trees are copied. -/
structure CI (w wr : World) (ts : Tb) (live last : Int) (i : Nat) (tb : Nat → Nat) (F : Nat → Nat → Prop) (d : Nat → Nat) : Prop where
  block : wr.heap[w.heap.size]? = some (.cells (stC tb live last i) 101 (0, 0))
  tree : ∀ j, j < i → TL wr (F j) (tb j) (ts j) (d j)
  new : ∀ j, j < i → ∀ q, F j q → w.heap.size < q
  apart : ∀ a b, a < i → b < i → a ≠ b → ∀ q, F a q → ¬ F b q
  b : Below w.heap.size w wr
theorem CI.next {w wr w1 : World} {ts : Tb} {live last : Int} {i b d1 : Nat} {tb d : Nat → Nat} {F : Nat → Nat → Prop} {F1 : Nat → Prop} (h : CI w wr ts live last i tb F d) (hi : i < 4) (hT : TL w1 F1 b (ts i) d1) (hF : ∀ k, F1 k → wr.heap.size ≤ k) (hb : Below wr.heap.size wr w1) :
    CI w (w1.setCell ⟨w.heap.size, i, none⟩ (.pointer (some ⟨b, 0, none⟩))) ts live last (i + 1) (fun j => if j = i then b else tb j) (fun j => if j = i then F1 else F j) (fun j => if j = i then d1 else d j) := by
  have hsb := (Array.getElem?_eq_some_iff.1 h.block).1
  have h1 := (hb.block _ hsb).trans h.block
  have hk : ∀ q, q ≠ w.heap.size → (w1.setCell ⟨w.heap.size, i, none⟩ (.pointer (some ⟨b, 0, none⟩))).heap[q]? = w1.heap[q]? := fun q e => heap_ne _ _ _ _ e
  refine ⟨(heap_set w1 _ i _ h1).trans (by rw [stC_set tb live last hi]), fun j hj => ?_, fun j hj q e => ?_, fun x y hx hy hxy q e1 e2 => ?_, ⟨h.b.os ▸ hb.os, h.b.tape ▸ hb.tape, h.b.output ▸ hb.output, by rw [World.size_setCell]; exact Nat.le_trans h.b.size hb.size, fun k hkl => ?_⟩⟩
  · by_cases e : j = i
    · rw [if_pos e, if_pos e, if_pos e, e]
      exact hT.keep fun q hq => hk q (by have := hF q hq; omega)
    · rw [if_neg e, if_neg e, if_neg e]
      have hj2 : j < i := by omega
      exact ((h.tree j hj2).below hb).keep fun q hq => hk q (by have := h.new j hj2 q hq; omega)
  · by_cases e3 : j = i
    · rw [if_pos e3] at e
      have := hF q e
      omega
    · rw [if_neg e3] at e
      exact h.new j (by omega) q e
  · by_cases ex : x = i
    · have ey : y ≠ i := fun c => hxy (ex.trans c.symm)
      rw [if_pos ex] at e1
      rw [if_neg ey] at e2
      have a1 := hF q e1
      have a2 := (h.tree y (by omega)).lt e2
      omega
    · rw [if_neg ex] at e1
      by_cases ey : y = i
      · rw [if_pos ey] at e2
        have a1 := hF q e2
        have a2 := (h.tree x (by omega)).lt e1
        omega
      · rw [if_neg ey] at e2
        exact h.apart x y (by omega) (by omega) hxy q e1 e2
  · rw [hk k (by omega), hb.block k (by have := h.b.size; omega)]
    exact h.b.block k hkl
theorem CI.store {w wr : World} {ts : Tb} {live last : Int} {tb d : Nat → Nat} {F : Nat → Nat → Prop} (h : CI w wr ts live last 4 tb F d) : ∃ G, SM wr G w.heap.size ts live last ∧ ∀ q, G q → w.heap.size ≤ q :=
  ⟨fun q => q = w.heap.size ∨ ∃ i, i < 4 ∧ F i q, ⟨tb, F, d, h.block, fun i hi => h.tree i hi, fun i j hi hj => h.apart i j hi hj, fun i hi e => by have := h.new i hi _ e; omega, fun _ => Iff.rfl⟩, fun q e => by
    rcases e with e | ⟨i, hi, e⟩
    · omega
    · have := h.new i hi q e; omega⟩
theorem SX.row4 {w : World} {G : Nat → Prop} {sb : Nat} {ts : Tb} {live last : Int} {tb : Nat → Nat} {F : Nat → Nat → Prop} {d : Nat → Nat} (h : SX w G sb ts live last tb F d) : w.cell? ⟨sb, 0, none⟩ = some (.pointer (some ⟨tb 0, 0, none⟩)) ∧ w.cell? ⟨sb, 1, none⟩ = some (.pointer (some ⟨tb 1, 0, none⟩)) ∧ w.cell? ⟨sb, 2, none⟩ = some (.pointer (some ⟨tb 2, 0, none⟩)) ∧ w.cell? ⟨sb, 3, none⟩ = some (.pointer (some ⟨tb 3, 0, none⟩)) := ⟨h.cells 0 (by decide), h.cells 1 (by decide), h.cells 2 (by decide), h.cells 3 (by decide)⟩
theorem run_ix4 {tb : Nat → Nat} {i : Nat} {w : World} (h : i < 4) : (Instr.index 99 (.agg #[.pointer (some ⟨tb 0, 0, none⟩), .pointer (some ⟨tb 1, 0, none⟩), .pointer (some ⟨tb 2, 0, none⟩), .pointer (some ⟨tb 3, 0, none⟩)]) (.int .i64 (i : Int))).run Try.prog w = .ok (.pointer (some ⟨tb i, 0, none⟩)) w := by
  rcases i with _ | _ | _ | _ | i
  · kernel_rfl
  · kernel_rfl
  · kernel_rfl
  · kernel_rfl
  · omega
set_option maxHeartbeats 4000000 in
theorem scopy_any {w : World} {G : Nat → Prop} {sb : Nat} {ts : Tb} {live last : Int} (hM : SM w G sb ts live last) : Calls Try.prog 31 #[.pointer (some ⟨sb, 0, none⟩)] w fun e w' => ∃ cb, e = .returned (.pointer (some ⟨cb, 0, none⟩)) ∧ (∃ Gc, SM w' Gc cb ts live last ∧ ∀ q, Gc q → w.heap.size ≤ q) ∧ Below w.heap.size w w' := by
  have c4 := hM.live4
  have c5 := hM.last5
  obtain ⟨tb, F, d, hX⟩ := hM
  have HX := Lib.hid hX
  obtain ⟨c0, c1, c2, c3⟩ := hX.row4
  clear hX
  have HS0 : Hid (CI w (w.alloc (.cells #[.pointer none, .pointer none, .pointer none, .pointer none, .int .i64 live, .int .i64 last] 101)).drew ts live last 0 (fun _ => 0) (fun _ _ => False) (fun _ => 0)) := Lib.hid ⟨heap_alloc_new w _, fun j hj => by omega, fun j hj => by omega, fun a b ha => by omega, ((Below.refl _ _).alloc (Nat.le_refl _) _).drew⟩
  go_enter Try.func31, Try.ntmps31
  go_wp2_with fail
  go_region
  have hbx : Below w.heap.size w (w.alloc (.cells #[.pointer none, .pointer none, .pointer none, .pointer none, .int .i64 live, .int .i64 last] 101)) := (Below.refl _ _).alloc (Nat.le_refl _) _
  obtain ⟨d0, d1, d2, d3⟩ := (HX.out.below hbx).row4
  go_wp2_with fail
  clear hbx d0 d1 d2 d3 c0 c1 c2 c3 c4 c5
  obtain ⟨s, hs⟩ : ∃ s, s = w.heap.size := ⟨_, rfl⟩
  have HS := Lib.hid hs
  rw [← hs]
  clear hs
  go_loopw [4, 5, 22, 23, 24, 25, 26, 27, 28, 29, 30, 31, 32, 33] (fun _ _ ix _ _ _ _ _ _ _ _ _ _ _ wr => ∃ (i : Nat) (tb1 : Nat → Nat) (F1 : Nat → Nat → Prop) (d1 : Nat → Nat), ix = .int .i64 (i : Int) ∧ i ≤ 4 ∧ CI w wr ts live last i tb1 F1 d1) (fun _ _ ix _ _ _ _ _ _ _ _ _ _ _ wr => 4 - (intOf ix).toNat)
  case atStart => exact ⟨0, _, _, _, rfl, by omega, HS0.out⟩
  case round =>
    obtain ⟨i, tb1, F1, d1, rfl, hi, hI⟩ := hrel
    have HI := Lib.hid hI
    by_cases hlt : i < 4
    · have hi4 : (i : Int) < 4 := by omega
      have HCF : Hid (∀ w1, Below wr.heap.size wr w1 → (∃ v, w1.cell? ⟨s, i, none⟩ = some v) ∧ w1.frozen? ⟨s, i, none⟩ = false) := Lib.hid fun w1 hb => by
        rw [HS.out]
        have h1 := (hb.block _ (Array.getElem?_eq_some_iff.1 HI.out.block).1).trans HI.out.block
        refine ⟨⟨(stC tb1 live last i)[i]'(by show i < 6; omega), ?_⟩, frozen_of h1 i⟩
        rw [cell_of_row _ _ i _ _ _ h1]
        exact Array.getElem?_eq_getElem _
      have HN := Lib.hid (fun w1 (hb : Below wr.heap.size wr w1) => tcopy_any (((HX.out.tree i hlt).below HI.out.b).below hb))
      have hix := fun w1 => run_ix4 (tb := tb) (w := w1) hlt
      clear hI
      go_upto_region 7 with fail
      clear hix
      go_region_law (go_simp; go_at_call 76; refine Calls.mono (HN.out _ (Below.refl _ _).drew) ?_; rintro e1 w1 ⟨F2, b, rfl, h1, h2, h3⟩; have hb1 := undrewB h3; obtain ⟨⟨v, hv⟩, hf⟩ := HCF.out w1 hb1; have HNX := Lib.hid (HI.out.next hlt h1 h2 hb1); clear h1 h2 h3 hb1)
      all_goals
        go_wp2_with fail
        go_roundw
        case rel => exact ⟨i + 1, _, _, _, by go_num, by omega, by rw [HS.out]; exact HNX.out⟩
        case measure => simp [intOf]; omega
    · obtain rfl : i = 4 := by omega
      have HST := Lib.hid hI.store
      clear hI
      go_wp2_with fail
      go_ret
      exact ⟨s, rfl, by rw [HS.out]; exact HST.out, HI.out.b⟩
end Go.Proofs.Ytejpjbmbcdgomaa

/- As many cells as there may be: the list of StoreFull; errors as numbers; two stores beside a text. -/
namespace Go.Proofs.Ytejpjbmbcdgomaa
set_option maxRecDepth 100000
open Go.RowKit

def wrF (f i : Nat) : Wr := ⟨((i % 4 : Nat) : Int), ((f + i : Nat) : Int), (i : Int), false⟩
def fullL (f n : Nat) : List Wr := (List.range n).map (wrF f)
theorem fullL_succ (f n : Nat) : fullL f (n + 1) = fullL f n ++ [wrF f n] := by
  unfold fullL
  rw [List.range_succ, List.map_append]
  rfl
theorem fullL_len (f n : Nat) : (fullL f n).length = n := by simp [fullL]
theorem fullL_mem {f n : Nat} {x : Wr} (h : x ∈ fullL f n) : ∃ i, i < n ∧ x = wrF f i := by
  unfold fullL at h
  obtain ⟨i, hi, rfl⟩ := List.mem_map.1 h
  exact ⟨i, List.mem_range.1 hi, rfl⟩
theorem wrF_in (f i : Nat) : InT (wrF f i).t := by
  show 0 ≤ ((i % 4 : Nat) : Int) ∧ ((i % 4 : Nat) : Int) < 4
  omega
theorem fullL_in {f n : Nat} : ∀ x ∈ fullL f n, InT x.t := fun x hx => by
  obtain ⟨i, _, rfl⟩ := fullL_mem hx
  exact wrF_in f i
theorem fullL_ok {f n : Nat} (hf : f < 1000) (hn : n ≤ 4096) : ∀ x ∈ fullL f n, WrOk x := fun x hx => by
  obtain ⟨i, hi, rfl⟩ := fullL_mem hx
  refine ⟨⟨?_, ?_⟩, ?_, ?_⟩
  · show (-9223372036854775808 : Int) ≤ ((f + i : Nat) : Int); omega
  · show ((f + i : Nat) : Int) ≤ 9223372036854775807; omega
  · show (-9223372036854775808 : Int) ≤ (i : Int); omega
  · show (i : Int) ≤ 9223372036854775807; omega
theorem tb0_up : ∀ i, i < 4 → Up ((fun _ => [] : Tb) i) := fun _ _ => List.Pairwise.nil
theorem full_live (f : Nat) : ∀ n : Nat, liveT (forceT 1 (fun _ => []) (fullL f n)) = n
  | 0 => rfl
  | n + 1 => by
    have ih := full_live f n
    have hu := up_force (q := 1) (fullL f n) tb0_up
    obtain ⟨ts, hts⟩ : ∃ ts, ts = forceT 1 (fun _ => []) (fullL f n) := ⟨_, rfl⟩
    have hc : cellAt ts (wrF f n).t (wrF f n).k = none := by
      rw [hts, force_at (wrF_in f n) _ _ fullL_in]
      have hg : gat 1 (fun _ => []) (fullL f n) (wrF f n).t (wrF f n).k = none := by
        unfold gat
        split
        · rfl
        · rw [List.find?_eq_none]
          intro x hx
          obtain ⟨i, hi, rfl⟩ := fullL_mem hx
          rw [decide_eq_true_eq]
          rintro ⟨_, h2⟩
          have h3 : ((f + i : Nat) : Int) = ((f + n : Nat) : Int) := h2
          omega
      rw [hg]
      show cellAt (fun _ => []) _ _ = none
      rw [cellAt_in (wrF_in f n)]
      rfl
    rw [← hts] at ih hu
    rw [fullL_succ]
    have e : forceT 1 (fun _ => []) (fullL f n ++ [wrF f n]) = putW 1 ts (wrF f n) := by
      unfold forceT at hts ⊢
      rw [List.foldl_append, ← hts]
      rfl
    rw [e]
    unfold putW
    rw [hc]
    show liveT (ts.upd (wrF f n).t.toNat _) = n + 1
    have hi : (wrF f n).t.toNat < 4 := by have := wrF_in f n; unfold InT at this; omega
    have h1 := live_upd ts hi (ins ⟨(wrF f n).k, (wrF f n).cl 1⟩ (ts (wrF f n).t.toNat))
    have h2 := live_ins (hu _ hi) ⟨(wrF f n).k, (wrF f n).cl 1⟩
    rw [cellAt_in (wrF_in f n)] at hc
    have h3 : one (getC (wrF f n).k (ts (wrF f n).t.toNat)) = 0 := by rw [hc]; rfl
    have h4 : one (some ((wrF f n).cl 1)) = 1 := rfl
    have h5 : liveL (ins ⟨(wrF f n).k, (wrF f n).cl 1⟩ (ts (wrF f n).t.toNat)) + one (getC (wrF f n).k (ts (wrF f n).t.toNat)) = liveL (ts (wrF f n).t.toNat) + one (some ((wrF f n).cl 1)) := h2
    omega
theorem full_ap {f n : Nat} (hn : n ≤ 4096) : apN 1 (fun _ => []) (fullL f n) = 0 := by
  unfold apN
  have h1 : takB 1 (fullL f n) = true := takB_good (by decide) fun j hj => fullL_in _ (List.getElem_mem hj)
  rw [if_pos h1, if_pos (by rw [full_live]; exact hn)]
/-- Rows of writes. -/
theorem elemWr : ElemT Try.prog 32 51 4 32 :=
  ⟨Try.underlying32, by kernel_rfl, by
    obtain ⟨i, hi, hz, h1, _⟩ := info_parts (show (Try.prog.info? 51).map (fun i => (i.zero, i.size, i.bytes)) = some (some (.agg #[.int .i64 0, .int .i64 0, .int .i64 0, .bool false]), 4, 32) by kernel_rfl)
    exact ⟨i, _, hi, hz, rfl⟩, by decide⟩
theorem wr1 (x : Wr) : ∀ u ∈ x.vals, u.oneCell' = true := by
  intro u hu
  unfold Wr.vals at hu
  simp at hu
  rcases hu with rfl | rfl | rfl | rfl <;> rfl
theorem rdv_freshW (w : World) (x : Wr) (T : TypeId) : Rdv (w.alloc (.cells #[.int .i64 x.t, .int .i64 x.k, .int .i64 x.v, .bool x.dead] T)) (some ⟨w.heap.size, 0, none⟩) 1 4 x.vals :=
  ⟨rfl, fun _ => ⟨w.heap.size, 0, rfl, fun j u hj => by
    rw [Nat.zero_add, cell_of_row _ w.heap.size j _ T (0, 0) (heap_alloc_new w _)]
    unfold Wr.vals at hj
    simpa using hj⟩⟩
abbrev Wro (w : World) (B : Nat) (v : Value) (l : List Wr) : Prop := w.ownsRow B 51 4 v l.length (rowV Wr.vals l)
theorem Wro.below {w w' : World} {B : Nat} {v : Value} {l : List Wr} (h : Wro w B v l) (hb : Below w.heap.size w w') : Wro w' B v l := own_same h fun q hq => by
  obtain ⟨_, e⟩ := own_at h hq
  exact hb.block q (Array.getElem?_eq_some_iff.1 e).1
theorem Wro.wrs {w : World} {B : Nat} {A : Option Addr} {c n : Nat} {l : List Wr} (h : Wro w B (.slice A n c) l) : Wrs w A l := by
  obtain ⟨A', c', e, hr, _⟩ := rdv_own h
  injection e with e _ _
  subst e
  exact ⟨rfl, hr⟩
theorem below_appW {w wr w' : World} {n : Nat} {v : Value} {xs : List Value} {o : Obj} {e k : Nat} (hb : Below w.heap.size w wr) (ho : wr.ownsRow w.heap.size e k v n xs) (hg : (wr.alloc o).grownBy w' v.ownBlock) : Below w.heap.size w w' := by
  have h1 := hb.alloc hb.size o
  exact ⟨hg.os.trans h1.os, hg.tape.trans h1.tape, hg.output.trans h1.output, Nat.le_trans h1.size hg.size, fun k hk => (hg.block k (Nat.lt_of_lt_of_le hk h1.size) (fun e => by have := own_ge ho e.symm; omega)).trans (h1.block k hk)⟩
/-- Errors as numbers. -/
def errN (r : Nat) : Value := .iface 64 (.int .i64 (r : Int))
theorem asErr (v : Value) (w : World) : (Instr.typeAssert (.iface 64 v) 48 64 true).run Try.prog w = .ok (.tuple #[v, .bool true]) w := by kernel_rfl
set_option maxHeartbeats 1000000 in
theorem num_err (r : Nat) (hr : r ≠ 0) (_hb : r ≤ 1000) (w : World) : Calls Try.prog 50 #[errN r] w fun e w' => e = .returned (.int .i64 (r : Int)) ∧ w = w' := by
  have h1 := asErr
  have h2 : ((r : Int) != 0) = true := by simpa using hr
  unfold errN
  go_enter Try.func50, Try.ntmps50
  go_wp2
  refine wp_loop_rounds 1 ?_
  rw [rounds_succ]
  go_wp2
  go_ret
  exact ⟨rfl, rfl⟩
set_option maxHeartbeats 1000000 in
theorem num_nil (w : World) : Calls Try.prog 50 #[.nilIface] w fun e w' => e = .returned (.int .i64 0) ∧ w = w' := by
  go_enter Try.func50, Try.ntmps50
  go_wp2
  refine wp_loop_rounds 1 ?_
  rw [rounds_succ]
  go_wp2
  go_ret
  exact ⟨rfl, rfl⟩
set_option maxHeartbeats 400000 in
theorem is_errV (r k : Nat) (hb : r ≤ 1000) (w : World) : Calls Try.prog 24 #[errV r, .int .i64 (k : Int)] w fun e w' => e = .returned (.bool (decide (r = k))) ∧ w = w' := by
  have HC : Hid (∀ w, Calls Try.prog 50 #[errV r] w fun e w' => e = .returned (.int .i64 (r : Int)) ∧ w = w') := Lib.hid fun w => by
    by_cases h : r = 0
    · subst h; exact num_nil w
    · rw [errV_not h]; exact num_err r h hb w
  have hd : ((r : Int) == (k : Int)) = decide (r = k) := by
    by_cases h : r = k
    · subst h; simp
    · have : (r : Int) ≠ (k : Int) := by omega
      simp [h, this]
  obtain ⟨v, hv⟩ : ∃ v, v = errV r := ⟨_, rfl⟩
  rw [← hv] at HC ⊢
  clear hv
  go_enter Try.func24, Try.ntmps24
  go_wp2_with fail
  refine Calls.mono (HC.out _) ?_
  rintro e w' ⟨rfl, rfl⟩
  go_wp2_with fail
  go_ret
  exact ⟨rfl, rfl⟩
theorem Rdv.same {w w' : World} {A : Option Addr} {n size : Nat} {ys : List Value} (h : Rdv w A n size ys) (hb : ∀ b off, A = some ⟨b, off, none⟩ → w'.heap[b]? = w.heap[b]?) : Rdv w' A n size ys :=
  ⟨h.1, fun hn => by
    obtain ⟨b, off, e, hc⟩ := h.2 hn
    exact ⟨b, off, e, fun j u hj => (World.cell?_of_block (a := ⟨b, off + j, none⟩) (hb b off e)).trans (hc j u hj)⟩⟩
theorem Rdv.blockLt {w : World} {b o n size : Nat} {ys : List Value} (h : Rdv w (some ⟨b, o, none⟩) n size ys) (hn : 0 < n) (hs : 0 < size) : b < w.heap.size := by
  obtain ⟨b', off, e2, hc⟩ := h.2 hn
  injection e2 with e2
  injection e2 with e2 _ _
  have hp : 0 < ys.length := by rw [h.1]; exact Nat.mul_pos hn hs
  have := World.block_lt_of_cell? _ _ (hc 0 _ (List.getElem?_eq_getElem hp))
  rw [e2]
  exact this
/-- Two stores, apart, and a text beside them. -/
structure TwoT (w wr : World) (sa sb : Nat) (ta tb : Tb) (la lb : Int) (A : Option Addr) (m : Nat) (xs : List Nat) : Prop where
  ex : ∃ Ga Gb, SM wr Ga sa ta (liveT ta : Int) la ∧ SM wr Gb sb tb (liveT tb : Int) lb ∧ (∀ q, Ga q → ¬ Gb q) ∧ (∀ q, Ga q → w.heap.size ≤ q) ∧ (∀ q, Gb q → w.heap.size ≤ q) ∧ (∀ b o, A = some ⟨b, o, none⟩ → b < wr.heap.size ∧ ¬ Ga b ∧ ¬ Gb b)
  b : Below w.heap.size w wr
  row : Rdv wr A m 1 (valsB xs)
section
variable {w wr w1 : World} {sa sb : Nat} {ta tb : Tb} {la lb : Int} {A : Option Addr} {m : Nat} {xs : List Nat}
theorem TwoT.below (h : TwoT w wr sa sb ta tb la lb A m xs) (hb : Below wr.heap.size wr w1) : TwoT w w1 sa sb ta tb la lb A m xs := by
  obtain ⟨Ga, Gb, h1, h2, h3, h4, h5, h6⟩ := h.ex
  exact ⟨⟨Ga, Gb, h1.below hb, h2.below hb, h3, h4, h5, fun b o e => ⟨Nat.lt_of_lt_of_le (h6 b o e).1 hb.size, (h6 b o e).2⟩⟩, h.b.trans (hb.mono h.b.size), h.row.ext fun _ hp => hb.cell hp⟩
theorem TwoT.swap (h : TwoT w wr sa sb ta tb la lb A m xs) : TwoT w wr sb sa tb ta lb la A m xs := by
  obtain ⟨Ga, Gb, h1, h2, h3, h4, h5, h6⟩ := h.ex
  exact ⟨⟨Gb, Ga, h2, h1, fun q e1 e2 => h3 q e2 e1, h5, h4, fun b o e => ⟨(h6 b o e).1, (h6 b o e).2.2, (h6 b o e).2.1⟩⟩, h.b, h.row⟩
theorem TwoT.turn (h : TwoT w wr sa sb ta tb la lb A m xs) {Ga : Nat → Prop} (h1 : ∃ Gb, SM wr Gb sb tb (liveT tb : Int) lb ∧ (∀ q, Ga q → ¬ Gb q) ∧ (∀ q, Ga q → w.heap.size ≤ q) ∧ (∀ q, Gb q → w.heap.size ≤ q) ∧ (∀ b o, A = some ⟨b, o, none⟩ → b < wr.heap.size ∧ ¬ Ga b ∧ ¬ Gb b)) {Ga' : Nat → Prop} {ta' : Tb} {la' : Int}
    (hM : SM w1 Ga' sa ta' (liveT ta' : Int) la') (hC : Cg wr w1 Ga Ga') : TwoT w w1 sa sb ta' tb la' lb A m xs := by
  obtain ⟨Gb, g2, g3, g4, g5, g6⟩ := h1
  have hl := hC.low h.b.size g4
  refine ⟨⟨Ga', Gb, hM, g2.keep fun q hq => hC.ch.block q (g2.lt hq) (fun e => g3 q e hq), fun q e1 e2 => ?_, hl.2, g5, fun b o e => ?_⟩, h.b.trans hl.1, h.row.same fun b o e => hC.ch.block b (g6 b o e).1 (g6 b o e).2.1⟩
  · rcases hC.fr q e1 with e | e
    · exact g3 q e e2
    · have := g2.lt e2; omega
  · obtain ⟨k1, k2, k3⟩ := g6 b o e
    refine ⟨Nat.lt_of_lt_of_le k1 hC.ch.size, fun e1 => ?_, k3⟩
    rcases hC.fr b e1 with e2 | e2
    · exact k2 e2
    · omega
theorem TwoT.apply (h : TwoT w wr sa sb ta tb la lb A m xs) (q : Int) {B : Option Addr} {c : Nat} {ws : List Wr} (hr : Wrs wr B ws) (hK : NumW ws) (hl : ws.length ≤ 50000) (hN : ∀ i, i < 4 → (ta i).length ≤ 50000) :
    Calls Try.prog 16 #[.pointer (some ⟨sa, 0, none⟩), .int .i64 q, .slice B ws.length c] wr fun e w' => e = .returned (errV (apN q ta ws)) ∧ ∃ ta' la', TwoT w w' sa sb ta' tb la' lb A m xs ∧ ApOut q ta ws (apN q ta ws) la ta' la' := by
  obtain ⟨Ga, Gb, h1, h2, h3, h4, h5, h6⟩ := h.ex
  refine Calls.mono (apply_any q h1 hr hK hl hN) ?_
  rintro e w' ⟨rfl, G', ta', la', g1, g2, g3⟩
  exact ⟨rfl, ta', la', h.turn ⟨Gb, h2, h3, h4, h5, h6⟩ g1 g2, g3⟩
theorem TwoT.force (h : TwoT w wr sa sb ta tb la lb A m xs) (q : Int) {B : Option Addr} {c : Nat} {ws : List Wr} (hr : Wrs wr B ws) (hK : NumW ws) (hl : ws.length ≤ 50000) (hN : ∀ i, i < 4 → (ta i).length ≤ 50000) :
    Calls Try.prog 33 #[.pointer (some ⟨sa, 0, none⟩), .int .i64 q, .slice B ws.length c] wr fun e w' => e = .returned (errV (if takB q ws then 0 else 1)) ∧ ∃ ta' la', TwoT w w' sa sb ta' tb la' lb A m xs ∧ (takB q ws = true → ta' = forceT q ta ws ∧ la' = max la q) ∧ (takB q ws = false → ta' = ta ∧ la' = la) := by
  obtain ⟨Ga, Gb, h1, h2, h3, h4, h5, h6⟩ := h.ex
  cases ht : takB q ws
  · refine Calls.mono (force_bad q hr hl ht) ?_
    rintro e w' ⟨rfl, hb⟩
    exact ⟨rfl, ta, la, h.below hb, (fun h => by cases h), fun _ => ⟨rfl, rfl⟩⟩
  · refine Calls.mono (force_any q h1 hr hK hl hN ht) ?_
    rintro e w' ⟨rfl, G', g1, g2⟩
    exact ⟨rfl, _, _, h.turn ⟨Gb, h2, h3, h4, h5, h6⟩ g1 g2, fun _ => ⟨rfl, rfl⟩, (fun h => by cases h)⟩
theorem TwoT.fits (h : TwoT w wr sa sb ta tb la lb A m xs) (q : Int) {B : Option Addr} {c : Nat} {ws : List Wr} (hr : Wrs wr B ws) (hK : NumW ws) (hl : ws.length ≤ 50000) (hN : ∀ i, i < 4 → (ta i).length ≤ 50000) :
    Calls Try.prog 32 #[.pointer (some ⟨sa, 0, none⟩), .int .i64 q, .slice B ws.length c] wr fun e w' => e = .returned (.bool (takB q ws && decide (liveT (forceT q ta ws) ≤ 4096))) ∧ Below wr.heap.size wr w' := by
  obtain ⟨Ga, Gb, h1, _⟩ := h.ex
  exact fits_any q h1 hr hK hl hN
theorem TwoT.live (h : TwoT w wr sa sb ta tb la lb A m xs) : Calls Try.prog 29 #[.pointer (some ⟨sa, 0, none⟩)] wr fun e w' => e = .returned (.int .i64 (liveT ta : Int)) ∧ wr = w' := by
  obtain ⟨Ga, Gb, h1, _⟩ := h.ex
  exact slive_any h1
theorem TwoT.last (h : TwoT w wr sa sb ta tb la lb A m xs) : Calls Try.prog 30 #[.pointer (some ⟨sa, 0, none⟩)] wr fun e w' => e = .returned (.int .i64 la) ∧ wr = w' := by
  obtain ⟨Ga, Gb, h1, _⟩ := h.ex
  exact slast_any h1
theorem TwoT.put (h : TwoT w wr sa sb ta tb la lb A m xs) (hN : ∀ i, i < 4 → (ta i).length ≤ 100000) (hnum : NumT ta) : Calls Try.prog 28 #[.pointer (some ⟨sa, 0, none⟩)] wr fun e w' => ∃ A c, e = .returned (.slice A (putB ta).length c) ∧ Rdv w' A (putB ta).length 1 (valsB (putB ta)) ∧ Below wr.heap.size wr w' := by
  obtain ⟨Ga, Gb, h1, _⟩ := h.ex
  refine Calls.mono (sput_any h1 hN hnum) ?_
  rintro e w' ⟨A, c, e1, e2, _, e3⟩
  exact ⟨A, c, e1, e2, e3⟩
theorem TwoT.start {w w3 w4 w5 : World} {G3 Gc : Nat → Prop} {ts : Tb} {la : Int} (hw : Below w.heap.size w w3) (h1 : SM w3 G3 sa ts (liveT ts : Int) la) (g1 : ∀ q, G3 q → w.heap.size ≤ q) (hr : Rdv w4 A m 1 (valsB xs)) (hm : 0 < m) (hA : ∀ b o, A = some ⟨b, o, none⟩ → w3.heap.size ≤ b) (b4 : Below w3.heap.size w3 w4)
    (h2 : SM w5 Gc sb ts (liveT ts : Int) la) (g2 : ∀ q, Gc q → w4.heap.size ≤ q) (b5 : Below w4.heap.size w4 w5) : TwoT w w5 sa sb ts ts la la A m xs := by
  refine ⟨⟨G3, Gc, (h1.below b4).below b5, h2, fun q e1 e2 => ?_, g1, fun q e => ?_, fun b o e => ?_⟩, hw.trans ((b4.trans (b5.mono b4.size)).mono hw.size), hr.ext fun _ hp => b5.cell hp⟩
  · have := h1.lt e1; have := g2 q e2; have := b4.size; omega
  · have := g2 q e; have := b4.size; have := hw.size; omega
  · have k1 := hA b o e
    subst e
    have k2 := hr.blockLt hm (by decide)
    exact ⟨Nat.lt_of_lt_of_le k2 b5.size, fun e1 => by have := h1.lt e1; omega, fun e1 => by have := g2 b e1; omega⟩
theorem putB_pos (ts : Tb) : 0 < (putB ts).length := by
  unfold putB
  rw [List.length_append, List.length_append]
  simp only [List.length_cons, List.length_nil]
  omega
end
end Go.Proofs.Ytejpjbmbcdgomaa

/- StoreFull: as many cells as there may be; what is refused changes nothing. -/
namespace Go.Proofs.Ytejpjbmbcdgomaa
set_option maxRecDepth 100000
open Go.RowKit

theorem tmod_of (x : Int) (n : Nat) (hn : 0 < n) (hb : n ≤ 1000) : ∃ r : Nat, r < n ∧ wrap64 ((IntKind.u64.wrap x).tmod (n : Int)) = (r : Int) ∧ (IntKind.u64.wrap x).tmod (n : Int) = (r : Int) := by
  have h0 : 0 ≤ IntKind.u64.wrap x := by rw [IntKind.wrap_u64]; omega
  obtain ⟨m, hm⟩ : ∃ m : Nat, IntKind.u64.wrap x = (m : Int) := ⟨(IntKind.u64.wrap x).toNat, by omega⟩
  have h1 : (IntKind.u64.wrap x).tmod (n : Int) = ((m % n : Nat) : Int) := by rw [hm]; rfl
  have h2 : m % n < n := Nat.mod_lt _ hn
  refine ⟨m % n, h2, ?_, h1⟩
  rw [h1]
  unfold wrap64
  omega
open Go.ChangeShapes Go.WideShapes Go.ChangeAt in
theorem open_wrs {H : Type} {enc : TypeId × Value → H} {W : World} {sp : Nat → Bool} {v : Value} {base : Nat} {r : Reach} {x : DataW H × List MemPlace} (hv : Value.okWide Try.prog W r base 32 v) (h : ∃ fuel, DataW.trod enc Try.prog W 0 sp true fuel 32 v.cells.toList = some x) :
    ∃ A c ws, v = .slice A (List.length ws) c ∧ Wrs W A ws ∧ (∀ x ∈ ws, WrOk x) ∧ ws.length ≤ 9223372036854775807 := by
  obtain ⟨B, len, cap, rfl⟩ := okWide_slice Try.underlying32 hv
  obtain ⟨fuel, hf⟩ := h
  obtain ⟨A, n, c, l, e, h1, h2, _, h4⟩ := open_rowat (f := Wr.vals) WrOk Wr.vlen (by decide) Try.underlying32 cellsWr ⟨0, 0, 0, false⟩ open_wr (by simpa [Value.cells] using hf)
  obtain rfl := h1.len
  exact ⟨A, c, l, e, h1, h4, h2⟩
set_option maxHeartbeats 16000000 in
theorem full_law {w : World} (frm many : Int) {B : Option Addr} {c : Nat} {more : List Wr} (h : Wrs w B more) (hok : ∀ x ∈ more, WrOk x) (hbig : more.length ≤ 9223372036854775807) : Calls Try.prog 6 #[.int .i64 frm, .int .i64 many, .slice B more.length c] w fun e w' => e = .returned (.bool true) ∧ Below w.heap.size w w' := by
  have HA := Lib.hid (alive_any w)
  have H := Lib.hid h
  have HOK := Lib.hid hok
  obtain ⟨k, hk⟩ : ∃ k, k = more.length := ⟨_, rfl⟩
  have HK := Lib.hid hk
  have hkb : k ≤ 9223372036854775807 := by rw [hk]; exact hbig
  rw [← hk]
  clear hk h hok hbig
  obtain ⟨r20, hr20, m20, _⟩ := tmod_of many 20 (by decide) (by decide)
  obtain ⟨fm, hfm, m1000, _⟩ := tmod_of frm 1000 (by decide) (by decide)
  obtain ⟨n, hn⟩ : ∃ n, n = 4096 - r20 := ⟨_, rfl⟩
  have M1 : Hid (wrap64 ((IntKind.u64.wrap many).tmod 20) = (r20 : Int)) := Lib.hid m20
  have M2 : Hid (wrap64 ((IntKind.u64.wrap frm).tmod 1000) = (fm : Int)) := Lib.hid m1000
  have M3 : Hid (wrap64 (4096 - (r20 : Int)) = (n : Int)) := Lib.hid (by unfold wrap64; omega)
  have M4 : Hid ((4096 - (r20 : Int)) = (n : Int)) := Lib.hid (by omega)
  have hn4 : n ≤ 4096 := by omega
  have hn0 : 4000 < n := by omega
  clear m20 m1000 hn
  go_enter Try.func6, Try.ntmps6
  go_wp2_with fail
  refine Calls.mono HA.out ?_
  rintro e w1 ⟨rfl, hb1⟩
  have HB1 := Lib.hid hb1
  clear hb1
  by_cases hl : k ≤ 40
  · have dl : ¬ 40 < (k : Int) := by omega
    go_wp2_with fail
    refine Calls.mono (snew_any w1) ?_
    rintro e w2 ⟨rfl, ⟨Ga, hMa, hGa⟩, hb2⟩
    have HS := Lib.hid (And.intro hMa hGa)
    have HB2 := Lib.hid (HB1.out.trans (hb2.mono HB1.out.size))
    have HGW : Hid (∀ q, Ga q → w.heap.size ≤ q) := Lib.hid fun q e => Nat.le_trans HB1.out.size (hGa q e)
    clear hMa hGa hb2
    obtain ⟨sa, hsa⟩ : ∃ sa, sa = w1.heap.size := ⟨_, rfl⟩
    rw [← hsa] at HS
    rw [← hsa]
    clear hsa
    have m1 := M1.out
    have m3 := M3.out
    go_upto_region 9 with fail
    clear m1 m3
    have hW0 : Below w2.heap.size w2 (w2.alloc (.cells #[] 51)) := (Below.refl _ _).alloc (Nat.le_refl _) _
    have HO0 := Lib.hid (And.intro (own_empty w2 w2.heap.size 51 4 51 rfl (Nat.le_refl _)) hW0)
    clear hW0
    rw [M2.out, M4.out]
    go_wp2_with fail
    go_loopw [9, 10, 33, 34, 35, 36, 37, 38, 39, 40, 41, 42, 43, 44, 45, 46, 47] (fun lv _ ix _ _ _ _ _ _ _ _ _ _ _ _ _ _ wr => ∃ (i : Nat), ix = .int .i64 (i : Int) ∧ i ≤ n ∧ Wro wr w2.heap.size lv (fullL fm i) ∧ Below w2.heap.size w2 wr) (fun lv _ ix _ _ _ _ _ _ _ _ _ _ _ _ _ _ wr => n - (intOf ix).toNat)
    case atStart => exact ⟨0, rfl, by omega, HO0.out⟩
    case round =>
      obtain ⟨i, rfl, hi, ho, hb⟩ := hrel
      obtain ⟨A9, c9, rfl⟩ := own_form ho
      have HOL := Lib.hid (And.intro ho hb)
      rw [fullL_len]
      have HOW : Hid (∀ o, (wr.alloc o).ownsRow w2.heap.size 51 4 (.slice A9 i c9) i (rowV Wr.vals (fullL fm i))) := Lib.hid (fun o => by have h9 := Wro.below ho ((Below.refl _ _).alloc (Nat.le_refl _) o); unfold Wro at h9; rw [fullL_len] at h9; exact h9)
      have HBB : Hid (∀ o, w2.heap.size ≤ (wr.alloc o).heap.size) := Lib.hid (fun o => Nat.le_trans hb.size ((Below.refl _ wr).alloc (Nat.le_refl _) o).size)
      clear ho hb
      by_cases hlt : i < n
      · obtain ⟨x, hx⟩ : ∃ x, x = wrF fm i := ⟨_, rfl⟩
        have HX := Lib.hid hx
        have HRW : Hid (Rdv (wr.alloc (.cells #[.int .i64 ((i : Int).tmod 4), .int .i64 ((fm : Int) + (i : Int)), .int .i64 (i : Int), .bool false] 51)) (some ⟨wr.heap.size, 0, none⟩) 1 4 x.vals) := Lib.hid (by
          have e1 : (i : Int).tmod 4 = x.t := by rw [hx]; rfl
          have e2 : (fm : Int) + (i : Int) = x.k := by rw [hx]; show _ = ((fm + i : Nat) : Int); omega
          have e3 : (i : Int) = x.v := by rw [hx]; rfl
          have e4 : false = x.dead := by rw [hx]; rfl
          have h9 := rdv_freshW wr x 51
          rw [← e1, ← e2, ← e3, ← e4] at h9
          exact h9)
        have hin : i ≤ 4096 := by omega
        have HN9 := Lib.hid hin
        clear hx
        go_wp2_with (at_builtin; refine wpList_append_rowg elemWr rfl (.tmp 36) (.tmp 45) rfl w2.heap.size (.slice A9 i c9) i (rowV Wr.vals (fullL fm i)) rfl (HOW.out _) (some ⟨wr.heap.size, 0, none⟩) 1 1 x.vals rfl HRW.out (wr1 x) (fun h => by cases h) (by have := HN9.out; unfold maxLen; omega) (by have := HN9.out; omega) (HBB.out _) ?_; intro v' w' ho hg hq; obtain ⟨A8, c8, rfl⟩ := own_form ho; have HO8 := Lib.hid ho; have HB8 := Lib.hid (below_appW HOL.out.2 HOL.out.1 (by rw [fullL_len]; exact hg)); clear ho hg hq)
        go_roundw
        case rel =>
          refine ⟨i + 1, by go_num, by omega, ?_, HB8.out⟩
          show World.ownsRow _ _ _ _ _ (fullL fm (i + 1)).length _
          rw [fullL_len, fullL_succ, rowV_append, ← HX.out]
          simpa [rowV] using HO8.out
        case measure => simp [intOf]; omega
      · obtain rfl : i = n := by omega
        have HOK1 := Lib.hid (fullL_ok (f := fm) (n := i) (by omega) (by omega))
        have HAP := Lib.hid (apply_any (c := c9) 1 (HS.out.1.below HOL.out.2) (Wro.wrs HOL.out.1) (fun x hx => (HOK1.out x hx).1) (by rw [fullL_len]; omega) (fun _ _ => by simp))
        rw [full_ap (by omega), fullL_len, show errV 0 = .nilIface from rfl] at HAP
        go_wp2_with fail
        refine Calls.mono HAP.out ?_
        rintro e w3 ⟨rfl, G3, ts', la', g1, g2, ⟨⟨_, rfl, rfl⟩ | ⟨h0, _⟩⟩⟩
        rotate_left
        · exact absurd rfl h0
        have HG := Lib.hid (show Below w.heap.size w w3 ∧ ∀ q, G3 q → w.heap.size ≤ q from by
          have h1 := g2.low (HB2.out.trans (HOL.out.2.mono HB2.out.size)).size HGW.out
          exact ⟨(HB2.out.trans (HOL.out.2.mono HB2.out.size)).trans h1.1, h1.2⟩)
        have hlv := full_live fm i
        have hln := force_le (q := 1) (ts := fun _ => []) (n := 0) (fullL fm i) (fun _ _ => Nat.le_refl _)
        have hnm := NumT.force (q := 1) (fullL fm i) NumT.none HOK1.out (by decide) (by decide)
        rw [fullL_len, Nat.zero_add] at hln
        obtain ⟨ts, hts⟩ : ∃ ts, ts = forceT 1 (fun _ => []) (fullL fm i) := ⟨_, rfl⟩
        rw [← hts] at hlv hln hnm g1
        have e1 : (max 0 1 : Int) = 1 := rfl
        rw [e1] at g1
        have HM3 := Lib.hid g1
        have hL := slive_any g1
        rw [hlv] at hL
        have HL := Lib.hid hL
        have hsm := putB_small hnm
        have hP := sput_any g1 (fun j hj => by have := hln j hj; omega) hnm
        have hpp := putB_pos ts
        obtain ⟨xs, hxs⟩ : ∃ xs, xs = putB ts := ⟨_, rfl⟩
        obtain ⟨m, hm⟩ : ∃ m, m = xs.length := ⟨_, rfl⟩
        rw [← hxs] at hP hsm hpp
        rw [← hm] at hP hpp
        have HP := Lib.hid hP
        have HXS := Lib.hid (And.intro hxs (And.intro hm (And.intro hsm hpp)))
        have HTS := Lib.hid (And.intro hlv (And.intro (fun j (hj : j < 4) => Nat.le_trans (hln j hj) hn4) hnm))
        clear g1 g2 hlv hln hnm hts e1 hL hsm hP hpp hxs hm HAP
        go_wp2_with fail
        refine Calls.mono HL.out ?_
        rintro e w4 ⟨rfl, rfl⟩
        go_wp2_with fail
        refine Calls.mono HP.out ?_
        rintro e w4 ⟨Aw, cw, rfl, hrw, hAw, b4⟩
        have HB4 := Lib.hid (And.intro hrw (And.intro hAw b4))
        clear hrw hAw b4
        go_wp2_with fail
        refine Calls.mono (scopy_any (HM3.out.below HB4.out.2.2)) ?_
        rintro e w5 ⟨cb, rfl, ⟨Gc, hc, hGc⟩, b5⟩
        have HT5 := Lib.hid (TwoT.start HG.out.1 HM3.out HG.out.2 HB4.out.1 HXS.out.2.2.2 HB4.out.2.1 HB4.out.2.2 hc hGc b5)
        clear hc hGc b5
        have hk40 : more.length ≤ 50000 := by rw [← HK.out]; omega
        have hKW : NumW more := fun x hx => (HOK.out x hx).1
        have HKW := Lib.hid (And.intro hKW hk40)
        have hfit := HT5.out.fits (c := c) 2 (RowAt.below H.out HT5.out.b) hKW hk40 (fun j hj => Nat.le_trans (HTS.out.2.1 j hj) (by decide))
        have hnt := NumT.force (q := 2) more HTS.out.2.2 HOK.out (by decide) (by decide)
        have hle := force_le (q := 2) more HTS.out.2.1
        obtain ⟨t2, ht2⟩ : ∃ t2, t2 = forceT 2 ts more := ⟨_, rfl⟩
        have hap : (takB 2 more = false ∧ apN 2 ts more = 1) ∨ (takB 2 more = true ∧ ¬ liveT t2 ≤ 4096 ∧ apN 2 ts more = 4) ∨ (takB 2 more = true ∧ liveT t2 ≤ 4096 ∧ apN 2 ts more = 0) := by
          unfold apN
          rw [← ht2]
          cases takB 2 more
          · exact .inl ⟨rfl, rfl⟩
          · by_cases h9 : liveT t2 ≤ 4096
            · exact .inr (.inr ⟨rfl, h9, by rw [if_pos rfl, if_pos h9]⟩)
            · exact .inr (.inl ⟨rfl, h9, by rw [if_pos rfl, if_neg h9]⟩)
        rw [← ht2] at hfit hnt hle
        rw [← HK.out] at hfit
        have HT2 := Lib.hid (And.intro ht2 (And.intro hnt (fun j (hj : j < 4) => (by have := hle j hj; have := HK.out; omega : (t2 j).length ≤ 5000))))
        clear ht2 hnt hle hk40 hKW
        rcases hap with ⟨a1, a2⟩ | ⟨a1, a2, a3⟩ | ⟨a1, a2, a3⟩
        · have HTK := Lib.hid a1
          have HAN := Lib.hid a2
          rw [a1, show (false && decide (liveT t2 ≤ 4096)) = false from rfl] at hfit
          have HFIT := Lib.hid hfit
          clear hfit a1 a2
          go_wp2_with fail
          refine Calls.mono HFIT.out ?_
          rintro e w6 ⟨rfl, b6⟩
          have HT6 := Lib.hid (HT5.out.below b6)
          clear b6
          have HAPP := Lib.hid (HT6.out.apply (c := c) 2 (RowAt.below H.out HT6.out.b) HKW.out.1 HKW.out.2 (fun j hj => Nat.le_trans (HTS.out.2.1 j hj) (by decide)))
          rw [HAN.out, ← HK.out, show errV 1 = .iface 64 (.int .i64 1) from rfl] at HAPP
          go_wp2_with fail
          refine Calls.mono HAPP.out ?_
          rintro e w7 ⟨rfl, ta', la', hT, ⟨⟨h0, _⟩ | ⟨_, rfl, rfl⟩⟩⟩
          · exact absurd h0 (by decide)
          have HT7 := Lib.hid hT
          clear hT
          have HFO := Lib.hid (HT7.out.swap.force (c := c) 2 (RowAt.below H.out HT7.out.b) HKW.out.1 HKW.out.2 (fun j hj => Nat.le_trans (HTS.out.2.1 j hj) (by decide)))
          rw [HTK.out, ← HK.out, show errV (if false = true then 0 else 1) = .iface 64 (.int .i64 1) from rfl] at HFO
          go_wp2_with fail
          refine Calls.mono HFO.out ?_
          rintro e w8 ⟨rfl, tb', lb', hT, f1, f2⟩
          obtain ⟨rfl, rfl⟩ := f2 (by trivial)
          have HT8 := Lib.hid hT.swap
          clear hT f1 f2
          have HI1 := Lib.hid (is_errV 1 1 (by decide) w8)
          have HI2 := Lib.hid (is_errV 1 1 (by decide) w8)
          rw [show errV 1 = .iface 64 (.int .i64 1) from rfl, show decide (1 = 1) = true from rfl] at HI1
          rw [show errV 1 = .iface 64 (.int .i64 1) from rfl, show decide (1 = 1) = true from rfl] at HI2
          go_wp2_with fail
          refine Calls.mono HI1.out ?_
          rintro e w9 ⟨rfl, rfl⟩
          go_wp2_with fail
          refine Calls.mono HI2.out ?_
          rintro e w9 ⟨rfl, rfl⟩
          go_wp2_with fail
          have HPU := Lib.hid (HT8.out.put (fun j hj => Nat.le_trans (HTS.out.2.1 j hj) (by decide)) HTS.out.2.2)
          rw [← HXS.out.1, ← HXS.out.2.1] at HPU
          refine Calls.mono HPU.out ?_
          rintro e w9 ⟨Az, cz, rfl, hrz, b9⟩
          have HT9 := Lib.hid (HT8.out.below b9)
          have HRZ := Lib.hid hrz
          clear hrz b9
          go_wp2_with fail
          refine Calls.mono (same_any Aw Az m cw m cz xs xs w9 HT9.out.row HRZ.out HXS.out.2.2.1 HXS.out.2.2.1) ?_
          rintro e w10 ⟨rfl, rfl⟩
          rw [decide_eq_true (rfl : xs = xs)]
          go_wp2_with fail
          have HLV := Lib.hid HT9.out.live
          rw [HTS.out.1] at HLV
          refine Calls.mono HLV.out ?_
          rintro e w10 ⟨rfl, rfl⟩
          go_wp2_with fail
          refine Calls.mono HT9.out.last ?_
          rintro e w10 ⟨rfl, rfl⟩
          go_wp2_with fail
          go_ret
          exact ⟨rfl, HT9.out.b⟩
        · have HTK := Lib.hid a1
          have HAN := Lib.hid a3
          have HA2 := Lib.hid a2
          rw [a1, decide_eq_false a2, show (true && false) = false from rfl] at hfit
          have HFIT := Lib.hid hfit
          clear hfit a1 a2 a3
          go_wp2_with fail
          refine Calls.mono HFIT.out ?_
          rintro e w6 ⟨rfl, b6⟩
          have HT6 := Lib.hid (HT5.out.below b6)
          clear b6
          have HAPP := Lib.hid (HT6.out.apply (c := c) 2 (RowAt.below H.out HT6.out.b) HKW.out.1 HKW.out.2 (fun j hj => Nat.le_trans (HTS.out.2.1 j hj) (by decide)))
          rw [HAN.out, ← HK.out, show errV 4 = .iface 64 (.int .i64 4) from rfl] at HAPP
          go_wp2_with fail
          refine Calls.mono HAPP.out ?_
          rintro e w7 ⟨rfl, ta', la', hT, ⟨⟨h0, _⟩ | ⟨_, rfl, rfl⟩⟩⟩
          · exact absurd h0 (by decide)
          have HT7 := Lib.hid hT
          clear hT
          have HFO := Lib.hid (HT7.out.swap.force (c := c) 2 (RowAt.below H.out HT7.out.b) HKW.out.1 HKW.out.2 (fun j hj => Nat.le_trans (HTS.out.2.1 j hj) (by decide)))
          rw [HTK.out, ← HK.out, show errV (if true = true then 0 else 1) = .nilIface from rfl] at HFO
          go_wp2_with fail
          refine Calls.mono HFO.out ?_
          rintro e w8 ⟨rfl, tb', lb', hT, f1, f2⟩
          obtain ⟨rfl, rfl⟩ := f1 (by trivial)
          have HT8 := Lib.hid hT.swap
          clear hT f1 f2
          have HI1 := Lib.hid (is_errV 4 1 (by decide) w8)
          have HI2 := Lib.hid (is_errV 0 1 (by decide) w8)
          rw [show errV 4 = .iface 64 (.int .i64 4) from rfl, show decide (4 = 1) = false from rfl] at HI1
          rw [show errV 0 = .nilIface from rfl, show decide (0 = 1) = false from rfl] at HI2
          go_wp2_with fail
          refine Calls.mono HI1.out ?_
          rintro e w9 ⟨rfl, rfl⟩
          go_wp2_with fail
          refine Calls.mono HI2.out ?_
          rintro e w9 ⟨rfl, rfl⟩
          go_wp2_with fail
          have HPU := Lib.hid (HT8.out.put (fun j hj => Nat.le_trans (HTS.out.2.1 j hj) (by decide)) HTS.out.2.2)
          rw [← HXS.out.1, ← HXS.out.2.1] at HPU
          refine Calls.mono HPU.out ?_
          rintro e w9 ⟨Az, cz, rfl, hrz, b9⟩
          have HT9 := Lib.hid (HT8.out.below b9)
          have HRZ := Lib.hid hrz
          clear hrz b9
          go_wp2_with fail
          refine Calls.mono (same_any Aw Az m cw m cz xs xs w9 HT9.out.row HRZ.out HXS.out.2.2.1 HXS.out.2.2.1) ?_
          rintro e w10 ⟨rfl, rfl⟩
          rw [decide_eq_true (rfl : xs = xs)]
          go_wp2_with fail
          have HLV := Lib.hid HT9.out.live
          rw [HTS.out.1] at HLV
          refine Calls.mono HLV.out ?_
          rintro e w10 ⟨rfl, rfl⟩
          go_wp2_with fail
          refine Calls.mono HT9.out.last ?_
          rintro e w10 ⟨rfl, rfl⟩
          go_wp2_with fail
          have HLV2 := Lib.hid HT9.out.swap.live
          rw [← HT2.out.1] at HLV2
          refine Calls.mono HLV2.out ?_
          rintro e w10 ⟨rfl, rfl⟩
          obtain ⟨lv, hlv⟩ : ∃ lv, lv = liveT t2 := ⟨_, rfl⟩
          have hlt : (4096 : Int) < (lv : Int) := by have := HA2.out; rw [hlv]; omega
          rw [← hlv]
          clear hlv
          go_wp2_with fail
          go_ret
          exact ⟨rfl, HT9.out.b⟩
        · have HTK := Lib.hid a1
          have HAN := Lib.hid a3
          have HA2 := Lib.hid a2
          rw [a1, decide_eq_true a2, show (true && true) = true from rfl] at hfit
          have HFIT := Lib.hid hfit
          clear hfit a1 a2 a3
          go_wp2_with fail
          refine Calls.mono HFIT.out ?_
          rintro e w6 ⟨rfl, b6⟩
          have HT6 := Lib.hid (HT5.out.below b6)
          clear b6
          have HAPP := Lib.hid (HT6.out.apply (c := c) 2 (RowAt.below H.out HT6.out.b) HKW.out.1 HKW.out.2 (fun j hj => Nat.le_trans (HTS.out.2.1 j hj) (by decide)))
          rw [HAN.out, ← HK.out, show errV 0 = .nilIface from rfl] at HAPP
          go_wp2_with fail
          refine Calls.mono HAPP.out ?_
          rintro e w7 ⟨rfl, ta', la', hT, ⟨⟨_, rfl, rfl⟩ | ⟨h0, _⟩⟩⟩
          rotate_left
          · exact absurd rfl h0
          have HT7 := Lib.hid hT
          clear hT
          have HFO := Lib.hid (HT7.out.swap.force (c := c) 2 (RowAt.below H.out HT7.out.b) HKW.out.1 HKW.out.2 (fun j hj => Nat.le_trans (HTS.out.2.1 j hj) (by decide)))
          rw [HTK.out, ← HK.out, show errV (if true = true then 0 else 1) = .nilIface from rfl] at HFO
          go_wp2_with fail
          refine Calls.mono HFO.out ?_
          rintro e w8 ⟨rfl, tb', lb', hT, f1, f2⟩
          obtain ⟨rfl, rfl⟩ := f1 (by trivial)
          have HT8 := Lib.hid hT.swap
          clear hT f1 f2
          have HI1 := Lib.hid (is_errV 0 1 (by decide) w8)
          have HI2 := Lib.hid (is_errV 0 1 (by decide) w8)
          rw [show errV 0 = .nilIface from rfl, show decide (0 = 1) = false from rfl] at HI1
          rw [show errV 0 = .nilIface from rfl, show decide (0 = 1) = false from rfl] at HI2
          go_wp2_with fail
          refine Calls.mono HI1.out ?_
          rintro e w9 ⟨rfl, rfl⟩
          go_wp2_with fail
          refine Calls.mono HI2.out ?_
          rintro e w9 ⟨rfl, rfl⟩
          go_wp2_with fail
          have HLV := Lib.hid HT8.out.live
          rw [← HT2.out.1] at HLV
          obtain ⟨lv, hlv⟩ : ∃ lv, lv = liveT t2 := ⟨_, rfl⟩
          have hlt : (lv : Int) ≤ 4096 := by have := HA2.out; rw [hlv]; omega
          rw [← hlv] at HLV
          clear hlv
          refine Calls.mono HLV.out ?_
          rintro e w9 ⟨rfl, rfl⟩
          go_wp2_with fail
          have HLA := Lib.hid HT8.out.last
          rw [show (max 1 2 : Int) = 2 from rfl] at HLA
          refine Calls.mono HLA.out ?_
          rintro e w9 ⟨rfl, rfl⟩
          go_wp2_with fail
          have h5 : ∀ j, j < 4 → (forceT 2 ts more j).length ≤ 100000 := fun j hj => by rw [← HT2.out.1]; exact Nat.le_trans (HT2.out.2.2 j hj) (by decide)
          have h6 : NumT (forceT 2 ts more) := by rw [← HT2.out.1]; exact HT2.out.2.1
          have HPU := Lib.hid (HT8.out.put h5 h6)
          have HPV := Lib.hid (fun w9 (b9 : Below w8.heap.size w8 w9) => (HT8.out.below b9).swap.put h5 h6)
          have HSM := Lib.hid (putB_small h6)
          clear h5 h6
          obtain ⟨ys, hys⟩ : ∃ ys, ys = putB (forceT 2 ts more) := ⟨_, rfl⟩
          obtain ⟨p, hp⟩ : ∃ p, p = ys.length := ⟨_, rfl⟩
          rw [← hys] at HPU HPV HSM
          rw [← hp] at HPU HPV
          clear hys hp
          refine Calls.mono HPU.out ?_
          rintro e w9 ⟨Az, cz, rfl, hrz, b9⟩
          have HB9 := Lib.hid b9
          have HRZ := Lib.hid hrz
          clear hrz b9
          go_wp2_with fail
          refine Calls.mono (HPV.out w9 HB9.out) ?_
          rintro e w10 ⟨Ay, cy, rfl, hry, b10⟩
          have HRZ2 := Lib.hid (HRZ.out.ext fun _ hp => b10.cell hp)
          have HT10 := Lib.hid ((HT8.out.below HB9.out).below b10)
          have HRY := Lib.hid hry
          clear hry b10
          go_wp2_with fail
          refine Calls.mono (same_any Az Ay p cz p cy ys ys w10 HRZ2.out HRY.out HSM.out HSM.out) ?_
          rintro e w11 ⟨rfl, rfl⟩
          rw [decide_eq_true (rfl : ys = ys)]
          go_wp2_with fail
          go_ret
          exact ⟨rfl, HT10.out.b⟩
  · have dl : 40 < (k : Int) := by omega
    go_wp2_with fail
    go_ret
    exact ⟨rfl, HB1.out⟩
end Go.Proofs.Ytejpjbmbcdgomaa
