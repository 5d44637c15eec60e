/- SlOpen: put together. -/
import Derived.Test.YtjmjehhmkjhalaaQb32
/- slot.Open. -/
namespace Go.Proofs.Ytjmjehhmkjhalaa
set_option maxRecDepth 100000
open Go.RowKit

def eCor : Value := .iface 43 (.int .i64 9)
/-- What Open answers. -/
def SlOpE (l : List Nat) (w : World) (e : Ending) (w' : World) : Prop :=
  (openM cI l = none ∧ e = .returned (.tuple #[.agg zeroC, eCor])) ∨
  ∃ m A c, openM cI l = some m ∧ e = .returned (.tuple #[.agg (mfC m A c), .nilIface]) ∧ w'.ownsRow w.heap.size 3 1 (.slice A m.heads.length c) m.heads.length (rowV zV m.heads)
theorem resOp {w : World} {g : Nat} {a0 a1 a2 a3 a4 a5 : Value} (h : w.heap[g]? = some (.cells #[a0, a1, a2, a3, a4, a5] 93 (0, 0))) (tmps : Array Value) (h2 : tmps.getD 2 undef = .pointer (some ⟨g, 0, none⟩)) :
    (results Try.f54 tmps).run Try.prog w = .ok (.tuple #[.agg #[a0, a1, a2, a3, a4, a5], tmps.getD 3 undef]) w := by
  have h2' : tmps[2]?.getD undef = .pointer (some ⟨g, 0, none⟩) := by simpa using h2
  have k0 : w.cell? ⟨g, 0, none⟩ = some a0 := (cell_of_row _ _ 0 _ _ (0, 0) h).trans rfl
  have k1 : w.cell? ⟨g, 1, none⟩ = some a1 := (cell_of_row _ _ 1 _ _ (0, 0) h).trans rfl
  have k2 : w.cell? ⟨g, 2, none⟩ = some a2 := (cell_of_row _ _ 2 _ _ (0, 0) h).trans rfl
  have k3 : w.cell? ⟨g, 3, none⟩ = some a3 := (cell_of_row _ _ 3 _ _ (0, 0) h).trans rfl
  have k4 : w.cell? ⟨g, 4, none⟩ = some a4 := (cell_of_row _ _ 4 _ _ (0, 0) h).trans rfl
  have k5 : w.cell? ⟨g, 5, none⟩ = some a5 := (cell_of_row _ _ 5 _ _ (0, 0) h).trans rfl
  simp [results, Try.results54, h2', asAddr, Sem.run_bind, go_sem, k0, k1, k2, k3, k4, k5]
theorem openN_small {l : List Nat} {st kd : Nat} {d : List Nat} (hs : ∀ x ∈ l, x < 256) (h : openN l = some (st, kd, d)) : (∀ x ∈ d, x < 256) ∧ d.length ≤ 50 := by
  unfold openN at h
  dsimp only at h
  split at h
  · rename_i q
    injection h with h
    injection h with h1 h2
    injection h2 with h2 h3
    rw [← h3]
    exact ⟨fun x hx => hs x (List.mem_of_mem_drop (List.mem_of_mem_take hx)), by rw [List.length_take]; omega⟩
  · cases h
theorem openM_none {f : Nat → Int} {l : List Nat} (h : openN l = none) : openM f l = none := by unfold openM; rw [h]
theorem openM_kind {f : Nat → Int} {l : List Nat} {st kd : Nat} {d : List Nat} (h : openN l = some (st, kd, d)) (hk : kd ≠ 3) : openM f l = none := by
  unfold openM; rw [h]; dsimp only; rw [if_neg (fun q => hk q.1)]
theorem openM_bad {f : Nat → Int} {l : List Nat} {st : Nat} {d : List Nat} (h : openN l = some (st, 3, d)) (hb : ¬ (restM d = [77] ∧ GoodM (parseM f st d))) : openM f l = none := by
  unfold openM; rw [h]; dsimp only; rw [if_neg (fun q => hb q.2)]
theorem openM_yes {f : Nat → Int} {l : List Nat} {st : Nat} {d : List Nat} (h : openN l = some (st, 3, d)) (hb : restM d = [77]) (hg : GoodM (parseM f st d)) : openM f l = some (parseM f st d) := by
  unfold openM; rw [h]; dsimp only; rw [if_pos ⟨rfl, hb, hg⟩]
/-- The result's block, written over, and what is answered then. -/
theorem fin_bad {w W : World} {l : List Nat} {rp : Nat} (h : W.heap[rp]? = some (.cells zeroC 93 (0, 0))) (hb : Below w.heap.size w W) (hr : w.heap.size ≤ rp) (hn : openM cI l = none) :
    ((((((W.setCell ⟨rp, 0, none⟩ (.int .i64 0)).setCell ⟨rp, 1, none⟩ (.int .i64 0)).setCell ⟨rp, 2, none⟩ (.int .i64 0)).setCell ⟨rp, 3, none⟩ (.int .i64 0)).setCell ⟨rp, 4, none⟩ (.int .i64 0)).setCell ⟨rp, 5, none⟩ (.slice none 0 0)).heap[rp]? = some (.cells zeroC 93 (0, 0)) ∧
    SlOpE l w (.returned (.tuple #[.agg zeroC, eCor])) ((((((W.setCell ⟨rp, 0, none⟩ (.int .i64 0)).setCell ⟨rp, 1, none⟩ (.int .i64 0)).setCell ⟨rp, 2, none⟩ (.int .i64 0)).setCell ⟨rp, 3, none⟩ (.int .i64 0)).setCell ⟨rp, 4, none⟩ (.int .i64 0)).setCell ⟨rp, 5, none⟩ (.slice none 0 0)) ∧
    Below w.heap.size w ((((((W.setCell ⟨rp, 0, none⟩ (.int .i64 0)).setCell ⟨rp, 1, none⟩ (.int .i64 0)).setCell ⟨rp, 2, none⟩ (.int .i64 0)).setCell ⟨rp, 3, none⟩ (.int .i64 0)).setCell ⟨rp, 4, none⟩ (.int .i64 0)).setCell ⟨rp, 5, none⟩ (.slice none 0 0)) := by
  unfold zeroC at h
  exact ⟨set6 _ _ _ _ _ _ _ _ _ _ _ _ _ _ _ h, .inl ⟨hn, rfl⟩, set6_below hb hr _ _ _ _ _ _⟩
set_option maxHeartbeats 8000000 in
theorem slopen_any (l : List Nat) (hl : l.length = 64) (hs : ∀ x ∈ l, x < 256) (w : World) :
    Calls Try.prog 54 #[.agg (secV l)] w fun e w' => SlOpE l w e w' ∧ Below w.heap.size w w' := by
  have HL := Lib.hid hl
  have HS := Lib.hid hs
  have HOP := Lib.hid (show ∀ W, Calls Try.prog 118 #[.agg (secV l)] W fun e w' => ((openN l = none ∧ e = .returned (.tuple #[.agg #[.int .i64 0, .int .i64 0, .slice none 0 0], .iface 43 (.int .i64 9)])) ∨
    ∃ (st kd : Nat) (d : List Nat) (A : Option Addr) (c : Nat), openN l = some (st, kd, d) ∧ e = .returned (.tuple #[.agg #[.int .i64 (st : Int), .int .i64 (kd : Int), .slice A d.length c], .nilIface]) ∧ Rdv w' A d.length 1 (valsB d) ∧ NewAt W w' A d.length c) ∧ Below W.heap.size W w' from fun W => open_any l hl hs W)
  clear hl hs
  go_enter Try.func54, Try.ntmps54
  go_upto_region 1 with (fail)
  obtain ⟨rp, hrp⟩ : ∃ rp, rp = w.heap.size + 1 := ⟨_, rfl⟩
  obtain ⟨w1, hw1⟩ : ∃ w1, w1 = (w.alloc (.cells (secV l) 75)).alloc (.cells zeroC 93) := ⟨_, rfl⟩
  have hb1 : Below w.heap.size w w1 := by rw [hw1]; exact ((Below.refl _ w).alloc (Nat.le_refl _) _).alloc (by simp) _
  have h1s : Sec w1 w.heap.size l := by rw [hw1]; exact (heap_alloc_old _ _ (by simp)).trans (heap_alloc_new w _)
  have h1r : w1.heap[rp]? = some (.cells zeroC 93 (0, 0)) := by rw [hw1, hrp]; exact heap_alloc2_new w _ _
  have H1 := Lib.hid (And.intro hb1 (And.intro h1s (And.intro h1r (by omega : w.heap.size ≤ rp))))
  unfold zeroC at hw1
  rw [← hw1, ← hrp]
  clear hw1 hrp hb1 h1s h1r
  go_wp2_with (first | refine wpList_load_sec (by rfl) (.tmp 1) rfl w.heap.size rfl l HL.out H1.out.2.1 ?_)
  refine Calls.mono (HOP.out w1) ?_
  rintro e w2 ⟨ho, hb2⟩
  obtain ⟨h1a, h1b, h1c, h1d⟩ := H1.out
  have hr2 : w2.heap[rp]? = some (.cells zeroC 93 (0, 0)) := (hb2.block _ (Array.getElem?_eq_some_iff.1 h1c).1).trans h1c
  have H2 := Lib.hid (And.intro (h1a.trans (hb2.mono h1a.size)) (And.intro hr2 h1d))
  clear h1a h1b h1c h1d hr2 hb2 H1
  rcases ho with ⟨hn, rfl⟩ | ⟨st, kd, d, A, c, hn, rfl, hr, hna⟩
  · have HN := Lib.hid (openM_none (f := cI) hn)
    clear hn
    go_upto_region 2 with (fail)
    obtain ⟨w3, hw3⟩ : ∃ w3, w3 = w2.alloc (.cells #[.int .i64 0, .int .i64 0, .slice none 0 0] 208) := ⟨_, rfl⟩
    have hb3 : Below w2.heap.size w2 w3 := by rw [hw3]; exact (Below.refl _ _).alloc (Nat.le_refl _) _
    have g3 : w3.heap[w2.heap.size]? = some (.cells #[.int .i64 0, .int .i64 0, .slice none 0 0] 208 (0, 0)) := by rw [hw3]; exact heap_alloc_new w2 _
    rw [← hw3]
    clear hw3
    obtain ⟨h2a, h2b, h2c⟩ := H2.out
    have hr3 := (hb3.block _ (Array.getElem?_eq_some_iff.1 h2b).1).trans h2b
    have k0 := (cell_of_row _ _ 0 _ _ (0, 0) hr3).trans rfl
    have k1 := (cell_of_row _ _ 1 _ _ (0, 0) hr3).trans rfl
    have k2 := (cell_of_row _ _ 2 _ _ (0, 0) hr3).trans rfl
    have k3 := (cell_of_row _ _ 3 _ _ (0, 0) hr3).trans rfl
    have k4 := (cell_of_row _ _ 4 _ _ (0, 0) hr3).trans rfl
    have k5 := (cell_of_row _ _ 5 _ _ (0, 0) hr3).trans rfl
    have f0 := frozen_at hr3 0
    have f1 := frozen_at hr3 1
    have f2 := frozen_at hr3 2
    have f3 := frozen_at hr3 3
    have f4 := frozen_at hr3 4
    have f5 := frozen_at hr3 5
    unfold zeroC at k0 k1 k2 k3 k4 k5
    have HF := Lib.hid (fin_bad hr3 (h2a.trans (hb3.mono h2a.size)) h2c HN.out)
    clear h2a h2b h2c hr3 hb3 g3
    go_wp2_with fail
    refine bodyPost_ret (resOp HF.out.1 _ rfl) rfl ?_
    exact HF.out.2
  · have HDS := Lib.hid (openN_small HS.out hn)
    have HON := Lib.hid hn
    have HR := Lib.hid hr
    have HNA := Lib.hid hna
    obtain ⟨n, hdn⟩ : ∃ n, n = d.length := ⟨_, rfl⟩
    rw [← hdn] at HR HNA HDS ⊢
    have HDN := Lib.hid hdn
    clear hn hr hna hdn
    by_cases hk : kd = 3
    · subst hk
      go_upto_region 4 with (fail)
      obtain ⟨w3, hw3⟩ : ∃ w3, w3 = w2.alloc (.cells #[.int .i64 (st : Int), .int .i64 3, .slice A n c] 208) := ⟨_, rfl⟩
      have hb3 : Below w2.heap.size w2 w3 := by rw [hw3]; exact (Below.refl _ _).alloc (Nat.le_refl _) _
      have g3 : w3.heap[w2.heap.size]? = some (.cells #[.int .i64 (st : Int), .int .i64 3, .slice A n c] 208 (0, 0)) := by rw [hw3]; exact heap_alloc_new w2 _
      rw [← hw3]
      obtain ⟨xb, hxb⟩ : ∃ xb, xb = w2.heap.size := ⟨_, rfl⟩
      rw [← hxb] at g3 ⊢
      obtain ⟨h2a, h2b, h2c⟩ := H2.out
      have hr3 := (hb3.block _ (Array.getElem?_eq_some_iff.1 h2b).1).trans h2b
      have x0 := (cell_of_row _ _ 0 _ _ (0, 0) g3).trans rfl
      have x2 := (cell_of_row _ _ 2 _ _ (0, 0) g3).trans rfl
      have HR3 := Lib.hid (HR.out.ext (stays_b hb3))
      have HNR := Lib.hid (newReader_any A n c d w3 HR3.out (fun e => by
        rcases HNA.out with ⟨_, h1, h2⟩ | ⟨b', h1, _⟩
        · exact ⟨h2, h1⟩
        · rw [e] at h1; cases h1) (by have := HDS.out.2; omega) HDS.out.1)
      have H3 := Lib.hid (And.intro (h2a.trans (hb3.mono h2a.size)) (And.intro hr3 h2c))
      have HG3 := Lib.hid g3
      clear hw3 hxb h2a h2b h2c hr3 hb3 g3 HR3 HR HNA H2
      go_wp2_with fail
      refine Calls.mono HNR.out ?_
      rintro e w4 ⟨gr, rfl, hrd, hb4⟩
      obtain ⟨h3a, h3b, h3c⟩ := H3.out
      have hr4 := (hb4.block _ (Array.getElem?_eq_some_iff.1 h3b).1).trans h3b
      have g4 := (hb4.block _ (Array.getElem?_eq_some_iff.1 HG3.out).1).trans HG3.out
      have x0 := (cell_of_row _ _ 0 _ _ (0, 0) g4).trans rfl
      have HRD := Lib.hid hrd
      have H4 := Lib.hid (And.intro (h3a.trans (hb4.mono h3a.size)) (And.intro hr4 (And.intro h3c (And.intro (h3a.size) hb4.size))))
      have hrp3 := (Array.getElem?_eq_some_iff.1 h3b).1
      have HRP3 := Lib.hid hrp3
      clear h3a h3b h3c hr4 g4 hrd hb4 H3 HG3 hrp3 x2
      go_upto_region 6 with (fail)
      obtain ⟨mb, hmb⟩ : ∃ mb, mb = w4.heap.size := ⟨_, rfl⟩
      obtain ⟨w5, hw5⟩ : ∃ w5, w5 = w4.alloc (.cells #[.int .i64 (st : Int), .int .i64 0, .int .i64 0, .int .i64 0, .int .i64 0, .slice none 0 0] 93) := ⟨_, rfl⟩
      have hb5 : Below w4.heap.size w4 w5 := by rw [hw5]; exact (Below.refl _ _).alloc (Nat.le_refl _) _
      have g5 : w5.heap[mb]? = some (.cells #[.int .i64 (st : Int), .int .i64 0, .int .i64 0, .int .i64 0, .int .i64 0, .slice none 0 0] 93 (0, 0)) := by rw [hw5, hmb]; exact heap_alloc_new w4 _
      have hI5 : OI w w5 rp mb (fun k => w3.heap.size ≤ k ∧ k < w4.heap.size) (.pointer (some ⟨gr, 0, none⟩)) d false #[.int .i64 (st : Int), .int .i64 0, .int .i64 0, .int .i64 0, .int .i64 0, .slice none 0 0] := by
        obtain ⟨h4a, h4b, h4c, h4d, h4e⟩ := H4.out
        have hrp3 := HRP3.out
        exact ⟨h4a.trans (hb5.mono h4a.size), (hb5.block _ (Array.getElem?_eq_some_iff.1 h4b).1).trans h4b, g5, HRD.out.stays hb5.size fun k hk _ => hb5.block k hk, fun k hk => by omega, fun hk => by omega, fun hk => by omega, by omega, h4c, by omega⟩
      obtain ⟨B, hB⟩ : ∃ B : Nat → Prop, B = fun k => w3.heap.size ≤ k ∧ k < w4.heap.size := ⟨_, rfl⟩
      have HBB := Lib.hid (show ∀ k, B k → k < mb by rw [hB, hmb]; exact fun k hk => hk.2)
      rw [← hB] at hI5
      have HI5 := Lib.hid hI5
      rw [← hw5, ← hmb]
      clear hw5 hmb hb5 g5 hI5 hB HRD H4 HRP3 x0
      go_wp2_with fail
      obtain ⟨pb, hpb⟩ : ∃ pb, pb = w5.heap.size := ⟨_, rfl⟩
      obtain ⟨w6, hw6⟩ : ∃ w6, w6 = w5.alloc (.cells #[.pointer (some ⟨mb, 1, none⟩), .pointer (some ⟨mb, 2, none⟩), .pointer (some ⟨mb, 3, none⟩), .pointer (some ⟨mb, 4, none⟩)] 215) := ⟨_, rfl⟩
      have hb6 : Below w5.heap.size w5 w6 := by rw [hw6]; exact (Below.refl _ _).alloc (Nat.le_refl _) _
      have g6 : w6.heap[pb]? = some (.cells #[.pointer (some ⟨mb, 1, none⟩), .pointer (some ⟨mb, 2, none⟩), .pointer (some ⟨mb, 3, none⟩), .pointer (some ⟨mb, 4, none⟩)] 215 (0, 0)) := by rw [hw6, hpb]; exact heap_alloc_new w5 _
      have hpm : mb < pb := by rw [hpb]; exact HI5.out.ml
      have HI6 := Lib.hid (HI5.out.later hb6)
      have HPB := Lib.hid (And.intro hpm (show ¬ B pb from fun h => by have := HBB.out pb h; omega))
      have HP6 := Lib.hid g6
      rw [← hw6, ← hpb]
      clear hw6 hpb hb6 g6 hpm HI5
      -- the four counts
      refine wp_loop_rounds 5 ?_
      obtain ⟨v1, hv1⟩ : ∃ v, v = cI (rcount d).1 := ⟨_, rfl⟩
      have s1 := rcount_small (bs := d) HDS.out.1
      have q1 : IntKind.i64.wrap (((rcount d).1 : Nat) : Int) = v1 := by rw [hv1]; exact cI_wrap _ (rc_lt HDS.out.1)
      have HC1 := Lib.hid HI6.out.count
      obtain ⟨x1, hx1⟩ : ∃ x, x = (rcount d).1 := ⟨_, rfl⟩
      obtain ⟨b1, hb1⟩ : ∃ x, x = (rcount d).2.1 := ⟨_, rfl⟩
      obtain ⟨y1, hy1⟩ : ∃ x, x = (rcount d).2.2 := ⟨_, rfl⟩
      rw [← hx1] at q1
      rw [← hb1] at s1
      rw [← hx1, ← hb1, ← hy1] at HC1
      have c0 := (cell_of_row _ _ 0 _ _ (0, 0) HP6.out).trans rfl
      have HV1 := Lib.hid hv1
      have HX1 := Lib.hid hb1
      have HS1 := Lib.hid s1
      clear hv1 hx1 hb1 hy1 s1
      rw [rounds_succ]
      go_wp2_with fail
      refine Calls.mono HC1.out ?_
      rintro e u1 ⟨rfl, hi, hk, hsz⟩
      have f1 := frozen_at hi.mf 1
      have k1 := (cell_of_row _ _ 1 _ _ (0, 0) hi.mf).trans rfl
      have HK1 := Lib.hid hi
      have HP1b : Hid (u1.heap[pb]? = some (.cells #[.pointer (some ⟨mb, 1, none⟩), .pointer (some ⟨mb, 2, none⟩), .pointer (some ⟨mb, 3, none⟩), .pointer (some ⟨mb, 4, none⟩)] 215 (0, 0))) := Lib.hid ((hk _ (Array.getElem?_eq_some_iff.1 HP6.out).1 HPB.out.2).trans HP6.out)
      clear hi hk hsz c0
      go_wp2_with fail
      obtain ⟨t1, ht1⟩ : ∃ t, t = u1.setCell ⟨mb, 1, none⟩ (.int .i64 v1) := ⟨_, rfl⟩
      have HJ1 : Hid (OI w t1 rp mb B (.pointer (some ⟨gr, 0, none⟩)) b1 y1 #[.int .i64 (st : Int), .int .i64 v1, .int .i64 0, .int .i64 0, .int .i64 0, .slice none 0 0]) := Lib.hid (by rw [ht1]; exact HK1.out.set 1 (.int .i64 v1))
      have HQ1 : Hid (t1.heap[pb]? = some (.cells #[.pointer (some ⟨mb, 1, none⟩), .pointer (some ⟨mb, 2, none⟩), .pointer (some ⟨mb, 3, none⟩), .pointer (some ⟨mb, 4, none⟩)] 215 (0, 0))) := Lib.hid (by rw [ht1]; exact (Deep.blk_setCell_other _ _ _ _ (show pb ≠ mb from by have := HPB.out.1; omega)).trans HP1b.out)
      rw [← ht1]
      clear ht1 f1 k1 q1 HK1 HP1b
      obtain ⟨v2, hv2⟩ : ∃ v, v = cI (rcount b1).1 := ⟨_, rfl⟩
      have s2 := rcount_small (bs := b1) HS1.out
      have q2 : IntKind.i64.wrap (((rcount b1).1 : Nat) : Int) = v2 := by rw [hv2]; exact cI_wrap _ (rc_lt HS1.out)
      have HC2 := Lib.hid HJ1.out.count
      obtain ⟨x2, hx2⟩ : ∃ x, x = (rcount b1).1 := ⟨_, rfl⟩
      obtain ⟨b2, hb2⟩ : ∃ x, x = (rcount b1).2.1 := ⟨_, rfl⟩
      obtain ⟨y2, hy2⟩ : ∃ x, x = (rcount b1).2.2 := ⟨_, rfl⟩
      rw [← hx2] at q2
      rw [← hb2] at s2
      rw [← hx2, ← hb2, ← hy2] at HC2
      have c0 := (cell_of_row _ _ 1 _ _ (0, 0) HQ1.out).trans rfl
      have HV2 := Lib.hid hv2
      have HX2 := Lib.hid hb2
      have HS2 := Lib.hid s2
      clear hv2 hx2 hb2 hy2 s2
      rw [rounds_succ]
      go_wp2_with fail
      refine Calls.mono HC2.out ?_
      rintro e u2 ⟨rfl, hi, hk, hsz⟩
      have f1 := frozen_at hi.mf 2
      have k1 := (cell_of_row _ _ 2 _ _ (0, 0) hi.mf).trans rfl
      have HK2 := Lib.hid hi
      have HP2b : Hid (u2.heap[pb]? = some (.cells #[.pointer (some ⟨mb, 1, none⟩), .pointer (some ⟨mb, 2, none⟩), .pointer (some ⟨mb, 3, none⟩), .pointer (some ⟨mb, 4, none⟩)] 215 (0, 0))) := Lib.hid ((hk _ (Array.getElem?_eq_some_iff.1 HQ1.out).1 HPB.out.2).trans HQ1.out)
      clear hi hk hsz c0
      go_wp2_with fail
      obtain ⟨t2, ht2⟩ : ∃ t, t = u2.setCell ⟨mb, 2, none⟩ (.int .i64 v2) := ⟨_, rfl⟩
      have HJ2 : Hid (OI w t2 rp mb B (.pointer (some ⟨gr, 0, none⟩)) b2 y2 #[.int .i64 (st : Int), .int .i64 v1, .int .i64 v2, .int .i64 0, .int .i64 0, .slice none 0 0]) := Lib.hid (by rw [ht2]; exact HK2.out.set 2 (.int .i64 v2))
      have HQ2 : Hid (t2.heap[pb]? = some (.cells #[.pointer (some ⟨mb, 1, none⟩), .pointer (some ⟨mb, 2, none⟩), .pointer (some ⟨mb, 3, none⟩), .pointer (some ⟨mb, 4, none⟩)] 215 (0, 0))) := Lib.hid (by rw [ht2]; exact (Deep.blk_setCell_other _ _ _ _ (show pb ≠ mb from by have := HPB.out.1; omega)).trans HP2b.out)
      rw [← ht2]
      clear ht2 f1 k1 q2 HK2 HP2b
      obtain ⟨v3, hv3⟩ : ∃ v, v = cI (rcount b2).1 := ⟨_, rfl⟩
      have s3 := rcount_small (bs := b2) HS2.out
      have q3 : IntKind.i64.wrap (((rcount b2).1 : Nat) : Int) = v3 := by rw [hv3]; exact cI_wrap _ (rc_lt HS2.out)
      have HC3 := Lib.hid HJ2.out.count
      obtain ⟨x3, hx3⟩ : ∃ x, x = (rcount b2).1 := ⟨_, rfl⟩
      obtain ⟨b3, hb3⟩ : ∃ x, x = (rcount b2).2.1 := ⟨_, rfl⟩
      obtain ⟨y3, hy3⟩ : ∃ x, x = (rcount b2).2.2 := ⟨_, rfl⟩
      rw [← hx3] at q3
      rw [← hb3] at s3
      rw [← hx3, ← hb3, ← hy3] at HC3
      have c0 := (cell_of_row _ _ 2 _ _ (0, 0) HQ2.out).trans rfl
      have HV3 := Lib.hid hv3
      have HX3 := Lib.hid hb3
      have HS3 := Lib.hid s3
      clear hv3 hx3 hb3 hy3 s3
      rw [rounds_succ]
      go_wp2_with fail
      refine Calls.mono HC3.out ?_
      rintro e u3 ⟨rfl, hi, hk, hsz⟩
      have f1 := frozen_at hi.mf 3
      have k1 := (cell_of_row _ _ 3 _ _ (0, 0) hi.mf).trans rfl
      have HK3 := Lib.hid hi
      have HP3b : Hid (u3.heap[pb]? = some (.cells #[.pointer (some ⟨mb, 1, none⟩), .pointer (some ⟨mb, 2, none⟩), .pointer (some ⟨mb, 3, none⟩), .pointer (some ⟨mb, 4, none⟩)] 215 (0, 0))) := Lib.hid ((hk _ (Array.getElem?_eq_some_iff.1 HQ2.out).1 HPB.out.2).trans HQ2.out)
      clear hi hk hsz c0
      go_wp2_with fail
      obtain ⟨t3, ht3⟩ : ∃ t, t = u3.setCell ⟨mb, 3, none⟩ (.int .i64 v3) := ⟨_, rfl⟩
      have HJ3 : Hid (OI w t3 rp mb B (.pointer (some ⟨gr, 0, none⟩)) b3 y3 #[.int .i64 (st : Int), .int .i64 v1, .int .i64 v2, .int .i64 v3, .int .i64 0, .slice none 0 0]) := Lib.hid (by rw [ht3]; exact HK3.out.set 3 (.int .i64 v3))
      have HQ3 : Hid (t3.heap[pb]? = some (.cells #[.pointer (some ⟨mb, 1, none⟩), .pointer (some ⟨mb, 2, none⟩), .pointer (some ⟨mb, 3, none⟩), .pointer (some ⟨mb, 4, none⟩)] 215 (0, 0))) := Lib.hid (by rw [ht3]; exact (Deep.blk_setCell_other _ _ _ _ (show pb ≠ mb from by have := HPB.out.1; omega)).trans HP3b.out)
      rw [← ht3]
      clear ht3 f1 k1 q3 HK3 HP3b
      obtain ⟨v4, hv4⟩ : ∃ v, v = cI (rcount b3).1 := ⟨_, rfl⟩
      have s4 := rcount_small (bs := b3) HS3.out
      have q4 : IntKind.i64.wrap (((rcount b3).1 : Nat) : Int) = v4 := by rw [hv4]; exact cI_wrap _ (rc_lt HS3.out)
      have HC4 := Lib.hid HJ3.out.count
      obtain ⟨x4, hx4⟩ : ∃ x, x = (rcount b3).1 := ⟨_, rfl⟩
      obtain ⟨b4, hb4⟩ : ∃ x, x = (rcount b3).2.1 := ⟨_, rfl⟩
      obtain ⟨y4, hy4⟩ : ∃ x, x = (rcount b3).2.2 := ⟨_, rfl⟩
      rw [← hx4] at q4
      rw [← hb4] at s4
      rw [← hx4, ← hb4, ← hy4] at HC4
      have c0 := (cell_of_row _ _ 3 _ _ (0, 0) HQ3.out).trans rfl
      have HV4 := Lib.hid hv4
      have HX4 := Lib.hid hb4
      have HS4 := Lib.hid s4
      clear hv4 hx4 hb4 hy4 s4
      rw [rounds_succ]
      go_wp2_with fail
      refine Calls.mono HC4.out ?_
      rintro e u4 ⟨rfl, hi, hk, hsz⟩
      have f1 := frozen_at hi.mf 4
      have k1 := (cell_of_row _ _ 4 _ _ (0, 0) hi.mf).trans rfl
      have HK4 := Lib.hid hi
      have HP4b : Hid (u4.heap[pb]? = some (.cells #[.pointer (some ⟨mb, 1, none⟩), .pointer (some ⟨mb, 2, none⟩), .pointer (some ⟨mb, 3, none⟩), .pointer (some ⟨mb, 4, none⟩)] 215 (0, 0))) := Lib.hid ((hk _ (Array.getElem?_eq_some_iff.1 HQ3.out).1 HPB.out.2).trans HQ3.out)
      clear hi hk hsz c0
      go_wp2_with fail
      obtain ⟨t4, ht4⟩ : ∃ t, t = u4.setCell ⟨mb, 4, none⟩ (.int .i64 v4) := ⟨_, rfl⟩
      have HJ4 : Hid (OI w t4 rp mb B (.pointer (some ⟨gr, 0, none⟩)) b4 y4 #[.int .i64 (st : Int), .int .i64 v1, .int .i64 v2, .int .i64 v3, .int .i64 v4, .slice none 0 0]) := Lib.hid (by rw [ht4]; exact HK4.out.set 4 (.int .i64 v4))
      have HQ4 : Hid (t4.heap[pb]? = some (.cells #[.pointer (some ⟨mb, 1, none⟩), .pointer (some ⟨mb, 2, none⟩), .pointer (some ⟨mb, 3, none⟩), .pointer (some ⟨mb, 4, none⟩)] 215 (0, 0))) := Lib.hid (by rw [ht4]; exact (Deep.blk_setCell_other _ _ _ _ (show pb ≠ mb from by have := HPB.out.1; omega)).trans HP4b.out)
      rw [← ht4]
      clear ht4 f1 k1 q4 HK4 HP4b
      obtain ⟨k5, hk5⟩ : ∃ x, x = (rcount b4).1 := ⟨_, rfl⟩
      obtain ⟨b5, hb5⟩ : ∃ x, x = (rcount b4).2.1 := ⟨_, rfl⟩
      obtain ⟨y5, hy5⟩ : ∃ x, x = (rcount b4).2.2 := ⟨_, rfl⟩
      have HC5 := Lib.hid HJ4.out.count
      have s5 := rcount_small (bs := b4) HS4.out
      rw [← hb5] at s5
      rw [← hk5, ← hb5, ← hy5] at HC5
      have HSB := Lib.hid s5
      have HAT : Hid (b5 = atH d) := Lib.hid (by rw [hb5, HX4.out, HX3.out, HX2.out, HX1.out]; rfl)
      have HKN : Hid (k5 = cntH d) := Lib.hid (by rw [hk5, HX4.out, HX3.out, HX2.out, HX1.out]; rfl)
      obtain ⟨M, hM⟩ : ∃ M, M = min k5 5 := ⟨_, rfl⟩
      have hM5 : M ≤ 5 := by omega
      have e5 : min (k5 : Int) 5 = (M : Int) := by omega
      have HM := Lib.hid hM
      clear hk5 hb5 hy5 s5 hM
      rw [rounds_succ]
      go_wp2_with fail
      refine Calls.mono HC5.out ?_
      rintro e w9 ⟨rfl, hi9, _, _⟩
      have HI9 := Lib.hid hi9
      clear hi9
      go_wp2_with fail
      clear e5
      obtain ⟨bh, hbh⟩ : ∃ bh, bh = w9.heap.size := ⟨_, rfl⟩
      have HBH := Lib.hid (show mb < bh ∧ w.heap.size ≤ bh ∧ bh ≤ w9.heap.size ∧ rp < bh from ⟨by have := HI9.out.ml; omega, by have := HI9.out.below.size; omega, by omega, by have := HI9.out.rl; omega⟩)
      have HB9 := Lib.hid (show ∀ k, B k → k < bh from fun k hk => by have := HBB.out k hk; have := HBH.out.1; omega)
      clear hbh
      go_loopw [49] (fun i wr => ∃ (q : Nat) (A5 : Option Addr) (c5 : Nat) (yq : Bool), i = .int .u64 (q : Int) ∧ q ≤ M ∧ OI w wr rp mb B (.pointer (some ⟨gr, 0, none⟩)) (readH q b5).2 yq #[.int .i64 (st : Int), .int .i64 v1, .int .i64 v2, .int .i64 v3, .int .i64 v4, .slice A5 q c5] ∧ wr.ownsRow bh 3 1 (.slice A5 q c5) q (rowV zV ((readH q b5).1.map cI)) ∧ bh ≤ wr.heap.size) (fun i _ => M - (intOf i).toNat)
      case atStart => exact ⟨0, none, 0, y5, rfl, by omega, HI9.out, World.ownsRow_nil _ _ _ _, HBH.out.2.2.1⟩
      case round =>
        obtain ⟨q, A5, c5, yq, rfl, hq, hI, hO, hB⟩ := hrel
        have HI := Lib.hid hI
        have HO := Lib.hid hO
        have HBL := Lib.hid hB
        clear hI hO hB
        by_cases hlt : q < M
        · obtain ⟨x, hx⟩ : ∃ x, x = (rcount (readH q b5).2).1 := ⟨_, rfl⟩
          have hsm := readH_small q HSB.out
          obtain ⟨vx, hvx⟩ : ∃ v, v = cI x := ⟨_, rfl⟩
          have qx : IntKind.i64.wrap (x : Int) = vx := by rw [hvx, hx]; exact cI_wrap _ (rc_lt hsm)
          have HCQ := Lib.hid HI.out.drew.count
          rw [← hx] at HCQ
          have HRS := Lib.hid (readH_succ q b5)
          have HVX := Lib.hid (And.intro hx hvx)
          obtain ⟨bq, hbq⟩ : ∃ b, b = (rcount (readH q b5).2).2.1 := ⟨_, rfl⟩
          obtain ⟨yr, hyr⟩ : ∃ b, b = (rcount (readH q b5).2).2.2 := ⟨_, rfl⟩
          rw [← hbq, ← hyr] at HCQ
          have HBQ := Lib.hid hbq
          have ka := (cell_of_row _ _ 5 _ _ (0, 0) HI.out.mf).trans rfl
          have kb := (cell_of_row _ _ 5 _ _ (0, 0) HI.out.drew.mf).trans rfl
          obtain ⟨X, hX⟩ : ∃ X, X = rowV zV ((readH q b5).1.map cI) := ⟨_, rfl⟩
          rw [← hX] at HO
          have HX := Lib.hid hX
          have HOA := Lib.hid (show ∀ w10 : World, (∀ k, k < wr.drew.heap.size → ¬ B k → w10.heap[k]? = wr.drew.heap[k]?) → wr.drew.heap.size ≤ w10.heap.size → (w10.alloc (.cells #[.int .i64 vx] 3)).ownsRow bh 3 1 (.slice A5 q c5) q X ∧ bh ≤ (w10.alloc (.cells #[.int .i64 vx] 3)).heap.size from fun w10 h1 h2 => by
            refine ⟨own_keep HO.out fun r hr => ?_, ?_⟩
            · obtain ⟨l1, l2⟩ := HO.out.lt r hr
              have l3 : r < wr.drew.heap.size := l2
              exact (heap_alloc_old _ _ (by omega)).trans (h1 r l3 fun hb => by have := HB9.out r hb; omega)
            · have h3 := HBL.out
              have h4 : wr.drew.heap.size = wr.heap.size := rfl
              rw [World.size_alloc]; omega)
          clear hx hvx hbq hyr hsm hX
          go_upto_region 13 with (fail)
          go_region_law (first | (go_simp; go_at_call 120; refine Calls.mono HCQ.out ?_; rintro e w10 ⟨rfl, hi, hk, hz⟩; have kc := (cell_of_row _ _ 5 _ _ (0, 0) hi.mf).trans rfl; have HI10 := Lib.hid hi; have kd := (cell_of_row _ _ 5 _ _ (0, 0) (hi.later ((Below.refl _ w10).alloc (Nat.le_refl _) (.cells #[.int .i64 vx] 3))).mf).trans rfl; have HOB := Lib.hid (HOA.out w10 hk hz); clear hi hk hz) | (refine step_append_rowv elemI (by simp [Region.wanted]) (.tmp 52) (.tmp 56) rfl bh (.slice A5 q c5) q X (by simp [Act.eval]) HOB.out.1 (some ⟨w10.heap.size, 0, none⟩) 1 1 [.int .i64 vx] (by simp [Act.eval]) (rdv_fresh1 w10 vx _) (fun u hu => by rw [List.mem_singleton.1 hu]; rfl) (fun h => by cases h) (by unfold maxLen; omega) (by omega) HOB.out.2 ?_; rintro v6 w11 ho hg hq; obtain ⟨A6, c6, rfl, _⟩ := rdv_own ho; have HO11 := Lib.hid ho; have HI11 := Lib.hid ((HI10.out.later ((Below.refl _ _).alloc (Nat.le_refl _) _)).grown (bh := bh) hg (fun k e => (HOB.out.1.lt k e).1) HBH.out.1 HBH.out.2.2.2 HBH.out.2.1 HB9.out); have HS11 := Lib.hid (Nat.le_trans HOB.out.2 hg.size); have fm := frozen_at HI11.out.mf 5; have km := (cell_of_row _ _ 5 _ _ (0, 0) HI11.out.mf).trans rfl; clear ho hg hq))
          all_goals
            (go_wp2_with fail
             clear ka kb kc kd fm km qx
             obtain ⟨t9, ht9⟩ : ∃ t, t = w11.setCell ⟨mb, 5, none⟩ (.slice A6 (q + 1) c6) := ⟨_, rfl⟩
             have HI12 : Hid (OI w t9 rp mb B (.pointer (some ⟨gr, 0, none⟩)) bq yr #[.int .i64 (st : Int), .int .i64 v1, .int .i64 v2, .int .i64 v3, .int .i64 v4, .slice A6 (q + 1) c6]) := Lib.hid (by rw [ht9]; exact HI11.out.set 5 (.slice A6 (q + 1) c6))
             have HO12 : Hid (t9.ownsRow bh 3 1 (.slice A6 (q + 1) c6) (q + 1) (rowV zV ((readH (q + 1) b5).1.map cI))) := Lib.hid (by
               rw [ht9, HRS.out, List.map_append, rowV_append, ← HX.out, ← HVX.out.1]
               have e9 : rowV zV ([x].map cI) = [.int .i64 vx] := by rw [HVX.out.2]; rfl
               rw [e9]
               exact own_keep HO11.out fun r hr => Deep.blk_setCell_other _ _ _ _ (by have h1 := (HO11.out.lt r hr).1; have h2 := HBH.out.1; intro h3; have h4 : r = mb := h3; omega))
             have HS12 : Hid (bh ≤ t9.heap.size) := Lib.hid (by rw [ht9, World.size_setCell]; exact HS11.out)
             rw [← ht9]
             clear ht9
             go_wp2_with fail
             go_roundw
             case rel => exact ⟨q + 1, A6, c6, yr, by go_num, by omega, by rw [HRS.out, ← HBQ.out]; exact HI12.out, HO12.out, HS12.out⟩
             case measure => simp [intOf]; omega)
        · have HQM := Lib.hid (show q = M by omega)
          have HQ5 := Lib.hid (show q ≤ 5 by omega)
          have HRM : Hid (restM d = (readH q b5).2) := Lib.hid (by rw [rest_part, ← HKN.out, ← HM.out, ← HQM.out, HAT.out])
          have HPM : Hid (parseM cI st d = ⟨(st : Int), v1, v2, v3, v4, (readH q b5).1.map cI⟩) := Lib.hid (by
            rw [parse_part, ← HKN.out, ← HM.out, ← HQM.out]
            unfold partM
            rw [HV1.out, HV2.out, HV3.out, HV4.out, HX3.out, HX2.out, HX1.out, ← HAT.out])
          obtain ⟨m, hm⟩ : ∃ m : Mf, m = ⟨(st : Int), v1, v2, v3, v4, (readH q b5).1.map cI⟩ := ⟨_, rfl⟩
          rw [← hm] at HPM
          have HMM := Lib.hid hm
          have hml : m.heads.length = q := by rw [hm]; simp [readH_len]
          have HML := Lib.hid hml
          have hON : openN l = some (st, 3, d) := HON.out
          have HNB := Lib.hid (fun (h : ¬ ((readH q b5).2 = [77] ∧ GoodM m)) => openM_bad (f := cI) hON (by rw [HRM.out, HPM.out]; exact h))
          have HNY := Lib.hid (fun (h1 : (readH q b5).2 = [77]) (h2 : GoodM m) => by
            have h3 := openM_yes (f := cI) hON (by rw [HRM.out]; exact h1) (by rw [HPM.out]; exact h2)
            rw [HPM.out] at h3
            exact h3)
          have hOM : wr.ownsRow bh 3 1 (.slice A5 q c5) q (rowV zV m.heads) := by rw [hm]; exact HO.out
          have HOM := Lib.hid hOM
          obtain ⟨R, hR⟩ : ∃ R, R = (readH q b5).2 := ⟨_, rfl⟩
          have hbad : yq = true → R = [] := fun e => by
            have h := HI.out.rd
            rw [e, ← hR] at h
            exact h.empty
          have HBAD := Lib.hid hbad
          rw [← hR] at HI HNB HNY
          have HBY := Lib.hid HI.out.byte
          have dq : decide (q < M) = false := decide_eq_false (by have := HQM.out; omega)
          clear hm hml hON hOM hR hbad hlt hq HKN HAT HV1 HV2 HV3 HV4 HX1 HX2 HX3 HX4 HRM HPM HQM HM HO
          by_cases hb77 : byteT R = 77
          · have e77 : ((byteT R : Nat) : Int) = 77 := by omega
            have HB77 := Lib.hid hb77
            rw [e77] at HBY
            clear e77 hb77
            go_wp2_with fail
            refine Calls.mono HBY.out ?_
            rintro e w12 ⟨rfl, hi, hk, hz⟩
            have HI12 := Lib.hid hi
            have HK12 := Lib.hid (And.intro hk hz)
            have hOM : w12.ownsRow bh 3 1 (.slice A5 q c5) q (rowV zV m.heads) := own_keep HOM.out fun r hr => hk r (HOM.out.lt r hr).2 fun hb => by have := HB9.out r hb; have := (HOM.out.lt r hr).1; omega
            have HO12 := Lib.hid hOM
            have HEN := Lib.hid (end_any B _ _ _ w12 hi.rd)
            clear hi hk hz hOM HBY
            by_cases hend : (yq || decide (R.length = 0)) = false ∧ R.drop 1 = []
            · have hR77 : R = [77] := by
                have h1 := HB77.out
                rcases R with _ | ⟨r, t⟩
                · exact absurd h1 (by decide)
                · have h2 : t = [] := hend.2
                  have h3 : r = 77 := h1
                  rw [h2, h3]
              have HR77 := Lib.hid hR77
              have he9 : endV (R.drop 1) (yq || decide (R.length = 0)) = .nilIface := by unfold endV; rw [if_pos hend]
              rw [he9] at HEN
              have HG := Lib.hid (slgood_any m A5 c5 w12 (zs_own (c := c5) HO12.out HML.out) (by rw [HML.out]; have := HQ5.out; omega))
              unfold mfC at HG
              rw [HML.out] at HG
              obtain ⟨gb, hgb⟩ : ∃ gb, gb = goodB m := ⟨_, rfl⟩
              rw [← hgb] at HG
              have HGB := Lib.hid hgb
              have hmc : (#[.int .i64 m.gen, .int .i64 m.epoch, .int .i64 m.base, .int .i64 m.area, .int .i64 m.len, .slice A5 q c5] : Array Value) = #[.int .i64 (st : Int), .int .i64 v1, .int .i64 v2, .int .i64 v3, .int .i64 v4, .slice A5 q c5] := by rw [HMM.out]
              rw [hmc] at HG
              have HMC := Lib.hid hmc
              clear hend hR77 he9 hgb hmc
              have m0 := (cell_of_row _ _ 0 _ _ (0, 0) HI12.out.mf).trans rfl
              have m1 := (cell_of_row _ _ 1 _ _ (0, 0) HI12.out.mf).trans rfl
              have m2 := (cell_of_row _ _ 2 _ _ (0, 0) HI12.out.mf).trans rfl
              have m3 := (cell_of_row _ _ 3 _ _ (0, 0) HI12.out.mf).trans rfl
              have m4 := (cell_of_row _ _ 4 _ _ (0, 0) HI12.out.mf).trans rfl
              have m5 := (cell_of_row _ _ 5 _ _ (0, 0) HI12.out.mf).trans rfl
              go_wp2_with fail
              refine Calls.mono HEN.out ?_
              rintro e w13 ⟨v, rfl, rfl, rfl⟩
              go_wp2_with fail
              refine Calls.mono HG.out ?_
              rintro e w14 ⟨rfl, hb14⟩
              have HI14 := Lib.hid (HI12.out.later hb14)
              have HO14 : Hid (w14.ownsRow bh 3 1 (.slice A5 q c5) q (rowV zV m.heads)) := Lib.hid (own_keep HO12.out fun r hr => hb14.block r (HO12.out.lt r hr).2)
              clear hb14 m0 m1 m2 m3 m4 m5
              cases gb with
              | false =>
                have hr3 := HI14.out.res
                have k0 := (cell_of_row _ _ 0 _ _ (0, 0) hr3).trans rfl
                have k1 := (cell_of_row _ _ 1 _ _ (0, 0) hr3).trans rfl
                have k2 := (cell_of_row _ _ 2 _ _ (0, 0) hr3).trans rfl
                have k3 := (cell_of_row _ _ 3 _ _ (0, 0) hr3).trans rfl
                have k4 := (cell_of_row _ _ 4 _ _ (0, 0) hr3).trans rfl
                have k5 := (cell_of_row _ _ 5 _ _ (0, 0) hr3).trans rfl
                have f0 := frozen_at hr3 0
                have f1 := frozen_at hr3 1
                have f2 := frozen_at hr3 2
                have f3 := frozen_at hr3 3
                have f4 := frozen_at hr3 4
                have f5 := frozen_at hr3 5
                unfold zeroC at k0 k1 k2 k3 k4 k5
                have HF := Lib.hid (fin_bad hr3 HI14.out.below HI14.out.rlo (HNB.out fun q => by have h9 := (goodB_iff m).2 q.2; rw [← HGB.out] at h9; cases h9))
                clear hr3
                go_wp2_with fail
                refine bodyPost_ret (resOp HF.out.1 _ rfl) rfl ?_
                exact HF.out.2
              | true =>
                have HGM := Lib.hid ((goodB_iff m).1 HGB.out.symm)
                have m0 := (cell_of_row _ _ 0 _ _ (0, 0) HI14.out.mf).trans rfl
                have m1 := (cell_of_row _ _ 1 _ _ (0, 0) HI14.out.mf).trans rfl
                have m2 := (cell_of_row _ _ 2 _ _ (0, 0) HI14.out.mf).trans rfl
                have m3 := (cell_of_row _ _ 3 _ _ (0, 0) HI14.out.mf).trans rfl
                have m4 := (cell_of_row _ _ 4 _ _ (0, 0) HI14.out.mf).trans rfl
                have m5 := (cell_of_row _ _ 5 _ _ (0, 0) HI14.out.mf).trans rfl
                have hr3 := HI14.out.res
                have k0 := (cell_of_row _ _ 0 _ _ (0, 0) hr3).trans rfl
                have k1 := (cell_of_row _ _ 1 _ _ (0, 0) hr3).trans rfl
                have k2 := (cell_of_row _ _ 2 _ _ (0, 0) hr3).trans rfl
                have k3 := (cell_of_row _ _ 3 _ _ (0, 0) hr3).trans rfl
                have k4 := (cell_of_row _ _ 4 _ _ (0, 0) hr3).trans rfl
                have k5' := (cell_of_row _ _ 5 _ _ (0, 0) hr3).trans rfl
                have f0 := frozen_at hr3 0
                have f1 := frozen_at hr3 1
                have f2 := frozen_at hr3 2
                have f3 := frozen_at hr3 3
                have f4 := frozen_at hr3 4
                have f5 := frozen_at hr3 5
                unfold zeroC at k0 k1 k2 k3 k4 k5' hr3
                have HF := Lib.hid (set6 _ _ _ _ _ _ _ _ _ (.int .i64 (st : Int)) (.int .i64 v1) (.int .i64 v2) (.int .i64 v3) (.int .i64 v4) (.slice A5 q c5) hr3)
                have HF2 := Lib.hid (set6_below HI14.out.below HI14.out.rlo (.int .i64 (st : Int)) (.int .i64 v1) (.int .i64 v2) (.int .i64 v3) (.int .i64 v4) (.slice A5 q c5))
                clear hr3
                go_wp2_with fail
                refine bodyPost_ret (resOp HF.out _ rfl) rfl ?_
                refine ⟨.inr ⟨m, A5, c5, HNY.out HR77.out HGM.out, ?_, ?_⟩, HF2.out⟩
                · unfold mfC
                  rw [HML.out, HMC.out]
                  rfl
                · rw [HML.out]
                  have h9 := own_keep HO14.out fun r hr => set6_other w14 rp r (.int .i64 (st : Int)) (.int .i64 v1) (.int .i64 v2) (.int .i64 v3) (.int .i64 v4) (.slice A5 q c5) (by have := (HO14.out.lt r hr).1; have := HBH.out.2.2.2; omega)
                  exact own_lower h9 HBH.out.2.1
            · have hend' : endV (R.drop 1) (yq || decide (R.length = 0)) = .iface 43 (.int .i64 2) := by unfold endV; rw [if_neg hend]
              rw [hend'] at HEN
              have hno : R ≠ [77] := fun e => hend (by
                rw [e]
                refine ⟨?_, rfl⟩
                cases hy : yq with
                | false => rfl
                | true => have := HBAD.out hy; rw [e] at this; cases this)
              have HNO := Lib.hid (HNB.out fun q => hno q.1)
              clear hend hend' hno
              go_wp2_with fail
              refine Calls.mono HEN.out ?_
              rintro e w13 ⟨v, rfl, rfl, rfl⟩
              have hr3 := HI12.out.res
              have k0 := (cell_of_row _ _ 0 _ _ (0, 0) hr3).trans rfl
              have k1 := (cell_of_row _ _ 1 _ _ (0, 0) hr3).trans rfl
              have k2 := (cell_of_row _ _ 2 _ _ (0, 0) hr3).trans rfl
              have k3 := (cell_of_row _ _ 3 _ _ (0, 0) hr3).trans rfl
              have k4 := (cell_of_row _ _ 4 _ _ (0, 0) hr3).trans rfl
              have k5 := (cell_of_row _ _ 5 _ _ (0, 0) hr3).trans rfl
              have f0 := frozen_at hr3 0
              have f1 := frozen_at hr3 1
              have f2 := frozen_at hr3 2
              have f3 := frozen_at hr3 3
              have f4 := frozen_at hr3 4
              have f5 := frozen_at hr3 5
              unfold zeroC at k0 k1 k2 k3 k4 k5
              have HF := Lib.hid (fin_bad hr3 HI12.out.below HI12.out.rlo HNO.out)
              clear hr3
              go_wp2_with fail
              refine bodyPost_ret (resOp HF.out.1 _ rfl) rfl ?_
              exact HF.out.2
          · have HNO := Lib.hid (HNB.out fun q => hb77 (by rw [q.1]; rfl))
            have e77 : (((byteT R : Nat) : Int) != 77) = true := by rw [bne_iff_ne]; omega
            clear hb77
            go_wp2_with fail
            refine Calls.mono HBY.out ?_
            rintro e w12 ⟨rfl, hi, hk, hz⟩
            have HI12 := Lib.hid hi
            clear hi hk hz
            have hr3 := HI12.out.res
            have k0 := (cell_of_row _ _ 0 _ _ (0, 0) hr3).trans rfl
            have k1 := (cell_of_row _ _ 1 _ _ (0, 0) hr3).trans rfl
            have k2 := (cell_of_row _ _ 2 _ _ (0, 0) hr3).trans rfl
            have k3 := (cell_of_row _ _ 3 _ _ (0, 0) hr3).trans rfl
            have k4 := (cell_of_row _ _ 4 _ _ (0, 0) hr3).trans rfl
            have k5 := (cell_of_row _ _ 5 _ _ (0, 0) hr3).trans rfl
            have f0 := frozen_at hr3 0
            have f1 := frozen_at hr3 1
            have f2 := frozen_at hr3 2
            have f3 := frozen_at hr3 3
            have f4 := frozen_at hr3 4
            have f5 := frozen_at hr3 5
            unfold zeroC at k0 k1 k2 k3 k4 k5
            have HF := Lib.hid (fin_bad hr3 HI12.out.below HI12.out.rlo HNO.out)
            clear hr3
            go_wp2_with fail
            refine bodyPost_ret (resOp HF.out.1 _ rfl) rfl ?_
            exact HF.out.2
    · have HN := Lib.hid (openM_kind (f := cI) HON.out hk)
      have dk : ((kd : Int) != 3) = true := by rw [bne_iff_ne]; omega
      clear hk
      go_upto_region 2 with (fail)
      obtain ⟨w3, hw3⟩ : ∃ w3, w3 = w2.alloc (.cells #[.int .i64 (st : Int), .int .i64 (kd : Int), .slice A n c] 208) := ⟨_, rfl⟩
      have hb3 : Below w2.heap.size w2 w3 := by rw [hw3]; exact (Below.refl _ _).alloc (Nat.le_refl _) _
      have g3 : w3.heap[w2.heap.size]? = some (.cells #[.int .i64 (st : Int), .int .i64 (kd : Int), .slice A n c] 208 (0, 0)) := by rw [hw3]; exact heap_alloc_new w2 _
      rw [← hw3]
      obtain ⟨xb, hxb⟩ : ∃ xb, xb = w2.heap.size := ⟨_, rfl⟩
      rw [← hxb] at g3 ⊢
      clear hw3 hxb
      obtain ⟨h2a, h2b, h2c⟩ := H2.out
      have hr3 := (hb3.block _ (Array.getElem?_eq_some_iff.1 h2b).1).trans h2b
      have x1 := (cell_of_row _ _ 1 _ _ (0, 0) g3).trans rfl
      have k0 := (cell_of_row _ _ 0 _ _ (0, 0) hr3).trans rfl
      have k1 := (cell_of_row _ _ 1 _ _ (0, 0) hr3).trans rfl
      have k2 := (cell_of_row _ _ 2 _ _ (0, 0) hr3).trans rfl
      have k3 := (cell_of_row _ _ 3 _ _ (0, 0) hr3).trans rfl
      have k4 := (cell_of_row _ _ 4 _ _ (0, 0) hr3).trans rfl
      have k5 := (cell_of_row _ _ 5 _ _ (0, 0) hr3).trans rfl
      have f0 := frozen_at hr3 0
      have f1 := frozen_at hr3 1
      have f2 := frozen_at hr3 2
      have f3 := frozen_at hr3 3
      have f4 := frozen_at hr3 4
      have f5 := frozen_at hr3 5
      unfold zeroC at k0 k1 k2 k3 k4 k5
      have HF := Lib.hid (fin_bad hr3 (h2a.trans (hb3.mono h2a.size)) h2c HN.out)
      clear h2a h2b h2c hr3 hb3 g3
      go_wp2_with fail
      refine bodyPost_ret (resOp HF.out.1 _ rfl) rfl ?_
      exact HF.out.2
end Go.Proofs.Ytjmjehhmkjhalaa
