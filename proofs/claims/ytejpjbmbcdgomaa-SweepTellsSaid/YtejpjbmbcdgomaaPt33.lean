/- VPass, VStepM, VCmp: put together. -/
import Derived.Test.YtejpjbmbcdgomaaPt31
import Derived.Test.YtejpjbmbcdgomaaPt32
import Derived.Test.YtejpjbmbcdgomaaPt27
import Derived.Test.YtejpjbmbcdgomaaPt30
import Derived.Test.YtejpjbmbcdgomaaPt25
import Derived.LoopN
import Derived.Deep.RegionLaw
/- A sweep goes past an entry. Written by gen_vpass.py. -/
namespace Go.Proofs.Ytejpjbmbcdgomaa
set_option maxRecDepth 100000
open Go.RowKit

theorem rdv_atE {w : World} {p : Nat} {e : En} {T : TypeId} (hb : w.heap[p]? = some (.cells #[.int .i64 (e.t : Int), .int .i64 e.x.k, .int .i64 e.x.c.v, .int .i64 e.x.c.s, .bool e.x.c.dead] T (0, 0))) : Rdv w (some ⟨p, 0, none⟩) 1 5 e.vals :=
  ⟨rfl, fun _ => ⟨p, 0, rfl, fun j u hj => by
    rw [Nat.zero_add, cell_of_row _ p j _ T (0, 0) hb]
    unfold En.vals at hj
    simpa using hj⟩⟩
theorem swm_cur {w : World} {xb : Nat} {so : Option Addr} {ct ck : Int} {nv tv : Value} {d : Bool} (h : SwM w xb so ct ck nv tv d) (a b : Int) : SwM ((w.setCell ⟨xb, 1, none⟩ (.int .i64 a)).setCell ⟨xb, 2, none⟩ (.int .i64 b)) xb so a b nv tv d := (heap_set _ xb 2 (.int .i64 b) (heap_set w xb 1 (.int .i64 a) h)).trans rfl
theorem Touch.later {w w1 w2 : World} {g : Nat} {r : Option Nat} (h : Touch w w1 g r) (hb : Below w1.heap.size w1 w2) : Touch w w2 g r := ⟨hb.os.trans h.os, hb.tape.trans h.tape, hb.output.trans h.output, Nat.le_trans h.size hb.size, fun k hk h1 h2 => (hb.block k (Nat.lt_of_lt_of_le hk h.size)).trans (h.block k hk h1 h2)⟩
theorem Touch.set {w w1 : World} {g j : Nat} {r : Option Nat} {u : Value} (h : Touch w w1 g r) : Touch w (w1.setCell ⟨g, j, none⟩ u) g r := ⟨h.os, h.tape, h.output, by rw [World.size_setCell]; exact h.size, fun k hk h1 h2 => (heap_ne _ _ _ _ h1).trans (h.block k hk h1 h2)⟩
theorem Touch.grown {w w1 w2 : World} {g : Nat} {r : Option Nat} (h : Touch w w1 g r) (hg : w1.grownBy w2 r) : Touch w w2 g r := ⟨hg.os.trans h.os, hg.tape.trans h.tape, hg.output.trans h.output, Nat.le_trans h.size hg.size, fun k hk h1 h2 => (hg.block k (Nat.lt_of_lt_of_le hk h.size) (fun e => h2 e.symm)).trans (h.block k hk h1 h2)⟩
theorem Touch.of {w w1 : World} {g : Nat} {r : Option Nat} (hb : Below w.heap.size w w1) : Touch w w1 g r := ⟨hb.os, hb.tape, hb.output, hb.size, fun k hk _ _ => hb.block k hk⟩
set_option maxHeartbeats 8000000 in
theorem swpass_take {w : World} {B xb : Nat} {so : Option Addr} {ct ck : Int} {nv tv : Value} {d : Bool} {T : List En} (h : SwM w xb so ct ck nv tv d) (hB : B ≤ xb) (ho : Sno w B tv T) (hT : T.length ≤ 100000) (e : En) (he : e.t ≤ 4) (hk : Fits e.x.k) (lv : Bool) :
    Calls Try.prog 84 #[.pointer (some ⟨xb, 0, none⟩), .agg e.vals.toArray, .bool lv] w fun r w' => r = .returned (.tuple #[]) ∧ ∃ tv', SwM w' xb so (bhT (e.t : Int) e.x.k) (bhK e.x.k) nv tv' d ∧ Sno w' B tv' (if lv then T ++ [e] else T) ∧ Touch w w' xb tv.ownBlock ∧ (∀ q, tv'.ownBlock = some q → tv.ownBlock = some q ∨ w.heap.size ≤ q) := by
  have hne : tv.ownBlock ≠ some xb := fun c => by
    obtain ⟨cur, e7⟩ := own_at ho c
    have e8 : w.heap[xb]? = some (.cells #[.pointer so, .int .i64 ct, .int .i64 ck, nv, tv, .bool d] 145 (0, 0)) := h
    rw [e8] at e7
    injection e7 with e7
    injection e7 with _ e9 _
    revert e9
    decide
  obtain ⟨A9, c9, htv⟩ := own_form ho
  obtain ⟨n9, hn9⟩ : ∃ n9, n9 = T.length := ⟨_, rfl⟩
  rw [← hn9] at htv
  subst htv
  have ho9 : w.ownsRow B 112 5 (.slice A9 n9 c9) n9 (rowV En.vals T) := by rw [hn9] at ho ⊢; exact ho
  have HN9 := Lib.hid (And.intro hn9 ho9)
  obtain ⟨p4, hp4⟩ : ∃ p4, p4 = w.heap.size := ⟨_, rfl⟩
  obtain ⟨W1, hW1⟩ : ∃ W1, W1 = w.alloc (.cells #[.int .i64 (e.t : Int), .int .i64 e.x.k, .int .i64 e.x.c.v, .int .i64 e.x.c.s, .bool e.x.c.dead] 112) := ⟨_, rfl⟩
  have hb1 : Below w.heap.size w W1 := by rw [hW1]; exact (Below.refl _ _).alloc (Nat.le_refl _) _
  have hx4 : W1.heap[p4]? = some (.cells #[.int .i64 (e.t : Int), .int .i64 e.x.k, .int .i64 e.x.c.v, .int .i64 e.x.c.s, .bool e.x.c.dead] 112 (0, 0)) := by rw [hW1, hp4]; exact heap_alloc_new w _
  have HIN := Lib.hid (And.intro h (And.intro hB (And.intro ho (And.intro hT (And.intro he (And.intro hk hne))))))
  have HW := Lib.hid (And.intro hW1 hp4)
  have H1 := Lib.hid (And.intro hb1 (And.intro hx4 (SwM.below h hb1)))
  have hr : rowV En.vals T = rowV En.vals T := rfl
  clear hn9 ho9 h hB ho hT he hk hne hp4 hW1 hb1 hx4 hr
  unfold En.vals
  go_enter Try.func84, Try.ntmps84
  go_upto_region 1 with fail
  rw [← HW.out.1, ← HW.out.2]
  cases lv with
  | false =>
    have HE : Hid (SwM W1 xb so ct ck nv (.slice A9 n9 c9) d ∧ W1.heap[p4]? = some (.cells #[.int .i64 (e.t : Int), .int .i64 e.x.k, .int .i64 e.x.c.v, .int .i64 e.x.c.s, .bool e.x.c.dead] 112 (0, 0)) ∧ Sno W1 B (.slice A9 n9 c9) T ∧ Touch w W1 xb (Value.slice A9 n9 c9).ownBlock ∧ (∀ q, (Value.slice A9 n9 c9).ownBlock = some q → (Value.slice A9 n9 c9).ownBlock = some q ∨ w.heap.size ≤ q)) := Lib.hid ⟨H1.out.2.2, H1.out.2.1, HIN.out.2.2.1.below H1.out.1, Touch.of H1.out.1, fun q e => .inl e⟩
    go_upto_region 3 with fail
    have c0 : W1.cell? ⟨p4, 0, none⟩ = some (.int .i64 (e.t : Int)) := by rw [cell_of_row _ _ 0 _ _ _ HE.out.2.1]; rfl
    have c1 : W1.cell? ⟨p4, 1, none⟩ = some (.int .i64 e.x.k) := by rw [cell_of_row _ _ 1 _ _ _ HE.out.2.1]; rfl
    have HBE := Lib.hid (behind_any W1 (e.t : Int) e.x.k (by have := HIN.out.2.2.2.2.1; omega) HIN.out.2.2.2.2.2.1)
    go_wp2_with fail
    refine Calls.mono HBE.out ?_
    rintro r w3 ⟨rfl, hb3⟩
    have h3 := SwM.below HE.out.1 hb3
    obtain ⟨_, z1, z2, _, _, _⟩ := SwM.at h3
    have zf := frozen_of h3
    have HF : Hid (SwM ((w3.setCell ⟨xb, 1, none⟩ (.int .i64 (bhT (e.t : Int) e.x.k))).setCell ⟨xb, 2, none⟩ (.int .i64 (bhK e.x.k))) xb so (bhT (e.t : Int) e.x.k) (bhK e.x.k) nv (.slice A9 n9 c9) d ∧ Sno ((w3.setCell ⟨xb, 1, none⟩ (.int .i64 (bhT (e.t : Int) e.x.k))).setCell ⟨xb, 2, none⟩ (.int .i64 (bhK e.x.k))) B (.slice A9 n9 c9) T ∧ Touch w ((w3.setCell ⟨xb, 1, none⟩ (.int .i64 (bhT (e.t : Int) e.x.k))).setCell ⟨xb, 2, none⟩ (.int .i64 (bhK e.x.k))) xb (Value.slice A9 n9 c9).ownBlock) := Lib.hid ⟨swm_cur h3 _ _, own_same (HE.out.2.2.1.below hb3) fun q hq => (heap_ne _ _ _ _ (fun e2 => HIN.out.2.2.2.2.2.2 (by rw [hq, e2]))).trans (heap_ne _ _ _ _ (fun e2 => HIN.out.2.2.2.2.2.2 (by rw [hq, e2]))), (HE.out.2.2.2.1.later hb3).set.set⟩
    clear hb3 h3 c0 c1
    go_wp2_with fail
    exact bodyPost_end (v := .tuple #[]) (by simp [results, Try.results84, go_sem]) rfl ⟨rfl, _, HF.out.1, HF.out.2.1, HF.out.2.2, HE.out.2.2.2.2⟩
  | true =>
    have HCE : Hid (∀ W2, Below W1.drew.heap.size W1.drew W2 → W2.cell? ⟨xb, 4, none⟩ = some (.slice A9 n9 c9) ∧ W2.cell? ⟨p4, 0, none⟩ = some (.int .i64 (e.t : Int)) ∧ W2.cell? ⟨p4, 1, none⟩ = some (.int .i64 e.x.k) ∧ W2.cell? ⟨p4, 2, none⟩ = some (.int .i64 e.x.c.v) ∧ W2.cell? ⟨p4, 3, none⟩ = some (.int .i64 e.x.c.s) ∧ W2.cell? ⟨p4, 4, none⟩ = some (.bool e.x.c.dead)) := Lib.hid fun W2 hw => by
      have hw2 : Below W1.heap.size W1 W2 := (Below.refl _ _).drew.trans hw
      have e4 := (hw2.block p4 (Array.getElem?_eq_some_iff.1 H1.out.2.1).1).trans H1.out.2.1
      exact ⟨(H1.out.2.2.below hw2).at.2.2.2.2.1, by rw [cell_of_row _ _ 0 _ _ _ e4]; rfl, by rw [cell_of_row _ _ 1 _ _ _ e4]; rfl, by rw [cell_of_row _ _ 2 _ _ _ e4]; rfl, by rw [cell_of_row _ _ 3 _ _ _ e4]; rfl, by rw [cell_of_row _ _ 4 _ _ _ e4]; rfl⟩
    go_upto_region 2 with fail
    refine wp_region_noPanic ?_
    refine wp_region_abs0 7 23 _ (.pointer (some ⟨xb, 0, none⟩)) [
      .is (.pointer (some ⟨xb, 0, none⟩)),
      .is (.pointer (some ⟨xb, 0, none⟩)),
      .is (.pointer (some ⟨xb, 0, none⟩)),
      .is (.pointer (some ⟨xb, 4, none⟩)),
      .is (.slice A9 n9 c9),
      .is (.agg #[.int .i64 (e.t : Int), .int .i64 e.x.k, .int .i64 e.x.c.v, .int .i64 e.x.c.s, .bool e.x.c.dead]),
      .tells (fun _ v wb wa => v = .slice (some ⟨wb.heap.size, 0, none⟩) 1 1 ∧ wa.heap[wb.heap.size]? = some (.cells #[.int .i64 (e.t : Int), .int .i64 e.x.k, .int .i64 e.x.c.v, .int .i64 e.x.c.s, .bool e.x.c.dead] 112 (0, 0)))]
      [7, 8, 9, 10, 11, 12, 13]
      [[], [], [1], [2], [3], [], [5]] (by kernel_rfl) (by rfl) rfl rfl (by rfl) rfl (by kernel_rfl) (by kernel_rfl) (by kernel_rfl) (.inl ⟨rfl, fun _ => rfl⟩) (by kernel_rfl) (fun _ _ _ _ h => h.elim) ?_ ?_
    · refine ⟨?_, ?_, ?_, ?_, ?_, ?_, ?_, trivial⟩
      · intro W2 hw K hK
        go_simp
        exact hK _ _ rfl (Below.refl _ _)
      · intro W2 hw K hK
        go_simp
        exact hK _ _ rfl (Below.refl _ _)
      · intro W2 hw K hK
        go_simp
        exact hK _ _ rfl (Below.refl _ _)
      · intro W2 hw K hK
        go_simp
        exact hK _ _ rfl (Below.refl _ _)
      · intro W2 hw K hK
        obtain ⟨s0, s1, s2, s3, s4, s5⟩ := HCE.out W2 hw
        go_simp
        exact hK _ _ rfl (Below.refl _ _)
      · intro W2 hw K hK
        obtain ⟨s0, s1, s2, s3, s4, s5⟩ := HCE.out W2 hw
        go_simp
        exact hK _ _ rfl (Below.refl _ _)
      · intro W2 hw K hK
        go_simp
        exact hK _ _ ⟨rfl, heap_alloc_new W2 _⟩ ((Below.refl _ _).alloc (Nat.le_refl _) _)
    · intro W2 hw2
      simp only [Behind]
      rintro v6 wb6 wa6 ⟨rfl, hrow⟩ hx6 _ _
      have hB2 : Below W1.heap.size W1 W2 := (Below.refl _ W1).drew.trans hw2
      obtain ⟨p6, hp6⟩ : ∃ p6, p6 = wb6.heap.size := ⟨_, rfl⟩
      rw [← hp6] at hrow ⊢
      have g6 := (hx6.block p6 (Array.getElem?_eq_some_iff.1 hrow).1).trans hrow
      have hsw : SwM W2 xb so ct ck nv (.slice A9 n9 c9) d := H1.out.2.2.below hB2
      have h4 := (hB2.block p4 (Array.getElem?_eq_some_iff.1 H1.out.2.1).1).trans H1.out.2.1
      have H2 := Lib.hid (And.intro hsw (And.intro (own_same HN9.out.2 fun q hq => by obtain ⟨_, e9⟩ := own_at HN9.out.2 hq; exact (H1.out.1.trans (hB2.mono H1.out.1.size)).block q (Array.getElem?_eq_some_iff.1 e9).1) (And.intro (rdv_atE g6) (And.intro (H1.out.1.trans (hB2.mono H1.out.1.size)) h4))))
      have HBS : Hid (B ≤ W2.heap.size) := Lib.hid (by have := HIN.out.2.1; have := hsw.lt; omega)
      clear hw2 hrow hx6 hB2 hp6 g6 hsw h4
      simp only [List.drop, Act.put, List.setIfInBounds_toArray, List.set_cons_zero, List.set_cons_succ]
      go_wp2_with (at_builtin; refine wpList_append_rowg elemSn rfl (.tmp 11) (.tmp 13) rfl B (.slice A9 n9 c9) n9 (rowV En.vals T) rfl H2.out.2.1 (some ⟨p6, 0, none⟩) 1 1 (En.vals e) rfl H2.out.2.2.1 (en1 _) (fun h => by cases h) (by have := HIN.out.2.2.2.1; have := HN9.out.1; unfold maxLen; omega) (by have := HIN.out.2.2.2.1; have := HN9.out.1; omega) HBS.out ?_; intro v' w' ho hg hq; have hblk := (hg.block xb (SwM.lt H2.out.1) (fun he => HIN.out.2.2.2.2.2.2 he.symm)).trans H2.out.1; have c3 : w'.cell? ⟨xb, 4, none⟩ = some (.slice A9 n9 c9) := (by rw [cell_of_row _ _ 4 _ _ _ hblk]; rfl); have f3 := frozen_of hblk 4; obtain ⟨A8, c8, rfl⟩ := own_form ho; have HO8 := Lib.hid (And.intro ho (And.intro hg (And.intro hq hblk))); clear ho hg hq hblk)
      refine NoPanic.normal ?_
      obtain ⟨Wt, hWt⟩ : ∃ Wt, Wt = w'.setCell ⟨xb, 4, none⟩ (.slice A8 (n9 + 1) c8) := ⟨_, rfl⟩
      rw [← hWt]
      obtain ⟨ho, hg, hq, hblk⟩ := HO8.out
      have hw2 := H2.out.2.2.2.1
      have hxl := SwM.lt H2.out.1
      have hqx : ∀ q, (Value.slice A8 (n9 + 1) c8).ownBlock = some q → q ≠ xb := fun q e e2 => by
        rcases hq q e with e3 | e3
        · exact HIN.out.2.2.2.2.2.2 (by rw [e3, e2])
        · omega
      have hpx : p4 ≠ xb := by have := HW.out.2; have := SwM.lt HIN.out.1; omega
      have hp4 : (Value.slice A9 n9 c9).ownBlock ≠ some p4 := fun c => by
        obtain ⟨_, e9⟩ := own_at HN9.out.2 c
        have := (Array.getElem?_eq_some_iff.1 e9).1
        have := HW.out.2
        omega
      have HE : Hid (SwM Wt xb so ct ck nv (.slice A8 (n9 + 1) c8) d ∧ Wt.heap[p4]? = some (.cells #[.int .i64 (e.t : Int), .int .i64 e.x.k, .int .i64 e.x.c.v, .int .i64 e.x.c.s, .bool e.x.c.dead] 112 (0, 0)) ∧ Sno Wt B (.slice A8 (n9 + 1) c8) (T ++ [e]) ∧ Touch w Wt xb (Value.slice A9 n9 c9).ownBlock ∧ (∀ q, (Value.slice A8 (n9 + 1) c8).ownBlock = some q → (Value.slice A9 n9 c9).ownBlock = some q ∨ w.heap.size ≤ q)) := Lib.hid (by
        rw [hWt]
        refine ⟨(heap_set w' xb 4 _ hblk).trans rfl, (heap_ne _ _ _ _ hpx).trans ((hg.block p4 (Array.getElem?_eq_some_iff.1 H2.out.2.2.2.2).1 (fun e => hp4 e.symm)).trans H2.out.2.2.2.2), ?_, ((Touch.of hw2).grown hg).set, fun q e => (hq q e).imp id fun e => Nat.le_trans hw2.size e⟩
        have h9 : w'.ownsRow B 112 5 (.slice A8 (n9 + 1) c8) (T ++ [e]).length (rowV En.vals (T ++ [e])) := by
          rw [List.length_append, rowV_append, ← HN9.out.1]
          simpa [rowV] using ho
        exact own_same h9 fun q hq2 => heap_ne _ _ _ _ (hqx q hq2))
      have HQX := Lib.hid hqx
      clear hWt ho hg hq hblk hw2 hxl hqx hpx hp4 c3 f3
      have c0 : Wt.cell? ⟨p4, 0, none⟩ = some (.int .i64 (e.t : Int)) := by rw [cell_of_row _ _ 0 _ _ _ HE.out.2.1]; rfl
      have c1 : Wt.cell? ⟨p4, 1, none⟩ = some (.int .i64 e.x.k) := by rw [cell_of_row _ _ 1 _ _ _ HE.out.2.1]; rfl
      have HBE := Lib.hid (behind_any Wt (e.t : Int) e.x.k (by have := HIN.out.2.2.2.2.1; omega) HIN.out.2.2.2.2.2.1)
      go_wp2_with fail
      refine Calls.mono HBE.out ?_
      rintro r w3 ⟨rfl, hb3⟩
      have h3 := SwM.below HE.out.1 hb3
      obtain ⟨_, z1, z2, _, _, _⟩ := SwM.at h3
      have zf := frozen_of h3
      have HF : Hid (SwM ((w3.setCell ⟨xb, 1, none⟩ (.int .i64 (bhT (e.t : Int) e.x.k))).setCell ⟨xb, 2, none⟩ (.int .i64 (bhK e.x.k))) xb so (bhT (e.t : Int) e.x.k) (bhK e.x.k) nv (.slice A8 (n9 + 1) c8) d ∧ Sno ((w3.setCell ⟨xb, 1, none⟩ (.int .i64 (bhT (e.t : Int) e.x.k))).setCell ⟨xb, 2, none⟩ (.int .i64 (bhK e.x.k))) B (.slice A8 (n9 + 1) c8) (T ++ [e]) ∧ Touch w ((w3.setCell ⟨xb, 1, none⟩ (.int .i64 (bhT (e.t : Int) e.x.k))).setCell ⟨xb, 2, none⟩ (.int .i64 (bhK e.x.k))) xb (Value.slice A9 n9 c9).ownBlock) := Lib.hid ⟨swm_cur h3 _ _, own_same (HE.out.2.2.1.below hb3) fun q hq => (heap_ne _ _ _ _ (HQX.out q hq)).trans (heap_ne _ _ _ _ (HQX.out q hq)), (HE.out.2.2.2.1.later hb3).set.set⟩
      clear hb3 h3 c0 c1
      go_wp2_with fail
      exact bodyPost_end (v := .tuple #[]) (by simp [results, Try.results84, go_sem]) rfl ⟨rfl, _, HF.out.1, HF.out.2.1, HF.out.2.2, HE.out.2.2.2.2⟩
end Go.Proofs.Ytejpjbmbcdgomaa

/- A sweep's step, pure; rows of entries and of notes, cut from ahead. -/
namespace Go.Proofs.Ytejpjbmbcdgomaa
set_option maxRecDepth 100000
open Go.RowKit

/-- A note: what stood at a key, and whether it lived. -/
structure Nt where
  e : En
  live : Bool
def Nt.vals (x : Nt) : List Value := [.int .i64 (x.e.t : Int), .int .i64 x.e.x.k, .int .i64 x.e.x.c.v, .int .i64 x.e.x.c.s, .bool x.e.x.c.dead, .bool x.live]
theorem Nt.vlen (x : Nt) : x.vals.length = 6 := rfl
def passT (T : List En) (e : En) (lv : Bool) : List En := if lv then T ++ [e] else T
def sameK (a b : En) : Bool := decide ((a.t : Int) = b.t) && decide (a.x.k = b.x.k)
/-- What a step comes to: notes, what was taken, cursor, done. -/
def stepS : Nat → List En → List Nt → List En → Int → Int → List Nt × List En × Int × Int × Bool
  | 0, _, NS, T, ct, ck => (NS, T, ct, ck, false)
  | _ + 1, [], [], T, ct, ck => ([], T, ct, ck, true)
  | n + 1, [], x :: NS, T, _, _ => stepS n [] NS (passT T x.e x.live) (bhT x.e.t x.e.x.k) (bhK x.e.x.k)
  | n + 1, y :: L, [], T, _, _ => stepS n L [] (T ++ [y]) (bhT y.t y.x.k) (bhK y.x.k)
  | n + 1, y :: L, x :: NS, T, _, _ =>
    if lessK y.t y.x.k x.e.t x.e.x.k then stepS n L (x :: NS) (T ++ [y]) (bhT y.t y.x.k) (bhK y.x.k)
    else stepS n (if sameK y x.e then L else y :: L) NS (passT T x.e x.live) (bhT x.e.t x.e.x.k) (bhK x.e.x.k)
abbrev Nts (w : World) (A : Option Addr) (l : List Nt) : Prop := RowAt Nt.vals 6 w A l.length l
/-- A row, cut from ahead. -/
theorem RowAt.tail {α : Type} {f : α → List Value} {k : Nat} {w : World} {b off : Nat} {x : α} {l : List α} (hf : ∀ x, (f x).length = k) (h : RowAt f k w (some ⟨b, off, none⟩) (x :: l).length (x :: l)) : RowAt f k w (some ⟨b, off + k, none⟩) l.length l := by
  have hl : ∀ l : List α, (rowV f l).length = l.length * k := fun l => by
    induction l with
    | nil => simp [rowV]
    | cons a l ih =>
      have e : rowV f (a :: l) = f a ++ rowV f l := by simp [rowV]
      rw [e, List.length_append, ih, hf, List.length_cons, Nat.succ_mul, Nat.add_comm]
  refine ⟨rfl, hl l, fun hn => ⟨b, off + k, rfl, fun j u hj => ?_⟩⟩
  obtain ⟨b', off', e, hc⟩ := h.row.2 (by simp)
  have e1 : b = b' ∧ off = off' := by simpa using e
  obtain ⟨rfl, rfl⟩ := e1
  have e2 : rowV f (x :: l) = f x ++ rowV f l := by simp [rowV]
  have h9 := hc (k + j) u (by rw [e2, List.getElem?_append_right (by rw [hf]; omega), hf, Nat.add_sub_cancel_left]; exact hj)
  rw [Nat.add_assoc]
  exact h9
theorem RowAt.head {α : Type} {f : α → List Value} {k : Nat} {w : World} {A : Option Addr} {x : α} {l : List α} (hf : ∀ x, (f x).length = k) (h : RowAt f k w A (x :: l).length (x :: l)) : ∃ b off, A = some ⟨b, off, none⟩ ∧ ∀ r u, r < k → (f x)[r]? = some u → w.cell? ⟨b, off + r, none⟩ = some u := by
  obtain ⟨b, off, e, hc⟩ := h.row.2 (by simp)
  refine ⟨b, off, e, fun r u hr hu => hc r u ?_⟩
  have e2 : rowV f (x :: l) = f x ++ rowV f l := by simp [rowV]
  rw [e2, List.getElem?_append_left (by rw [hf]; exact hr)]
  exact hu
end Go.Proofs.Ytejpjbmbcdgomaa

/- How keys are ordered: cmp.Compare, cmp.Or, compare, Less. -/
namespace Go.Proofs.Ytejpjbmbcdgomaa
set_option maxRecDepth 100000
open Go.RowKit

theorem or_any (g : Nat) (a b : Int) (w : World) (h0 : w.cell? ⟨g, 0, none⟩ = some (.int .i64 a)) (h1 : w.cell? ⟨g, 1, none⟩ = some (.int .i64 b)) : Calls Try.prog 114 #[.slice (some ⟨g, 0, none⟩) 2 2] w fun e w' => e = .returned (.int .i64 (if a ≠ 0 then a else b)) ∧ w = w' := by
  by_cases ha : a = 0
  · have d1 : (a != 0) = false := by rw [ha]; rfl
    rw [if_neg (fun q => q ha)]
    by_cases hb : b = 0
    · have d2 : (b != 0) = false := by rw [hb]; rfl
      go_enter Try.func114, Try.ntmps114
      go_wp2_with fail
      refine wp_loop_rounds 3 ?_
      rw [rounds_succ]
      go_wp2_with fail
      rw [rounds_succ]
      go_wp2_with fail
      rw [rounds_succ]
      go_wp2_with fail
      go_ret
      exact ⟨by rw [hb]; exact rfl, rfl⟩
    · have d2 : (b != 0) = true := by rw [bne_iff_ne]; exact hb
      go_enter Try.func114, Try.ntmps114
      go_wp2_with fail
      refine wp_loop_rounds 3 ?_
      rw [rounds_succ]
      go_wp2_with fail
      rw [rounds_succ]
      go_wp2_with fail
      go_ret
      exact ⟨rfl, rfl⟩
  · have d1 : (a != 0) = true := by rw [bne_iff_ne]; exact ha
    rw [if_pos ha]
    go_enter Try.func114, Try.ntmps114
    go_wp2_with fail
    refine wp_loop_rounds 3 ?_
    rw [rounds_succ]
    go_wp2_with fail
    go_ret
    exact ⟨rfl, rfl⟩
def compK (t k t2 k2 : Int) : Int := if cmpM t t2 ≠ 0 then cmpM t t2 else cmpM k k2
set_option maxHeartbeats 2000000 in
theorem compare_any (t k t2 k2 : Int) (w : World) : Calls Try.prog 102 #[.agg #[.int .i64 t, .int .i64 k], .agg #[.int .i64 t2, .int .i64 k2]] w fun e w' => e = .returned (.int .i64 (compK t k t2 k2)) ∧ Below w.heap.size w w' ∧ w.drawn ≤ w'.drawn := by
  have hb1 := ((Below.refl w.heap.size w).alloc (Nat.le_refl _) (.cells #[.int .i64 t, .int .i64 k] 42))
  have hb2 := hb1.alloc (by rw [World.size_alloc]; omega) (.cells #[.int .i64 t2, .int .i64 k2] 42)
  have hx1 := (heap_alloc_old (w.alloc (.cells #[.int .i64 t, .int .i64 k] 42)) (.cells #[.int .i64 t2, .int .i64 k2] 42) (by simp)).trans (heap_alloc_new w (.cells #[.int .i64 t, .int .i64 k] 42))
  have hy1 := heap_alloc_new (w.alloc (.cells #[.int .i64 t, .int .i64 k] 42)) (.cells #[.int .i64 t2, .int .i64 k2] 42)
  rw [World.size_alloc] at hy1
  have HC1 := Lib.hid (cmp_any t t2)
  have HC2 := Lib.hid (cmp_any k k2)
  have HOR := Lib.hid (fun (g : Nat) => or_any g (cmpM t t2) (cmpM k k2))
  unfold compK
  obtain ⟨c1, hc1⟩ : ∃ c, c = cmpM t t2 := ⟨_, rfl⟩
  obtain ⟨c2, hc2⟩ : ∃ c, c = cmpM k k2 := ⟨_, rfl⟩
  rw [← hc1] at HC1 HOR ⊢
  rw [← hc2] at HC2 HOR ⊢
  obtain ⟨R, hR⟩ : ∃ R, R = (if c1 ≠ 0 then c1 else c2) := ⟨_, rfl⟩
  rw [← hR] at HOR ⊢
  clear hc1 hc2 hb1 hR
  go_enter Try.func102, Try.ntmps102
  go_wp2_with fail
  obtain ⟨W, hW⟩ : ∃ W, W = (w.alloc (.cells #[.int .i64 t, .int .i64 k] 42)).alloc (.cells #[.int .i64 t2, .int .i64 k2] 42) := ⟨_, rfl⟩
  have HD := Lib.hid (show w.drawn ≤ W.drawn by rw [hW]; exact Nat.le_refl _)
  rw [← hW] at hb2 hx1 hy1 ⊢
  clear hW
  have HB2 := Lib.hid hb2.drew
  have x0 : W.drew.cell? ⟨w.heap.size, 0, none⟩ = some (.int .i64 t) := cell_of_row W _ 0 _ 42 (0, 0) hx1
  have x1 : W.drew.cell? ⟨w.heap.size, 1, none⟩ = some (.int .i64 k) := cell_of_row W _ 1 _ 42 (0, 0) hx1
  have y0 : W.drew.cell? ⟨w.heap.size + 1, 0, none⟩ = some (.int .i64 t2) := cell_of_row W _ 0 _ 42 (0, 0) hy1
  have y1 : W.drew.cell? ⟨w.heap.size + 1, 1, none⟩ = some (.int .i64 k2) := cell_of_row W _ 1 _ 42 (0, 0) hy1
  clear hb2 hx1 hy1
  go_region_law (first | (go_simp; go_at_call 115; (first | (with_reducible refine Calls.mono (HC1.out _) ?_) | (with_reducible refine Calls.mono (HC2.out _) ?_)); rintro e w5 ⟨rfl, rfl⟩) | (go_simp; go_at_call 114; refine Calls.mono (HOR.out W.drew.heap.size _ (cell_of_row _ _ 0 _ 3 (0, 0) (heap_alloc_new _ _)) (cell_of_row _ _ 1 _ 3 (0, 0) (heap_alloc_new _ _))) ?_; rintro e w6 ⟨rfl, rfl⟩))
  all_goals
    go_wp2_with fail
    go_ret
    exact ⟨rfl, HB2.out.alloc HB2.out.size _, Nat.le_succ_of_le HD.out⟩
theorem compK_neg (t k t2 k2 : Int) : decide (compK t k t2 k2 < 0) = lessK t k t2 k2 := by
  unfold compK cmpM lessK
  by_cases h1 : t < t2
  · simp [h1]
  · by_cases h2 : t2 < t
    · have h3 : t ≠ t2 := by omega
      simp [h1, h2, h3]
    · obtain rfl : t = t2 := by omega
      by_cases h4 : k < k2
      · simp [h4]
      · by_cases h5 : k2 < k <;> simp [h4, h5]
theorem flass_any (w : World) (t k t2 k2 : Int) : Calls Try.prog 81 #[.agg #[.int .i64 t, .int .i64 k], .agg #[.int .i64 t2, .int .i64 k2]] w fun e w' => e = .returned (.bool (lessK t k t2 k2)) ∧ Below w.heap.size w w' := by
  have HB : Hid (∀ o o', Below w.heap.size w ((w.alloc o).alloc o')) := Lib.hid fun o o' => ((Below.refl _ w).alloc (Nat.le_refl _) o).alloc (by simp) o'
  have HC := Lib.hid (compare_any t k t2 k2)
  rw [← compK_neg]
  obtain ⟨z, hz⟩ : ∃ z, z = compK t k t2 k2 := ⟨_, rfl⟩
  rw [← hz] at HC ⊢
  clear hz
  go_enter Try.func81, Try.ntmps81
  go_wp2_with fail
  refine Calls.mono (HC.out _) ?_
  rintro e w' ⟨rfl, hb, _⟩
  have HB2 := Lib.hid ((HB.out _ _).trans (hb.mono (HB.out _ _).size))
  clear hb
  go_wp2_with fail
  go_ret
  exact ⟨rfl, HB2.out⟩
end Go.Proofs.Ytejpjbmbcdgomaa
