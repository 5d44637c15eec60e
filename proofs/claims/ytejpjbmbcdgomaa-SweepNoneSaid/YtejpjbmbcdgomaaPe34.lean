/- VCmp, VStep, WChunk: put together. -/
import Derived.Test.YtejpjbmbcdgomaaPe31
import Derived.Test.YtejpjbmbcdgomaaPe24
import Derived.LoopN
import Derived.Deep.RegionLaw
import Derived.Test.YtejpjbmbcdgomaaPe33
import Derived.Test.YtejpjbmbcdgomaaPe26
/- How keys are ordered: cmp.Compare, cmp.Or, compare, Less. -/
namespace Go.Proofs.Ytejpjbmbcdgomaa
set_option maxRecDepth 100000
open Go.RowKit

theorem or_any (g : Nat) (a b : Int) (w : World) (h0 : w.cell? ⟨g, 0, none⟩ = some (.int .i64 a)) (h1 : w.cell? ⟨g, 1, none⟩ = some (.int .i64 b)) : Calls Try.prog 114 #[.slice (some ⟨g, 0, none⟩) 2 2] w fun e w' => e = .returned (.int .i64 (if a ≠ 0 then a else b)) ∧ w = w' := by
  by_cases ha : a = 0
  · have d1 : (a != 0) = false := by rw [ha]; rfl
    rw [if_neg (fun q => q ha)]
    by_cases hb : b = 0
    · have d2 : (b != 0) = false := by rw [hb]; rfl
      go_enter Try.func114, Try.ntmps114
      go_wp2_with fail
      refine wp_loop_rounds 3 ?_
      rw [rounds_succ]
      go_wp2_with fail
      rw [rounds_succ]
      go_wp2_with fail
      rw [rounds_succ]
      go_wp2_with fail
      go_ret
      exact ⟨by rw [hb]; exact rfl, rfl⟩
    · have d2 : (b != 0) = true := by rw [bne_iff_ne]; exact hb
      go_enter Try.func114, Try.ntmps114
      go_wp2_with fail
      refine wp_loop_rounds 3 ?_
      rw [rounds_succ]
      go_wp2_with fail
      rw [rounds_succ]
      go_wp2_with fail
      go_ret
      exact ⟨rfl, rfl⟩
  · have d1 : (a != 0) = true := by rw [bne_iff_ne]; exact ha
    rw [if_pos ha]
    go_enter Try.func114, Try.ntmps114
    go_wp2_with fail
    refine wp_loop_rounds 3 ?_
    rw [rounds_succ]
    go_wp2_with fail
    go_ret
    exact ⟨rfl, rfl⟩
def compK (t k t2 k2 : Int) : Int := if cmpM t t2 ≠ 0 then cmpM t t2 else cmpM k k2
set_option maxHeartbeats 2000000 in
theorem compare_any (t k t2 k2 : Int) (w : World) : Calls Try.prog 102 #[.agg #[.int .i64 t, .int .i64 k], .agg #[.int .i64 t2, .int .i64 k2]] w fun e w' => e = .returned (.int .i64 (compK t k t2 k2)) ∧ Below w.heap.size w w' ∧ w.drawn ≤ w'.drawn := by
  have hb1 := ((Below.refl w.heap.size w).alloc (Nat.le_refl _) (.cells #[.int .i64 t, .int .i64 k] 42))
  have hb2 := hb1.alloc (by rw [World.size_alloc]; omega) (.cells #[.int .i64 t2, .int .i64 k2] 42)
  have hx1 := (heap_alloc_old (w.alloc (.cells #[.int .i64 t, .int .i64 k] 42)) (.cells #[.int .i64 t2, .int .i64 k2] 42) (by simp)).trans (heap_alloc_new w (.cells #[.int .i64 t, .int .i64 k] 42))
  have hy1 := heap_alloc_new (w.alloc (.cells #[.int .i64 t, .int .i64 k] 42)) (.cells #[.int .i64 t2, .int .i64 k2] 42)
  rw [World.size_alloc] at hy1
  have HC1 := Lib.hid (cmp_any t t2)
  have HC2 := Lib.hid (cmp_any k k2)
  have HOR := Lib.hid (fun (g : Nat) => or_any g (cmpM t t2) (cmpM k k2))
  unfold compK
  obtain ⟨c1, hc1⟩ : ∃ c, c = cmpM t t2 := ⟨_, rfl⟩
  obtain ⟨c2, hc2⟩ : ∃ c, c = cmpM k k2 := ⟨_, rfl⟩
  rw [← hc1] at HC1 HOR ⊢
  rw [← hc2] at HC2 HOR ⊢
  obtain ⟨R, hR⟩ : ∃ R, R = (if c1 ≠ 0 then c1 else c2) := ⟨_, rfl⟩
  rw [← hR] at HOR ⊢
  clear hc1 hc2 hb1 hR
  go_enter Try.func102, Try.ntmps102
  go_wp2_with fail
  obtain ⟨W, hW⟩ : ∃ W, W = (w.alloc (.cells #[.int .i64 t, .int .i64 k] 42)).alloc (.cells #[.int .i64 t2, .int .i64 k2] 42) := ⟨_, rfl⟩
  have HD := Lib.hid (show w.drawn ≤ W.drawn by rw [hW]; exact Nat.le_refl _)
  rw [← hW] at hb2 hx1 hy1 ⊢
  clear hW
  have HB2 := Lib.hid hb2.drew
  have x0 : W.drew.cell? ⟨w.heap.size, 0, none⟩ = some (.int .i64 t) := cell_of_row W _ 0 _ 42 (0, 0) hx1
  have x1 : W.drew.cell? ⟨w.heap.size, 1, none⟩ = some (.int .i64 k) := cell_of_row W _ 1 _ 42 (0, 0) hx1
  have y0 : W.drew.cell? ⟨w.heap.size + 1, 0, none⟩ = some (.int .i64 t2) := cell_of_row W _ 0 _ 42 (0, 0) hy1
  have y1 : W.drew.cell? ⟨w.heap.size + 1, 1, none⟩ = some (.int .i64 k2) := cell_of_row W _ 1 _ 42 (0, 0) hy1
  clear hb2 hx1 hy1
  go_region_law (first | (go_simp; go_at_call 115; (first | (with_reducible refine Calls.mono (HC1.out _) ?_) | (with_reducible refine Calls.mono (HC2.out _) ?_)); rintro e w5 ⟨rfl, rfl⟩) | (go_simp; go_at_call 114; refine Calls.mono (HOR.out W.drew.heap.size _ (cell_of_row _ _ 0 _ 3 (0, 0) (heap_alloc_new _ _)) (cell_of_row _ _ 1 _ 3 (0, 0) (heap_alloc_new _ _))) ?_; rintro e w6 ⟨rfl, rfl⟩))
  all_goals
    go_wp2_with fail
    go_ret
    exact ⟨rfl, HB2.out.alloc HB2.out.size _, Nat.le_succ_of_le HD.out⟩
theorem compK_neg (t k t2 k2 : Int) : decide (compK t k t2 k2 < 0) = lessK t k t2 k2 := by
  unfold compK cmpM lessK
  by_cases h1 : t < t2
  · simp [h1]
  · by_cases h2 : t2 < t
    · have h3 : t ≠ t2 := by omega
      simp [h1, h2, h3]
    · obtain rfl : t = t2 := by omega
      by_cases h4 : k < k2
      · simp [h4]
      · by_cases h5 : k2 < k <;> simp [h4, h5]
theorem flass_any (w : World) (t k t2 k2 : Int) : Calls Try.prog 81 #[.agg #[.int .i64 t, .int .i64 k], .agg #[.int .i64 t2, .int .i64 k2]] w fun e w' => e = .returned (.bool (lessK t k t2 k2)) ∧ Below w.heap.size w w' := by
  have HB : Hid (∀ o o', Below w.heap.size w ((w.alloc o).alloc o')) := Lib.hid fun o o' => ((Below.refl _ w).alloc (Nat.le_refl _) o).alloc (by simp) o'
  have HC := Lib.hid (compare_any t k t2 k2)
  rw [← compK_neg]
  obtain ⟨z, hz⟩ : ∃ z, z = compK t k t2 k2 := ⟨_, rfl⟩
  rw [← hz] at HC ⊢
  clear hz
  go_enter Try.func81, Try.ntmps81
  go_wp2_with fail
  refine Calls.mono (HC.out _) ?_
  rintro e w' ⟨rfl, hb, _⟩
  have HB2 := Lib.hid ((HB.out _ _).trans (hb.mono (HB.out _ _).size))
  clear hb
  go_wp2_with fail
  go_ret
  exact ⟨rfl, HB2.out⟩
end Go.Proofs.Ytejpjbmbcdgomaa

/- A sweep's step. Written by gen_vstep.py. -/
namespace Go.Proofs.Ytejpjbmbcdgomaa
set_option maxRecDepth 100000
open Go.RowKit

/-- A sweep's parts between two keys: its block, what it took, its notes, the live entries that are left. -/
structure StI (w wr : World) (B xb sb : Nat) (tv0 : Value) (ct ck : Int) (nA : Option Addr) (nc : Nat) (NS : List Nt) (A9 : Option Addr) (c9 : Nat) (T : List En) (lA : Option Addr) (L : List En) : Prop where
  sw : SwM wr xb (some ⟨sb, 0, none⟩) ct ck (.slice nA NS.length nc) (.slice A9 T.length c9) false
  own : Sno wr B (.slice A9 T.length c9) T
  lo : B ≤ xb
  notes : Nts wr nA NS
  live : Ens wr lA L
  na : 0 < NS.length → ∀ b o, nA = some ⟨b, o, none⟩ → b ≠ xb ∧ (Value.slice A9 T.length c9).ownBlock ≠ some b
  la : 0 < L.length → ∀ b o, lA = some ⟨b, o, none⟩ → b ≠ xb ∧ (Value.slice A9 T.length c9).ownBlock ≠ some b
  ch : Touch w wr xb tv0.ownBlock
  new : ∀ q, (Value.slice A9 T.length c9).ownBlock = some q → tv0.ownBlock = some q ∨ w.heap.size ≤ q
theorem RowAt.same0 {α : Type} {f : α → List Value} {k : Nat} {w w1 : World} {A : Option Addr} {l : List α} (h : RowAt f k w A l.length l) (hk : 0 < l.length → ∀ b o, A = some ⟨b, o, none⟩ → w1.heap[b]? = w.heap[b]?) : RowAt f k w1 A l.length l := by
  rcases Nat.eq_zero_or_pos l.length with h0 | h0
  · exact ⟨rfl, h.2.1, fun hn => absurd hn (by omega)⟩
  · exact ⟨rfl, Rdv.same h.2 (hk h0)⟩
section
variable {w W2 w' : World} {B xb sb : Nat} {tv0 : Value} {ct ck ct' ck' : Int} {nA : Option Addr} {nc : Nat} {NS : List Nt} {A8 : Option Addr} {c8 : Nat} {T8 T' : List En} {lA : Option Addr} {L : List En} {tv' : Value}
theorem StI.below (h : StI w W2 B xb sb tv0 ct ck nA nc NS A8 c8 T8 lA L) (hb : Below W2.heap.size W2 w') : StI w w' B xb sb tv0 ct ck nA nc NS A8 c8 T8 lA L :=
  ⟨SwM.below h.sw hb, own_same h.own fun q hq => by
    obtain ⟨_, e9⟩ := own_at h.own hq
    exact hb.block q (Array.getElem?_eq_some_iff.1 e9).1, h.lo, RowAt.below h.notes hb, RowAt.below h.live hb, h.na, h.la, h.ch.later hb, h.new⟩
/-- A key is gone past. -/
theorem StI.pass (h : StI w W2 B xb sb tv0 ct ck nA nc NS A8 c8 T8 lA L) (hs : SwM w' xb (some ⟨sb, 0, none⟩) ct' ck' (.slice nA NS.length nc) tv' false) (ho : Sno w' B tv' T') (ht : Touch W2 w' xb (Value.slice A8 T8.length c8).ownBlock)
    (hq : ∀ q, tv'.ownBlock = some q → (Value.slice A8 T8.length c8).ownBlock = some q ∨ W2.heap.size ≤ q) : ∃ A9 c9, tv' = .slice A9 T'.length c9 ∧ StI w w' B xb sb tv0 ct' ck' nA nc NS A9 c9 T' lA L := by
  obtain ⟨A9, c9, rfl⟩ := own_form ho
  have key : ∀ b, b < W2.heap.size → b ≠ xb → (Value.slice A8 T8.length c8).ownBlock ≠ some b → (Value.slice A9 T'.length c9).ownBlock ≠ some b := fun b hb _ h2 e => by
    rcases hq b e with e | e
    · exact h2 e
    · omega
  refine ⟨A9, c9, rfl, hs, ho, h.lo, RowAt.same0 h.notes fun hl b o e => ?_, RowAt.same0 h.live fun hl b o e => ?_, fun hl b o e => ?_, fun hl b o e => ?_, ⟨ht.os.trans h.ch.os, ht.tape.trans h.ch.tape, ht.output.trans h.ch.output, Nat.le_trans h.ch.size ht.size, fun k hk h1 h2 => (ht.block k (Nat.lt_of_lt_of_le hk h.ch.size) h1 fun e => ?_).trans (h.ch.block k hk h1 h2)⟩, fun q e => ?_⟩
  · subst e
    exact ht.block b (Rdv.blockLt h.notes.2 hl (by decide)) (h.na hl b o rfl).1 (h.na hl b o rfl).2
  · subst e
    exact ht.block b (Rdv.blockLt h.live.2 hl (by decide)) (h.la hl b o rfl).1 (h.la hl b o rfl).2
  · subst e
    exact ⟨(h.na hl b o rfl).1, key b (Rdv.blockLt h.notes.2 hl (by decide)) (h.na hl b o rfl).1 (h.na hl b o rfl).2⟩
  · subst e
    exact ⟨(h.la hl b o rfl).1, key b (Rdv.blockLt h.live.2 hl (by decide)) (h.la hl b o rfl).1 (h.la hl b o rfl).2⟩
  · rcases h.new k e with e | e
    · exact h2 e
    · omega
  · rcases hq q e with e | e
    · exact h.new q e
    · exact .inr (Nat.le_trans h.ch.size e)
/-- The first live entry is gone. -/
theorem StI.cutL {b off lc : Nat} {y : En} (h : StI w W2 B xb sb tv0 ct ck nA nc NS A8 c8 T8 (some ⟨b, off, none⟩) (y :: L)) (hl : L.length + 1 ≤ lc) : StI w W2 B xb sb tv0 ct ck nA nc NS A8 c8 T8 (if lc = 1 then some ⟨b, off, none⟩ else some ⟨b, off + 5, none⟩) L := by
  by_cases h1 : lc = 1
  · have hL : L = [] := List.eq_nil_of_length_eq_zero (by omega)
    subst hL
    rw [if_pos h1]
    exact ⟨h.sw, h.own, h.lo, h.notes, ⟨rfl, rfl, fun h => absurd h (by decide)⟩, h.na, fun h => absurd h (by decide), h.ch, h.new⟩
  · rw [if_neg h1]
    exact ⟨h.sw, h.own, h.lo, h.notes, RowAt.tail En.vlen h.live, h.na, fun _ b2 o e => by
      have e2 : b = b2 := by
        have e3 := congrArg (fun x : Option Addr => x.map (·.block)) e
        simpa using e3
      exact h.la (by simp) b2 off (by rw [e2]), h.ch, h.new⟩
end
/-- What a step answers. -/
def StepE (w : World) (B xb sb : Nat) (tv0 : Value) (R : List Nt × List En × Int × Int × Bool) (e : Ending) (w' : World) : Prop :=
  e = .returned (.bool R.2.2.2.2) ∧ ∃ (so nA : Option Addr) (nc : Nat) (A9 : Option Addr) (c9 : Nat), SwM w' xb so R.2.2.1 R.2.2.2.1 (.slice nA R.1.length nc) (.slice A9 R.2.1.length c9) R.2.2.2.2 ∧ (R.2.2.2.2 = false → so = some ⟨sb, 0, none⟩) ∧ Sno w' B (.slice A9 R.2.1.length c9) R.2.1 ∧ Nts w' nA R.1 ∧
    (0 < R.1.length → ∀ b o, nA = some ⟨b, o, none⟩ → b ≠ xb ∧ (Value.slice A9 R.2.1.length c9).ownBlock ≠ some b) ∧ Touch w w' xb tv0.ownBlock ∧ (∀ q, (Value.slice A9 R.2.1.length c9).ownBlock = some q → tv0.ownBlock = some q ∨ w.heap.size ≤ q)
set_option maxHeartbeats 16000000 in
theorem swstep_none {w : World} {G : Nat → Prop} {B xb sb : Nat} {ts : Tb} {live last ct ck : Int} {nA : Option Addr} {nc : Nat} {NS : List Nt} {A9 : Option Addr} {c9 : Nat} {T : List En} (n : Int) (hM : SM w G sb ts live last) (hNT : NumT ts) (hN : ∀ i, i < 4 → (ts i).length ≤ 10000)
    (h : StI w w B xb sb (.slice A9 T.length c9) ct ck nA nc NS A9 c9 T none []) (hT : T.length + NS.length ≤ 10000) (hcl : 0 ≤ ct ∧ ct ≤ 4 ∧ Fits ck) (hns : ∀ x ∈ NS, x.e.t < 4 ∧ Fits x.e.x.k) (hn : n ≤ 100000) (hNS : NS = []) :
    Calls Try.prog 42 #[.pointer (some ⟨xb, 0, none⟩), .int .i64 n] w fun e w' => StepE w B xb sb (.slice A9 T.length c9) (stepS n.toNat ((liveE (fromE ct ck ts)).take n.toNat) NS T ct ck) e w' := by
  have HD := Lib.hid (swdone_any h.sw)
  have HIN := Lib.hid (And.intro h (And.intro hM (And.intro hNT (And.intro hN (And.intro hT (And.intro hcl (And.intro hns hn)))))))
  obtain ⟨LV, hLV⟩ : ∃ LV, LV = (liveE (fromE ct ck ts)).take n.toNat := ⟨_, rfl⟩
  have HLV := Lib.hid hLV
  have HNS := Lib.hid hNS
  have HSF : Hid (∀ W2, Below w.drew.heap.size w.drew W2 → Calls Try.prog 18 #[.pointer (some ⟨sb, 0, none⟩), .agg #[.int .i64 ct, .int .i64 ck], .int .i64 n] W2 fun e w' => ∃ v, e = .returned v ∧ (∃ A c, v = .slice A LV.length c ∧ (Ens w' A LV ∧ LV.length ≤ c) ∧ ∀ b o, A = some ⟨b, o, none⟩ → W2.heap.size ≤ b) ∧ Below W2.heap.size W2 w') := Lib.hid fun W2 hw => by
    refine Calls.mono (sfrom_any (hM.below ((Below.refl _ _).drew.trans hw)) (fun i hi => Nat.le_trans (hN i hi) (by decide)) ct ck n) ?_
    rintro e w' ⟨v, rfl, ho, hb⟩
    rw [← hLV] at ho
    obtain ⟨A, c, e9, hr, _, hc⟩ := rdv_own ho
    exact ⟨v, rfl, ⟨A, c, e9, ⟨⟨rfl, hr⟩, hc⟩, fun b o e => own_ge ho (by rw [e9, e]; rfl)⟩, hb⟩
  have HCE : Hid (∀ W2, Below w.drew.heap.size w.drew W2 → W2.cell? ⟨xb, 0, none⟩ = some (.pointer (some ⟨sb, 0, none⟩)) ∧ W2.cell? ⟨xb, 1, none⟩ = some (.int .i64 ct) ∧ W2.cell? ⟨xb, 2, none⟩ = some (.int .i64 ck)) := Lib.hid fun W2 hw => by
    have h9 := SwM.at (SwM.below h.sw ((Below.refl _ _).drew.trans hw))
    exact ⟨h9.1, h9.2.1, h9.2.2.1⟩
  rw [← hLV]
  obtain ⟨R, hR⟩ : ∃ R, R = stepS n.toNat LV NS T ct ck := ⟨_, rfl⟩
  rw [← hR]
  have HR := Lib.hid hR
  clear hNS hR hLV h hM hNT hN hT hcl hns hn
  go_enter Try.func42, Try.ntmps42
  go_wp2_with fail
  refine Calls.mono HD.out ?_
  rintro e w1 ⟨rfl, rfl⟩
  go_upto_region 3 with fail
  refine wp_region_noPanic ?_
  refine wp_region_abs 10 103 [
    .is (.pointer (some ⟨xb, 0, none⟩)),
    .is (.pointer (some ⟨xb, 0, none⟩)),
    .is (.pointer (some ⟨xb, 0, none⟩)),
    .is (.pointer (some ⟨sb, 0, none⟩)),
    .is (.pointer (some ⟨xb, 0, none⟩)),
    .is (.pointer (some ⟨xb, 0, none⟩)),
    .is (.pointer (some ⟨xb, 1, none⟩)),
    .is (.agg #[.int .i64 ct, .int .i64 ck]),
    .is (.int .i64 n),
    .tells (fun _ v wb wa => ∃ A c, v = .slice A LV.length c ∧ (Ens wa A LV ∧ LV.length ≤ c) ∧ ∀ b o, A = some ⟨b, o, none⟩ → wb.heap.size ≤ b)]
    [9, 10, 11, 12, 13, 14, 15, 16, 17, 18]
    [[], [0], [1], [2], [], [4], [5], [6], [], [3, 7, 8]] (by kernel_rfl) (by rfl) rfl rfl (by kernel_rfl) (fun _ _ _ _ h => h.elim) ?_ ?_
  · refine ⟨?_, ?_, ?_, ?_, ?_, ?_, ?_, ?_, ?_, ?_, trivial⟩
    · intro W2 hw K hK
      go_simp
      exact hK _ _ rfl (Below.refl _ _)
    · intro W2 hw K hK
      go_simp
      exact hK _ _ rfl (Below.refl _ _)
    · intro W2 hw K hK
      go_simp
      exact hK _ _ rfl (Below.refl _ _)
    · intro W2 hw K hK
      obtain ⟨s0, s1, s2⟩ := HCE.out W2 hw
      go_simp
      exact hK _ _ rfl (Below.refl _ _)
    · intro W2 hw K hK
      go_simp
      exact hK _ _ rfl (Below.refl _ _)
    · intro W2 hw K hK
      go_simp
      exact hK _ _ rfl (Below.refl _ _)
    · intro W2 hw K hK
      go_simp
      exact hK _ _ rfl (Below.refl _ _)
    · intro W2 hw K hK
      obtain ⟨s0, s1, s2⟩ := HCE.out W2 hw
      go_simp
      exact hK _ _ rfl (Below.refl _ _)
    · intro W2 hw K hK
      go_simp
      exact hK _ _ rfl (Below.refl _ _)
    · intro W2 hw K hK
      go_simp
      refine Calls.mono (HSF.out W2 hw) ?_
      rintro e9 w9 ⟨v9, rfl, h9, hb9⟩
      exact hK _ _ h9 hb9
  · intro W2 hw2
    simp only [Behind]
    rintro v9 wb9 wa9 ⟨A, c, rfl, ⟨hE, hcc⟩, hge⟩ hx9 hy9 _
    simp only [List.drop, Act.put, List.setIfInBounds_toArray, List.set_cons_zero, List.set_cons_succ]
    go_wp2_with fail
    refine NoPanic.normal ?_
    go_wp2_with fail
    have hb2 : Below w.heap.size w W2 := (Below.refl _ w).drew.trans hw2
    have hlA : ∀ b o, A = some ⟨b, o, none⟩ → w.heap.size ≤ b := fun b o e => Nat.le_trans ((Below.refl _ w).drew.trans hy9).size (hge b o e)
    have HS0 : Hid (StI w W2 B xb sb (.slice A9 T.length c9) ct ck nA nc NS A9 c9 T A LV) := Lib.hid (by
      have h := HIN.out.1
      refine ⟨SwM.below h.sw hb2, own_same h.own fun q hq => ?_, h.lo, RowAt.below h.notes hb2, RowAt.below hE hx9, h.na, fun _ b o e => ?_, Touch.of hb2, fun q e => .inl e⟩
      · obtain ⟨_, e9⟩ := own_at h.own hq
        exact hb2.block q (Array.getElem?_eq_some_iff.1 e9).1
      · have h1 := hlA b o e
        have h2 := SwM.lt h.sw
        refine ⟨by omega, fun e2 => ?_⟩
        obtain ⟨_, e9⟩ := own_at h.own e2
        have := (Array.getElem?_eq_some_iff.1 e9).1
        omega)
    have HCC := Lib.hid hcc
    have HLB : Hid (LV.length ≤ 40000 ∧ ∀ y ∈ LV, y.t < 4 ∧ Fits y.x.k) := Lib.hid (by
      have hnum := HIN.out.2.2.1
      refine ⟨?_, fun y hy => ?_⟩
      · rw [HLV.out, List.length_take]
        refine Nat.le_trans (Nat.min_le_right _ _) ?_
        unfold liveE
        refine Nat.le_trans (List.length_filter_le _ _) ?_
        rw [← from_ents hnum.numL ct ck]
        refine Nat.le_trans (List.length_filter_le _ _) ?_
        have := ents_len (n := 10000) HIN.out.2.2.2.1
        omega
      · rw [HLV.out] at hy
        have h1 := List.mem_of_mem_take hy
        unfold liveE at h1
        have h2 := (List.mem_filter.1 h1).1
        rw [← from_ents hnum.numL ct ck] at h2
        have h3 := NumT.ents hnum y (List.mem_filter.1 h2).1
        exact ⟨h3.1, h3.2.1⟩)
    clear hw2 hE hcc hge hx9 hy9 hb2 hlA
    go_loopw [1, 4, 5, 6, 19, 20, 21, 22, 23, 24, 25, 26, 27, 28, 29, 30, 31, 32, 33, 34, 35, 36, 37, 38, 39, 40, 41, 42, 43, 44, 45, 46, 47, 48, 49, 50, 51, 52, 53, 54, 55, 56, 57, 58, 59, 60, 61, 62, 63, 64, 65, 66, 67, 68, 69, 70, 71, 72, 73, 74, 75, 76, 77, 78, 79, 80, 81, 82, 83, 84, 85, 86, 87, 88, 89, 90, 91, 92, 93, 94, 95, 96, 97, 98, 99, 100, 101, 102] (fun nx _ lx _ _ _ _ _ _ _ _ _ _ _ _ _ _ _ _ _ _ _ _ _ _ _ _ _ _ _ _ _ _ _ _ _ _ _ _ _ _ _ _ _ _ _ _ _ _ _ _ _ _ _ _ _ _ _ _ _ _ _ _ _ _ _ _ _ _ _ _ _ _ _ _ _ _ _ _ _ _ _ _ _ _ _ _ _ wr => ∃ (k ct ck : Int) (nA : Option Addr) (nc : Nat) (NS : List Nt) (A8 : Option Addr) (c8 : Nat) (T8 : List En) (lA : Option Addr) (lc : Nat) (L : List En), nx = .int .i64 k ∧ lx = .slice lA L.length lc ∧ StI w wr B xb sb (.slice A9 T.length c9) ct ck nA nc NS A8 c8 T8 lA L ∧ R = stepS k.toNat L NS T8 ct ck ∧ k ≤ n ∧ (T8.length + NS.length + L.length ≤ 60000 ∧ L.length ≤ lc) ∧ (∀ y ∈ L, y.t < 4 ∧ Fits y.x.k) ∧ (∀ x ∈ NS, x.e.t < 4 ∧ Fits x.e.x.k) ∧ NS = []) (fun nx _ lx _ _ _ _ _ _ _ _ _ _ _ _ _ _ _ _ _ _ _ _ _ _ _ _ _ _ _ _ _ _ _ _ _ _ _ _ _ _ _ _ _ _ _ _ _ _ _ _ _ _ _ _ _ _ _ _ _ _ _ _ _ _ _ _ _ _ _ _ _ _ _ _ _ _ _ _ _ _ _ _ _ _ _ _ _ wr => (intOf nx).toNat)
    case atStart => exact ⟨n, ct, ck, nA, nc, NS, A9, c9, T, A, c, LV, rfl, rfl, HS0.out, HR.out, Int.le_refl _, ⟨by have := HIN.out.2.2.2.2.1; have := HLB.out.1; omega, HCC.out⟩, HLB.out.2, HIN.out.2.2.2.2.2.2.1, HNS.out⟩
    case round =>
      obtain ⟨k, ct, ck, nA, nc, NS, A8, c8, T8, lA, lc, L, rfl, rfl, hS, hRk, hkn, hsz, hyb, hxb, hnil⟩ := hrel
      have HNIL := Lib.hid hnil
      have HSI := Lib.hid (And.intro hS (And.intro hRk (And.intro hkn (And.intro hsz (And.intro hyb hxb)))))
      clear hS hRk hkn hsz hyb hxb hnil
      by_cases hk0 : k ≤ 0
      · have d0 : ¬ (0 : Int) < k := by omega
        have HF : Hid (R = (NS, T8, ct, ck, false)) := Lib.hid (by rw [HSI.out.2.1, Int.toNat_of_nonpos hk0]; rfl)
        clear hk0
        go_wp2_with fail
        go_ret
        unfold StepE
        rw [HF.out]
        have h := HSI.out.1
        exact ⟨rfl, _, nA, nc, A8, c8, h.sw, fun _ => rfl, h.own, h.notes, h.na, h.ch, h.new⟩
      · have d0 : (0 : Int) < k := by omega
        obtain ⟨kk, hkk⟩ : ∃ kk, k.toNat = kk + 1 := ⟨k.toNat - 1, by omega⟩
        have HK := Lib.hid (And.intro hkk d0)
        clear hk0 hkk
        cases NS with
        | nil =>
          have HC8 : Hid (∀ W2, Below wr.drew.heap.size wr.drew W2 → W2.cell? ⟨xb, 3, none⟩ = some (.slice nA 0 nc)) := Lib.hid fun W2 hw => (SwM.at (SwM.below HSI.out.1.sw ((Below.refl _ _).drew.trans hw))).2.2.2.1
          go_upto_region 8 with fail
          refine wp_region_noPanic ?_
          refine wp_region_abs 27 103 [
            .is (.pointer (some ⟨xb, 0, none⟩)),
            .is (.pointer (some ⟨xb, 0, none⟩)),
            .is (.pointer (some ⟨xb, 3, none⟩)),
            .is (.slice nA 0 nc),
            .is (.int .i64 0),
            .is (.bool false),
            .is (.bool false),
            .is undef,
            .is undef,
            .is undef,
            .is undef,
            .is undef,
            .is undef,
            .is undef,
            .is undef,
            .is undef,
            .is undef,
            .is undef,
            .is undef,
            .is undef,
            .is undef,
            .is undef,
            .is undef,
            .is undef,
            .is undef,
            .is undef,
            .is (.bool false)]
            [30, 31, 32, 33, 34, 35, 36, 37, 38, 39, 40, 41, 42, 43, 44, 45, 46, 47, 48, 49, 50, 51, 52, 53, 54, 55, 56]
            [[], [0], [1], [2], [3], [4], [5], [6], [7, 6], [8, 6], [9, 6], [10], [11, 10], [12, 10], [13, 10], [10], [15, 10], [16, 10], [17, 10], [18, 10], [19, 10], [20, 10], [21, 10], [14, 22, 10], [23, 10], [10, 24, 6], [6, 25]] (by kernel_rfl) (by rfl) rfl rfl (by kernel_rfl) (fun _ _ _ _ h => h.elim) ?_ ?_
          · refine ⟨?_, ?_, ?_, ?_, ?_, ?_, ?_, ?_, ?_, ?_, ?_, ?_, ?_, ?_, ?_, ?_, ?_, ?_, ?_, ?_, ?_, ?_, ?_, ?_, ?_, ?_, ?_, trivial⟩
            · intro W2 hw K hK
              go_simp
              exact hK _ _ rfl (Below.refl _ _)
            · intro W2 hw K hK
              go_simp
              exact hK _ _ rfl (Below.refl _ _)
            · intro W2 hw K hK
              go_simp
              exact hK _ _ rfl (Below.refl _ _)
            · intro W2 hw K hK
              have s0 := HC8.out W2 hw
              go_simp
              exact hK _ _ rfl (Below.refl _ _)
            · intro W2 hw K hK
              go_simp
              exact hK _ _ rfl (Below.refl _ _)
            · intro W2 hw K hK
              go_simp
              exact hK _ _ rfl (Below.refl _ _)
            · intro W2 hw K hK
              go_simp
              exact hK _ _ rfl (Below.refl _ _)
            · intro W2 hw K hK
              go_simp
              exact hK _ _ rfl (Below.refl _ _)
            · intro W2 hw K hK
              go_simp
              exact hK _ _ rfl (Below.refl _ _)
            · intro W2 hw K hK
              go_simp
              exact hK _ _ rfl (Below.refl _ _)
            · intro W2 hw K hK
              go_simp
              exact hK _ _ rfl (Below.refl _ _)
            · intro W2 hw K hK
              go_simp
              exact hK _ _ rfl (Below.refl _ _)
            · intro W2 hw K hK
              go_simp
              exact hK _ _ rfl (Below.refl _ _)
            · intro W2 hw K hK
              go_simp
              exact hK _ _ rfl (Below.refl _ _)
            · intro W2 hw K hK
              go_simp
              exact hK _ _ rfl (Below.refl _ _)
            · intro W2 hw K hK
              go_simp
              exact hK _ _ rfl (Below.refl _ _)
            · intro W2 hw K hK
              go_simp
              exact hK _ _ rfl (Below.refl _ _)
            · intro W2 hw K hK
              go_simp
              exact hK _ _ rfl (Below.refl _ _)
            · intro W2 hw K hK
              go_simp
              exact hK _ _ rfl (Below.refl _ _)
            · intro W2 hw K hK
              go_simp
              exact hK _ _ rfl (Below.refl _ _)
            · intro W2 hw K hK
              go_simp
              exact hK _ _ rfl (Below.refl _ _)
            · intro W2 hw K hK
              go_simp
              exact hK _ _ rfl (Below.refl _ _)
            · intro W2 hw K hK
              go_simp
              exact hK _ _ rfl (Below.refl _ _)
            · intro W2 hw K hK
              go_simp
              exact hK _ _ rfl (Below.refl _ _)
            · intro W2 hw K hK
              go_simp
              exact hK _ _ rfl (Below.refl _ _)
            · intro W2 hw K hK
              go_simp
              exact hK _ _ rfl (Below.refl _ _)
            · intro W2 hw K hK
              go_simp
              exact hK _ _ rfl (Below.refl _ _)
          · intro W2 hw2
            simp only [Behind]
            have hb2 := Lib.hid ((Below.refl _ wr).drew.trans hw2)
            clear hw2
            simp only [List.drop, Act.put, List.setIfInBounds_toArray, List.set_cons_zero, List.set_cons_succ]
            go_wp2_with fail
            refine NoPanic.normal ?_
            cases L with
            | nil =>
              have hs := SwM.below HSI.out.1.sw hb2.out
              obtain ⟨z0, _, _, _, _, z5⟩ := SwM.at hs
              have zf := frozen_of hs
              have HF : Hid (R = ([], T8, ct, ck, true)) := Lib.hid (by rw [HSI.out.2.1, HK.out.1]; rfl)
              have HE : Hid (StepE w B xb sb (.slice A9 T.length c9) ([], T8, ct, ck, true) (.returned (.bool true)) ((W2.setCell ⟨xb, 5, none⟩ (.bool true)).setCell ⟨xb, 0, none⟩ (.pointer none))) := Lib.hid (by
                have h := HSI.out.1.below hb2.out
                have k1 := heap_set W2 xb 5 (.bool true) hs
                have k2 := heap_set _ xb 0 (.pointer none) k1
                have hne : ∀ q, (Value.slice A8 T8.length c8).ownBlock = some q → q ≠ xb := fun q e e2 => by
                  obtain ⟨_, e9⟩ := own_at h.own e
                  rw [e2, hs] at e9
                  injection e9 with e9
                  injection e9 with _ e9 _
                  revert e9
                  decide
                exact ⟨rfl, none, nA, nc, A8, c8, k2.trans rfl, (fun e => by cases e), own_same h.own fun q hq => (heap_ne _ _ _ _ (hne q hq)).trans (heap_ne _ _ _ _ (hne q hq)), ⟨rfl, rfl, fun h => (Nat.lt_irrefl 0 h).elim⟩, fun h => (Nat.lt_irrefl 0 h).elim, h.ch.set.set, h.new⟩)
              clear hs
              go_wp2_with fail
              go_ret
              rw [HF.out]
              exact HE.out
            | cons y L =>
              obtain ⟨b, off, rfl, hy⟩ := RowAt.head En.vlen (RowAt.below HSI.out.1.live hb2.out)
              have x0 : W2.cell? ⟨b, off, none⟩ = some (.int .i64 (y.t : Int)) := hy 0 _ (by decide) rfl
              have x1 : W2.cell? ⟨b, off + 1, none⟩ = some (.int .i64 y.x.k) := hy 1 _ (by decide) rfl
              have x2 : W2.cell? ⟨b, off + 2, none⟩ = some (.int .i64 y.x.c.v) := hy 2 _ (by decide) rfl
              have x3 : W2.cell? ⟨b, off + 3, none⟩ = some (.int .i64 y.x.c.s) := hy 3 _ (by decide) rfl
              have x4 : W2.cell? ⟨b, off + 4, none⟩ = some (.bool y.x.c.dead) := hy 4 _ (by decide) rfl
              have HI2 := Lib.hid (HSI.out.1.below hb2.out)
              have hyk := HSI.out.2.2.2.2.1 y (by simp)
              have HPA := Lib.hid (swpass_take HI2.out.sw HI2.out.lo HI2.out.own (by have := HSI.out.2.2.2.1.1; omega) y (by omega) hyk.2 true)
              obtain ⟨m, hm⟩ : ∃ m, m = L.length + 1 := ⟨_, rfl⟩
              have hm0 : 0 < m := by omega
              have HM := Lib.hid hm
              rw [show (y :: L).length = m from hm.symm]
              clear hy hyk hm
              go_wp2_with fail
              refine Calls.mono HPA.out ?_
              rintro e w3 ⟨rfl, tv', hs, ho, ht, hq⟩
              rw [if_pos trivial] at ho
              obtain ⟨A7, c7, rfl, hI⟩ := HI2.out.pass hs ho ht hq
              have hml : m ≤ lc := by have h9 := HSI.out.2.2.2.1.2; rw [List.length_cons] at h9; have := HM.out; omega
              have HI3 := Lib.hid (hI.cutL (lc := lc) (by have := HM.out; omega))
              have HKB : Hid (wrap64 (k - 1) = k - 1 ∧ (k - 1).toNat = kk) := Lib.hid (by
                have h1 := HSI.out.2.2.1
                have h2 := HIN.out.2.2.2.2.2.2.2
                have h3 := HK.out
                refine ⟨?_, by omega⟩
                unfold wrap64
                omega)
              clear hs ho ht hq hI x0 x1 x2 x3 x4
              go_wp2_with fail
              rw [HKB.out.1]
              refine ⟨⟨k - 1, _, _, _, _, _, _, _, _, _, _, L, rfl, by rw [show m - 1 = L.length by have := HM.out; omega], HI3.out, ?_, by have := HSI.out.2.2.1; omega, ⟨?_, by have := HM.out; omega⟩, fun z hz => HSI.out.2.2.2.2.1 z (by simp [hz]), (fun x hx => by cases hx), rfl⟩, by have := HK.out.2; simp [intOf]; omega⟩
              · rw [HSI.out.2.1, HKB.out.2, HK.out.1]
                rfl
              · have h9 := HSI.out.2.2.2.1.1
                simp only [List.length_append, List.length_cons, List.length_nil] at h9 ⊢
                omega
        | cons x NS => exact absurd HNIL.out (by simp)
end Go.Proofs.Ytejpjbmbcdgomaa

/- The contracts of a writer's Bytes and Text. -/
namespace Go.Proofs.Ytejpjbmbcdgomaa
set_option maxRecDepth 100000
open Go.RowKit

theorem Wtr.ext {w w' : World} {B g : Nat} {v : Value} {xs : List Nat} (h : Wtr w B g v xs) (k : Below w.heap.size w w') : Wtr w' B g v xs :=
  ⟨h.low, (k.block g h.lt).trans h.block, row_stays h.own (fun j hj => k.block j (h.own.lt j hj).2)⟩
theorem Wrote.after {w w1 w' : World} {B g : Nat} {v v' : Value} {xs : List Nat} (k : Below w.heap.size w w1) (h : Wrote w1 w' B g v v' xs) : Wrote w w' B g v v' xs := by
  refine ⟨h.wtr, ⟨h.touch.os.trans k.os, h.touch.tape.trans k.tape, h.touch.output.trans k.output, Nat.le_trans k.size h.touch.size, fun j hj h1 h2 => (h.touch.block j (Nat.lt_of_lt_of_le hj k.size) h1 h2).trans (k.block j hj)⟩, ?_⟩
  rcases h.row with h1 | ⟨j, h1, h2⟩
  · exact .inl h1
  · exact .inr ⟨j, h1, Nat.le_trans k.size h2⟩
theorem Wrote.of_put {w w' : World} {B g : Nat} {v v' : Value} {xs : List Nat} (h1 : Wtr w' B g v' xs) (h2 : Touch w w' g v.ownBlock) (h3 : v'.ownBlock = v.ownBlock ∨ v'.ownBlock = some w.heap.size) : Wrote w w' B g v v' xs :=
  ⟨h1, h2, h3.imp id fun h => ⟨_, h, Nat.le_refl _⟩⟩
/-- A row of bytes that a writer's calls leave alone. -/
def AwayB (w : World) (g : Nat) (v : Value) (A : Option Addr) : Prop := ∀ ad, A = some ad → ad.block < w.heap.size → ad.block ≠ g ∧ v.ownBlock ≠ some ad.block
theorem Touch.rdv {w w' : World} {g n size : Nat} {v : Value} {A : Option Addr} {ys : List Value} (h : Touch w w' g v.ownBlock) (hr : Rdv w A n size ys) (ha : 0 < n → AwayB w g v A) : Rdv w' A n size ys := by
  refine ⟨hr.1, fun hn => ?_⟩
  obtain ⟨b, off, e, hc⟩ := hr.2 hn
  refine ⟨b, off, e, fun j u hj => ?_⟩
  have hlt := World.block_lt_of_cell? _ _ (hc j u hj)
  have := ha hn _ e hlt
  rw [← hc j u hj]
  exact World.cell?_of_block (h.block b hlt this.1 this.2)

theorem bytesWorld_below (w : World) (s : ByteArray) : Below w.heap.size w (Lib.bytesWorld w 5 s) :=
  ⟨rfl, rfl, rfl, by rw [Lib.bytesWorld_size]; omega, fun k hk => Lib.bytesWorld_at_old w 5 s k hk⟩
theorem bytesWorld_rdv (w : World) (ys : List Nat) (hy : ∀ y ∈ ys, y < 256) : Rdv (Lib.bytesWorld w 5 (strN ys)) (some ⟨w.heap.size, 0, none⟩) ys.length 1 (valsB ys) := by
  refine ⟨by rw [valsB_length, Nat.mul_one], fun _ => ⟨_, 0, rfl, fun j u hj => ?_⟩⟩
  rw [valsB_get] at hj
  cases hx : ys[j]? with
  | none => rw [hx] at hj; cases hj
  | some y =>
    rw [hx] at hj
    cases hj
    have hlt := (List.getElem?_eq_some_iff.1 hx).1
    rw [Nat.zero_add, Lib.bytesWorld_cell w 5 (strN ys) j (by rw [strN_size]; exact hlt), strN_data]
    have hy' := hy y (List.mem_of_getElem? hx)
    simp [List.getD_eq_getElem?_getD, hx]
    omega
end Go.Proofs.Ytejpjbmbcdgomaa
