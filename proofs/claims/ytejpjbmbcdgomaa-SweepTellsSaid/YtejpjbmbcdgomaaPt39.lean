/- VStepG: put together. -/
import Derived.Test.YtejpjbmbcdgomaaPt34
import Derived.Test.YtejpjbmbcdgomaaPt38
/- A sweep's step, with notes. Written by gen_vstepg.py. -/
namespace Go.Proofs.Ytejpjbmbcdgomaa
set_option maxRecDepth 100000
open Go.RowKit

theorem nov_own {w : World} {B : Nat} {v tv : Value} {NS : List Nt} {T : List En} (hV : NoV w v NS) (ho : Sno w B tv T) {q : Nat} (e : v.ownBlock = some q) (e2 : tv.ownBlock = some q) : False := by
  obtain ⟨cur, e7⟩ := hV.type e
  obtain ⟨cu2, e8⟩ := own_at ho e2
  rw [e7] at e8
  injection e8 with e8
  injection e8 with _ e9 _
  revert e9
  decide
theorem nor_tail {w : World} {b off c : Nat} {x : Nt} {l : List Nt} (h : NoR w b off c (x :: l)) : NoV w (.slice (if c = 1 then some ⟨b, off, none⟩ else some ⟨b, off + 6, none⟩) l.length (c - 1)) l := by
  obtain ⟨cur, h1, h2⟩ := h.blk
  have h3 := h.le
  have h4 := h.mx
  simp only [List.length_cons] at h3
  by_cases hc : c = 1
  · have hl : l = [] := List.eq_nil_of_length_eq_zero (by omega)
    subst hl
    rw [if_pos hc]
    exact .inr ⟨b, off, c - 1, rfl, ⟨cur, h1, by omega⟩, fun j u hj => by simp [rowV] at hj, by simp, by omega⟩
  · rw [if_neg hc]
    refine .inr ⟨b, off + 6, c - 1, rfl, ⟨cur, h1, by omega⟩, fun j u hj => ?_, by omega, by omega⟩
    rw [Nat.add_assoc]
    refine h.cell (6 + j) u ?_
    have e2 : rowV Nt.vals (x :: l) = x.vals ++ rowV Nt.vals l := by simp [rowV]
    rw [e2, List.getElem?_append_right (by rw [Nt.vlen]; omega), Nt.vlen, Nat.add_sub_cancel_left]
    exact hj
/-- A sweep's parts between two keys: its block, what it took, its notes, the live entries that are left. -/
structure StN (P : Nat → Prop) (w wr : World) (B xb : Nat) (so : Option Addr) (tv0 : Value) (ct ck : Int) (nA : Option Addr) (nc : Nat) (NS : List Nt) (A9 : Option Addr) (c9 : Nat) (T : List En) (lA : Option Addr) (L : List En) : Prop where
  sw : SwM wr xb so ct ck (.slice nA NS.length nc) (.slice A9 T.length c9) false
  own : Sno wr B (.slice A9 T.length c9) T
  lo : B ≤ xb
  notes : NoV wr (.slice nA NS.length nc) NS
  live : Ens wr lA L
  la : 0 < L.length → ∀ b o, lA = some ⟨b, o, none⟩ → b ≠ xb ∧ (Value.slice A9 T.length c9).ownBlock ≠ some b
  ch : Touch w wr xb tv0.ownBlock
  new : ∀ q, (Value.slice A9 T.length c9).ownBlock = some q → tv0.ownBlock = some q ∨ w.heap.size ≤ q
  nb : ∀ q, (Value.slice nA NS.length nc).ownBlock = some q → P q
section
variable {P : Nat → Prop} {w W2 w' : World} {B xb : Nat} {so : Option Addr} {tv0 : Value} {ct ck ct' ck' : Int} {nA : Option Addr} {nc : Nat} {NS : List Nt} {A8 : Option Addr} {c8 : Nat} {T8 T' : List En} {lA : Option Addr} {L : List En} {tv' : Value}
theorem StN.below (h : StN P w W2 B xb so tv0 ct ck nA nc NS A8 c8 T8 lA L) (hb : Below W2.heap.size W2 w') : StN P w w' B xb so tv0 ct ck nA nc NS A8 c8 T8 lA L :=
  ⟨SwM.below h.sw hb, own_same h.own fun q hq => by
    obtain ⟨_, e9⟩ := own_at h.own hq
    exact hb.block q (Array.getElem?_eq_some_iff.1 e9).1, h.lo, h.notes.below hb, RowAt.below h.live hb, h.la, h.ch.later hb, h.new, h.nb⟩
/-- A key is gone past. -/
theorem StN.pass (h : StN P w W2 B xb so tv0 ct ck nA nc NS A8 c8 T8 lA L) (hs : SwM w' xb so ct' ck' (.slice nA NS.length nc) tv' false) (ho : Sno w' B tv' T') (ht : Touch W2 w' xb (Value.slice A8 T8.length c8).ownBlock)
    (hq : ∀ q, tv'.ownBlock = some q → (Value.slice A8 T8.length c8).ownBlock = some q ∨ W2.heap.size ≤ q) : ∃ A9 c9, tv' = .slice A9 T'.length c9 ∧ StN P w w' B xb so tv0 ct' ck' nA nc NS A9 c9 T' lA L := by
  obtain ⟨A9, c9, rfl⟩ := own_form ho
  have key : ∀ b, b < W2.heap.size → b ≠ xb → (Value.slice A8 T8.length c8).ownBlock ≠ some b → (Value.slice A9 T'.length c9).ownBlock ≠ some b := fun b hb _ h2 e => by
    rcases hq b e with e | e
    · exact h2 e
    · omega
  refine ⟨A9, c9, rfl, hs, ho, h.lo, h.notes.keep fun q e => ht.block q (h.notes.lt e) (fun e2 => nov_ne h.sw h.notes (by rw [e, e2])) (fun e2 => nov_own h.notes h.own e e2), RowAt.same0 h.live fun hl b o e => ?_, fun hl b o e => ?_, ⟨ht.os.trans h.ch.os, ht.tape.trans h.ch.tape, ht.output.trans h.ch.output, Nat.le_trans h.ch.size ht.size, fun k hk h1 h2 => (ht.block k (Nat.lt_of_lt_of_le hk h.ch.size) h1 fun e => ?_).trans (h.ch.block k hk h1 h2)⟩, fun q e => ?_, h.nb⟩
  · subst e
    exact ht.block b (Rdv.blockLt h.live.2 hl (by decide)) (h.la hl b o rfl).1 (h.la hl b o rfl).2
  · subst e
    exact ⟨(h.la hl b o rfl).1, key b (Rdv.blockLt h.live.2 hl (by decide)) (h.la hl b o rfl).1 (h.la hl b o rfl).2⟩
  · rcases h.new k e with e | e
    · exact h2 e
    · omega
  · rcases hq q e with e | e
    · exact h.new q e
    · exact .inr (Nat.le_trans h.ch.size e)
/-- The first live entry is gone. -/
theorem StN.cutL {b off lc : Nat} {y : En} (h : StN P w W2 B xb so tv0 ct ck nA nc NS A8 c8 T8 (some ⟨b, off, none⟩) (y :: L)) (hl : L.length + 1 ≤ lc) : StN P w W2 B xb so tv0 ct ck nA nc NS A8 c8 T8 (if lc = 1 then some ⟨b, off, none⟩ else some ⟨b, off + 5, none⟩) L := by
  by_cases h1 : lc = 1
  · have hL : L = [] := List.eq_nil_of_length_eq_zero (by omega)
    subst hL
    rw [if_pos h1]
    exact ⟨h.sw, h.own, h.lo, h.notes, ⟨rfl, rfl, fun h => absurd h (by decide)⟩, fun h => absurd h (by decide), h.ch, h.new, h.nb⟩
  · rw [if_neg h1]
    exact ⟨h.sw, h.own, h.lo, h.notes, RowAt.tail En.vlen h.live, fun _ b2 o e => by
      have e2 : b = b2 := by
        have e3 := congrArg (fun x : Option Addr => x.map (·.block)) e
        simpa using e3
      exact h.la (by simp) b2 off (by rw [e2]), h.ch, h.new, h.nb⟩
/-- The first note is gone. -/
theorem StN.cutN {b off : Nat} {x : Nt} (h : StN P w W2 B xb so tv0 ct ck (some ⟨b, off, none⟩) nc (x :: NS) A8 c8 T8 lA L) (_ : NS.length + 1 ≤ nc) : StN P w (W2.setCell ⟨xb, 3, none⟩ (.slice (if nc = 1 then some ⟨b, off, none⟩ else some ⟨b, off + 6, none⟩) NS.length (nc - 1))) B xb so tv0 ct ck (if nc = 1 then some ⟨b, off, none⟩ else some ⟨b, off + 6, none⟩) (nc - 1) NS A8 c8 T8 lA L := by
  have hne : ∀ q, (Value.slice A8 T8.length c8).ownBlock = some q → q ≠ xb := fun q e e2 => by
    obtain ⟨_, e9⟩ := own_at h.own e
    have hs := h.sw
    rw [e2, hs] at e9
    injection e9 with e9
    injection e9 with _ e9 _
    revert e9
    decide
  have hn := nov_ne h.sw h.notes
  refine ⟨(heap_set W2 xb 3 _ h.sw).trans rfl, own_same h.own fun q hq => heap_ne _ _ _ _ (hne q hq), h.lo, ?_, RowAt.same0 h.live fun hl b2 o e => heap_ne _ _ _ _ (h.la hl b2 o e).1, h.la, h.ch.set, h.new, fun q e => h.nb q (by split at e <;> exact e)⟩
  rcases h.notes with ⟨e, _⟩ | ⟨b2, o2, c2, e, hr⟩
  · cases e
  · injection e with e1 e2 e3
    injection e1 with e1
    injection e1 with e1 e4 _
    subst e1 e4 e3
    refine (nor_tail hr).keep fun q e => heap_ne _ _ _ _ fun e5 => hn ?_
    have e6 : q = b := by split at e <;> (injection e with e; exact e.symm)
    rw [← e6, e5]
    rfl
end
/-- What a step answers. -/
def StepN (P : Nat → Prop) (w : World) (B xb : Nat) (so : Option Addr) (tv0 : Value) (R : List Nt × List En × Int × Int × Bool) (e : Ending) (w' : World) : Prop :=
  e = .returned (.bool R.2.2.2.2) ∧ ∃ (so' nA : Option Addr) (nc : Nat) (A9 : Option Addr) (c9 : Nat), SwM w' xb so' R.2.2.1 R.2.2.2.1 (.slice nA R.1.length nc) (.slice A9 R.2.1.length c9) R.2.2.2.2 ∧ (R.2.2.2.2 = false → so' = so) ∧ Sno w' B (.slice A9 R.2.1.length c9) R.2.1 ∧ NoV w' (.slice nA R.1.length nc) R.1 ∧ Touch w w' xb tv0.ownBlock ∧ (∀ q, (Value.slice A9 R.2.1.length c9).ownBlock = some q → tv0.ownBlock = some q ∨ w.heap.size ≤ q) ∧ (∀ q, (Value.slice nA R.1.length nc).ownBlock = some q → P q)
set_option maxHeartbeats 16000000 in
theorem swstep_gen {w : World} {P : Nat → Prop} {B xb : Nat} {so : Option Addr} {LV : List En} {ct ck : Int} {nA : Option Addr} {nc : Nat} {NS : List Nt} {A9 : Option Addr} {c9 : Nat} {T : List En} (n : Int) (hF : ∀ W2, Below w.heap.size w W2 → Calls Try.prog 18 #[.pointer so, .agg #[.int .i64 ct, .int .i64 ck], .int .i64 n] W2 fun e w' => ∃ v, e = .returned v ∧ Sno w' W2.heap.size v LV ∧ Below W2.heap.size W2 w') (hLB : LV.length ≤ 40000 ∧ ∀ y ∈ LV, y.t < 4 ∧ Fits y.x.k)
    (h : StN P w w B xb so (.slice A9 T.length c9) ct ck nA nc NS A9 c9 T none []) (hT : T.length + NS.length ≤ 10000) (hcl : 0 ≤ ct ∧ ct ≤ 4 ∧ Fits ck) (hns : ∀ x ∈ NS, x.e.t < 4 ∧ Fits x.e.x.k) (hn : n ≤ 100000) :
    Calls Try.prog 42 #[.pointer (some ⟨xb, 0, none⟩), .int .i64 n] w fun e w' => StepN P w B xb so (.slice A9 T.length c9) (stepS n.toNat LV NS T ct ck) e w' := by
  have HD := Lib.hid (swdone_any h.sw)
  have HIN := Lib.hid (And.intro h (And.intro trivial (And.intro trivial (And.intro trivial (And.intro hT (And.intro hcl (And.intro hns hn)))))))
  have HSF : Hid (∀ W2, Below w.drew.heap.size w.drew W2 → Calls Try.prog 18 #[.pointer so, .agg #[.int .i64 ct, .int .i64 ck], .int .i64 n] W2 fun e w' => ∃ v, e = .returned v ∧ (∃ A c, v = .slice A LV.length c ∧ (Ens w' A LV ∧ LV.length ≤ c) ∧ ∀ b o, A = some ⟨b, o, none⟩ → W2.heap.size ≤ b) ∧ Below W2.heap.size W2 w') := Lib.hid fun W2 hw => by
    refine Calls.mono (hF W2 ((Below.refl _ _).drew.trans hw)) ?_
    rintro e w' ⟨v, rfl, ho, hb⟩
    obtain ⟨A, c, e9, hr, _, hc⟩ := rdv_own ho
    exact ⟨v, rfl, ⟨A, c, e9, ⟨⟨rfl, hr⟩, hc⟩, fun b o e => own_ge ho (by rw [e9, e]; rfl)⟩, hb⟩
  have HCE : Hid (∀ W2, Below w.drew.heap.size w.drew W2 → W2.cell? ⟨xb, 0, none⟩ = some (.pointer so) ∧ W2.cell? ⟨xb, 1, none⟩ = some (.int .i64 ct) ∧ W2.cell? ⟨xb, 2, none⟩ = some (.int .i64 ck)) := Lib.hid fun W2 hw => by
    have h9 := SwM.at (SwM.below h.sw ((Below.refl _ _).drew.trans hw))
    exact ⟨h9.1, h9.2.1, h9.2.2.1⟩
  obtain ⟨R, hR⟩ : ∃ R, R = stepS n.toNat LV NS T ct ck := ⟨_, rfl⟩
  rw [← hR]
  have HR := Lib.hid hR
  clear hR hF h hT hcl hns hn
  go_enter Try.func42, Try.ntmps42
  go_wp2_with fail
  refine Calls.mono HD.out ?_
  rintro e w1 ⟨rfl, rfl⟩
  go_upto_region 3 with fail
  refine wp_region_noPanic ?_
  refine wp_region_abs 10 103 [
    .is (.pointer (some ⟨xb, 0, none⟩)),
    .is (.pointer (some ⟨xb, 0, none⟩)),
    .is (.pointer (some ⟨xb, 0, none⟩)),
    .is (.pointer so),
    .is (.pointer (some ⟨xb, 0, none⟩)),
    .is (.pointer (some ⟨xb, 0, none⟩)),
    .is (.pointer (some ⟨xb, 1, none⟩)),
    .is (.agg #[.int .i64 ct, .int .i64 ck]),
    .is (.int .i64 n),
    .tells (fun _ v wb wa => ∃ A c, v = .slice A LV.length c ∧ (Ens wa A LV ∧ LV.length ≤ c) ∧ ∀ b o, A = some ⟨b, o, none⟩ → wb.heap.size ≤ b)]
    [9, 10, 11, 12, 13, 14, 15, 16, 17, 18]
    [[], [0], [1], [2], [], [4], [5], [6], [], [3, 7, 8]] (by kernel_rfl) (by rfl) rfl rfl (by kernel_rfl) (fun _ _ _ _ h => h.elim) ?_ ?_
  · refine ⟨?_, ?_, ?_, ?_, ?_, ?_, ?_, ?_, ?_, ?_, trivial⟩
    · intro W2 hw K hK
      go_simp
      exact hK _ _ rfl (Below.refl _ _)
    · intro W2 hw K hK
      go_simp
      exact hK _ _ rfl (Below.refl _ _)
    · intro W2 hw K hK
      go_simp
      exact hK _ _ rfl (Below.refl _ _)
    · intro W2 hw K hK
      obtain ⟨s0, s1, s2⟩ := HCE.out W2 hw
      go_simp
      exact hK _ _ rfl (Below.refl _ _)
    · intro W2 hw K hK
      go_simp
      exact hK _ _ rfl (Below.refl _ _)
    · intro W2 hw K hK
      go_simp
      exact hK _ _ rfl (Below.refl _ _)
    · intro W2 hw K hK
      go_simp
      exact hK _ _ rfl (Below.refl _ _)
    · intro W2 hw K hK
      obtain ⟨s0, s1, s2⟩ := HCE.out W2 hw
      go_simp
      exact hK _ _ rfl (Below.refl _ _)
    · intro W2 hw K hK
      go_simp
      exact hK _ _ rfl (Below.refl _ _)
    · intro W2 hw K hK
      go_simp
      refine Calls.mono (HSF.out W2 hw) ?_
      rintro e9 w9 ⟨v9, rfl, h9, hb9⟩
      exact hK _ _ h9 hb9
  · intro W2 hw2
    simp only [Behind]
    rintro v9 wb9 wa9 ⟨A, c, rfl, ⟨hE, hcc⟩, hge⟩ hx9 hy9 _
    simp only [List.drop, Act.put, List.setIfInBounds_toArray, List.set_cons_zero, List.set_cons_succ]
    go_wp2_with fail
    refine NoPanic.normal ?_
    go_wp2_with fail
    have hb2 : Below w.heap.size w W2 := (Below.refl _ w).drew.trans hw2
    have hlA : ∀ b o, A = some ⟨b, o, none⟩ → w.heap.size ≤ b := fun b o e => Nat.le_trans ((Below.refl _ w).drew.trans hy9).size (hge b o e)
    have HS0 : Hid (StN P w W2 B xb so (.slice A9 T.length c9) ct ck nA nc NS A9 c9 T A LV) := Lib.hid (by
      have h := HIN.out.1
      refine ⟨SwM.below h.sw hb2, own_same h.own fun q hq => ?_, h.lo, h.notes.below hb2, RowAt.below hE hx9, fun _ b o e => ?_, Touch.of hb2, fun q e => .inl e, h.nb⟩
      · obtain ⟨_, e9⟩ := own_at h.own hq
        exact hb2.block q (Array.getElem?_eq_some_iff.1 e9).1
      · have h1 := hlA b o e
        have h2 := SwM.lt h.sw
        refine ⟨by omega, fun e2 => ?_⟩
        obtain ⟨_, e9⟩ := own_at h.own e2
        have := (Array.getElem?_eq_some_iff.1 e9).1
        omega)
    have HCC := Lib.hid hcc
    have HLB := Lib.hid hLB
    clear hw2 hE hcc hge hx9 hy9 hb2 hlA hLB
    go_loopw [1, 4, 5, 6, 19, 20, 21, 22, 23, 24, 25, 26, 27, 28, 29, 30, 31, 32, 33, 34, 35, 36, 37, 38, 39, 40, 41, 42, 43, 44, 45, 46, 47, 48, 49, 50, 51, 52, 53, 54, 55, 56, 57, 58, 59, 60, 61, 62, 63, 64, 65, 66, 67, 68, 69, 70, 71, 72, 73, 74, 75, 76, 77, 78, 79, 80, 81, 82, 83, 84, 85, 86, 87, 88, 89, 90, 91, 92, 93, 94, 95, 96, 97, 98, 99, 100, 101, 102] (fun nx _ lx _ _ _ _ _ _ _ _ _ _ _ _ _ _ _ _ _ _ _ _ _ _ _ _ _ _ _ _ _ _ _ _ _ _ _ _ _ _ _ _ _ _ _ _ _ _ _ _ _ _ _ _ _ _ _ _ _ _ _ _ _ _ _ _ _ _ _ _ _ _ _ _ _ _ _ _ _ _ _ _ _ _ _ _ _ wr => ∃ (k ct ck : Int) (nA : Option Addr) (nc : Nat) (NS : List Nt) (A8 : Option Addr) (c8 : Nat) (T8 : List En) (lA : Option Addr) (lc : Nat) (L : List En), nx = .int .i64 k ∧ lx = .slice lA L.length lc ∧ StN P w wr B xb so (.slice A9 T.length c9) ct ck nA nc NS A8 c8 T8 lA L ∧ R = stepS k.toNat L NS T8 ct ck ∧ k ≤ n ∧ (T8.length + NS.length + L.length ≤ 60000 ∧ L.length ≤ lc) ∧ (∀ y ∈ L, y.t < 4 ∧ Fits y.x.k) ∧ (∀ x ∈ NS, x.e.t < 4 ∧ Fits x.e.x.k)) (fun nx _ lx _ _ _ _ _ _ _ _ _ _ _ _ _ _ _ _ _ _ _ _ _ _ _ _ _ _ _ _ _ _ _ _ _ _ _ _ _ _ _ _ _ _ _ _ _ _ _ _ _ _ _ _ _ _ _ _ _ _ _ _ _ _ _ _ _ _ _ _ _ _ _ _ _ _ _ _ _ _ _ _ _ _ _ _ _ wr => (intOf nx).toNat)
    case atStart => exact ⟨n, ct, ck, nA, nc, NS, A9, c9, T, A, c, LV, rfl, rfl, HS0.out, HR.out, Int.le_refl _, ⟨by have := HIN.out.2.2.2.2.1; have := HLB.out.1; omega, HCC.out⟩, HLB.out.2, HIN.out.2.2.2.2.2.2.1⟩
    case round =>
      obtain ⟨k, ct, ck, nA, nc, NS, A8, c8, T8, lA, lc, L, rfl, rfl, hS, hRk, hkn, hsz, hyb, hxb⟩ := hrel
      have HSI := Lib.hid (And.intro hS (And.intro hRk (And.intro hkn (And.intro hsz (And.intro hyb hxb)))))
      clear hS hRk hkn hsz hyb hxb
      by_cases hk0 : k ≤ 0
      · have d0 : ¬ (0 : Int) < k := by omega
        have HF : Hid (R = (NS, T8, ct, ck, false)) := Lib.hid (by rw [HSI.out.2.1, Int.toNat_of_nonpos hk0]; rfl)
        clear hk0
        go_wp2_with fail
        go_ret
        unfold StepN
        rw [HF.out]
        have h := HSI.out.1
        exact ⟨rfl, _, nA, nc, A8, c8, h.sw, fun _ => rfl, h.own, h.notes, h.ch, h.new, h.nb⟩
      · have d0 : (0 : Int) < k := by omega
        obtain ⟨kk, hkk⟩ : ∃ kk, k.toNat = kk + 1 := ⟨k.toNat - 1, by omega⟩
        have HK := Lib.hid (And.intro hkk d0)
        clear hk0 hkk
        cases NS with
        | nil =>
          have HC8 : Hid (∀ W2, Below wr.drew.heap.size wr.drew W2 → W2.cell? ⟨xb, 3, none⟩ = some (.slice nA 0 nc)) := Lib.hid fun W2 hw => (SwM.at (SwM.below HSI.out.1.sw ((Below.refl _ _).drew.trans hw))).2.2.2.1
          go_upto_region 8 with fail
          refine wp_region_noPanic ?_
          refine wp_region_abs 27 103 [
            .is (.pointer (some ⟨xb, 0, none⟩)),
            .is (.pointer (some ⟨xb, 0, none⟩)),
            .is (.pointer (some ⟨xb, 3, none⟩)),
            .is (.slice nA 0 nc),
            .is (.int .i64 0),
            .is (.bool false),
            .is (.bool false),
            .is undef,
            .is undef,
            .is undef,
            .is undef,
            .is undef,
            .is undef,
            .is undef,
            .is undef,
            .is undef,
            .is undef,
            .is undef,
            .is undef,
            .is undef,
            .is undef,
            .is undef,
            .is undef,
            .is undef,
            .is undef,
            .is undef,
            .is (.bool false)]
            [30, 31, 32, 33, 34, 35, 36, 37, 38, 39, 40, 41, 42, 43, 44, 45, 46, 47, 48, 49, 50, 51, 52, 53, 54, 55, 56]
            [[], [0], [1], [2], [3], [4], [5], [6], [7, 6], [8, 6], [9, 6], [10], [11, 10], [12, 10], [13, 10], [10], [15, 10], [16, 10], [17, 10], [18, 10], [19, 10], [20, 10], [21, 10], [14, 22, 10], [23, 10], [10, 24, 6], [6, 25]] (by kernel_rfl) (by rfl) rfl rfl (by kernel_rfl) (fun _ _ _ _ h => h.elim) ?_ ?_
          · refine ⟨?_, ?_, ?_, ?_, ?_, ?_, ?_, ?_, ?_, ?_, ?_, ?_, ?_, ?_, ?_, ?_, ?_, ?_, ?_, ?_, ?_, ?_, ?_, ?_, ?_, ?_, ?_, trivial⟩
            · intro W2 hw K hK
              go_simp
              exact hK _ _ rfl (Below.refl _ _)
            · intro W2 hw K hK
              go_simp
              exact hK _ _ rfl (Below.refl _ _)
            · intro W2 hw K hK
              go_simp
              exact hK _ _ rfl (Below.refl _ _)
            · intro W2 hw K hK
              have s0 := HC8.out W2 hw
              go_simp
              exact hK _ _ rfl (Below.refl _ _)
            · intro W2 hw K hK
              go_simp
              exact hK _ _ rfl (Below.refl _ _)
            · intro W2 hw K hK
              go_simp
              exact hK _ _ rfl (Below.refl _ _)
            · intro W2 hw K hK
              go_simp
              exact hK _ _ rfl (Below.refl _ _)
            · intro W2 hw K hK
              go_simp
              exact hK _ _ rfl (Below.refl _ _)
            · intro W2 hw K hK
              go_simp
              exact hK _ _ rfl (Below.refl _ _)
            · intro W2 hw K hK
              go_simp
              exact hK _ _ rfl (Below.refl _ _)
            · intro W2 hw K hK
              go_simp
              exact hK _ _ rfl (Below.refl _ _)
            · intro W2 hw K hK
              go_simp
              exact hK _ _ rfl (Below.refl _ _)
            · intro W2 hw K hK
              go_simp
              exact hK _ _ rfl (Below.refl _ _)
            · intro W2 hw K hK
              go_simp
              exact hK _ _ rfl (Below.refl _ _)
            · intro W2 hw K hK
              go_simp
              exact hK _ _ rfl (Below.refl _ _)
            · intro W2 hw K hK
              go_simp
              exact hK _ _ rfl (Below.refl _ _)
            · intro W2 hw K hK
              go_simp
              exact hK _ _ rfl (Below.refl _ _)
            · intro W2 hw K hK
              go_simp
              exact hK _ _ rfl (Below.refl _ _)
            · intro W2 hw K hK
              go_simp
              exact hK _ _ rfl (Below.refl _ _)
            · intro W2 hw K hK
              go_simp
              exact hK _ _ rfl (Below.refl _ _)
            · intro W2 hw K hK
              go_simp
              exact hK _ _ rfl (Below.refl _ _)
            · intro W2 hw K hK
              go_simp
              exact hK _ _ rfl (Below.refl _ _)
            · intro W2 hw K hK
              go_simp
              exact hK _ _ rfl (Below.refl _ _)
            · intro W2 hw K hK
              go_simp
              exact hK _ _ rfl (Below.refl _ _)
            · intro W2 hw K hK
              go_simp
              exact hK _ _ rfl (Below.refl _ _)
            · intro W2 hw K hK
              go_simp
              exact hK _ _ rfl (Below.refl _ _)
            · intro W2 hw K hK
              go_simp
              exact hK _ _ rfl (Below.refl _ _)
          · intro W2 hw2
            simp only [Behind]
            have hb2 := Lib.hid ((Below.refl _ wr).drew.trans hw2)
            clear hw2
            simp only [List.drop, Act.put, List.setIfInBounds_toArray, List.set_cons_zero, List.set_cons_succ]
            go_wp2_with fail
            refine NoPanic.normal ?_
            cases L with
            | nil =>
              have hs := SwM.below HSI.out.1.sw hb2.out
              obtain ⟨z0, _, _, _, _, z5⟩ := SwM.at hs
              have zf := frozen_of hs
              have HF : Hid (R = ([], T8, ct, ck, true)) := Lib.hid (by rw [HSI.out.2.1, HK.out.1]; rfl)
              have HE : Hid (StepN P w B xb so (.slice A9 T.length c9) ([], T8, ct, ck, true) (.returned (.bool true)) ((W2.setCell ⟨xb, 5, none⟩ (.bool true)).setCell ⟨xb, 0, none⟩ (.pointer none))) := Lib.hid (by
                have h := HSI.out.1.below hb2.out
                have k1 := heap_set W2 xb 5 (.bool true) hs
                have k2 := heap_set _ xb 0 (.pointer none) k1
                have hne : ∀ q, (Value.slice A8 T8.length c8).ownBlock = some q → q ≠ xb := fun q e e2 => by
                  obtain ⟨_, e9⟩ := own_at h.own e
                  rw [e2, hs] at e9
                  injection e9 with e9
                  injection e9 with _ e9 _
                  revert e9
                  decide
                exact ⟨rfl, none, nA, nc, A8, c8, k2.trans rfl, (fun e => by cases e), own_same h.own fun q hq => (heap_ne _ _ _ _ (hne q hq)).trans (heap_ne _ _ _ _ (hne q hq)), h.notes.keep fun q e => (heap_ne _ _ _ _ (fun e2 => nov_ne h.sw h.notes (by rw [e, e2]))).trans (heap_ne _ _ _ _ (fun e2 => nov_ne h.sw h.notes (by rw [e, e2]))), h.ch.set.set, h.new, h.nb⟩)
              clear hs
              go_wp2_with fail
              go_ret
              rw [HF.out]
              exact HE.out
            | cons y L =>
              obtain ⟨b, off, rfl, hy⟩ := RowAt.head En.vlen (RowAt.below HSI.out.1.live hb2.out)
              have x0 : W2.cell? ⟨b, off, none⟩ = some (.int .i64 (y.t : Int)) := hy 0 _ (by decide) rfl
              have x1 : W2.cell? ⟨b, off + 1, none⟩ = some (.int .i64 y.x.k) := hy 1 _ (by decide) rfl
              have x2 : W2.cell? ⟨b, off + 2, none⟩ = some (.int .i64 y.x.c.v) := hy 2 _ (by decide) rfl
              have x3 : W2.cell? ⟨b, off + 3, none⟩ = some (.int .i64 y.x.c.s) := hy 3 _ (by decide) rfl
              have x4 : W2.cell? ⟨b, off + 4, none⟩ = some (.bool y.x.c.dead) := hy 4 _ (by decide) rfl
              have HI2 := Lib.hid (HSI.out.1.below hb2.out)
              have hyk := HSI.out.2.2.2.2.1 y (by simp)
              have HPA := Lib.hid (swpass_take HI2.out.sw HI2.out.lo HI2.out.own (by have := HSI.out.2.2.2.1.1; omega) y (by omega) hyk.2 true)
              obtain ⟨m, hm⟩ : ∃ m, m = L.length + 1 := ⟨_, rfl⟩
              have hm0 : 0 < m := by omega
              have HM := Lib.hid hm
              rw [show (y :: L).length = m from hm.symm]
              clear hy hyk hm
              go_wp2_with fail
              refine Calls.mono HPA.out ?_
              rintro e w3 ⟨rfl, tv', hs, ho, ht, hq⟩
              rw [if_pos trivial] at ho
              obtain ⟨A7, c7, rfl, hI⟩ := HI2.out.pass hs ho ht hq
              have hml : m ≤ lc := by have h9 := HSI.out.2.2.2.1.2; rw [List.length_cons] at h9; have := HM.out; omega
              have HI3 := Lib.hid (hI.cutL (lc := lc) (by have := HM.out; omega))
              have HKB : Hid (wrap64 (k - 1) = k - 1 ∧ (k - 1).toNat = kk) := Lib.hid (by
                have h1 := HSI.out.2.2.1
                have h2 := HIN.out.2.2.2.2.2.2.2
                have h3 := HK.out
                refine ⟨?_, by omega⟩
                unfold wrap64
                omega)
              clear hs ho ht hq hI x0 x1 x2 x3 x4
              go_wp2_with fail
              rw [HKB.out.1]
              refine ⟨⟨k - 1, _, _, _, _, _, _, _, _, _, _, L, rfl, by rw [show m - 1 = L.length by have := HM.out; omega], HI3.out, ?_, by have := HSI.out.2.2.1; omega, ⟨?_, by have := HM.out; omega⟩, fun z hz => HSI.out.2.2.2.2.1 z (by simp [hz]), fun x hx => by cases hx⟩, by have := HK.out.2; simp [intOf]; omega⟩
              · rw [HSI.out.2.1, HKB.out.2, HK.out.1]
                rfl
              · have h9 := HSI.out.2.2.2.1.1
                simp only [List.length_append, List.length_cons, List.length_nil] at h9 ⊢
                omega
        | cons x NS =>
          obtain ⟨m, hm⟩ : ∃ m, m = NS.length + 1 := ⟨_, rfl⟩
          have hno := HSI.out.1.notes
          rw [show (x :: NS).length = m from hm.symm] at hno
          obtain ⟨bn, on, hnA, hnr⟩ : ∃ bn on, nA = some ⟨bn, on, none⟩ ∧ NoR wr bn on nc (x :: NS) := by
            rcases hno with ⟨_, e⟩ | ⟨b, o, c, e, h⟩
            · cases e
            · injection e with e1 e2 e3
              subst e3
              exact ⟨b, o, e1, h⟩
          subst hnA
          have HNX : Hid (∀ W2, Below wr.heap.size wr W2 → W2.cell? ⟨bn, on, none⟩ = some (.int .i64 (x.e.t : Int)) ∧ W2.cell? ⟨bn, on + 1, none⟩ = some (.int .i64 x.e.x.k) ∧ W2.cell? ⟨bn, on + 2, none⟩ = some (.int .i64 x.e.x.c.v) ∧ W2.cell? ⟨bn, on + 3, none⟩ = some (.int .i64 x.e.x.c.s) ∧ W2.cell? ⟨bn, on + 4, none⟩ = some (.bool x.e.x.c.dead) ∧ W2.cell? ⟨bn, on + 5, none⟩ = some (.bool x.live)) := Lib.hid fun W2 hw => by
            have h9 := hnr.keep (hw.block bn hnr.lt)
            exact ⟨h9.cell 0 _ rfl, h9.cell 1 _ rfl, h9.cell 2 _ rfl, h9.cell 3 _ rfl, h9.cell 4 _ rfl, h9.cell 5 _ rfl⟩
          have HC8 : Hid (∀ W2, Below wr.drew.heap.size wr.drew W2 → W2.cell? ⟨xb, 3, none⟩ = some (.slice (some ⟨bn, on, none⟩) m nc) ∧ W2.cell? ⟨bn, on, none⟩ = some (.int .i64 (x.e.t : Int)) ∧ W2.cell? ⟨bn, on + 1, none⟩ = some (.int .i64 x.e.x.k)) := Lib.hid fun W2 hw => by
            have hb2 : Below wr.heap.size wr W2 := (Below.refl _ _).drew.trans hw
            have h9 := (SwM.at (SwM.below HSI.out.1.sw hb2)).2.2.2.1
            rw [show (x :: NS).length = m from hm.symm] at h9
            exact ⟨h9, (HNX.out W2 hb2).1, (HNX.out W2 hb2).2.1⟩
          have HM : Hid (m = NS.length + 1 ∧ m ≤ nc ∧ 0 < m) := Lib.hid ⟨hm, by have h9 := hnr.le; simp at h9; omega, by omega⟩
          have hm0 : 0 < m := HM.out.2.2
          clear hm hno hnr
          cases L with
          | nil =>
            go_upto_region 8 with fail
            refine wp_region_noPanic ?_
            refine wp_region_abs 27 103 [
              .is (.pointer (some ⟨xb, 0, none⟩)),
              .is (.pointer (some ⟨xb, 0, none⟩)),
              .is (.pointer (some ⟨xb, 3, none⟩)),
              .is (.slice (some ⟨bn, on, none⟩) m nc),
              .is (.int .i64 (m : Int)),
              .is (.bool true),
              .is (.bool true),
              .is (.slice lA 0 lc),
              .is (.int .i64 0),
              .is (.bool true),
              .is (.bool true),
              .is undef,
              .is undef,
              .is undef,
              .is undef,
              .is undef,
              .is undef,
              .is undef,
              .is undef,
              .is undef,
              .is undef,
              .is undef,
              .is undef,
              .is undef,
              .is undef,
              .is (.bool true),
              .is (.bool true)]
              [30, 31, 32, 33, 34, 35, 36, 37, 38, 39, 40, 41, 42, 43, 44, 45, 46, 47, 48, 49, 50, 51, 52, 53, 54, 55, 56]
              [[], [0], [1], [2], [3], [4], [5], [6], [7, 6], [8, 6], [9, 6], [10], [11, 10], [12, 10], [13, 10], [10], [15, 10], [16, 10], [17, 10], [18, 10], [19, 10], [20, 10], [21, 10], [14, 22, 10], [23, 10], [10, 24, 6], [6, 25]] (by kernel_rfl) (by rfl) rfl rfl (by kernel_rfl) (fun _ _ _ _ h => h.elim) ?_ ?_
            · refine ⟨?_, ?_, ?_, ?_, ?_, ?_, ?_, ?_, ?_, ?_, ?_, ?_, ?_, ?_, ?_, ?_, ?_, ?_, ?_, ?_, ?_, ?_, ?_, ?_, ?_, ?_, ?_, trivial⟩
              · intro W2 hw K hK
                go_simp
                exact hK _ _ rfl (Below.refl _ _)
              · intro W2 hw K hK
                go_simp
                exact hK _ _ rfl (Below.refl _ _)
              · intro W2 hw K hK
                go_simp
                exact hK _ _ rfl (Below.refl _ _)
              · intro W2 hw K hK
                obtain ⟨s0, s1, s2⟩ := HC8.out W2 hw
                go_simp
                exact hK _ _ rfl (Below.refl _ _)
              · intro W2 hw K hK
                go_simp
                exact hK _ _ rfl (Below.refl _ _)
              · intro W2 hw K hK
                go_simp
                exact hK _ _ rfl (Below.refl _ _)
              · intro W2 hw K hK
                go_simp
                exact hK _ _ rfl (Below.refl _ _)
              · intro W2 hw K hK
                go_simp
                exact hK _ _ rfl (Below.refl _ _)
              · intro W2 hw K hK
                go_simp
                exact hK _ _ rfl (Below.refl _ _)
              · intro W2 hw K hK
                go_simp
                exact hK _ _ rfl (Below.refl _ _)
              · intro W2 hw K hK
                go_simp
                exact hK _ _ rfl (Below.refl _ _)
              · intro W2 hw K hK
                go_simp
                exact hK _ _ rfl (Below.refl _ _)
              · intro W2 hw K hK
                go_simp
                exact hK _ _ rfl (Below.refl _ _)
              · intro W2 hw K hK
                go_simp
                exact hK _ _ rfl (Below.refl _ _)
              · intro W2 hw K hK
                go_simp
                exact hK _ _ rfl (Below.refl _ _)
              · intro W2 hw K hK
                go_simp
                exact hK _ _ rfl (Below.refl _ _)
              · intro W2 hw K hK
                go_simp
                exact hK _ _ rfl (Below.refl _ _)
              · intro W2 hw K hK
                go_simp
                exact hK _ _ rfl (Below.refl _ _)
              · intro W2 hw K hK
                go_simp
                exact hK _ _ rfl (Below.refl _ _)
              · intro W2 hw K hK
                go_simp
                exact hK _ _ rfl (Below.refl _ _)
              · intro W2 hw K hK
                go_simp
                exact hK _ _ rfl (Below.refl _ _)
              · intro W2 hw K hK
                go_simp
                exact hK _ _ rfl (Below.refl _ _)
              · intro W2 hw K hK
                go_simp
                exact hK _ _ rfl (Below.refl _ _)
              · intro W2 hw K hK
                go_simp
                exact hK _ _ rfl (Below.refl _ _)
              · intro W2 hw K hK
                go_simp
                exact hK _ _ rfl (Below.refl _ _)
              · intro W2 hw K hK
                go_simp
                exact hK _ _ rfl (Below.refl _ _)
              · intro W2 hw K hK
                go_simp
                exact hK _ _ rfl (Below.refl _ _)
            · intro W2 hw2
              simp only [Behind]
              have hb2 := Lib.hid ((Below.refl _ wr).drew.trans hw2)
              clear hw2
              simp only [List.drop, Act.put, List.setIfInBounds_toArray, List.set_cons_zero, List.set_cons_succ]
              go_wp2_with fail
              refine NoPanic.normal ?_
              have HI2 := Lib.hid (HSI.out.1.below hb2.out)
              obtain ⟨p6, hp6⟩ : ∃ p6, p6 = W2.heap.size := ⟨_, rfl⟩
              obtain ⟨W9, hW9⟩ : ∃ W9, W9 = W2.alloc (.cells #[.int .i64 (x.e.t : Int), .int .i64 x.e.x.k, .int .i64 x.e.x.c.v, .int .i64 x.e.x.c.s, .bool x.e.x.c.dead, .bool x.live] 149) := ⟨_, rfl⟩
              have hb9 : Below W2.heap.size W2 W9 := by rw [hW9]; exact (Below.refl _ _).alloc (Nat.le_refl _) _
              have g6 : W9.heap[p6]? = some (.cells #[.int .i64 (x.e.t : Int), .int .i64 x.e.x.k, .int .i64 x.e.x.c.v, .int .i64 x.e.x.c.s, .bool x.e.x.c.dead, .bool x.live] 149 (0, 0)) := by rw [hW9, hp6]; exact heap_alloc_new W2 _
              obtain ⟨n0, n1, n2, n3, n4, n5⟩ := HNX.out W2 hb2.out
              have HI9 := Lib.hid (HI2.out.below hb9)
              have z3 : W9.cell? ⟨xb, 3, none⟩ = some (.slice (some ⟨bn, on, none⟩) m nc) := by have h9 := (SwM.at HI9.out.sw).2.2.2.1; rw [show (x :: NS).length = m from HM.out.1.symm] at h9; exact h9
              have w3 : W2.cell? ⟨xb, 3, none⟩ = some (.slice (some ⟨bn, on, none⟩) m nc) := by have h9 := (SwM.at HI2.out.sw).2.2.2.1; rw [show (x :: NS).length = m from HM.out.1.symm] at h9; exact h9
              have zf := frozen_of HI9.out.sw 3
              have hpx : xb ≠ p6 := by have := SwM.lt HI2.out.sw; omega
              have HW9 := Lib.hid (And.intro hW9 (And.intro hp6 (And.intro hb9 g6)))
              clear hW9 hp6 hb9 g6
              go_upto_region 10 with fail
              rw [← HW9.out.1, ← HW9.out.2.1]
              obtain ⟨nP, hnP⟩ : ∃ P : Option Addr, P = (if nc = 1 then some ⟨bn, on, none⟩ else some ⟨bn, on + 6, none⟩) := ⟨_, rfl⟩
              have HNP := Lib.hid hnP
              obtain ⟨W10, hW10⟩ : ∃ W10, W10 = W9.setCell ⟨xb, 3, none⟩ (.slice nP (m - 1) (nc - 1)) := ⟨_, rfl⟩
              have HI10 : Hid (StN P w W10 B xb so (.slice A9 T.length c9) ct ck nP (nc - 1) NS A8 c8 T8 lA []) := Lib.hid (by
                rw [hW10, hnP, show m - 1 = NS.length by have := HM.out.1; omega]
                exact HI9.out.cutN (by have := HM.out; omega))
              have g10 : W10.heap[p6]? = some (.cells #[.int .i64 (x.e.t : Int), .int .i64 x.e.x.k, .int .i64 x.e.x.c.v, .int .i64 x.e.x.c.s, .bool x.e.x.c.dead, .bool x.live] 149 (0, 0)) := by rw [hW10]; exact (heap_ne _ _ _ _ hpx.symm).trans HW9.out.2.2.2
              have HG10 := Lib.hid g10
              have HW10 := Lib.hid hW10
              have hncb : m ≤ nc := HM.out.2.1
              have hm1 : 1 ≤ m := by omega
              clear g10 hW10 hnP n0 n1 n2 n3 n4 n5 w3
              go_upto_region 11 with fail
              rw [← HNP.out, ← HW10.out]
              clear z3 zf
              refine wp_region_noPanic ?_
              refine wp_region_abs 12 103 [
                .is (.slice lA 0 lc),
                .is (.int .i64 0),
                .is (.bool false),
                .is (.bool false),
                .is undef,
                .is undef,
                .is undef,
                .is undef,
                .is undef,
                .is undef,
                .is undef,
                .is undef]
                [71, 72, 73, 74, 75, 76, 77, 78, 79, 80, 81, 82]
                [[], [0], [1], [2], [3], [4, 3], [5, 3], [6, 3], [3], [8, 3], [9, 3], [7, 10, 3]] (by kernel_rfl) (by rfl) rfl rfl (by kernel_rfl) (fun _ _ _ _ h => h.elim) ?_ ?_
              · refine ⟨?_, ?_, ?_, ?_, ?_, ?_, ?_, ?_, ?_, ?_, ?_, ?_, trivial⟩
                · intro W2 hw K hK
                  go_simp
                  exact hK _ _ rfl (Below.refl _ _)
                · intro W2 hw K hK
                  go_simp
                  exact hK _ _ rfl (Below.refl _ _)
                · intro W2 hw K hK
                  go_simp
                  exact hK _ _ rfl (Below.refl _ _)
                · intro W2 hw K hK
                  go_simp
                  exact hK _ _ rfl (Below.refl _ _)
                · intro W2 hw K hK
                  go_simp
                  exact hK _ _ rfl (Below.refl _ _)
                · intro W2 hw K hK
                  go_simp
                  exact hK _ _ rfl (Below.refl _ _)
                · intro W2 hw K hK
                  go_simp
                  exact hK _ _ rfl (Below.refl _ _)
                · intro W2 hw K hK
                  go_simp
                  exact hK _ _ rfl (Below.refl _ _)
                · intro W2 hw K hK
                  go_simp
                  exact hK _ _ rfl (Below.refl _ _)
                · intro W2 hw K hK
                  go_simp
                  exact hK _ _ rfl (Below.refl _ _)
                · intro W2 hw K hK
                  go_simp
                  exact hK _ _ rfl (Below.refl _ _)
                · intro W2 hw K hK
                  go_simp
                  exact hK _ _ rfl (Below.refl _ _)
              · intro W3 hw3
                simp only [Behind]
                have hb3 := Lib.hid ((Below.refl _ W10).drew.trans hw3)
                clear hw3
                simp only [List.drop, Act.put, List.setIfInBounds_toArray, List.set_cons_zero, List.set_cons_succ]
                go_wp2_with fail
                refine NoPanic.normal ?_
                have HI3 := Lib.hid (HI10.out.below hb3.out)
                have g3 := (hb3.out.block p6 (Array.getElem?_eq_some_iff.1 HG10.out).1).trans HG10.out
                have c0 : W3.cell? ⟨p6, 0, none⟩ = some (.int .i64 (x.e.t : Int)) := by rw [cell_of_row _ _ 0 _ _ _ g3]; rfl
                have c1 : W3.cell? ⟨p6, 1, none⟩ = some (.int .i64 x.e.x.k) := by rw [cell_of_row _ _ 1 _ _ _ g3]; rfl
                have c2 : W3.cell? ⟨p6, 2, none⟩ = some (.int .i64 x.e.x.c.v) := by rw [cell_of_row _ _ 2 _ _ _ g3]; rfl
                have c3 : W3.cell? ⟨p6, 3, none⟩ = some (.int .i64 x.e.x.c.s) := by rw [cell_of_row _ _ 3 _ _ _ g3]; rfl
                have c4 : W3.cell? ⟨p6, 4, none⟩ = some (.bool x.e.x.c.dead) := by rw [cell_of_row _ _ 4 _ _ _ g3]; rfl
                have c5 : W3.cell? ⟨p6, 5, none⟩ = some (.bool x.live) := by rw [cell_of_row _ _ 5 _ _ _ g3]; rfl
                have hxk := HSI.out.2.2.2.2.2 x (by simp)
                have HPA := Lib.hid (swpass_take HI3.out.sw HI3.out.lo HI3.out.own (by have := HSI.out.2.2.2.1.1; omega) x.e (by omega) hxk.2 x.live)
                unfold En.vals at HPA
                clear g3 hxk hpx
                go_wp2_with fail
                refine Calls.mono HPA.out ?_
                rintro e w3 ⟨rfl, tv', hs, ho, ht, hq⟩
                obtain ⟨A7, c7, rfl, hI⟩ := HI3.out.pass hs ho ht hq
                have HI4 := Lib.hid hI
                have HKB : Hid (wrap64 (k - 1) = k - 1 ∧ (k - 1).toNat = kk) := Lib.hid (by
                  have h1 := HSI.out.2.2.1
                  have h2 := HIN.out.2.2.2.2.2.2.2
                  have h3 := HK.out
                  refine ⟨?_, by omega⟩
                  unfold wrap64
                  omega)
                clear hs ho ht hq hI c0 c1 c2 c3 c4 c5
                go_wp2_with fail
                rw [HKB.out.1]
                refine ⟨⟨k - 1, _, _, _, _, NS, _, _, _, _, _, [], rfl, rfl, HI4.out, ?_, by have := HSI.out.2.2.1; omega, ⟨?_, by simp⟩, (fun z hz => by cases hz), fun z hz => HSI.out.2.2.2.2.2 z (by simp [hz])⟩, by have := HK.out.2; simp [intOf]; omega⟩
                · rw [HSI.out.2.1, HKB.out.2, HK.out.1]
                  rfl
                · have h9 := HSI.out.2.2.2.1.1
                  simp only [List.length_cons] at h9 ⊢
                  cases x.live <;> simp <;> omega
          | cons y L =>
            obtain ⟨q, hq⟩ : ∃ q, q = L.length + 1 := ⟨_, rfl⟩
            obtain ⟨bl, ol, hlA, hy⟩ := RowAt.head En.vlen HSI.out.1.live
            subst hlA
            have hy0 : wr.cell? ⟨bl, ol, none⟩ = some (.int .i64 (y.t : Int)) := hy 0 _ (by decide) rfl
            have hy1 : wr.cell? ⟨bl, ol + 1, none⟩ = some (.int .i64 y.x.k) := hy 1 _ (by decide) rfl
            have hy2 : wr.cell? ⟨bl, ol + 2, none⟩ = some (.int .i64 y.x.c.v) := hy 2 _ (by decide) rfl
            have hy3 : wr.cell? ⟨bl, ol + 3, none⟩ = some (.int .i64 y.x.c.s) := hy 3 _ (by decide) rfl
            have hy4 : wr.cell? ⟨bl, ol + 4, none⟩ = some (.bool y.x.c.dead) := hy 4 _ (by decide) rfl
            have HLH : Hid (∀ W2, Below wr.heap.size wr W2 → W2.cell? ⟨bl, ol, none⟩ = some (.int .i64 (y.t : Int)) ∧ W2.cell? ⟨bl, ol + 1, none⟩ = some (.int .i64 y.x.k) ∧ W2.cell? ⟨bl, ol + 2, none⟩ = some (.int .i64 y.x.c.v) ∧ W2.cell? ⟨bl, ol + 3, none⟩ = some (.int .i64 y.x.c.s) ∧ W2.cell? ⟨bl, ol + 4, none⟩ = some (.bool y.x.c.dead)) := Lib.hid fun W2 hw =>
              ⟨(hw.cell (World.block_lt_of_cell? _ _ hy0)).trans hy0, (hw.cell (World.block_lt_of_cell? _ _ hy1)).trans hy1, (hw.cell (World.block_lt_of_cell? _ _ hy2)).trans hy2, (hw.cell (World.block_lt_of_cell? _ _ hy3)).trans hy3, (hw.cell (World.block_lt_of_cell? _ _ hy4)).trans hy4⟩
            have HCL : Hid (∀ W2, Below wr.drew.heap.size wr.drew W2 → W2.cell? ⟨bl, ol, none⟩ = some (.int .i64 (y.t : Int)) ∧ W2.cell? ⟨bl, ol + 1, none⟩ = some (.int .i64 y.x.k)) := Lib.hid fun W2 hw => ⟨(HLH.out W2 ((Below.refl _ _).drew.trans hw)).1, (HLH.out W2 ((Below.refl _ _).drew.trans hw)).2.1⟩
            have HQ : Hid (q = L.length + 1 ∧ 0 < q ∧ q ≤ lc) := Lib.hid ⟨hq, by omega, by have h9 := HSI.out.2.2.2.1.2; simp at h9; omega⟩
            have hq0 : 0 < q := HQ.out.2.1
            have hq1 : ((q : Int) == 0) = false := by rw [beq_eq_false_iff_ne]; omega
            have heqq : (y :: L).length = q := hq.symm
            rw [heqq]
            clear hq hy hy0 hy1 hy2 hy3 hy4 heqq
            go_upto_region 8 with fail
            refine wp_region_noPanic ?_
            refine wp_region_abs 27 103 [
              .is (.pointer (some ⟨xb, 0, none⟩)),
              .is (.pointer (some ⟨xb, 0, none⟩)),
              .is (.pointer (some ⟨xb, 3, none⟩)),
              .is (.slice (some ⟨bn, on, none⟩) m nc),
              .is (.int .i64 (m : Int)),
              .is (.bool true),
              .is (.bool true),
              .is (.slice (some ⟨bl, ol, none⟩) q lc),
              .is (.int .i64 (q : Int)),
              .is (.bool false),
              .is (.bool false),
              .is (.slice (some ⟨bl, ol, none⟩) q lc),
              .is (.pointer (some ⟨bl, ol, none⟩)),
              .is (.pointer (some ⟨bl, ol, none⟩)),
              .is (.agg #[.int .i64 (y.t : Int), .int .i64 y.x.k]),
              .is (.pointer (some ⟨xb, 0, none⟩)),
              .is (.pointer (some ⟨xb, 0, none⟩)),
              .is (.pointer (some ⟨xb, 3, none⟩)),
              .is (.slice (some ⟨bn, on, none⟩) m nc),
              .is (.pointer (some ⟨bn, on, none⟩)),
              .is (.pointer (some ⟨bn, on, none⟩)),
              .is (.pointer (some ⟨bn, on, none⟩)),
              .is (.agg #[.int .i64 (x.e.t : Int), .int .i64 x.e.x.k]),
              .is (.bool (lessK (y.t : Int) y.x.k (x.e.t : Int) x.e.x.k)),
              .is (.bool (!lessK (y.t : Int) y.x.k (x.e.t : Int) x.e.x.k)),
              .is (.bool (!lessK (y.t : Int) y.x.k (x.e.t : Int) x.e.x.k)),
              .is (.bool (!lessK (y.t : Int) y.x.k (x.e.t : Int) x.e.x.k))]
              [30, 31, 32, 33, 34, 35, 36, 37, 38, 39, 40, 41, 42, 43, 44, 45, 46, 47, 48, 49, 50, 51, 52, 53, 54, 55, 56]
              [[], [0], [1], [2], [3], [4], [5], [6], [7, 6], [8, 6], [9, 6], [10], [11, 10], [12, 10], [13, 10], [10], [15, 10], [16, 10], [17, 10], [18, 10], [19, 10], [20, 10], [21, 10], [14, 22, 10], [23, 10], [10, 24, 6], [6, 25]] (by kernel_rfl) (by rfl) rfl rfl (by kernel_rfl) (fun _ _ _ _ h => h.elim) ?_ ?_
            · refine ⟨?_, ?_, ?_, ?_, ?_, ?_, ?_, ?_, ?_, ?_, ?_, ?_, ?_, ?_, ?_, ?_, ?_, ?_, ?_, ?_, ?_, ?_, ?_, ?_, ?_, ?_, ?_, trivial⟩
              · intro W2 hw K hK
                go_simp
                exact hK _ _ rfl (Below.refl _ _)
              · intro W2 hw K hK
                go_simp
                exact hK _ _ rfl (Below.refl _ _)
              · intro W2 hw K hK
                go_simp
                exact hK _ _ rfl (Below.refl _ _)
              · intro W2 hw K hK
                obtain ⟨s0, s1, s2⟩ := HC8.out W2 hw
                go_simp
                exact hK _ _ rfl (Below.refl _ _)
              · intro W2 hw K hK
                go_simp
                exact hK _ _ rfl (Below.refl _ _)
              · intro W2 hw K hK
                go_simp
                exact hK _ _ rfl (Below.refl _ _)
              · intro W2 hw K hK
                go_simp
                exact hK _ _ rfl (Below.refl _ _)
              · intro W2 hw K hK
                go_simp
                exact hK _ _ rfl (Below.refl _ _)
              · intro W2 hw K hK
                go_simp
                exact hK _ _ rfl (Below.refl _ _)
              · intro W2 hw K hK
                go_simp
                exact hK _ _ rfl (Below.refl _ _)
              · intro W2 hw K hK
                go_simp
                exact hK _ _ rfl (Below.refl _ _)
              · intro W2 hw K hK
                go_simp
                exact hK _ _ rfl (Below.refl _ _)
              · intro W2 hw K hK
                go_simp
                exact hK _ _ rfl (Below.refl _ _)
              · intro W2 hw K hK
                go_simp
                exact hK _ _ rfl (Below.refl _ _)
              · intro W2 hw K hK
                obtain ⟨s0, s1⟩ := HCL.out W2 hw
                go_simp
                exact hK _ _ rfl (Below.refl _ _)
              · intro W2 hw K hK
                go_simp
                exact hK _ _ rfl (Below.refl _ _)
              · intro W2 hw K hK
                go_simp
                exact hK _ _ rfl (Below.refl _ _)
              · intro W2 hw K hK
                go_simp
                exact hK _ _ rfl (Below.refl _ _)
              · intro W2 hw K hK
                obtain ⟨s0, s1, s2⟩ := HC8.out W2 hw
                go_simp
                exact hK _ _ rfl (Below.refl _ _)
              · intro W2 hw K hK
                go_simp
                exact hK _ _ rfl (Below.refl _ _)
              · intro W2 hw K hK
                go_simp
                exact hK _ _ rfl (Below.refl _ _)
              · intro W2 hw K hK
                go_simp
                exact hK _ _ rfl (Below.refl _ _)
              · intro W2 hw K hK
                obtain ⟨s0, s1, s2⟩ := HC8.out W2 hw
                go_simp
                exact hK _ _ rfl (Below.refl _ _)
              · intro W2 hw K hK
                go_simp
                refine Calls.mono (flass_any W2 _ _ _ _) ?_
                rintro e9 w9 ⟨rfl, hb9⟩
                exact hK _ _ rfl hb9
              · intro W2 hw K hK
                go_simp
                exact hK _ _ rfl (Below.refl _ _)
              · intro W2 hw K hK
                go_simp
                exact hK _ _ rfl (Below.refl _ _)
              · intro W2 hw K hK
                go_simp
                exact hK _ _ rfl (Below.refl _ _)
            · intro W2 hw2
              simp only [Behind]
              have hb2 := Lib.hid ((Below.refl _ wr).drew.trans hw2)
              clear hw2
              simp only [List.drop, Act.put, List.setIfInBounds_toArray, List.set_cons_zero, List.set_cons_succ]
              go_wp2_with fail
              refine NoPanic.normal ?_
              cases hless : lessK (y.t : Int) y.x.k (x.e.t : Int) x.e.x.k with
              | true =>
                have HST : Hid (stepS (kk + 1) (y :: L) (x :: NS) T8 ct ck = stepS kk L (x :: NS) (T8 ++ [y]) (bhT y.t y.x.k) (bhK y.x.k)) := Lib.hid (by
                  show (if lessK (y.t : Int) y.x.k (x.e.t : Int) x.e.x.k then _ else _) = _
                  rw [if_pos hless])
                clear hless
                have hy := HLH.out W2 hb2.out
                have x0 : W2.cell? ⟨bl, ol, none⟩ = some (.int .i64 (y.t : Int)) := hy.1
                have x1 : W2.cell? ⟨bl, ol + 1, none⟩ = some (.int .i64 y.x.k) := hy.2.1
                have x2 : W2.cell? ⟨bl, ol + 2, none⟩ = some (.int .i64 y.x.c.v) := hy.2.2.1
                have x3 : W2.cell? ⟨bl, ol + 3, none⟩ = some (.int .i64 y.x.c.s) := hy.2.2.2.1
                have x4 : W2.cell? ⟨bl, ol + 4, none⟩ = some (.bool y.x.c.dead) := hy.2.2.2.2
                have HI2 := Lib.hid (HSI.out.1.below hb2.out)
                have hyk := HSI.out.2.2.2.2.1 y (by simp)
                have HPA := Lib.hid (swpass_take HI2.out.sw HI2.out.lo HI2.out.own (by have := HSI.out.2.2.2.1.1; omega) y (by omega) hyk.2 true)
                clear hy hyk
                go_wp2_with fail
                refine Calls.mono HPA.out ?_
                rintro e w3 ⟨rfl, tv', hs, ho, ht, hq⟩
                rw [if_pos trivial] at ho
                obtain ⟨A7, c7, rfl, hI⟩ := HI2.out.pass hs ho ht hq
                have hml : q ≤ lc := HQ.out.2.2
                have HI3 := Lib.hid (hI.cutL (lc := lc) (by have := HQ.out.1; omega))
                have HKB : Hid (wrap64 (k - 1) = k - 1 ∧ (k - 1).toNat = kk) := Lib.hid (by
                  have h1 := HSI.out.2.2.1
                  have h2 := HIN.out.2.2.2.2.2.2.2
                  have h3 := HK.out
                  refine ⟨?_, by omega⟩
                  unfold wrap64
                  omega)
                clear hs ho ht hq hI x0 x1 x2 x3 x4
                go_wp2_with fail
                rw [HKB.out.1]
                refine ⟨⟨k - 1, _, _, _, _, _, _, _, _, _, _, L, rfl, by rw [show q - 1 = L.length by have := HQ.out.1; omega], HI3.out, ?_, by have := HSI.out.2.2.1; omega, ⟨?_, by have := HQ.out.1; omega⟩, fun z hz => HSI.out.2.2.2.2.1 z (by simp [hz]), HSI.out.2.2.2.2.2⟩, by have := HK.out.2; simp [intOf]; omega⟩
                · rw [HSI.out.2.1, HKB.out.2, HK.out.1]
                  exact HST.out
                · have h9 := HSI.out.2.2.2.1.1
                  simp only [List.length_append, List.length_cons, List.length_nil] at h9 ⊢
                  omega
              | false =>
                obtain ⟨eqv, heqv⟩ : ∃ v, v = (decide ((y.t : Int) = (x.e.t : Int)) && decide (y.x.k = x.e.x.k)) := ⟨_, rfl⟩
                have HST : Hid (stepS (kk + 1) (y :: L) (x :: NS) T8 ct ck = stepS kk (if eqv then L else y :: L) NS (passT T8 x.e x.live) (bhT x.e.t x.e.x.k) (bhK x.e.x.k)) := Lib.hid (by
                  show (if lessK (y.t : Int) y.x.k (x.e.t : Int) x.e.x.k then _ else _) = _
                  rw [if_neg (by rw [hless]; decide), heqv]
                  rfl)
                have heq := fun W => eql_keyK W (y.t : Int) y.x.k (x.e.t : Int) x.e.x.k
                rw [← heqv] at heq
                have HEQ := Lib.hid heq
                clear hless heqv heq
                cases eqv with
                | false =>
                  have HI2 := Lib.hid (HSI.out.1.below hb2.out)
                  obtain ⟨p6, hp6⟩ : ∃ p6, p6 = W2.heap.size := ⟨_, rfl⟩
                  obtain ⟨W9, hW9⟩ : ∃ W9, W9 = W2.alloc (.cells #[.int .i64 (x.e.t : Int), .int .i64 x.e.x.k, .int .i64 x.e.x.c.v, .int .i64 x.e.x.c.s, .bool x.e.x.c.dead, .bool x.live] 149) := ⟨_, rfl⟩
                  have hb9 : Below W2.heap.size W2 W9 := by rw [hW9]; exact (Below.refl _ _).alloc (Nat.le_refl _) _
                  have g6 : W9.heap[p6]? = some (.cells #[.int .i64 (x.e.t : Int), .int .i64 x.e.x.k, .int .i64 x.e.x.c.v, .int .i64 x.e.x.c.s, .bool x.e.x.c.dead, .bool x.live] 149 (0, 0)) := by rw [hW9, hp6]; exact heap_alloc_new W2 _
                  obtain ⟨n0, n1, n2, n3, n4, n5⟩ := HNX.out W2 hb2.out
                  have HI9 := Lib.hid (HI2.out.below hb9)
                  have z3 : W9.cell? ⟨xb, 3, none⟩ = some (.slice (some ⟨bn, on, none⟩) m nc) := by have h9 := (SwM.at HI9.out.sw).2.2.2.1; rw [show (x :: NS).length = m from HM.out.1.symm] at h9; exact h9
                  have w3 : W2.cell? ⟨xb, 3, none⟩ = some (.slice (some ⟨bn, on, none⟩) m nc) := by have h9 := (SwM.at HI2.out.sw).2.2.2.1; rw [show (x :: NS).length = m from HM.out.1.symm] at h9; exact h9
                  have zf := frozen_of HI9.out.sw 3
                  have hpx : xb ≠ p6 := by have := SwM.lt HI2.out.sw; omega
                  have HW9 := Lib.hid (And.intro hW9 (And.intro hp6 (And.intro hb9 g6)))
                  clear hW9 hp6 hb9 g6
                  go_upto_region 10 with fail
                  rw [← HW9.out.1, ← HW9.out.2.1]
                  obtain ⟨nP, hnP⟩ : ∃ P : Option Addr, P = (if nc = 1 then some ⟨bn, on, none⟩ else some ⟨bn, on + 6, none⟩) := ⟨_, rfl⟩
                  have HNP := Lib.hid hnP
                  obtain ⟨W10, hW10⟩ : ∃ W10, W10 = W9.setCell ⟨xb, 3, none⟩ (.slice nP (m - 1) (nc - 1)) := ⟨_, rfl⟩
                  have HI10 : Hid (StN P w W10 B xb so (.slice A9 T.length c9) ct ck nP (nc - 1) NS A8 c8 T8 (some ⟨bl, ol, none⟩) (y :: L)) := Lib.hid (by
                    rw [hW10, hnP, show m - 1 = NS.length by have := HM.out.1; omega]
                    exact HI9.out.cutN (by have := HM.out; omega))
                  have g10 : W10.heap[p6]? = some (.cells #[.int .i64 (x.e.t : Int), .int .i64 x.e.x.k, .int .i64 x.e.x.c.v, .int .i64 x.e.x.c.s, .bool x.e.x.c.dead, .bool x.live] 149 (0, 0)) := by rw [hW10]; exact (heap_ne _ _ _ _ hpx.symm).trans HW9.out.2.2.2
                  have HG10 := Lib.hid g10
                  have HW10 := Lib.hid hW10
                  have hncb : m ≤ nc := HM.out.2.1
                  have hm1 : 1 ≤ m := by omega
                  clear g10 hW10 hnP n0 n1 n2 n3 n4 n5 w3
                  go_upto_region 11 with fail
                  rw [← HNP.out, ← HW10.out]
                  clear z3 zf
                  have HC11 : Hid (∀ W2', Below W10.drew.heap.size W10.drew W2' → W2'.cell? ⟨bl, ol, none⟩ = some (.int .i64 (y.t : Int)) ∧ W2'.cell? ⟨bl, ol + 1, none⟩ = some (.int .i64 y.x.k) ∧ W2'.cell? ⟨p6, 0, none⟩ = some (.int .i64 (x.e.t : Int)) ∧ W2'.cell? ⟨p6, 1, none⟩ = some (.int .i64 x.e.x.k)) := Lib.hid fun W2' hw => by
                    have hbb : Below W10.heap.size W10 W2' := (Below.refl _ _).drew.trans hw
                    have h6 := (hbb.block p6 (Array.getElem?_eq_some_iff.1 HG10.out).1).trans HG10.out
                    have h7 := RowAt.below HI10.out.live hbb
                    obtain ⟨b7, o7, e7, h8⟩ := RowAt.head En.vlen h7
                    injection e7 with e7
                    injection e7 with e7 e8 _
                    subst e7 e8
                    exact ⟨h8 0 _ (by decide) rfl, h8 1 _ (by decide) rfl, by rw [cell_of_row _ _ 0 _ _ _ h6]; rfl, by rw [cell_of_row _ _ 1 _ _ _ h6]; rfl⟩
                  refine wp_region_noPanic ?_
                  refine wp_region_abs 12 103 [
                    .is (.slice (some ⟨bl, ol, none⟩) q lc),
                    .is (.int .i64 (q : Int)),
                    .is (.bool true),
                    .is (.bool true),
                    .is (.slice (some ⟨bl, ol, none⟩) q lc),
                    .is (.pointer (some ⟨bl, ol, none⟩)),
                    .is (.pointer (some ⟨bl, ol, none⟩)),
                    .is (.agg #[.int .i64 (y.t : Int), .int .i64 y.x.k]),
                    .is (.pointer (some ⟨p6, 0, none⟩)),
                    .is (.pointer (some ⟨p6, 0, none⟩)),
                    .is (.agg #[.int .i64 (x.e.t : Int), .int .i64 x.e.x.k]),
                    .is (.bool false)]
                    [71, 72, 73, 74, 75, 76, 77, 78, 79, 80, 81, 82]
                    [[], [0], [1], [2], [3], [4, 3], [5, 3], [6, 3], [3], [8, 3], [9, 3], [7, 10, 3]] (by kernel_rfl) (by rfl) rfl rfl (by kernel_rfl) (fun _ _ _ _ h => h.elim) ?_ ?_
                  · refine ⟨?_, ?_, ?_, ?_, ?_, ?_, ?_, ?_, ?_, ?_, ?_, ?_, trivial⟩
                    · intro W2 hw K hK
                      go_simp
                      exact hK _ _ rfl (Below.refl _ _)
                    · intro W2 hw K hK
                      go_simp
                      exact hK _ _ rfl (Below.refl _ _)
                    · intro W2 hw K hK
                      go_simp
                      exact hK _ _ rfl (Below.refl _ _)
                    · intro W2 hw K hK
                      go_simp
                      exact hK _ _ rfl (Below.refl _ _)
                    · intro W2 hw K hK
                      go_simp
                      exact hK _ _ rfl (Below.refl _ _)
                    · intro W2 hw K hK
                      go_simp
                      exact hK _ _ rfl (Below.refl _ _)
                    · intro W2 hw K hK
                      go_simp
                      exact hK _ _ rfl (Below.refl _ _)
                    · intro W2 hw K hK
                      obtain ⟨s0, s1, s2, s3⟩ := HC11.out W2 hw
                      go_simp
                      exact hK _ _ rfl (Below.refl _ _)
                    · intro W2 hw K hK
                      go_simp
                      exact hK _ _ rfl (Below.refl _ _)
                    · intro W2 hw K hK
                      go_simp
                      exact hK _ _ rfl (Below.refl _ _)
                    · intro W2 hw K hK
                      obtain ⟨s0, s1, s2, s3⟩ := HC11.out W2 hw
                      go_simp
                      exact hK _ _ rfl (Below.refl _ _)
                    · intro W2 hw K hK
                      have heq := HEQ.out
                      go_simp
                      exact hK _ _ rfl (Below.refl _ _)
                  · intro W3 hw3
                    simp only [Behind]
                    have hb3 := Lib.hid ((Below.refl _ W10).drew.trans hw3)
                    clear hw3
                    simp only [List.drop, Act.put, List.setIfInBounds_toArray, List.set_cons_zero, List.set_cons_succ]
                    go_wp2_with fail
                    refine NoPanic.normal ?_
                    have HI3 := Lib.hid (HI10.out.below hb3.out)
                    have g3 := (hb3.out.block p6 (Array.getElem?_eq_some_iff.1 HG10.out).1).trans HG10.out
                    have c0 : W3.cell? ⟨p6, 0, none⟩ = some (.int .i64 (x.e.t : Int)) := by rw [cell_of_row _ _ 0 _ _ _ g3]; rfl
                    have c1 : W3.cell? ⟨p6, 1, none⟩ = some (.int .i64 x.e.x.k) := by rw [cell_of_row _ _ 1 _ _ _ g3]; rfl
                    have c2 : W3.cell? ⟨p6, 2, none⟩ = some (.int .i64 x.e.x.c.v) := by rw [cell_of_row _ _ 2 _ _ _ g3]; rfl
                    have c3 : W3.cell? ⟨p6, 3, none⟩ = some (.int .i64 x.e.x.c.s) := by rw [cell_of_row _ _ 3 _ _ _ g3]; rfl
                    have c4 : W3.cell? ⟨p6, 4, none⟩ = some (.bool x.e.x.c.dead) := by rw [cell_of_row _ _ 4 _ _ _ g3]; rfl
                    have c5 : W3.cell? ⟨p6, 5, none⟩ = some (.bool x.live) := by rw [cell_of_row _ _ 5 _ _ _ g3]; rfl
                    have hxk := HSI.out.2.2.2.2.2 x (by simp)
                    have HPA := Lib.hid (swpass_take HI3.out.sw HI3.out.lo HI3.out.own (by have := HSI.out.2.2.2.1.1; omega) x.e (by omega) hxk.2 x.live)
                    unfold En.vals at HPA
                    clear g3 hxk hpx
                    go_wp2_with fail
                    refine Calls.mono HPA.out ?_
                    rintro e w3 ⟨rfl, tv', hs, ho, ht, hq⟩
                    obtain ⟨A7, c7, rfl, hI⟩ := HI3.out.pass hs ho ht hq
                    have HI4 := Lib.hid hI
                    have HKB : Hid (wrap64 (k - 1) = k - 1 ∧ (k - 1).toNat = kk) := Lib.hid (by
                      have h1 := HSI.out.2.2.1
                      have h2 := HIN.out.2.2.2.2.2.2.2
                      have h3 := HK.out
                      refine ⟨?_, by omega⟩
                      unfold wrap64
                      omega)
                    clear hs ho ht hq hI c0 c1 c2 c3 c4 c5
                    go_wp2_with fail
                    rw [HKB.out.1]
                    refine ⟨⟨k - 1, _, _, _, _, NS, _, _, _, _, _, (y :: L), rfl, by rw [show (y :: L).length = q from HQ.out.1.symm], HI4.out, ?_, by have := HSI.out.2.2.1; omega, ⟨?_, HSI.out.2.2.2.1.2⟩, HSI.out.2.2.2.2.1, fun z hz => HSI.out.2.2.2.2.2 z (by simp [hz])⟩, by have := HK.out.2; simp [intOf]; omega⟩
                    · rw [HSI.out.2.1, HKB.out.2, HK.out.1]
                      exact HST.out
                    · have h9 := HSI.out.2.2.2.1.1
                      simp only [List.length_cons] at h9 ⊢
                      cases x.live <;> simp <;> omega
                | true =>
                  have HI2 := Lib.hid (HSI.out.1.below hb2.out)
                  obtain ⟨p6, hp6⟩ : ∃ p6, p6 = W2.heap.size := ⟨_, rfl⟩
                  obtain ⟨W9, hW9⟩ : ∃ W9, W9 = W2.alloc (.cells #[.int .i64 (x.e.t : Int), .int .i64 x.e.x.k, .int .i64 x.e.x.c.v, .int .i64 x.e.x.c.s, .bool x.e.x.c.dead, .bool x.live] 149) := ⟨_, rfl⟩
                  have hb9 : Below W2.heap.size W2 W9 := by rw [hW9]; exact (Below.refl _ _).alloc (Nat.le_refl _) _
                  have g6 : W9.heap[p6]? = some (.cells #[.int .i64 (x.e.t : Int), .int .i64 x.e.x.k, .int .i64 x.e.x.c.v, .int .i64 x.e.x.c.s, .bool x.e.x.c.dead, .bool x.live] 149 (0, 0)) := by rw [hW9, hp6]; exact heap_alloc_new W2 _
                  obtain ⟨n0, n1, n2, n3, n4, n5⟩ := HNX.out W2 hb2.out
                  have HI9 := Lib.hid (HI2.out.below hb9)
                  have z3 : W9.cell? ⟨xb, 3, none⟩ = some (.slice (some ⟨bn, on, none⟩) m nc) := by have h9 := (SwM.at HI9.out.sw).2.2.2.1; rw [show (x :: NS).length = m from HM.out.1.symm] at h9; exact h9
                  have w3 : W2.cell? ⟨xb, 3, none⟩ = some (.slice (some ⟨bn, on, none⟩) m nc) := by have h9 := (SwM.at HI2.out.sw).2.2.2.1; rw [show (x :: NS).length = m from HM.out.1.symm] at h9; exact h9
                  have zf := frozen_of HI9.out.sw 3
                  have hpx : xb ≠ p6 := by have := SwM.lt HI2.out.sw; omega
                  have HW9 := Lib.hid (And.intro hW9 (And.intro hp6 (And.intro hb9 g6)))
                  clear hW9 hp6 hb9 g6
                  go_upto_region 10 with fail
                  rw [← HW9.out.1, ← HW9.out.2.1]
                  obtain ⟨nP, hnP⟩ : ∃ P : Option Addr, P = (if nc = 1 then some ⟨bn, on, none⟩ else some ⟨bn, on + 6, none⟩) := ⟨_, rfl⟩
                  have HNP := Lib.hid hnP
                  obtain ⟨W10, hW10⟩ : ∃ W10, W10 = W9.setCell ⟨xb, 3, none⟩ (.slice nP (m - 1) (nc - 1)) := ⟨_, rfl⟩
                  have HI10 : Hid (StN P w W10 B xb so (.slice A9 T.length c9) ct ck nP (nc - 1) NS A8 c8 T8 (some ⟨bl, ol, none⟩) (y :: L)) := Lib.hid (by
                    rw [hW10, hnP, show m - 1 = NS.length by have := HM.out.1; omega]
                    exact HI9.out.cutN (by have := HM.out; omega))
                  have g10 : W10.heap[p6]? = some (.cells #[.int .i64 (x.e.t : Int), .int .i64 x.e.x.k, .int .i64 x.e.x.c.v, .int .i64 x.e.x.c.s, .bool x.e.x.c.dead, .bool x.live] 149 (0, 0)) := by rw [hW10]; exact (heap_ne _ _ _ _ hpx.symm).trans HW9.out.2.2.2
                  have HG10 := Lib.hid g10
                  have HW10 := Lib.hid hW10
                  have hncb : m ≤ nc := HM.out.2.1
                  have hm1 : 1 ≤ m := by omega
                  clear g10 hW10 hnP n0 n1 n2 n3 n4 n5 w3
                  go_upto_region 11 with fail
                  rw [← HNP.out, ← HW10.out]
                  clear z3 zf
                  have HC11 : Hid (∀ W2', Below W10.drew.heap.size W10.drew W2' → W2'.cell? ⟨bl, ol, none⟩ = some (.int .i64 (y.t : Int)) ∧ W2'.cell? ⟨bl, ol + 1, none⟩ = some (.int .i64 y.x.k) ∧ W2'.cell? ⟨p6, 0, none⟩ = some (.int .i64 (x.e.t : Int)) ∧ W2'.cell? ⟨p6, 1, none⟩ = some (.int .i64 x.e.x.k)) := Lib.hid fun W2' hw => by
                    have hbb : Below W10.heap.size W10 W2' := (Below.refl _ _).drew.trans hw
                    have h6 := (hbb.block p6 (Array.getElem?_eq_some_iff.1 HG10.out).1).trans HG10.out
                    have h7 := RowAt.below HI10.out.live hbb
                    obtain ⟨b7, o7, e7, h8⟩ := RowAt.head En.vlen h7
                    injection e7 with e7
                    injection e7 with e7 e8 _
                    subst e7 e8
                    exact ⟨h8 0 _ (by decide) rfl, h8 1 _ (by decide) rfl, by rw [cell_of_row _ _ 0 _ _ _ h6]; rfl, by rw [cell_of_row _ _ 1 _ _ _ h6]; rfl⟩
                  refine wp_region_noPanic ?_
                  refine wp_region_abs 12 103 [
                    .is (.slice (some ⟨bl, ol, none⟩) q lc),
                    .is (.int .i64 (q : Int)),
                    .is (.bool true),
                    .is (.bool true),
                    .is (.slice (some ⟨bl, ol, none⟩) q lc),
                    .is (.pointer (some ⟨bl, ol, none⟩)),
                    .is (.pointer (some ⟨bl, ol, none⟩)),
                    .is (.agg #[.int .i64 (y.t : Int), .int .i64 y.x.k]),
                    .is (.pointer (some ⟨p6, 0, none⟩)),
                    .is (.pointer (some ⟨p6, 0, none⟩)),
                    .is (.agg #[.int .i64 (x.e.t : Int), .int .i64 x.e.x.k]),
                    .is (.bool true)]
                    [71, 72, 73, 74, 75, 76, 77, 78, 79, 80, 81, 82]
                    [[], [0], [1], [2], [3], [4, 3], [5, 3], [6, 3], [3], [8, 3], [9, 3], [7, 10, 3]] (by kernel_rfl) (by rfl) rfl rfl (by kernel_rfl) (fun _ _ _ _ h => h.elim) ?_ ?_
                  · refine ⟨?_, ?_, ?_, ?_, ?_, ?_, ?_, ?_, ?_, ?_, ?_, ?_, trivial⟩
                    · intro W2 hw K hK
                      go_simp
                      exact hK _ _ rfl (Below.refl _ _)
                    · intro W2 hw K hK
                      go_simp
                      exact hK _ _ rfl (Below.refl _ _)
                    · intro W2 hw K hK
                      go_simp
                      exact hK _ _ rfl (Below.refl _ _)
                    · intro W2 hw K hK
                      go_simp
                      exact hK _ _ rfl (Below.refl _ _)
                    · intro W2 hw K hK
                      go_simp
                      exact hK _ _ rfl (Below.refl _ _)
                    · intro W2 hw K hK
                      go_simp
                      exact hK _ _ rfl (Below.refl _ _)
                    · intro W2 hw K hK
                      go_simp
                      exact hK _ _ rfl (Below.refl _ _)
                    · intro W2 hw K hK
                      obtain ⟨s0, s1, s2, s3⟩ := HC11.out W2 hw
                      go_simp
                      exact hK _ _ rfl (Below.refl _ _)
                    · intro W2 hw K hK
                      go_simp
                      exact hK _ _ rfl (Below.refl _ _)
                    · intro W2 hw K hK
                      go_simp
                      exact hK _ _ rfl (Below.refl _ _)
                    · intro W2 hw K hK
                      obtain ⟨s0, s1, s2, s3⟩ := HC11.out W2 hw
                      go_simp
                      exact hK _ _ rfl (Below.refl _ _)
                    · intro W2 hw K hK
                      have heq := HEQ.out
                      go_simp
                      exact hK _ _ rfl (Below.refl _ _)
                  · intro W3 hw3
                    simp only [Behind]
                    have hb3 := Lib.hid ((Below.refl _ W10).drew.trans hw3)
                    clear hw3
                    simp only [List.drop, Act.put, List.setIfInBounds_toArray, List.set_cons_zero, List.set_cons_succ]
                    go_wp2_with fail
                    refine NoPanic.normal ?_
                    have HI3 := Lib.hid (HI10.out.below hb3.out)
                    have g3 := (hb3.out.block p6 (Array.getElem?_eq_some_iff.1 HG10.out).1).trans HG10.out
                    have c0 : W3.cell? ⟨p6, 0, none⟩ = some (.int .i64 (x.e.t : Int)) := by rw [cell_of_row _ _ 0 _ _ _ g3]; rfl
                    have c1 : W3.cell? ⟨p6, 1, none⟩ = some (.int .i64 x.e.x.k) := by rw [cell_of_row _ _ 1 _ _ _ g3]; rfl
                    have c2 : W3.cell? ⟨p6, 2, none⟩ = some (.int .i64 x.e.x.c.v) := by rw [cell_of_row _ _ 2 _ _ _ g3]; rfl
                    have c3 : W3.cell? ⟨p6, 3, none⟩ = some (.int .i64 x.e.x.c.s) := by rw [cell_of_row _ _ 3 _ _ _ g3]; rfl
                    have c4 : W3.cell? ⟨p6, 4, none⟩ = some (.bool x.e.x.c.dead) := by rw [cell_of_row _ _ 4 _ _ _ g3]; rfl
                    have c5 : W3.cell? ⟨p6, 5, none⟩ = some (.bool x.live) := by rw [cell_of_row _ _ 5 _ _ _ g3]; rfl
                    have hxk := HSI.out.2.2.2.2.2 x (by simp)
                    have HPA := Lib.hid (swpass_take HI3.out.sw HI3.out.lo HI3.out.own (by have := HSI.out.2.2.2.1.1; omega) x.e (by omega) hxk.2 x.live)
                    unfold En.vals at HPA
                    clear g3 hxk hpx
                    have hq0 : 0 < q := HQ.out.2.1
                    obtain ⟨lP, hlP⟩ : ∃ P : Option Addr, P = (if lc = 1 then some ⟨bl, ol, none⟩ else some ⟨bl, ol + 5, none⟩) := ⟨_, rfl⟩
                    have HLP := Lib.hid hlP
                    clear hlP
                    go_upto_region 13 with fail
                    rw [← HLP.out]
                    go_wp2_with fail
                    refine Calls.mono HPA.out ?_
                    rintro e w3 ⟨rfl, tv', hs, ho, ht, hq⟩
                    obtain ⟨A7, c7, rfl, hI⟩ := HI3.out.pass hs ho ht hq
                    have hI5 := hI.cutL (lc := lc) (by have := HQ.out; omega)
                    rw [← HLP.out] at hI5
                    have HI4 := Lib.hid hI5
                    clear hI5
                    have HKB : Hid (wrap64 (k - 1) = k - 1 ∧ (k - 1).toNat = kk) := Lib.hid (by
                      have h1 := HSI.out.2.2.1
                      have h2 := HIN.out.2.2.2.2.2.2.2
                      have h3 := HK.out
                      refine ⟨?_, by omega⟩
                      unfold wrap64
                      omega)
                    clear hs ho ht hq hI c0 c1 c2 c3 c4 c5
                    go_wp2_with fail
                    rw [HKB.out.1]
                    refine ⟨⟨k - 1, _, _, _, _, NS, _, _, _, _, _, L, rfl, by rw [show q - 1 = L.length by have := HQ.out; omega], HI4.out, ?_, by have := HSI.out.2.2.1; omega, ⟨?_, by have := HQ.out; omega⟩, fun z hz => HSI.out.2.2.2.2.1 z (by simp [hz]), fun z hz => HSI.out.2.2.2.2.2 z (by simp [hz])⟩, by have := HK.out.2; simp [intOf]; omega⟩
                    · rw [HSI.out.2.1, HKB.out.2, HK.out.1]
                      exact HST.out
                    · have h9 := HSI.out.2.2.2.1.1
                      simp only [List.length_cons] at h9 ⊢
                      cases x.live <;> simp <;> omega

theorem swstep_any {w : World} {P G : Nat → Prop} {B xb sb : Nat} {ts : Tb} {live last ct ck : Int} {nA : Option Addr} {nc : Nat} {NS : List Nt} {A9 : Option Addr} {c9 : Nat} {T : List En} (n : Int) (hM : SM w G sb ts live last) (hNT : NumT ts) (hN : ∀ i, i < 4 → (ts i).length ≤ 10000)
    (h : StN P w w B xb (some ⟨sb, 0, none⟩) (.slice A9 T.length c9) ct ck nA nc NS A9 c9 T none []) (hT : T.length + NS.length ≤ 10000) (hcl : 0 ≤ ct ∧ ct ≤ 4 ∧ Fits ck) (hns : ∀ x ∈ NS, x.e.t < 4 ∧ Fits x.e.x.k) (hn : n ≤ 100000) :
    Calls Try.prog 42 #[.pointer (some ⟨xb, 0, none⟩), .int .i64 n] w fun e w' => StepN P w B xb (some ⟨sb, 0, none⟩) (.slice A9 T.length c9) (stepS n.toNat ((liveE (fromE ct ck ts)).take n.toNat) NS T ct ck) e w' := by
  refine swstep_gen n (fun W2 hb => sfrom_any (hM.below hb) (fun i hi => Nat.le_trans (hN i hi) (by decide)) ct ck n) ⟨?_, fun y hy => ?_⟩ h hT hcl hns hn
  · rw [List.length_take]
    refine Nat.le_trans (Nat.min_le_right _ _) ?_
    unfold liveE
    refine Nat.le_trans (List.length_filter_le _ _) ?_
    rw [← from_ents hNT.numL ct ck]
    refine Nat.le_trans (List.length_filter_le _ _) ?_
    have := ents_len (n := 10000) hN
    omega
  · have h1 := List.mem_of_mem_take hy
    unfold liveE at h1
    have h2 := (List.mem_filter.1 h1).1
    rw [← from_ents hNT.numL ct ck] at h2
    have h3 := NumT.ents hNT y (List.mem_filter.1 h2).1
    exact ⟨h3.1, h3.2.1⟩
end Go.Proofs.Ytejpjbmbcdgomaa
