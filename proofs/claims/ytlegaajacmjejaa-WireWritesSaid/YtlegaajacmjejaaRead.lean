/- The contract of the law's read: both readers answer alike, and go on alike. -/
import Derived.Test.YtlegaajacmjejaaOver
namespace Go.Proofs.Ytlegaajacmjejaa
set_option maxRecDepth 100000
open Go.RowKit

/-- What is left behind a read of a kind, and whether it is bad. -/
def stepR (k : Int) (bs : List Nat) (bad : Bool) : List Nat × Bool :=
  if k = 1 then ((rcount bs).2.1, (rcount bs).2.2) else if k = 2 then (flagRest bs, flagBad bs bad) else if k = 3 then (bytesRest bs, bytesBad bs) else if k = 4 then (bytesRest bs, bytesBad bs)
  else if k = 5 then (bs.drop 1, bad || decide (bs.length = 0)) else ((rcount bs).2.1, (rcount bs).2.2)
/-- Nothing but two blocks is changed, and what is new. -/
structure TwoB (w w' : World) (V : Value) (g : Nat) : Prop where
  os : w'.os = w.os
  tape : w'.tape = w.tape
  output : w'.output = w.output
  size : w.heap.size ≤ w'.heap.size
  block : ∀ k, k < w.heap.size → V ≠ .pointer (some ⟨k, 0, none⟩) → k ≠ g → w'.heap[k]? = w.heap[k]?
theorem OnlyG.at' {w w' : World} {g : Nat} (h : OnlyG w w' g) {k : Nat} (hk : k < w.heap.size) (hne : k ≠ g) : w'.heap[k]? = w.heap[k]? := OnlyG.at h hk hne
theorem TwoB.of {w w1 w2 : World} {V : Value} {g : Nat} (h : Only w w1 V) (k : OnlyG w1 w2 g) : TwoB w w2 V g :=
  ⟨k.os.trans h.os, k.tape.trans h.tape, k.output.trans h.output, Nat.le_trans h.size k.size, fun j hj h1 h2 => (OnlyG.at k (Nat.lt_of_lt_of_le hj h.size) h2).trans (h.block j hj h1)⟩
theorem TwoB.more {w w1 w2 : World} {V : Value} {g q : Nat} (h : TwoB w w1 V g) (k : OnlyG w1 w2 q) (hq : w.heap.size ≤ q) : TwoB w w2 V g :=
  ⟨k.os.trans h.os, k.tape.trans h.tape, k.output.trans h.output, Nat.le_trans h.size k.size, fun j hj h1 h2 => (OnlyG.at k (Nat.lt_of_lt_of_le hj h.size) (by omega)).trans (h.block j hj h1 h2)⟩
theorem TwoB.refl (w : World) (V : Value) (g : Nat) : TwoB w w V g := ⟨rfl, rfl, rfl, Nat.le_refl _, fun _ _ _ _ => rfl⟩
theorem TwoB.trans {w w1 w2 : World} {V : Value} {g : Nat} (h : TwoB w w1 V g) (k : TwoB w1 w2 V g) : TwoB w w2 V g :=
  ⟨k.os.trans h.os, k.tape.trans h.tape, k.output.trans h.output, Nat.le_trans h.size k.size, fun j hj h1 h2 => (k.block j (Nat.lt_of_lt_of_le hj h.size) h1 h2).trans (h.block j hj h1 h2)⟩
/-- The two readers, apart from one another. -/
structure Both2 (w : World) (S : Nat → Prop) (B g : Nat) (V : Value) (bs : List Nat) (bad : Bool) : Prop where
  r : Rdr w S V bs bad
  m : Rfx w B g bs bad
theorem Rfx.lt {w : World} {B g : Nat} {bs : List Nat} {bad : Bool} (h : Rfx w B g bs bad) : g < w.heap.size := by
  obtain ⟨_, _, _, h⟩ := h
  exact h.lt
theorem Rfx.low {w : World} {B g : Nat} {bs : List Nat} {bad : Bool} (h : Rfx w B g bs bad) : B ≤ g := by
  obtain ⟨_, _, _, h⟩ := h
  exact h.low
/-- The document's reader stands behind the program's call. -/
theorem Rfx.beside {w w1 : World} {S : Nat → Prop} {B g : Nat} {V : Value} {bs cs : List Nat} {bad bad' : Bool} (h : Rfx w B g bs bad) (hr : Rdr w S V cs bad') (hS : ∀ j, S j → B ≤ j ∧ j ≠ g ∧ j < w.heap.size) (k : Only w w1 V) : Rfx w1 B g bs bad :=
  h.stays (k.block g h.lt (fun he => (hS g (hr.low' g he)).2.1 rfl)) (fun j hj => k.block j (by have := h.lt; have := h.low; omega) (fun he => by have := (hS j (hr.low' j he)).1; omega))
/-- The program's reader stands behind the document's call. -/
theorem Rdr.beside {w w1 : World} {S : Nat → Prop} {g : Nat} {V : Value} {bs : List Nat} {bad : Bool} (h : Rdr w S V bs bad) (hS : ∀ j, S j → j ≠ g) (k : OnlyG w w1 g) : Rdr w1 S V bs bad :=
  h.stays k.size (fun j hj hs => OnlyG.at k hj (hS j hs))
theorem bytesOut_small {bs : List Nat} (h : ∀ x ∈ bs, x < 256) : ∀ x ∈ bytesOut bs, x < 256 := by
  intro x hx
  have hsub : ∀ y ∈ (rcount bs).2.1, y ∈ bs := by
    intro y hy
    rcases rcnt_ways 10 0 0 bs with h1 | ⟨n, rest, h1⟩
    · rw [show rcount bs = rcnt 10 0 0 bs from rfl, h1] at hy; cases hy
    · have := (rcount_yes h (show rcount bs = (n, rest, false) from h1)).1
      rw [show rcount bs = rcnt 10 0 0 bs from rfl, h1] at hy
      rw [this]
      exact List.mem_append_right _ hy
  unfold bytesOut outT at hx
  split at hx
  · cases hx
  · exact h x (hsub x (List.mem_of_mem_take hx))

set_option maxHeartbeats 2000000 in
theorem read_any (S : Nat → Prop) (V : Value) (bs : List Nat) (bad : Bool) (B g : Nat) (k : Int) (w : World) (h : Both2 w S B g V bs bad) (hS : ∀ j, S j → B ≤ j ∧ j ≠ g ∧ j < w.heap.size) :
    Calls Try.prog 24 #[V, .pointer (some ⟨g, 0, none⟩), .int .i64 k] w fun e w' => e = .returned (.bool true) ∧ Both2 w' S B g V (stepR k bs bad).1 (stepR k bs bad).2 ∧ TwoB w w' V g := by
  obtain ⟨hr, hm⟩ := h
  have HB := Lib.hid (fun w1 (k : Only w w1 V) => hm.beside hr hS k)
  have HG := Lib.hid (fun j hj => (hS j hj).2.1)
  have HT := Lib.hid (fun j hj => (hS j hj).2.2)
  have hlt := hm.lt
  have hsm := bytesOut_small hr.small'
  have hlen := hr.len'
  unfold stepR
  by_cases h1 : k = 1
  · rw [if_pos h1]
    subst h1
    have HR := Lib.hid (rnum_any S V bs bad w hr)
    have HM := Lib.hid (fun w1 (h : Rfx w1 B g bs bad) => mnum_any B g bs bad w1 h)
    obtain ⟨z, hz⟩ : ∃ z, z = unfoldN (rcount bs).1 := ⟨_, rfl⟩
    rw [← hz] at HR HM
    clear hr hm hS hz hsm
    go_enter Try.func24, Try.ntmps24
    go_wp2_with fail
    refine Calls.mono HR.out ?_
    rintro e w1 ⟨rfl, h2, h3⟩
    have HM1 := Lib.hid (HM.out w1 (HB.out w1 h3))
    have H2 := Lib.hid h2
    have H3 := Lib.hid h3
    clear h2 h3
    go_wp2_with fail
    refine Calls.mono HM1.out ?_
    rintro e w2 ⟨rfl, h4, h5⟩
    have HE := Lib.hid (show Both2 w2 S B g V _ _ from ⟨H2.out.beside HG.out h5, h4⟩)
    have HF := Lib.hid (TwoB.of H3.out h5)
    clear h4 h5
    go_wp2_with fail
    go_ret
    exact ⟨rfl, HE.out, HF.out⟩
  rw [if_neg h1]
  by_cases h2 : k = 2
  · rw [if_pos h2]
    subst h2
    have HR := Lib.hid (rflag_any S V bs bad w hr)
    have HM := Lib.hid (fun w1 (h : Rfx w1 B g bs bad) => mflag_any B g bs bad w1 h)
    obtain ⟨z, hz⟩ : ∃ z, z = decide (byteT bs = 1) := ⟨_, rfl⟩
    rw [← hz] at HR HM
    clear hr hm hS hz hsm
    go_enter Try.func24, Try.ntmps24
    go_wp2_with fail
    refine Calls.mono HR.out ?_
    rintro e w1 ⟨rfl, h2, h3⟩
    have HM1 := Lib.hid (HM.out w1 (HB.out w1 h3))
    have H2 := Lib.hid h2
    have H3 := Lib.hid h3
    clear h2 h3
    go_wp2_with fail
    refine Calls.mono HM1.out ?_
    rintro e w2 ⟨rfl, h4, h5⟩
    have HE := Lib.hid (show Both2 w2 S B g V _ _ from ⟨H2.out.beside HG.out h5, h4⟩)
    have HF := Lib.hid (TwoB.of H3.out h5)
    clear h4 h5
    go_wp2_with fail
    go_ret
    exact ⟨by simp, HE.out, HF.out⟩
  rw [if_neg h2]
  by_cases h3 : k = 3
  · rw [if_pos h3]
    subst h3
    have hol : (bytesOut bs).length ≤ 140737488355328 := by
      refine Nat.le_trans (outT_len _ _ _) ?_
      rcases rcnt_ways 10 0 0 bs with h1 | ⟨n, rest, h1⟩
      · rw [show rcount bs = rcnt 10 0 0 bs from rfl, h1]; simp
      · have := (rcount_yes hr.small' (show rcount bs = (n, rest, false) from h1)).1
        rw [show rcount bs = rcnt 10 0 0 bs from rfl, h1]
        rw [this, List.length_append] at hlen
        show rest.length ≤ _
        omega
    have HR := Lib.hid (rbytes_any S V bs bad w hr)
    have HM := Lib.hid (fun w1 (h : Rfx w1 B g bs bad) => mbytes_any B g bs bad w1 h)
    obtain ⟨zs, hz⟩ : ∃ zs, zs = bytesOut bs := ⟨_, rfl⟩
    rw [← hz] at HR HM hsm hol
    have HSM := Lib.hid hsm
    clear hr hm hS hz hsm
    go_enter Try.func24, Try.ntmps24
    go_wp2_with fail
    refine Calls.mono HR.out ?_
    rintro e w1 ⟨_, rfl, A, c, rfl, h2, h6, h3, h7⟩
    have HM1 := Lib.hid (HM.out w1 (HB.out w1 h7))
    have H2 := Lib.hid h2
    have H6 := Lib.hid h6
    have H3 := Lib.hid h3
    have H7 := Lib.hid h7
    clear h2 h3 h6 h7
    go_wp2_with fail
    refine Calls.mono HM1.out ?_
    rintro e w2 ⟨_, rfl, A2, c2, rfl, h4, h5, h8⟩
    have hrow : Rdv w2 A zs.length 1 (valsB zs) := by
      refine ⟨H2.out.1, fun hn => ?_⟩
      obtain ⟨b, off, e, hc⟩ := H2.out.2 hn
      refine ⟨b, off, e, fun j u hj => ?_⟩
      have hblt := World.block_lt_of_cell? _ _ (hc j u hj)
      rcases H6.out with ⟨_, h0, _⟩ | ⟨q, e2, hq, _⟩
      · omega
      · rw [e] at e2
        injection e2 with e2
        injection e2 with e2
        rw [← hc j u hj]
        exact World.cell?_of_block (OnlyG.at h8 hblt (show b ≠ g by omega))
    have hsame := same_any A A2 zs.length c zs.length c2 zs zs w2 hrow h4 HSM.out HSM.out
    rw [decide_eq_true rfl] at hsame
    have HSA := Lib.hid hsame
    obtain ⟨q, off, hq, hov⟩ : ∃ q off, w.heap.size ≤ q ∧ (0 < zs.length → A = some ⟨q, off, none⟩ ∧ Bt w2 q off zs.length) := by
      rcases H6.out with ⟨_, h0, _⟩ | ⟨q, e2, hq, hql, _, hcs⟩
      · exact ⟨w.heap.size, 0, Nat.le_refl _, fun h => absurd h (by omega)⟩
      · refine ⟨q, 0, hq, fun hp => ⟨e2, ?_⟩⟩
        obtain ⟨cs, hcs⟩ := hcs hp
        exact Bt.of hrow HSM.out e2 ((OnlyG.at h8 hql (by omega)).trans hcs)
    have HOV := Lib.hid (over_any A q off zs.length c w2 hov hol)
    have H4 := Lib.hid (show Both2 w2 S B g V _ _ from ⟨H3.out.beside HG.out h8, h5⟩)
    have HF := Lib.hid (TwoB.of H7.out h8)
    clear hrow hsame hov h4 h5 h8
    go_wp2_with fail
    refine Calls.mono HSA.out ?_
    rintro e w3 ⟨rfl, rfl⟩
    go_wp2_with fail
    refine Calls.mono HOV.out ?_
    rintro e w3 ⟨rfl, h9⟩
    have HE := Lib.hid (show Both2 w3 S B g V (bytesRest bs) (bytesBad bs) from ⟨H4.out.r.beside (fun j hj => by have := HT.out j hj; omega) h9, H4.out.m.stays (OnlyG.at h9 H4.out.m.lt (by omega)) (fun j hj => OnlyG.at h9 (by have := H4.out.m.lt; have := H4.out.m.low; omega) (by have := H4.out.m.low; omega))⟩)
    have HF2 := Lib.hid (HF.out.more h9 hq)
    clear h9
    go_wp2_with fail
    go_ret
    exact ⟨rfl, HE.out, HF2.out⟩
  rw [if_neg h3]
  by_cases h4 : k = 4
  · rw [if_pos h4]
    subst h4
    have HR := Lib.hid (rtext_any S V bs bad w hr)
    have HM := Lib.hid (fun w1 (h : Rfx w1 B g bs bad) => mbytes_any B g bs bad w1 h)
    have HST := Lib.hid (fun w1 A c (h : Rdv w1 A (bytesOut bs).length 1 (valsB (bytesOut bs))) => run_str w1 A _ c _ h)
    obtain ⟨zs, hz⟩ : ∃ zs, zs = bytesOut bs := ⟨_, rfl⟩
    rw [← hz] at HR HM HST
    obtain ⟨s, hs⟩ : ∃ s, s = strN zs := ⟨_, rfl⟩
    rw [← hs] at HR HST
    clear hr hm hS hz hsm hs
    go_enter Try.func24, Try.ntmps24
    go_wp2_with fail
    refine Calls.mono HR.out ?_
    rintro e w1 ⟨rfl, h2, h3⟩
    have HM1 := Lib.hid (HM.out w1 (HB.out w1 h3))
    have H2 := Lib.hid h2
    have H3 := Lib.hid h3
    clear h2 h3
    go_wp2_with fail
    refine Calls.mono HM1.out ?_
    rintro e w2 ⟨_, rfl, A2, c2, rfl, h4, h5, h8⟩
    have e1 := HST.out w2 A2 c2 h4
    have HE := Lib.hid (show Both2 w2 S B g V _ _ from ⟨H2.out.beside HG.out h8, h5⟩)
    have HF := Lib.hid (TwoB.of H3.out h8)
    clear h4 h5 h8
    go_wp2_with fail
    go_ret
    exact ⟨by simp, HE.out, HF.out⟩
  rw [if_neg h4]
  by_cases h5 : k = 5
  · rw [if_pos h5]
    subst h5
    have HR := Lib.hid (rbyte_any S V bs bad w hr)
    have HM := Lib.hid (fun w1 (h : Rfx w1 B g bs bad) => mbyte_any B g bs bad w1 h)
    obtain ⟨z, hz⟩ : ∃ z, z = byteT bs := ⟨_, rfl⟩
    rw [← hz] at HR HM
    clear hr hm hS hz hsm
    go_enter Try.func24, Try.ntmps24
    go_wp2_with fail
    refine Calls.mono HR.out ?_
    rintro e w1 ⟨rfl, h2, h3⟩
    have HM1 := Lib.hid (HM.out w1 (HB.out w1 h3))
    have H2 := Lib.hid h2
    have H3 := Lib.hid h3
    clear h2 h3
    go_wp2_with fail
    refine Calls.mono HM1.out ?_
    rintro e w2 ⟨rfl, h4, h5⟩
    have HE := Lib.hid (show Both2 w2 S B g V _ _ from ⟨H2.out.beside HG.out h5, h4⟩)
    have HF := Lib.hid (TwoB.of H3.out h5)
    clear h4 h5
    go_wp2_with fail
    go_ret
    exact ⟨rfl, HE.out, HF.out⟩
  rw [if_neg h5]
  have HR := Lib.hid (rcount_any S V bs bad w hr)
  have HM := Lib.hid (fun w1 (h : Rfx w1 B g bs bad) => mcount_any B g bs bad w1 h)
  obtain ⟨z, hz⟩ : ∃ z, z = (rcount bs).1 := ⟨_, rfl⟩
  rw [← hz] at HR HM
  have q1 : (k == 1) = false := beq_eq_false_iff_ne.2 h1
  have q2 : (k == 2) = false := beq_eq_false_iff_ne.2 h2
  have q3 : (k == 3) = false := beq_eq_false_iff_ne.2 h3
  have q4 : (k == 4) = false := beq_eq_false_iff_ne.2 h4
  have q5 : (k == 5) = false := beq_eq_false_iff_ne.2 h5
  clear hr hm hS hz hsm h1 h2 h3 h4 h5
  go_enter Try.func24, Try.ntmps24
  go_wp2_with fail
  refine Calls.mono HR.out ?_
  rintro e w1 ⟨rfl, h2, h3⟩
  have HM1 := Lib.hid (HM.out w1 (HB.out w1 h3))
  have H2 := Lib.hid h2
  have H3 := Lib.hid h3
  clear h2 h3
  go_wp2_with fail
  refine Calls.mono HM1.out ?_
  rintro e w2 ⟨rfl, h4, h5⟩
  have HE := Lib.hid (show Both2 w2 S B g V _ _ from ⟨H2.out.beside HG.out h5, h4⟩)
  have HF := Lib.hid (TwoB.of H3.out h5)
  clear h4 h5
  go_wp2_with fail
  go_ret
  exact ⟨rfl, HE.out, HF.out⟩
end Go.Proofs.Ytlegaajacmjejaa
