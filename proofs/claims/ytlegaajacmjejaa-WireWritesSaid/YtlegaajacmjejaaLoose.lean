/- The contract of the law's read where the two readers stand unlike: the program's goes on all the same. -/
import Derived.Test.YtlegaajacmjejaaRead
namespace Go.Proofs.Ytlegaajacmjejaa
set_option maxRecDepth 100000
open Go.RowKit

/-- Some answer, yes or no. -/
def SomeB (e : Ending) : Prop := ∃ b, e = .returned (.bool b)
set_option maxHeartbeats 2000000 in
theorem read_loose (S : Nat → Prop) (V : Value) (bs : List Nat) (bad : Bool) (ds : List Nat) (bad2 : Bool) (B g : Nat) (k : Int) (w : World) (hr : Rdr w S V bs bad) (hm : Rfx w B g ds bad2) (hS : ∀ j, S j → B ≤ j ∧ j ≠ g ∧ j < w.heap.size) :
    Calls Try.prog 24 #[V, .pointer (some ⟨g, 0, none⟩), .int .i64 k] w fun e w' => SomeB e ∧ Rdr w' S V (stepR k bs bad).1 (stepR k bs bad).2 ∧ TwoB w w' V g := by
  have HB := Lib.hid (fun w1 (k : Only w w1 V) => hm.beside hr hS k)
  have HG := Lib.hid (fun j hj => (hS j hj).2.1)
  have HT := Lib.hid (fun j hj => (hS j hj).2.2)
  have hlt := hm.lt
  have hsm := bytesOut_small hr.small'
  have hsm2 := bytesOut_small hm.small
  have hlen := hr.len'
  unfold stepR
  by_cases h1 : k = 1
  · rw [if_pos h1]
    subst h1
    have HR := Lib.hid (rnum_any S V bs bad w hr)
    have HM := Lib.hid (fun w1 (h : Rfx w1 B g ds bad2) => mnum_any B g ds bad2 w1 h)
    obtain ⟨z, hz⟩ : ∃ z, z = unfoldN (rcount bs).1 := ⟨_, rfl⟩
    obtain ⟨y, hy⟩ : ∃ y, y = unfoldN (rcount ds).1 := ⟨_, rfl⟩
    rw [← hz] at HR
    rw [← hy] at HM
    clear hr hm hS hz hy hsm hsm2
    go_enter Try.func24, Try.ntmps24
    go_wp2_with fail
    refine Calls.mono HR.out ?_
    rintro e w1 ⟨rfl, h2, h3⟩
    have HM1 := Lib.hid (HM.out w1 (HB.out w1 h3))
    have H2 := Lib.hid h2
    have H3 := Lib.hid h3
    clear h2 h3
    go_wp2_with fail
    refine Calls.mono HM1.out ?_
    rintro e w2 ⟨rfl, h4, h5⟩
    have HE := Lib.hid (H2.out.beside HG.out h5)
    have HF := Lib.hid (TwoB.of H3.out h5)
    clear h4 h5
    go_wp2_with fail
    go_ret
    exact ⟨⟨_, rfl⟩, HE.out, HF.out⟩
  rw [if_neg h1]
  by_cases h2 : k = 2
  · rw [if_pos h2]
    subst h2
    have HR := Lib.hid (rflag_any S V bs bad w hr)
    have HM := Lib.hid (fun w1 (h : Rfx w1 B g ds bad2) => mflag_any B g ds bad2 w1 h)
    obtain ⟨z, hz⟩ : ∃ z, z = decide (byteT bs = 1) := ⟨_, rfl⟩
    obtain ⟨y, hy⟩ : ∃ y, y = decide (byteT ds = 1) := ⟨_, rfl⟩
    rw [← hz] at HR
    rw [← hy] at HM
    clear hr hm hS hz hy hsm hsm2
    go_enter Try.func24, Try.ntmps24
    go_wp2_with fail
    refine Calls.mono HR.out ?_
    rintro e w1 ⟨rfl, h2, h3⟩
    have HM1 := Lib.hid (HM.out w1 (HB.out w1 h3))
    have H2 := Lib.hid h2
    have H3 := Lib.hid h3
    clear h2 h3
    go_wp2_with fail
    refine Calls.mono HM1.out ?_
    rintro e w2 ⟨rfl, h4, h5⟩
    have HE := Lib.hid (H2.out.beside HG.out h5)
    have HF := Lib.hid (TwoB.of H3.out h5)
    clear h4 h5
    go_wp2_with fail
    go_ret
    exact ⟨⟨_, rfl⟩, HE.out, HF.out⟩
  rw [if_neg h2]
  by_cases h3 : k = 3
  · rw [if_pos h3]
    subst h3
    have hol : (bytesOut bs).length ≤ 140737488355328 := by
      refine Nat.le_trans (outT_len _ _ _) ?_
      rcases rcnt_ways 10 0 0 bs with h1 | ⟨n, rest, h1⟩
      · rw [show rcount bs = rcnt 10 0 0 bs from rfl, h1]; simp
      · have := (rcount_yes hr.small' (show rcount bs = (n, rest, false) from h1)).1
        rw [show rcount bs = rcnt 10 0 0 bs from rfl, h1]
        rw [this, List.length_append] at hlen
        show rest.length ≤ _
        omega
    have HR := Lib.hid (rbytes_any S V bs bad w hr)
    have HM := Lib.hid (fun w1 (h : Rfx w1 B g ds bad2) => mbytes_any B g ds bad2 w1 h)
    obtain ⟨zs, hz⟩ : ∃ zs, zs = bytesOut bs := ⟨_, rfl⟩
    obtain ⟨us, hy⟩ : ∃ us, us = bytesOut ds := ⟨_, rfl⟩
    rw [← hz] at HR hsm hol
    rw [← hy] at HM hsm2
    have HSM := Lib.hid hsm
    have HSM2 := Lib.hid hsm2
    clear hr hm hS hz hy hsm hsm2
    go_enter Try.func24, Try.ntmps24
    go_wp2_with fail
    refine Calls.mono HR.out ?_
    rintro e w1 ⟨_, rfl, A, c, rfl, h2, h6, h3, h7⟩
    have HM1 := Lib.hid (HM.out w1 (HB.out w1 h7))
    have H2 := Lib.hid h2
    have H6 := Lib.hid h6
    have H3 := Lib.hid h3
    have H7 := Lib.hid h7
    clear h2 h3 h6 h7
    go_wp2_with fail
    refine Calls.mono HM1.out ?_
    rintro e w2 ⟨_, rfl, A2, c2, rfl, h4, h5, h8⟩
    have hrow : Rdv w2 A zs.length 1 (valsB zs) := by
      refine ⟨H2.out.1, fun hn => ?_⟩
      obtain ⟨b, off, e, hc⟩ := H2.out.2 hn
      refine ⟨b, off, e, fun j u hj => ?_⟩
      have hblt := World.block_lt_of_cell? _ _ (hc j u hj)
      rcases H6.out with ⟨_, h0, _⟩ | ⟨q, e2, hq, _⟩
      · omega
      · rw [e] at e2
        injection e2 with e2
        injection e2 with e2
        rw [← hc j u hj]
        exact World.cell?_of_block (OnlyG.at h8 hblt (show b ≠ g by omega))
    have hsame := same_any A A2 zs.length c us.length c2 zs us w2 hrow h4 HSM.out HSM2.out
    have HSA := Lib.hid hsame
    obtain ⟨q, off, hq, hov⟩ : ∃ q off, w.heap.size ≤ q ∧ (0 < zs.length → A = some ⟨q, off, none⟩ ∧ Bt w2 q off zs.length) := by
      rcases H6.out with ⟨_, h0, _⟩ | ⟨q, e2, hq, hql, _, hcs⟩
      · exact ⟨w.heap.size, 0, Nat.le_refl _, fun h => absurd h (by omega)⟩
      · refine ⟨q, 0, hq, fun hp => ⟨e2, ?_⟩⟩
        obtain ⟨cs, hcs⟩ := hcs hp
        exact Bt.of hrow HSM.out e2 ((OnlyG.at h8 hql (by omega)).trans hcs)
    have HOV := Lib.hid (over_any A q off zs.length c w2 hov hol)
    have H4 := Lib.hid (H3.out.beside HG.out h8)
    have HF := Lib.hid (TwoB.of H7.out h8)
    clear hrow hsame hov h4 h5 h8
    go_wp2_with fail
    refine Calls.mono HSA.out ?_
    rintro e w3 ⟨rfl, rfl⟩
    go_wp2_with fail
    refine Calls.mono HOV.out ?_
    rintro e w3 ⟨rfl, h9⟩
    have HE := Lib.hid (H4.out.beside (fun j hj => by have := HT.out j hj; omega) h9)
    have HF2 := Lib.hid (HF.out.more h9 hq)
    clear h9
    go_wp2_with fail
    go_ret
    exact ⟨⟨_, rfl⟩, HE.out, HF2.out⟩
  rw [if_neg h3]
  by_cases h4 : k = 4
  · rw [if_pos h4]
    subst h4
    have HR := Lib.hid (rtext_any S V bs bad w hr)
    have HM := Lib.hid (fun w1 (h : Rfx w1 B g ds bad2) => mbytes_any B g ds bad2 w1 h)
    have HST := Lib.hid (fun w1 A c (h : Rdv w1 A (bytesOut ds).length 1 (valsB (bytesOut ds))) => run_str w1 A _ c _ h)
    obtain ⟨zs, hz⟩ : ∃ zs, zs = bytesOut bs := ⟨_, rfl⟩
    obtain ⟨us, hy⟩ : ∃ us, us = bytesOut ds := ⟨_, rfl⟩
    rw [← hz] at HR
    rw [← hy] at HM HST
    obtain ⟨s, hs⟩ : ∃ s, s = strN zs := ⟨_, rfl⟩
    obtain ⟨t, ht⟩ : ∃ t, t = strN us := ⟨_, rfl⟩
    rw [← hs] at HR
    rw [← ht] at HST
    clear hr hm hS hz hy hsm hsm2 hs ht
    go_enter Try.func24, Try.ntmps24
    go_wp2_with fail
    refine Calls.mono HR.out ?_
    rintro e w1 ⟨rfl, h2, h3⟩
    have HM1 := Lib.hid (HM.out w1 (HB.out w1 h3))
    have H2 := Lib.hid h2
    have H3 := Lib.hid h3
    clear h2 h3
    go_wp2_with fail
    refine Calls.mono HM1.out ?_
    rintro e w2 ⟨_, rfl, A2, c2, rfl, h4, h5, h8⟩
    have e1 := HST.out w2 A2 c2 h4
    have HE := Lib.hid (H2.out.beside HG.out h8)
    have HF := Lib.hid (TwoB.of H3.out h8)
    clear h4 h5 h8
    go_wp2_with fail
    go_ret
    exact ⟨⟨_, rfl⟩, HE.out, HF.out⟩
  rw [if_neg h4]
  by_cases h5 : k = 5
  · rw [if_pos h5]
    subst h5
    have HR := Lib.hid (rbyte_any S V bs bad w hr)
    have HM := Lib.hid (fun w1 (h : Rfx w1 B g ds bad2) => mbyte_any B g ds bad2 w1 h)
    obtain ⟨z, hz⟩ : ∃ z, z = byteT bs := ⟨_, rfl⟩
    obtain ⟨y, hy⟩ : ∃ y, y = byteT ds := ⟨_, rfl⟩
    rw [← hz] at HR
    rw [← hy] at HM
    clear hr hm hS hz hy hsm hsm2
    go_enter Try.func24, Try.ntmps24
    go_wp2_with fail
    refine Calls.mono HR.out ?_
    rintro e w1 ⟨rfl, h2, h3⟩
    have HM1 := Lib.hid (HM.out w1 (HB.out w1 h3))
    have H2 := Lib.hid h2
    have H3 := Lib.hid h3
    clear h2 h3
    go_wp2_with fail
    refine Calls.mono HM1.out ?_
    rintro e w2 ⟨rfl, h4, h5⟩
    have HE := Lib.hid (H2.out.beside HG.out h5)
    have HF := Lib.hid (TwoB.of H3.out h5)
    clear h4 h5
    go_wp2_with fail
    go_ret
    exact ⟨⟨_, rfl⟩, HE.out, HF.out⟩
  rw [if_neg h5]
  have HR := Lib.hid (rcount_any S V bs bad w hr)
  have HM := Lib.hid (fun w1 (h : Rfx w1 B g ds bad2) => mcount_any B g ds bad2 w1 h)
  obtain ⟨z, hz⟩ : ∃ z, z = (rcount bs).1 := ⟨_, rfl⟩
  obtain ⟨y, hy⟩ : ∃ y, y = (rcount ds).1 := ⟨_, rfl⟩
  rw [← hz] at HR
  rw [← hy] at HM
  have q1 : (k == 1) = false := beq_eq_false_iff_ne.2 h1
  have q2 : (k == 2) = false := beq_eq_false_iff_ne.2 h2
  have q3 : (k == 3) = false := beq_eq_false_iff_ne.2 h3
  have q4 : (k == 4) = false := beq_eq_false_iff_ne.2 h4
  have q5 : (k == 5) = false := beq_eq_false_iff_ne.2 h5
  clear hr hm hS hz hy hsm hsm2 h1 h2 h3 h4 h5
  go_enter Try.func24, Try.ntmps24
  go_wp2_with fail
  refine Calls.mono HR.out ?_
  rintro e w1 ⟨rfl, h2, h3⟩
  have HM1 := Lib.hid (HM.out w1 (HB.out w1 h3))
  have H2 := Lib.hid h2
  have H3 := Lib.hid h3
  clear h2 h3
  go_wp2_with fail
  refine Calls.mono HM1.out ?_
  rintro e w2 ⟨rfl, h4, h5⟩
  have HE := Lib.hid (H2.out.beside HG.out h5)
  have HF := Lib.hid (TwoB.of H3.out h5)
  clear h4 h5
  go_wp2_with fail
  go_ret
  exact ⟨⟨_, rfl⟩, HE.out, HF.out⟩
end Go.Proofs.Ytlegaajacmjejaa
