/- WireReads answers true of whatever bytes and kinds. -/
import Derived.Test.YtlegaajacmjejaaCopy
import Derived.Test.YtlegaajacmjejaaNone
import Derived.BigQuiet
import Derived.Deep.QuietTactic
namespace Go.Proofs.Ytlegaajacmjejaa
set_option maxRecDepth 100000
open Go.RowKit

/-- The document's reader of what came in. -/
theorem rfx_arg (w : World) (B : Nat) (A : Option Addr) (n c : Nat) (bs : List Nat) (h : Rdv w A n 1 (valsB bs)) (hB : B ≤ w.heap.size) (hA : A = none ∧ n = 0 ∧ c = 0 ∨ ∃ b off, A = some ⟨b, off, none⟩ ∧ b < B ∧ n ≤ c) (hs : ∀ x ∈ bs, x < 256) (hn : n ≤ 140737488355328) :
    Rfx (w.alloc (.cells #[.slice A n c, .bool false] 44)) B w.heap.size bs false :=
  ⟨A, n, c, hB, heap_alloc_new w _, h.ext (fun p hp => World.cell?_alloc_lt w _ p hp), hA, (fun h => by cases h), hs, hn⟩
theorem quiet_left {P : Program} {f : FuncId} {args : Array Value} {w : World} {n : Nat} {v : Value}
    (h : Calls P f args (w.drewN n) fun e w' => e = .returned v ∧ w.drewN n = w') : Calls P f args (w.drewN n) fun e w'' => e = .returned v ∧ ∃ m, w'' = w.drewN m :=
  h.mono fun _ _ ⟨he, hm⟩ => ⟨he, n, hm.symm⟩
theorem endV_form (bs : List Nat) (bad : Bool) (h : ¬ (bad = false ∧ bs = [])) : endV bs bad = eForm := by
  unfold endV
  rw [if_neg h]
  rfl

set_option maxHeartbeats 4000000 in
theorem wireReads_any (A : Option Addr) (n c : Nat) (bs : List Nat) (A2 : Option Addr) (n2 c2 : Nat) (ks : List Int) (w : World) (hb : Rdv w A n 1 (valsB bs)) (hs : ∀ x ∈ bs, x < 256) (hA : A = none ∧ n = 0 ∧ c = 0 ∨ ∃ b off, A = some ⟨b, off, none⟩ ∧ b < w.heap.size ∧ n ≤ c) (hn : n ≤ 9223372036854775807) (hk : Rdv w A2 n2 1 (valsI ks)) (hn2 : n2 ≤ 9223372036854775807) :
    Calls Try.prog 4 #[.slice A n c, .slice A2 n2 c2] w fun e w' => e = .returned (.bool true) ∧ Below w.heap.size w w' := by
  have HA := Lib.hid (alive_any w)
  have HB := Lib.hid (fun w1 (k : Below w.heap.size w w1) => hb.ext (stays_b k))
  have HK := Lib.hid (fun w1 (k : Below w.heap.size w w1) => hk.ext (stays_b k))
  have HS := Lib.hid hs
  have HAA := Lib.hid hA
  have hnil : A = none → c = 0 := fun h => by
    rcases hA with ⟨_, _, h2⟩ | ⟨b, off, h2, _⟩
    · exact h2
    · rw [h] at h2; cases h2
  clear hb hk hs hA
  go_enter Try.func4, Try.ntmps4
  go_wp2_with fail
  refine Calls.mono HA.out ?_
  rintro e w1 ⟨rfl, hb1⟩
  have HB1 := Lib.hid hb1
  clear hb1 HA
  by_cases h3000 : 3000 < n
  · go_wp2_with fail
    go_ret
    exact ⟨rfl, HB1.out⟩
  by_cases h60 : 60 < n2
  · go_wp2_with fail
    go_ret
    exact ⟨rfl, HB1.out⟩
  have HC := Lib.hid (copy_any A n c bs w1 (HB.out w1 HB1.out) hnil (by omega))
  go_wp2_with fail
  refine Calls.mono HC.out ?_
  rintro e wc ⟨q, cap, rfl, hmk, hq, hbc⟩
  have HMK := Lib.hid hmk
  have HBC := Lib.hid (HB1.out.trans (hbc.mono HB1.out.size))
  have HN := Lib.hid (newReader_any (some ⟨q, 0, none⟩) n cap bs wc hmk.row (fun h => by cases h) (by omega) HS.out)
  have hql := hmk.lt
  clear hmk hbc HC
  go_wp2_with fail
  refine Calls.mono HN.out ?_
  rintro e wn ⟨gr, rfl, h6, h7⟩
  obtain ⟨S, hS⟩ : ∃ S : Nat → Prop, S = fun k => wc.heap.size ≤ k ∧ k < wn.heap.size := ⟨_, rfl⟩
  have hSS : ∀ j, S j → wc.heap.size ≤ j ∧ j < wn.heap.size := fun j hj => by rw [hS] at hj; exact hj
  rw [← hS] at h6
  have HSS := Lib.hid hSS
  have HBN := Lib.hid (HBC.out.trans (h7.mono HBC.out.size))
  have hal : Below wn.heap.size wn (wn.alloc (.cells #[.slice A n c, .bool false] 44)) := (Below.refl _ wn).alloc (Nat.le_refl _) _
  have HM := Lib.hid (rfx_arg wn w.heap.size A n c bs (HB.out wn HBN.out) HBN.out.size HAA.out HS.out (by omega))
  have HR := Lib.hid (h6.stays hal.size (fun j hj _ => hal.block j hj))
  have HBM := Lib.hid (HBN.out.trans (hal.mono HBN.out.size))
  have hmk2 := (HMK.out.at (h7.block q hql)).at (hal.block q (Nat.lt_of_lt_of_le hql h7.size))
  have HOV := Lib.hid (over_any (some ⟨q, 0, none⟩) q 0 n cap _ (fun _ => ⟨rfl, hmk2.bt HS.out⟩) (by omega))
  have hqw : wc.heap.size ≤ wn.heap.size := h7.size
  have HLOW := Lib.hid h6.low'
  clear h6 h7 hS hSS hal hmk2 HN
  go_wp2_with fail
  refine Calls.mono HOV.out ?_
  rintro e wo ⟨rfl, ho⟩
  have HRO := Lib.hid (HR.out.beside (fun j hj => by have := (HSS.out j hj).1; omega) ho)
  have HMO := Lib.hid (HM.out.stays (OnlyG.at ho (by rw [World.size_alloc]; omega) (by omega)) (fun j hj => OnlyG.at ho (by rw [World.size_alloc]; have := HBN.out.size; omega) (by have := HB1.out.size; omega)))
  have HBO := Lib.hid (HBM.out.trans (show Below w.heap.size _ wo from ⟨ho.os, ho.tape, ho.output, ho.size, fun j hj => OnlyG.at ho (by rw [World.size_alloc]; have := HBN.out.size; omega) (by have := HB1.out.size; omega)⟩))
  have hso : wn.heap.size + 1 ≤ wo.heap.size := by have := ho.size; rw [World.size_alloc] at this; exact this
  clear ho HOV
  go_wp2_with fail
  go_loopw [32] (fun i wr => ∃ (k : Nat) (cs : List Nat) (bad : Bool), i = .int .i64 (k : Int) ∧ k ≤ n2 ∧ Both2 wr S w.heap.size wn.heap.size (.pointer (some ⟨gr, 0, none⟩)) cs bad ∧ Below w.heap.size w wr ∧ wn.heap.size + 1 ≤ wr.heap.size) (fun i _ => n2 - (intOf i).toNat)
  case atStart => exact ⟨0, bs, false, rfl, by omega, ⟨HRO.out, HMO.out⟩, HBO.out, hso⟩
  case round =>
    obtain ⟨k, cs, bad, rfl, hk, hbo, hbw, hsz⟩ := hrel
    have HBB := Lib.hid hbw
    have HBO2 := Lib.hid hbo
    clear hbo hbw
    by_cases hlt : k < n2
    · obtain ⟨hkl, b, off, rfl, hc⟩ := (HK.out wr HBB.out).intAt (by omega)
      have hck := hc k (by omega)
      obtain ⟨z, hz⟩ : ∃ z, z = ks[k]'(by omega) := ⟨_, rfl⟩
      rw [← hz] at hck
      have HRD := Lib.hid (fun w1 (h : Both2 w1 S w.heap.size wn.heap.size (.pointer (some ⟨gr, 0, none⟩)) cs bad) (h2 : wn.heap.size + 1 ≤ w1.heap.size) => read_any S (.pointer (some ⟨gr, 0, none⟩)) cs bad w.heap.size wn.heap.size z w1 h (fun j hj => by have := HSS.out j hj; have := HBC.out.size; omega))
      have hd : Both2 wr.drew S w.heap.size wn.heap.size (.pointer (some ⟨gr, 0, none⟩)) cs bad := ⟨HBO2.out.r.stays (Nat.le_refl _) (fun _ _ _ => rfl), HBO2.out.m.stays rfl (fun _ _ => rfl)⟩
      have HRD1 := Lib.hid (HRD.out wr.drew hd hsz)
      clear hc hkl hz hd HRD
      go_wp2_with fail
      go_region_law (first | (go_simp; go_at_call 24; refine Calls.mono HRD1.out ?_; rintro e w4 ⟨rfl, h8, h9⟩; obtain ⟨A4, n4, c4, hrf⟩ := h8.m; have k0 := hrf.c0; have hl4 := hrf.blen; have HL4 := Lib.hid hl4; clear hl4) | (go_simp; go_at_call 25; refine Calls.mono (left_any S _ _ _ _ h8.r) ?_; rintro e w5 ⟨rfl, rfl⟩))
      all_goals
        have HST := Lib.hid h8
        have hs4 : wn.heap.size + 1 ≤ w4.heap.size := by have := h9.size; rw [World.size_drew] at this; omega
        have HB4 := Lib.hid ((HBB.out.drew).trans (h9.below (M := w.heap.size) (fun j hj => Nat.le_trans HBC.out.size (HSS.out j (HLOW.out j hj)).1) HBN.out.size HBB.out.size))
        have hlq : ((stepR z cs bad).1.length == n4) = true := by rw [HL4.out]; simp
        have HL5 := HL4.out
        clear h9 h8 hrf
        go_wp2_with fail
        obtain ⟨ds, hds⟩ : ∃ ds, ds = (stepR z cs bad).1 := ⟨_, rfl⟩
        obtain ⟨bd, hbd⟩ : ∃ bd, bd = (stepR z cs bad).2 := ⟨_, rfl⟩
        have hst := HST.out
        rw [← hds, ← hbd] at hst
        rw [← hds] at HL4
        have HST2 := Lib.hid hst
        have HEND := Lib.hid (end_any S _ ds bd w4 hst.r)
        have HDONE := Lib.hid (fun w1 (h : Rfx w1 w.heap.size wn.heap.size ds bd) => mdone_any w.heap.size wn.heap.size ds bd w1 h)
        clear HST hst hlq HL5 hds hbd
        by_cases hd : bd = false ∧ ds = []
        · obtain ⟨rfl, rfl⟩ := hd
          have hdn := fun nq => HDONE.out (w4.drewN nq) (HST2.out.m.stays rfl (fun _ _ => rfl))
          rw [show (!false && decide (([] : List Nat) = [])) = true by simp] at hdn
          have HD := Lib.hid hdn
          clear hdn HDONE
          refine Calls.mono HEND.out ?_
          rintro e w5 ⟨_, rfl, hv1, rfl⟩
          rw [show endV [] false = .nilIface from rfl] at hv1
          subst hv1
          go_wp2_with fail
          go_quiet ((go_at_call 27; exact quiet_left (HD.out _)))
          go_wp2_with fail
          go_roundw
          case rel => exact ⟨k + 1, [], false, by go_num, by omega, ⟨HST2.out.r.stays (Nat.le_refl _) (fun _ _ _ => rfl), HST2.out.m.stays rfl (fun _ _ => rfl)⟩, below_drewN' HB4.out _, hs4⟩
          case measure => simp [intOf]; omega
        · have hdn := fun nq => HDONE.out (w4.drewN nq) (HST2.out.m.stays rfl (fun _ _ => rfl))
          rw [show (!bd && decide (ds = [])) = false by
            cases bd with
            | true => rfl
            | false => simp at hd; simp [hd]] at hdn
          have HD := Lib.hid hdn
          have HF := Lib.hid (endV_form ds bd hd)
          clear hdn HDONE hd
          refine Calls.mono HEND.out ?_
          rintro e w5 ⟨_, rfl, hv1, rfl⟩
          rw [HF.out] at hv1
          subst hv1
          unfold eForm
          go_wp2_with fail
          go_quiet ((first | (go_at_call 27; exact quiet_left (HD.out _)) | (go_at_call 28; exact quiet_left (is_form _))))
          go_wp2_with fail
          go_roundw
          case rel => exact ⟨k + 1, ds, bd, by go_num, by omega, ⟨HST2.out.r.stays (Nat.le_refl _) (fun _ _ _ => rfl), HST2.out.m.stays rfl (fun _ _ => rfl)⟩, below_drewN' HB4.out _, hs4⟩
          case measure => simp [intOf]; omega
    · obtain ⟨A4, n4, c4, hrf⟩ := HBO2.out.m
      have k0 := hrf.c0
      have hl4 := hrf.blen
      have HLF := Lib.hid (fun nq => left_any S _ cs bad (wr.drewN nq) (HBO2.out.r.stays (Nat.le_refl _) (fun _ _ _ => rfl)))
      have hlq : ((cs.length : Int) == (n4 : Int)) = true := by rw [hl4]; simp
      have HL4 := Lib.hid hl4
      clear hrf hl4
      go_wp2_with fail
      go_quiet ((go_at_call 25; exact quiet_left (HLF.out _)))
      go_wp2_with fail
      go_ret
      exact ⟨rfl, below_drewN' HBB.out _⟩
end Go.Proofs.Ytlegaajacmjejaa
