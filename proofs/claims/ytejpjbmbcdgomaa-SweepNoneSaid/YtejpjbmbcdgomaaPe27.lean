/- STwice: put together. -/
import Derived.Test.YtejpjbmbcdgomaaPe25
import Derived.Test.YtejpjbmbcdgomaaPe26
/- StoreTwice: transactions put in order, and turned round, twice. -/
namespace Go.Proofs.Ytejpjbmbcdgomaa
set_option maxRecDepth 100000
open Go.RowKit

theorem ents_congr {ts ts' : Tb} (h : ∀ i, i < 4 → ts i = ts' i) : ents ts = ents ts' := allE_congr fun j _ hj => h j (by omega)
theorem putB_congr {ts ts' : Tb} (h : ∀ i, i < 4 → ts i = ts' i) : putB ts = putB ts' := by
  unfold putB
  rw [ents_congr h, liveT_congr (ts := ts') (ts' := ts) h]
theorem cntN_lt (n : Nat) : ∀ x ∈ cntN n, x < 256 := by
  intro x hx
  unfold cntN preN at hx
  rw [List.mem_append, List.mem_map] at hx
  rcases hx with ⟨i, _, rfl⟩ | hx
  · omega
  · rw [List.mem_singleton] at hx; omega
theorem putB_small {ts : Tb} (_h : NumT ts) : ∀ x ∈ putB ts, x < 256 := by
  intro x hx
  unfold putB at hx
  rw [List.mem_append, List.mem_append, List.mem_flatMap] at hx
  rcases hx with hx | ⟨e, _, hx⟩ | hx
  · exact cntN_lt _ _ hx
  · unfold entB at hx
    rw [List.mem_append, List.mem_append, List.mem_append] at hx
    rcases hx with hx | hx | hx | hx <;> exact cntN_lt _ _ hx
  · rw [List.mem_singleton] at hx; omega
def scN (os : List Oq) (i : Nat) : List Wr := (os.getD i ⟨0, none, 0, [], false⟩).ws
theorem scN_at {os : List Oq} {i : Nat} (h : i < os.length) : scN os i = os[i].ws := by
  unfold scN
  rw [List.getD_eq_getElem?_getD, List.getElem?_eq_getElem h]
  rfl
/-- Two stores, apart. -/
structure Two (w wr : World) (sa sb : Nat) (ta tb : Tb) (la lb : Int) : Prop where
  ex : ∃ Ga Gb, SM wr Ga sa ta (liveT ta : Int) la ∧ SM wr Gb sb tb (liveT tb : Int) lb ∧ (∀ q, Ga q → ¬ Gb q) ∧ (∀ q, Ga q → w.heap.size ≤ q) ∧ (∀ q, Gb q → w.heap.size ≤ q)
  b : Below w.heap.size w wr
section
variable {w wr w1 : World} {sa sb : Nat} {ta tb : Tb} {la lb : Int}
theorem Two.below (h : Two w wr sa sb ta tb la lb) (hb : Below wr.heap.size wr w1) : Two w w1 sa sb ta tb la lb := by
  obtain ⟨Ga, Gb, h1, h2, h3, h4, h5⟩ := h.ex
  exact ⟨⟨Ga, Gb, h1.below hb, h2.below hb, h3, h4, h5⟩, h.b.trans (hb.mono h.b.size)⟩
theorem Two.swap (h : Two w wr sa sb ta tb la lb) : Two w wr sb sa tb ta lb la := by
  obtain ⟨Ga, Gb, h1, h2, h3, h4, h5⟩ := h.ex
  exact ⟨⟨Gb, Ga, h2, h1, fun q e1 e2 => h3 q e2 e1, h5, h4⟩, h.b⟩
theorem Two.turn (h : Two w wr sa sb ta tb la lb) {Ga : Nat → Prop} (h1 : ∃ Gb, SM wr Ga sa ta (liveT ta : Int) la ∧ SM wr Gb sb tb (liveT tb : Int) lb ∧ (∀ q, Ga q → ¬ Gb q) ∧ (∀ q, Ga q → w.heap.size ≤ q) ∧ (∀ q, Gb q → w.heap.size ≤ q)) {Ga' : Nat → Prop} {ta' : Tb} {la' : Int}
    (hM : SM w1 Ga' sa ta' (liveT ta' : Int) la') (hC : Cg wr w1 Ga Ga') : Two w w1 sa sb ta' tb la' lb := by
  obtain ⟨Gb, g1, g2, g3, g4, g5⟩ := h1
  have hl := hC.low h.b.size g4
  refine ⟨⟨Ga', Gb, hM, g2.keep fun q hq => hC.ch.block q (g2.lt hq) (fun e => g3 q e hq), fun q e1 e2 => ?_, hl.2, g5⟩, h.b.trans hl.1⟩
  rcases hC.fr q e1 with e | e
  · exact g3 q e e2
  · have := g2.lt e2; omega
theorem Two.apply (h : Two w wr sa sb ta tb la lb) (q : Int) {A : Option Addr} {c : Nat} {ws : List Wr} (hr : Wrs wr A ws) (hK : NumW ws) (hl : ws.length ≤ 50000) (hN : ∀ i, i < 4 → (ta i).length ≤ 50000) :
    Calls Try.prog 16 #[.pointer (some ⟨sa, 0, none⟩), .int .i64 q, .slice A ws.length c] wr fun e w' => e = .returned (errV (apN q ta ws)) ∧ ∃ ta' la', Two w w' sa sb ta' tb la' lb ∧ ApOut q ta ws (apN q ta ws) la ta' la' := by
  obtain ⟨Ga, Gb, h1, h2, h3, h4, h5⟩ := h.ex
  refine Calls.mono (apply_any q h1 hr hK hl hN) ?_
  rintro e w' ⟨rfl, G', ta', la', g1, g2, g3⟩
  exact ⟨rfl, ta', la', h.turn ⟨Gb, h1, h2, h3, h4, h5⟩ g1 g2, g3⟩
theorem Two.start {w1 w2 : World} {Ga Gb : Nat → Prop} (h1 : SM w1 Ga sa (fun _ => []) (liveT (fun _ => []) : Int) 0) (g1 : ∀ q, Ga q → w.heap.size ≤ q) (b1 : Below w.heap.size w w1) (h2 : SM w2 Gb sb (fun _ => []) (liveT (fun _ => []) : Int) 0) (g2 : ∀ q, Gb q → w1.heap.size ≤ q) (b2 : Below w1.heap.size w1 w2) :
    Two w w2 sa sb (fun _ => []) (fun _ => []) 0 0 :=
  ⟨⟨Ga, Gb, h1.below b2, h2, fun q e1 e2 => by have := h1.lt e1; have := g2 q e2; omega, g1, fun q e => Nat.le_trans b1.size (g2 q e)⟩, b1.trans (b2.mono b1.size)⟩
end
theorem apN_zero {q : Int} {ts : Tb} {ws : List Wr} (h : apN q ts ws = 0) : ∀ x ∈ ws, InT x.t := by
  unfold apN at h
  split at h
  · rename_i e
    exact (takB_in e).2
  · cases h
theorem addS_lt (z : Nat) : addS (fun j => decide (j < z)) z = fun j => decide (j < z + 1) := by
  funext j
  unfold addS
  by_cases h1 : j < z
  · simp [h1]; omega
  · by_cases h2 : j = z
    · simp [h2]
    · simp [h1, h2]; omega
theorem errV_not {r : Nat} (h : r ≠ 0) : errV r = .iface 64 (.int .i64 (r : Int)) := if_neg h
theorem turn_of (turn : Int) (n : Nat) (hn : 0 < n) (hb : n ≤ 300) : ∃ r : Nat, r < n ∧ wrap64 ((IntKind.u64.wrap turn).tmod (n : Int)) = (r : Int) ∧ (IntKind.u64.wrap turn).tmod (n : Int) = (r : Int) := by
  have h0 : 0 ≤ IntKind.u64.wrap turn := by rw [IntKind.wrap_u64]; omega
  obtain ⟨m, hm⟩ : ∃ m : Nat, IntKind.u64.wrap turn = (m : Int) := ⟨(IntKind.u64.wrap turn).toNat, by omega⟩
  have h1 : (IntKind.u64.wrap turn).tmod (n : Int) = ((m % n : Nat) : Int) := by rw [hm]; rfl
  have h2 : m % n < n := Nat.mod_lt _ hn
  refine ⟨m % n, h2, ?_, h1⟩
  rw [h1]
  unfold wrap64
  omega
set_option maxHeartbeats 16000000 in
theorem twice_law {w : World} {A : Option Addr} {c : Nat} {os : List Oq} (turn : Int) (h : Acts w A os) : Calls Try.prog 5 #[.slice A os.length c, .int .i64 turn] w fun e w' => e = .returned (.bool true) ∧ Below w.heap.size w w' := by
  have HA := Lib.hid (alive_any w)
  have H := Lib.hid h
  have HLG := Lib.hid (fun w1 (hb : Below w.heap.size w w1) => long_any (c := c) (h.below hb))
  obtain ⟨n, hn⟩ : ∃ n, n = os.length := ⟨_, rfl⟩
  have HN := Lib.hid hn
  have hnb : n ≤ 9223372036854775807 := by rw [hn]; exact h.big
  rw [← hn] at HLG ⊢
  clear hn h
  go_enter Try.func5, Try.ntmps5
  go_wp2_with fail
  refine Calls.mono HA.out ?_
  rintro e w1 ⟨rfl, hb1⟩
  have HB1 := Lib.hid hb1
  clear hb1
  go_wp2_with fail
  refine Calls.mono (HLG.out w1 HB1.out) ?_
  rintro e w2 ⟨⟨bl, rfl, hlg⟩, hb2⟩
  have HB2 := Lib.hid (HB1.out.trans (hb2.mono HB1.out.size))
  have HLB := Lib.hid hlg
  clear hb2 hlg
  cases bl with
  | true =>
    go_wp2_with fail
    go_ret
    exact ⟨rfl, HB2.out⟩
  | false =>
    obtain ⟨hl61, hl30⟩ := HLB.out rfl
    have hn61 : n ≤ 61 := by rw [HN.out]; exact hl61
    have HL30 := Lib.hid hl30
    clear hl61 hl30 hnb
    by_cases hn0 : n = 0
    · subst hn0
      go_wp2_with fail
      go_ret
      exact ⟨rfl, HB2.out⟩
    · have d0 : ((n : Int) == 0) = false := by simpa using hn0
      go_wp2_with fail
      refine Calls.mono (snew_any w2) ?_
      rintro e w3 ⟨rfl, ⟨Ga, hMa, hGa⟩, hb3⟩
      go_wp2_with fail
      refine Calls.mono (snew_any w3) ?_
      rintro e w4 ⟨rfl, ⟨Gb, hMb, hGb⟩, hb4⟩
      have hT0 : Two w w4 w2.heap.size w3.heap.size (fun _ => []) (fun _ => []) 0 0 := Two.start hMa (fun q e => Nat.le_trans HB2.out.size (hGa q e)) (HB2.out.trans (hb3.mono HB2.out.size)) hMb hGb hb4
      have HT0 := Lib.hid hT0
      clear hMa hGa hb3 hMb hGb hb4 hT0
      obtain ⟨sa, hsa⟩ : ∃ sa, sa = w2.heap.size := ⟨_, rfl⟩
      obtain ⟨sb, hsb⟩ : ∃ sb, sb = w3.heap.size := ⟨_, rfl⟩
      rw [← hsa, ← hsb] at HT0
      go_wp2_with fail
      rw [← hsa, ← hsb]
      clear hsa hsb
      go_loopw [25] (fun ix wr => ∃ (z : Nat) (ta : Tb), ix = .int .i64 (z : Int) ∧ z ≤ n ∧ Two w wr sa sb ta (fun _ => []) (z : Int) 0 ∧ Best (scN os) n (fun j => decide (j < z)) ta ∧ (∀ i, i < 4 → (ta i).length ≤ 30 * z) ∧ NumT ta) (fun ix wr => n - (intOf ix).toNat)
      case atStart => exact ⟨0, fun _ => [], rfl, by omega, HT0.out, by have := Best.start (scN os) n; simpa using this, fun i _ => by simp, NumT.none⟩
      case round =>
        obtain ⟨z, ta, rfl, hz, hT, hB, hln, hnm⟩ := hrel
        have HT := Lib.hid (And.intro hT (And.intro hB (And.intro hln hnm)))
        clear hT hB hln hnm
        by_cases hlt : z < n
        · have hzl : z < os.length := by rw [← HN.out]; exact hlt
          obtain ⟨b, off, rfl, hcl⟩ := Acts.cell (H.out.below HT.out.1.b) (by omega)
          obtain ⟨x0, x1, x2⟩ := hcl z hzl
          obtain ⟨o, ho⟩ : ∃ o, o = os[z] := ⟨_, rfl⟩
          have hok := (H.out.below HT.out.1.b).ok _ (List.getElem_mem hzl)
          have hw30 := HL30.out _ (List.getElem_mem hzl)
          rw [← ho] at x0 x1 x2 hok hw30
          have hsc : scN os z = o.ws := by rw [scN_at hzl, ho]
          have hbx : Below wr.heap.size wr (wr.alloc (.cells #[.int .i64 o.q, .slice o.A o.ws.length o.c, .bool o.pg] 34)) := (Below.refl _ _).alloc (Nat.le_refl _) _
          have HAP := Lib.hid ((HT.out.1.below hbx).apply (c := o.c) ((z : Int) + 1) (RowAt.below hok.row hbx) hok.numW (by omega) (fun i hi => by have := HT.out.2.2.1 i hi; omega))
          obtain ⟨r, hr⟩ : ∃ r, r = apN ((z : Int) + 1) ta o.ws := ⟨_, rfl⟩
          rw [← hr] at HAP
          have HR := Lib.hid (And.intro hr (And.intro hsc (And.intro hok.nums hw30)))
          obtain ⟨m, hm⟩ : ∃ m, m = o.ws.length := ⟨_, rfl⟩
          rw [← hm] at x1 HAP
          clear hcl ho hok hw30 hsc hbx hr hm
          by_cases hr0 : r = 0
          · subst hr0
            rw [show errV 0 = .nilIface from rfl] at HAP
            go_wp2_with fail
            refine Calls.mono HAP.out ?_
            rintro e w6 ⟨rfl, ta', la', hT', ⟨⟨_, rfl, rfl⟩ | ⟨h0, _⟩⟩⟩
            rotate_left
            · exact absurd rfl h0
            have HE : Hid (Two w w6 sa sb (forceT ((z : Int) + 1) ta o.ws) (fun _ => []) ((z + 1 : Nat) : Int) 0) := Lib.hid (by
              have e1 : max (z : Int) ((z : Int) + 1) = ((z + 1 : Nat) : Int) := by omega
              rw [e1] at hT'
              exact hT')
            have HF : Hid (Best (scN os) n (fun j => decide (j < z + 1)) (forceT ((z : Int) + 1) ta o.ws) ∧ (∀ i, i < 4 → (forceT ((z : Int) + 1) ta o.ws i).length ≤ 30 * (z + 1)) ∧ NumT (forceT ((z : Int) + 1) ta o.ws)) := Lib.hid (by
              have hin := apN_zero HR.out.1.symm
              refine ⟨?_, fun i hi => ?_, NumT.force _ HT.out.2.2.2 HR.out.2.2.1 (by omega) (by omega)⟩
              · have := HT.out.2.1.step hlt (by rw [HR.out.2.1]; exact hin)
                rw [addS_lt, HR.out.2.1] at this
                exact this
              · have := force_le (q := (z : Int) + 1) o.ws HT.out.2.2.1 i hi
                have := HR.out.2.2.2
                omega)
            clear hT'
            go_wp2_with fail
            go_roundw
            case rel => exact ⟨z + 1, _, by go_num, by omega, HE.out, HF.out⟩
            case measure => simp [intOf]; omega
          · rw [errV_not hr0] at HAP
            go_wp2_with fail
            refine Calls.mono HAP.out ?_
            rintro e w6 ⟨rfl, ta', la', hT', _⟩
            have HE := Lib.hid hT'.b
            clear hT'
            go_wp2_with fail
            go_ret
            exact ⟨rfl, HE.out⟩
        · obtain rfl : z = n := by omega
          clear hz hlt
          rename World => wa
          have HBA := Lib.hid (And.intro HT.out.2.1 (And.intro HT.out.2.2.1 HT.out.2.2.2))
          have HTA := Lib.hid HT.out.1
          clear HT
          obtain ⟨cc, hcl, m1, _⟩ := turn_of turn z (by omega) (by omega)
          have M1 := Lib.hid m1
          clear m1
          go_wp2_with fail
          go_loopw [40] (fun rx wr => ∃ (r : Nat) (S : Nat → Bool) (tb : Tb) (lb : Int), rx = .int .i64 (r : Int) ∧ r ≤ 2 ∧ Two w wr sa sb ta tb (z : Int) lb ∧ Best (scN os) z S tb ∧ (0 < r → ∀ j, j < z → S j = true) ∧ (lb ≤ z ∧ 0 ≤ lb ∧ ∀ j, j < z → S j = true → (j : Int) + 1 ≤ lb) ∧ (∀ i, i < 4 → (tb i).length ≤ 30 * (r * z)) ∧ NumT tb) (fun rx wr => 2 - (intOf rx).toNat)
          case atStart => exact ⟨0, fun _ => false, fun _ => [], 0, rfl, by omega, HTA.out, Best.start _ _, fun h => by omega, ⟨by omega, by omega, fun j _ hj => by cases hj⟩, fun i _ => by simp, NumT.none⟩
          case round =>
            obtain ⟨r, S, tb, lb, rfl, hr, hT, hB, hS, hlb, hln, hnm⟩ := hrel
            have HR2 := Lib.hid (And.intro hT (And.intro hB (And.intro hS (And.intro hlb (And.intro hln hnm)))))
            clear hT hB hS hlb hln hnm
            by_cases hlt : r < 2
            · have d2 : (r : Int) < 2 := by omega
              go_upto_region 15 with fail
              go_wp2_with fail
              go_loopw [43] (fun ix wr => ∃ (i : Nat) (S : Nat → Bool) (tb : Tb) (lb : Int), ix = .int .i64 (i : Int) ∧ i ≤ z ∧ Two w wr sa sb ta tb (z : Int) lb ∧ Best (scN os) z S tb ∧ (0 < r → ∀ j, j < z → S j = true) ∧ (∀ j, j < i → S ((j + cc) % z) = true) ∧ (lb ≤ z ∧ 0 ≤ lb ∧ ∀ j, j < z → S j = true → (j : Int) + 1 ≤ lb) ∧ (∀ q, q < 4 → (tb q).length ≤ 30 * (r * z + i)) ∧ NumT tb) (fun ix wr => z - (intOf ix).toNat)
              case atStart => exact ⟨0, S, tb, lb, rfl, by omega, HR2.out.1, HR2.out.2.1, HR2.out.2.2.1, fun j hj => by omega, HR2.out.2.2.2.1, by simpa using HR2.out.2.2.2.2.1, HR2.out.2.2.2.2.2⟩
              case round =>
                obtain ⟨i, S, tb, lb, rfl, hi, hT, hB, hS, hSi, hlb, hln, hnm⟩ := hrel
                have HR3 := Lib.hid (And.intro hT (And.intro hB (And.intro hS (And.intro hSi (And.intro hlb (And.intro hln hnm))))))
                clear hT hB hS hSi hlb hln hnm
                by_cases hil : i < z
                · obtain ⟨k, hk⟩ : ∃ k, k = (i + cc) % z := ⟨_, rfl⟩
                  have hkz : k < z := by rw [hk]; exact Nat.mod_lt _ (by omega)
                  have M2 : Hid (wrap64 ((i : Int) + (cc : Int)) = (i : Int) + (cc : Int)) := Lib.hid (by unfold wrap64; omega)
                  have M3 : Hid (((i : Int) + (cc : Int)).tmod (z : Int) = (k : Int)) := Lib.hid (by
                    have e : (i : Int) + (cc : Int) = ((i + cc : Nat) : Int) := by omega
                    rw [e, hk]
                    rfl)
                  have HK := Lib.hid hk
                  have hkl : k < os.length := by rw [← HN.out]; exact hkz
                  obtain ⟨b, off, rfl, hcl2⟩ := Acts.cell (H.out.below HR3.out.1.b) (Nat.lt_of_le_of_lt (Nat.zero_le _) hkl)
                  obtain ⟨x0, x1, x2⟩ := hcl2 k hkl
                  obtain ⟨o, ho⟩ : ∃ o, o = os[k] := ⟨_, rfl⟩
                  have hok := (H.out.below HR3.out.1.b).ok _ (List.getElem_mem hkl)
                  have hw30 := HL30.out _ (List.getElem_mem hkl)
                  rw [← ho] at x0 x1 x2 hok hw30
                  have hsc : scN os k = o.ws := by rw [scN_at hkl, ho]
                  have hrz : r * z ≤ 61 := by
                    have : r * z ≤ 1 * z := Nat.mul_le_mul_right z (by omega)
                    omega
                  have HAP := Lib.hid (HR3.out.1.swap.apply (c := o.c) ((k : Int) + 1) hok.row hok.numW (by omega) (fun q hq => by have := HR3.out.2.2.2.2.2.1 q hq; omega))
                  obtain ⟨rr, hrr⟩ : ∃ rr, rr = apN ((k : Int) + 1) tb o.ws := ⟨_, rfl⟩
                  rw [← hrr] at HAP
                  have HRR := Lib.hid (And.intro hrr (And.intro hsc (And.intro hok.nums (And.intro hw30 hrz))))
                  obtain ⟨m, hm⟩ : ∃ m, m = o.ws.length := ⟨_, rfl⟩
                  rw [← hm] at x1 HAP
                  clear hcl2 ho hok hw30 hsc hrr hm hk hrz
                  go_upto_region 18 with fail
                  have m1 := M1.out
                  have m2 := M2.out
                  have m3 := M3.out
                  go_upto_region 19 with fail
                  clear m1 m2 m3
                  by_cases hr0 : rr = 0
                  · subst hr0
                    rw [show errV 0 = .nilIface from rfl] at HAP
                    go_wp2_with fail
                    refine Calls.mono HAP.out ?_
                    rintro e w6 ⟨rfl, tb', lb', hT', ⟨⟨_, rfl, rfl⟩ | ⟨h0, _⟩⟩⟩
                    rotate_left
                    · exact absurd rfl h0
                    have HE := Lib.hid hT'.swap
                    have HF : Hid (Best (scN os) z (addS S k) (forceT ((k : Int) + 1) tb o.ws) ∧ (0 < r → ∀ j, j < z → addS S k j = true) ∧ (∀ j, j < i + 1 → addS S k ((j + cc) % z) = true) ∧ (max lb ((k : Int) + 1) ≤ z ∧ 0 ≤ max lb ((k : Int) + 1) ∧ ∀ j, j < z → addS S k j = true → (j : Int) + 1 ≤ max lb ((k : Int) + 1)) ∧ (∀ q, q < 4 → (forceT ((k : Int) + 1) tb o.ws q).length ≤ 30 * (r * z + (i + 1))) ∧ NumT (forceT ((k : Int) + 1) tb o.ws)) := Lib.hid (by
                      have hin := apN_zero HRR.out.1.symm
                      obtain ⟨_, g2, g3, g4, g5, g6, g7⟩ := HR3.out
                      refine ⟨?_, fun h j hj => by simp [addS, g3 h j hj], fun j hj => ?_, ⟨by omega, by omega, fun j hj hs => ?_⟩, fun q hq => ?_, NumT.force _ g7 HRR.out.2.2.1 (by omega) (by omega)⟩
                      · have := g2.step hkz (by rw [HRR.out.2.1]; exact hin)
                        rw [HRR.out.2.1] at this
                        exact this
                      · rcases Nat.lt_or_ge j i with e | e
                        · simp [addS, g4 j e]
                        · obtain rfl : j = i := by omega
                          rw [← HK.out]; simp [addS]
                      · unfold addS at hs
                        simp only [Bool.or_eq_true, decide_eq_true_eq] at hs
                        rcases hs with hs | hs
                        · have := g5.2.2 j hj hs; omega
                        · omega
                      · have := force_le (q := (k : Int) + 1) o.ws g6 q hq
                        have := HRR.out.2.2.2.1
                        omega)
                    clear hT'
                    go_wp2_with fail
                    go_roundw
                    case rel => exact ⟨i + 1, _, _, _, by go_num, by omega, HE.out, HF.out⟩
                    case measure => simp [intOf]; omega
                  · rw [errV_not hr0] at HAP
                    go_wp2_with fail
                    refine Calls.mono HAP.out ?_
                    rintro e w6 ⟨rfl, tb', lb', hT', _⟩
                    have HE := Lib.hid hT'.b
                    clear hT'
                    go_wp2_with fail
                    go_ret
                    exact ⟨rfl, HE.out⟩
                · obtain rfl : i = z := by omega
                  have HF : Hid (∀ j, j < i → S j = true) := Lib.hid fun j hj => by
                    obtain ⟨q, hq, e⟩ := turn_all hcl hj
                    rw [← e]
                    exact HR3.out.2.2.2.1 q hq
                  go_wp2_with fail
                  go_roundw
                  case rel => exact ⟨r + 1, S, tb, lb, by go_num, by omega, HR3.out.1, HR3.out.2.1, fun _ => HF.out, HR3.out.2.2.2.2.1, fun q hq => by have h9 := HR3.out.2.2.2.2.2.1 q hq; have e9 : (r + 1) * i = r * i + i := Nat.succ_mul r i; rw [e9]; exact h9, HR3.out.2.2.2.2.2.2⟩
                  case measure => simp [intOf]; omega
            · obtain rfl : r = 2 := by omega
              obtain ⟨gT, gB, gS, gL, gN, gM⟩ := HR2.out
              have hS2 : ∀ j, j < z → S j = true := gS (by omega)
              have hsame : ∀ i, i < 4 → ta i = tb i := HBA.out.1.same gB fun j hj => by rw [hS2 j hj]; simpa using hj
              have hlb : lb = (z : Int) := by
                have := gL.2.2 (z - 1) (by omega) (hS2 _ (by omega))
                omega
              obtain ⟨Fa, Fb, ma, mb, _⟩ := gT.ex
              have hba := HBA.out
              have hz61 : 2 * z ≤ 122 := by omega
              have hPA := sput_any ma (fun i hi => by have := hba.2.1 i hi; omega) hba.2.2
              have hPB := fun w1 (hb : Below wr.heap.size wr w1) => sput_any (mb.below hb) (fun i hi => by have := gN i hi; omega) gM
              have hLA := fun w1 (hb : Below wr.heap.size wr w1) => slive_any (ma.below hb)
              have hLB := fun w1 (hb : Below wr.heap.size wr w1) => slive_any (mb.below hb)
              have hTA := fun w1 (hb : Below wr.heap.size wr w1) => slast_any (ma.below hb)
              have hTB := fun w1 (hb : Below wr.heap.size wr w1) => slast_any (mb.below hb)
              have hsm := putB_small hba.2.2
              rw [← putB_congr hsame] at hPB
              rw [← liveT_congr hsame] at hLB
              rw [hlb] at hTB
              obtain ⟨xs, hxs⟩ : ∃ xs, xs = putB ta := ⟨_, rfl⟩
              obtain ⟨m, hm⟩ : ∃ m, m = xs.length := ⟨_, rfl⟩
              obtain ⟨lv, hlv⟩ : ∃ lv, lv = liveT ta := ⟨_, rfl⟩
              rw [← hxs] at hPA hPB hsm
              rw [← hm] at hPA hPB
              rw [← hlv] at hLA hLB
              have HP1 := Lib.hid hPA
              have HP2 := Lib.hid hPB
              have HL1 := Lib.hid hLA
              have HL2 := Lib.hid hLB
              have HT1 := Lib.hid hTA
              have HT2 := Lib.hid hTB
              have HSM := Lib.hid hsm
              have HW := Lib.hid gT.b
              clear gT gB gS gL gN gM hS2 hsame ma mb hba hPA hPB hLA hLB hTA hTB hsm hxs hm hlv hlb HR2 HBA
              go_wp2_with fail
              refine Calls.mono HP1.out ?_
              rintro e w6 ⟨Aa, ca, rfl, ra, -, b6⟩
              have HB6 := Lib.hid b6
              have HRA := Lib.hid ra
              clear ra b6
              go_wp2_with fail
              refine Calls.mono (HP2.out w6 HB6.out) ?_
              rintro e w7 ⟨Ab, cb, rfl, rb, -, b7⟩
              have HB7 := Lib.hid (HB6.out.trans (b7.mono HB6.out.size))
              have HRB := Lib.hid rb
              have HRA7 : Hid (Rdv w7 Aa m 1 (valsB xs)) := Lib.hid (HRA.out.ext fun _ hp => b7.cell hp)
              clear rb b7
              go_wp2_with fail
              refine Calls.mono (same_any Aa Ab m ca m cb xs xs w7 HRA7.out HRB.out HSM.out HSM.out) ?_
              rintro e w8 ⟨rfl, rfl⟩
              rw [decide_eq_true (rfl : xs = xs)]
              go_wp2_with fail
              refine Calls.mono (HL1.out w7 HB7.out) ?_
              rintro e w8 ⟨rfl, rfl⟩
              go_wp2_with fail
              refine Calls.mono (HL2.out w7 HB7.out) ?_
              rintro e w8 ⟨rfl, rfl⟩
              go_wp2_with fail
              refine Calls.mono (HT1.out w7 HB7.out) ?_
              rintro e w8 ⟨rfl, rfl⟩
              go_wp2_with fail
              refine Calls.mono (HT2.out w7 HB7.out) ?_
              rintro e w8 ⟨rfl, rfl⟩
              go_wp2_with fail
              go_ret
              exact ⟨rfl, HW.out.trans (HB7.out.mono HW.out.size)⟩
end Go.Proofs.Ytejpjbmbcdgomaa
