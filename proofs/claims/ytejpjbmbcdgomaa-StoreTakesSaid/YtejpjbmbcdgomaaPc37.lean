/- STake, WRfN: put together. -/
import Derived.Test.YtejpjbmbcdgomaaPc36
import Derived.Test.YtejpjbmbcdgomaaPc27
import Derived.Test.YtejpjbmbcdgomaaPc21
import Derived.Test.YtejpjbmbcdgomaaPc34
/- store.Take: the store of a text. -/
namespace Go.Proofs.Ytejpjbmbcdgomaa
set_option maxRecDepth 100000
open Go.RowKit

theorem ents_part (ts : Tb) {i : Nat} (hi : i < 4) : (ts i).length ≤ (ents ts).length := by
  rw [ents_cut ts hi]
  simp only [List.length_append, tag_len]
  omega
/-- The taken text's reader and store, between two reads. -/
structure TkS (w : World) (M : Nat) (B : Nat → Prop) (g sb : Nat) (ts : Tb) (last : Int) (bs : List Nat) (bad : Bool) (wr : World) : Prop where
  b : Below w.heap.size w wr
  rd : Rdr wr B (.pointer (some ⟨g, 0, none⟩)) bs bad
  sm : ∃ G, SM wr G sb ts (liveT ts : Int) last ∧ ∀ q, G q → M ≤ q
  hB : ∀ k, B k → w.heap.size ≤ k ∧ k < M
  hM : M ≤ wr.heap.size
section
variable {w wr w1 : World} {M g sb : Nat} {B : Nat → Prop} {ts ts' : Tb} {last last' : Int} {bs bs' : List Nat} {bad bad' : Bool} {G G' : Nat → Prop}
theorem TkS.below (h : TkS w M B g sb ts last bs bad wr) (hb : Below wr.heap.size wr w1) : TkS w M B g sb ts last bs bad w1 := by
  obtain ⟨h1, h2, ⟨G, h3, h4⟩, h5, h6⟩ := h
  exact ⟨h1.trans (hb.mono h1.size), h2.stays hb.size fun k hk _ => hb.block k hk, ⟨G, h3.below hb, h4⟩, h5, Nat.le_trans h6 hb.size⟩
theorem TkS.read (h : TkS w M B g sb ts last bs bad wr) (hr : Rdr w1 B (.pointer (some ⟨g, 0, none⟩)) bs' bad') (ho : Only wr w1 (.pointer (some ⟨g, 0, none⟩))) : TkS w M B g sb ts last bs' bad' w1 := by
  obtain ⟨h1, h2, ⟨G, h3, h4⟩, h5, h6⟩ := h
  have hg := h5 g (h2.low' g rfl)
  have hk : ∀ q, q < wr.heap.size → q ≠ g → w1.heap[q]? = wr.heap[q]? := fun q hq hn => ho.block q hq fun e => hn (by injection e with e; injection e with e; injection e with e; exact e.symm)
  exact ⟨⟨ho.os.trans h1.os, ho.tape.trans h1.tape, ho.output.trans h1.output, Nat.le_trans h1.size ho.size, fun q hq => (hk q (Nat.lt_of_lt_of_le hq h1.size) (by omega)).trans (h1.block q hq)⟩, hr, ⟨G, h3.keep fun q hq => hk q (h3.lt hq) (by have := h4 q hq; omega), h4⟩, h5, Nat.le_trans h6 ho.size⟩
theorem TkS.turn (h : TkS w M B g sb ts last bs bad wr) (_h3 : SM wr G sb ts (liveT ts : Int) last) (h4 : ∀ q, G q → M ≤ q) (hm : SM w1 G' sb ts' (liveT ts' : Int) last') (hC : Cg wr w1 G G') : TkS w M B g sb ts' last' bs bad w1 := by
  obtain ⟨h1, h2, _, h5, h6⟩ := h
  refine ⟨⟨hC.ch.os.trans h1.os, hC.ch.tape.trans h1.tape, hC.ch.output.trans h1.output, Nat.le_trans h1.size hC.ch.size, fun q hq => (hC.ch.block q (Nat.lt_of_lt_of_le hq h1.size) fun e => ?_).trans (h1.block q hq)⟩, h2.stays hC.ch.size fun k hk hBk => hC.ch.block k hk fun e => ?_, ⟨G', hm, fun q hq => ?_⟩, h5, Nat.le_trans h6 hC.ch.size⟩
  · have h9 := h4 q e
    have h8 := h5 g (h2.low' g rfl)
    omega
  · have h9 := h4 k e
    have h8 := h5 k hBk
    omega
  · rcases hC.fr q hq with e | e
    · exact h4 q e
    · omega
end
section
variable {w wr w1 : World} {M g sb : Nat} {B : Nat → Prop} {ts : Tb} {last : Int} {bs : List Nat} {bad : Bool}
theorem TkS.count (h : TkS w M B g sb ts last bs bad wr) : Calls Try.prog 58 #[.pointer (some ⟨g, 0, none⟩)] wr fun e w' => e = .returned (.int .u64 (((rcount bs).1 : Nat) : Int)) ∧ TkS w M B g sb ts last (rcount bs).2.1 (rcount bs).2.2 w' :=
  Calls.mono (rcount_any B _ bs bad wr h.rd) fun _ _ ⟨h1, h2, h3⟩ => ⟨h1, h.read h2 h3⟩
theorem TkS.num (h : TkS w M B g sb ts last bs bad wr) : Calls Try.prog 59 #[.pointer (some ⟨g, 0, none⟩)] wr fun e w' => e = .returned (.int .i64 (unfoldN (rcount bs).1)) ∧ TkS w M B g sb ts last (rcount bs).2.1 (rcount bs).2.2 w' :=
  Calls.mono (rnum_any B _ bs bad wr h.rd) fun _ _ ⟨h1, h2, h3⟩ => ⟨h1, h.read h2 h3⟩
theorem TkS.byte (h : TkS w M B g sb ts last bs bad wr) : Calls Try.prog 62 #[.pointer (some ⟨g, 0, none⟩)] wr fun e w' => e = .returned (.int .u8 ((byteT bs : Nat) : Int)) ∧ TkS w M B g sb ts last (bs.drop 1) (bad || decide (bs.length = 0)) w' :=
  Calls.mono (rbyte_any B _ bs bad wr h.rd) fun _ _ ⟨h1, h2, h3⟩ => ⟨h1, h.read h2 h3⟩
theorem TkS.set (h : TkS w M B g sb ts last bs bad wr) {t : Nat} (ht : t < 4) (hl : ∀ i, i < 4 → (ts i).length ≤ 99999) (k v q : Int) : Calls Try.prog 61 #[.pointer (some ⟨sb, 0, none⟩), .agg #[.int .i64 (t : Int), .int .i64 k], .agg #[.int .i64 v, .int .i64 q, .bool false]] wr fun e w' => e = .returned (.tuple #[]) ∧ TkS w M B g sb (ts.upd t (ins ⟨k, ⟨v, q, false⟩⟩ (ts t))) last bs bad w' := by
  obtain ⟨G, h3, h4⟩ := h.sm
  refine Calls.mono (sset_any (k := k) h3 ⟨v, q, false⟩ (t := (t : Int)) ⟨by omega, by omega⟩ hl) ?_
  rintro e w' ⟨rfl, G', g1, g2⟩
  rw [Int.toNat_natCast] at g1
  exact ⟨rfl, h.turn h3 h4 g1 g2⟩
theorem TkS.putLast (h : TkS w M B g sb ts last bs bad wr) (n : Int) : TkS w M B g sb ts n bs bad (wr.setCell ⟨sb, 5, none⟩ (.int .i64 n)) := by
  obtain ⟨G, h3, h4⟩ := h.sm
  exact h.turn h3 h4 (h3.put5 n).1 (h3.put5 n).2
end
/-- What Take answers. -/
def TakE (w : World) (r : Option (List En)) (e : Ending) (w' : World) : Prop := Below w.heap.size w w' ∧ match r with
  | none => e = .returned (.tuple #[.pointer none, errV 2])
  | some l => ∃ sb G ts, e = .returned (.tuple #[.pointer (some ⟨sb, 0, none⟩), .nilIface]) ∧ SM w' G sb ts (liveT ts : Int) (maxQ l) ∧ (∀ q, G q → w.heap.size ≤ q) ∧ ents ts = l ∧ NumT ts ∧ ∀ i, i < 4 → (ts i).length ≤ 4096
theorem TakE.bad {w w' : World} {r : Option (List En)} (hb : Below w.heap.size w w') (hr : r = none) : TakE w r (.returned (.tuple #[.pointer none, .iface 64 (.int .i64 2)])) w' := by
  subst hr
  exact ⟨hb, rfl⟩
set_option maxHeartbeats 16000000 in
theorem stake_any {w : World} {A : Option Addr} {n c : Nat} {bs : List Nat} (hr : Rdv w A n 1 (valsB bs)) (hnil : A = none → c = 0 ∧ n = 0) (hn : n ≤ 3000) (hs : ∀ x ∈ bs, x < 256) :
    Calls Try.prog 21 #[.slice A n c] w fun e w' => TakE w (takR bs) e w' := by
  have HNR := Lib.hid (newReader_any A n c bs w hr hnil (by omega) hs)
  obtain ⟨R, hR⟩ : ∃ R, R = takR bs := ⟨_, rfl⟩
  have HR := Lib.hid hR
  rw [← hR]
  have HSM := Lib.hid hs
  clear hr hnil hn hs hR
  go_enter Try.func21, Try.ntmps21
  go_wp2_with fail
  refine Calls.mono HNR.out ?_
  rintro e w1 ⟨g, rfl, hrd, hb1⟩
  obtain ⟨B, hB⟩ : ∃ B : Nat → Prop, B = fun k => w.heap.size ≤ k ∧ k < w1.heap.size := ⟨_, rfl⟩
  rw [← hB] at hrd
  have HRD := Lib.hid (And.intro hrd (And.intro hb1 hB))
  clear hrd hb1 hB HNR
  go_wp2_with fail
  refine Calls.mono (snew_any w1) ?_
  rintro e w2 ⟨rfl, ⟨G, hSM, hG⟩, hb2⟩
  obtain ⟨M, hM⟩ : ∃ M, M = w1.heap.size := ⟨_, rfl⟩
  obtain ⟨sb, hsb⟩ : ∃ sb, sb = w1.heap.size := ⟨_, rfl⟩
  rw [← hsb] at hSM
  have HT2 : Hid (TkS w M B g sb (fun _ => []) 0 bs false w2) := Lib.hid ⟨HRD.out.2.1.trans (hb2.mono HRD.out.2.1.size), HRD.out.1.stays hb2.size fun k hk _ => hb2.block k hk, ⟨G, hSM, fun q hq => by rw [hM]; exact hG q hq⟩, fun k hk => by rw [HRD.out.2.2] at hk; rw [hM]; exact hk, by rw [hM]; exact hb2.size⟩
  clear hSM hG hb2 hM
  have HC2 := Lib.hid (rcount_any B _ bs false w2 HT2.out.rd)
  obtain ⟨N, hN⟩ : ∃ N, N = (rcount bs).1 := ⟨_, rfl⟩
  obtain ⟨b0, hb0⟩ : ∃ b0, b0 = (rcount bs).2.1 := ⟨_, rfl⟩
  obtain ⟨d0, hd0⟩ : ∃ d0, d0 = (rcount bs).2.2 := ⟨_, rfl⟩
  rw [← hN, ← hb0, ← hd0] at HC2
  have HRR : Hid (R = if 4096 < N then none else match takF N b0 [] with | none => none | some (l, rest) => if rest = [83] then some l else none) := Lib.hid (by rw [HR.out, hN, hb0]; rfl)
  have HSM0 : Hid (∀ b ∈ b0, b < 256) := Lib.hid (by rw [hb0]; exact rcount_small HSM.out)
  clear hN hb0 hd0
  go_wp2_with fail
  rw [← hsb]
  clear hsb
  refine Calls.mono HC2.out ?_
  rintro e w3 ⟨rfl, hrd, ho⟩
  have HT3 := Lib.hid (HT2.out.read hrd ho)
  clear hrd ho
  by_cases hN : 4096 < N
  · have i1 : (4096 : Int) < (N : Int) := by omega
    have HE : Hid (R = none) := Lib.hid (by rw [HRR.out, if_pos hN])
    clear hN
    go_wp2_with fail
    go_ret2
    exact TakE.bad HT3.out.b HE.out
  · have i1 : ¬ (4096 : Int) < (N : Int) := by omega
    have hN4 : N ≤ 4096 := by omega
    have HN4 := Lib.hid hN4
    have HRF : Hid (R = match takF N b0 [] with | none => none | some (l, rest) => if rest = [83] then some l else none) := Lib.hid (by rw [HRR.out, if_neg hN])
    obtain ⟨TF, hTF⟩ : ∃ TF, TF = takF N b0 [] := ⟨_, rfl⟩
    rw [← hTF] at HRF
    have HTF : Hid (takF (N - 0) b0 [] = TF) := Lib.hid hTF.symm
    clear hN hTF
    have i2 : wrap64 (N : Int) = (N : Int) := by unfold wrap64; omega
    have i3 : IntKind.i64.wrap (N : Int) = (N : Int) := by rw [IntKind.wrap_i64]; omega
    go_wp2_with fail
    clear i1 i2 i3
    go_loopw [7, 8, 9, 10, 11, 12, 23, 24, 25, 26, 27, 28, 29, 30, 31, 32, 33, 34, 35, 36, 37, 38, 39, 40, 41, 42, 43, 44, 45, 46, 47, 48, 49, 50, 51, 52, 53, 54, 55, 56, 57, 58, 59, 60, 61, 62, 63, 64, 65, 66, 67, 68, 69, 70, 71, 72, 73, 74] (fun _ _ _ _ _ _ ix _ _ _ _ _ _ _ _ _ _ _ _ _ _ _ _ _ _ _ _ _ _ _ _ _ _ _ _ _ _ _ _ _ _ _ _ _ _ _ _ _ _ _ _ _ _ _ _ _ _ _ wr => ∃ (z : Nat) (ts : Tb) (last : Int) (bs : List Nat) (bad : Bool), ix = .int .i64 (z : Int) ∧ z ≤ N ∧ takF (N - z) bs (ents ts) = TF ∧ (ents ts).length = z ∧ last = maxQ (ents ts) ∧ NumT ts ∧ TkS w M B g sb ts last bs bad wr) (fun _ _ _ _ _ _ ix _ _ _ _ _ _ _ _ _ _ _ _ _ _ _ _ _ _ _ _ _ _ _ _ _ _ _ _ _ _ _ _ _ _ _ _ _ _ _ _ _ _ _ _ _ _ _ _ _ _ _ wr => N - (intOf ix).toNat)
    case atStart => exact ⟨0, fun _ => [], 0, b0, d0, rfl, Nat.zero_le _, HTF.out, rfl, rfl, NumT.none, HT3.out⟩
    case round =>
      obtain ⟨z, ts, last, bs, bad, rfl, hz, htf, hlen, hlast, hnum, hT⟩ := hrel
      have HTS := Lib.hid (And.intro htf (And.intro hlen (And.intro hlast hnum)))
      have HT := Lib.hid hT
      clear htf hlen hlast hnum hT
      by_cases hlt : z < N
      · have HSB := Lib.hid HT.out.rd.small'
        obtain ⟨t, ht⟩ : ∃ t, t = r4t bs := ⟨_, rfl⟩
        obtain ⟨a1, ha1⟩ : ∃ x, x = r4a bs := ⟨_, rfl⟩
        obtain ⟨k, hk⟩ : ∃ x, x = r4k bs := ⟨_, rfl⟩
        obtain ⟨a2, ha2⟩ : ∃ x, x = r4b bs := ⟨_, rfl⟩
        obtain ⟨v, hv⟩ : ∃ x, x = r4v bs := ⟨_, rfl⟩
        obtain ⟨a3, ha3⟩ : ∃ x, x = r4c bs := ⟨_, rfl⟩
        obtain ⟨q, hq⟩ : ∃ x, x = r4q bs := ⟨_, rfl⟩
        obtain ⟨a4, ha4⟩ : ∃ x, x = r4d bs := ⟨_, rfl⟩
        have HEQ := Lib.hid (And.intro ht (And.intro ha1 (And.intro hk (And.intro ha2 (And.intro hv (And.intro ha3 (And.intro hq ha4)))))))
        clear ht ha1 hk ha2 hv ha3 hq ha4
        have C1 : Hid (Calls Try.prog 58 #[.pointer (some ⟨g, 0, none⟩)] wr fun e w' => e = .returned (.int .u64 (t : Int)) ∧ ∃ d, TkS w M B g sb ts last a1 d w') := Lib.hid (by rw [HEQ.out.1, HEQ.out.2.1]; exact Calls.mono HT.out.count fun _ _ ⟨h1, h2⟩ => ⟨h1, _, h2⟩)
        go_wp2_with fail
        refine Calls.mono C1.out ?_
        rintro e w4 ⟨rfl, d1, hT⟩
        have HT4 := Lib.hid hT
        clear hT C1
        have C1 : Hid (Calls Try.prog 59 #[.pointer (some ⟨g, 0, none⟩)] w4 fun e w' => e = .returned (.int .i64 k) ∧ ∃ d, TkS w M B g sb ts last a2 d w') := Lib.hid (by have h := HT4.out.num; rw [HEQ.out.2.1] at h; rw [HEQ.out.2.2.1, HEQ.out.2.2.2.1]; exact Calls.mono h fun _ _ ⟨h1, h2⟩ => ⟨h1, _, h2⟩)
        go_wp2_with fail
        refine Calls.mono C1.out ?_
        rintro e w5 ⟨rfl, d2, hT⟩
        have HT5 := Lib.hid hT
        clear hT C1
        have C1 : Hid (Calls Try.prog 59 #[.pointer (some ⟨g, 0, none⟩)] w5 fun e w' => e = .returned (.int .i64 v) ∧ ∃ d, TkS w M B g sb ts last a3 d w') := Lib.hid (by have h := HT5.out.num; rw [HEQ.out.2.2.2.1] at h; rw [HEQ.out.2.2.2.2.1, HEQ.out.2.2.2.2.2.1]; exact Calls.mono h fun _ _ ⟨h1, h2⟩ => ⟨h1, _, h2⟩)
        go_wp2_with fail
        refine Calls.mono C1.out ?_
        rintro e w6 ⟨rfl, d3, hT⟩
        have HT6 := Lib.hid hT
        clear hT C1
        have C1 : Hid (Calls Try.prog 58 #[.pointer (some ⟨g, 0, none⟩)] w6 fun e w' => e = .returned (.int .u64 (q : Int)) ∧ ∃ d, TkS w M B g sb ts last a4 d w') := Lib.hid (by have h := HT6.out.count; rw [HEQ.out.2.2.2.2.2.1] at h; rw [HEQ.out.2.2.2.2.2.2.1, HEQ.out.2.2.2.2.2.2.2]; exact Calls.mono h fun _ _ ⟨h1, h2⟩ => ⟨h1, _, h2⟩)
        go_wp2_with fail
        refine Calls.mono C1.out ?_
        rintro e w7 ⟨rfl, d4, hT⟩
        have HT7 := Lib.hid hT
        clear hT C1
        by_cases h1 : t < 4
        · have i1 : ¬ (4 : Int) ≤ (t : Int) := by omega
          by_cases h2 : 1 ≤ q
          · have i2 : ¬ (q : Int) < 1 := by omega
            by_cases h3 : q ≤ 4611686018427387903
            · have i3 : ¬ (4611686018427387903 : Int) < (q : Int) := by omega
              have HOK : Hid (okE bs ∧ t < 4) := Lib.hid ⟨⟨by rw [← HEQ.out.1]; exact h1, by rw [← HEQ.out.2.2.2.2.2.2.1]; exact h2, by rw [← HEQ.out.2.2.2.2.2.2.1]; exact h3⟩, h1⟩
              have i4 : wrap64 (t : Int) = (t : Int) := by unfold wrap64; omega
              have i5 : IntKind.i64.wrap (t : Int) = (t : Int) := by rw [IntKind.wrap_i64]; omega
              clear h1 h2 h3
              obtain ⟨p12, hp12⟩ : ∃ p12, p12 = w7.heap.size := ⟨_, rfl⟩
              obtain ⟨w8, hw8⟩ : ∃ w8, w8 = w7.alloc (.cells #[.int .i64 (t : Int), .int .i64 k] 42) := ⟨_, rfl⟩
              have hb8 : Below w7.heap.size w7 w8 := by rw [hw8]; exact (Below.refl _ _).alloc (Nat.le_refl _) _
              have hx8 : w8.heap[p12]? = some (.cells #[.int .i64 (t : Int), .int .i64 k] 42 (0, 0)) := by rw [hw8, hp12]; exact heap_alloc_new w7 _
              have HT8 := Lib.hid (HT7.out.below hb8)
              have HX8 := Lib.hid hx8
              have HW8 := Lib.hid (And.intro hw8 hp12)
              clear hw8 hp12 hb8 hx8
              go_upto_region 13 with fail
              rw [← HW8.out.1, ← HW8.out.2]
              clear i1 i2 i3 i4 i5
              by_cases hz0 : z = 0
              · have hzp : ¬ (0 : Int) < (z : Int) := by omega
                have HLL : Hid (lastLess (ents ts) (r4e bs) = true) := Lib.hid (by rw [List.eq_nil_of_length_eq_zero (HTS.out.2.1.trans hz0)]; rfl)
                clear hz0
                have HTW := HT8
                have HBX := HX8
                have HLT : Hid (takF (N - (z + 1)) a4 (ents ts ++ [r4e bs]) = TF) := Lib.hid (by
                  have e1 : N - z = (N - (z + 1)) + 1 := by omega
                  rw [← HTS.out.1, e1, takF_yes HOK.out.1 HLL.out, HEQ.out.2.2.2.2.2.2.2])
                have HEN : Hid (ents (ts.upd t (ins ⟨k, ⟨v, (q : Int), false⟩⟩ (ts t))) = ents ts ++ [r4e bs] ∧ NumT (ts.upd t (ins ⟨k, ⟨v, (q : Int), false⟩⟩ (ts t)))) := Lib.hid (by
                  have h9 := r4_good HSB.out HOK.out.1
                  have h8 : r4e bs = ⟨t, ⟨k, ⟨v, (q : Int), false⟩⟩⟩ := by unfold r4e; rw [HEQ.out.1, HEQ.out.2.2.1, HEQ.out.2.2.2.2.1, HEQ.out.2.2.2.2.2.2.1]
                  obtain ⟨G9, hG9, _⟩ := HT.out.sm
                  have h7 := ents_snoc hG9.up (e := r4e bs) h9.1 HLL.out
                  have h6 := HTS.out.2.2.2.upd h9
                  rw [h8] at h7 h6 ⊢
                  exact ⟨h7, h6⟩)
                have HST := Lib.hid (HTW.out.set (t := t) HOK.out.2 (fun i hi => Nat.le_trans (ents_part ts hi) (by rw [HTS.out.2.1]; have := HN4.out; omega)) k v (q : Int))
                have x0 : w8.cell? ⟨p12, 0, none⟩ = some (.int .i64 (t : Int)) := by rw [cell_of_row _ _ 0 _ _ _ HBX.out]; rfl
                have x1 : w8.cell? ⟨p12, 1, none⟩ = some (.int .i64 k) := by rw [cell_of_row _ _ 1 _ _ _ HBX.out]; rfl
                have j1 : wrap64 (q : Int) = (q : Int) := by have := HOK.out.1.2.2; have := HEQ.out.2.2.2.2.2.2.1; unfold wrap64; omega
                have j2 : IntKind.i64.wrap (q : Int) = (q : Int) := by have := HOK.out.1.2.2; have := HEQ.out.2.2.2.2.2.2.1; rw [IntKind.wrap_i64]; omega
                go_wp2_with fail
                refine Calls.mono HST.out ?_
                rintro e9 w10 ⟨rfl, hT10⟩
                have HT10 := Lib.hid hT10
                obtain ⟨G9, hG9, _⟩ := hT10.sm
                have y0 := hG9.last5
                have y1 := hG9.frozen 5
                have HT11 := Lib.hid (hT10.putLast (max last (q : Int)))
                clear hT10 hG9 x0 x1
                go_wp2_with fail
                go_roundw
                case rel =>
                  refine ⟨z + 1, _, _, a4, d4, by go_num, by omega, ?_, ?_, ?_, HEN.out.2, HT11.out⟩
                  · rw [HEN.out.1]; exact HLT.out
                  · rw [HEN.out.1, List.length_append, HTS.out.2.1]; rfl
                  · rw [HEN.out.1, maxQ_snoc, ← HTS.out.2.2.1, show (r4e bs).x.c.s = (q : Int) by rw [HEQ.out.2.2.2.2.2.2.1]; rfl]
                case measure => simp [intOf]; omega
              · have hzp : (0 : Int) < (z : Int) := by omega
                have HRE : Hid (Calls Try.prog 60 #[.pointer (some ⟨sb, 0, none⟩), .agg #[.int .i64 (t : Int), .int .i64 k]] w8 fun e w' => e = .returned (.bool (!lastLess (ents ts) (r4e bs))) ∧ Below w8.heap.size w8 w') := Lib.hid (by
                  obtain ⟨G9, hG9, _⟩ := HT8.out.sm
                  have h9 := sreach_any hG9 (fun i hi => Nat.le_trans (ents_part ts hi) (by rw [HTS.out.2.1]; have := HN4.out; omega)) (t : Int) k
                  have h8 := reach_last hG9.up HTS.out.2.2.2.numL (r4e bs)
                  have h7 : ((r4e bs).t : Int) = (t : Int) := by rw [HEQ.out.1]; rfl
                  have h6 : (r4e bs).x.k = k := by rw [HEQ.out.2.2.1]; rfl
                  rw [h7, h6] at h8
                  rw [h8] at h9
                  exact h9)
                have x0 : w8.cell? ⟨p12, 0, none⟩ = some (.int .i64 (t : Int)) := by rw [cell_of_row _ _ 0 _ _ _ HX8.out]; rfl
                have x1 : w8.cell? ⟨p12, 1, none⟩ = some (.int .i64 k) := by rw [cell_of_row _ _ 1 _ _ _ HX8.out]; rfl
                obtain ⟨ll, hll⟩ : ∃ ll, ll = lastLess (ents ts) (r4e bs) := ⟨_, rfl⟩
                rw [← hll] at HRE
                have HLL0 := Lib.hid hll
                clear hll
                cases ll with
                | false =>
                  have HE : Hid (R = none) := Lib.hid (by
                    have e1 : N - z = (N - (z + 1)) + 1 := by omega
                    have h9 := HTS.out.1
                    rw [e1, takF_low HLL0.out.symm] at h9
                    rw [HRF.out, ← h9])
                  rw [show (!false) = true from rfl] at HRE
                  go_wp2_with fail
                  refine Calls.mono HRE.out ?_
                  rintro e w9 ⟨rfl, hb9⟩
                  have HB9 := Lib.hid (HT8.out.below hb9).b
                  clear hb9
                  go_wp2_with fail
                  go_ret2
                  exact TakE.bad HB9.out HE.out
                | true =>
                  have HLL : Hid (lastLess (ents ts) (r4e bs) = true) := Lib.hid HLL0.out.symm
                  rw [show (!true) = false from rfl] at HRE
                  go_wp2_with fail
                  refine Calls.mono HRE.out ?_
                  rintro e w9 ⟨rfl, hb9⟩
                  have HTW := Lib.hid (HT8.out.below hb9)
                  have HBX := Lib.hid ((hb9.block p12 (Array.getElem?_eq_some_iff.1 HX8.out).1).trans HX8.out)
                  clear hb9 x0 x1
                  have HLT : Hid (takF (N - (z + 1)) a4 (ents ts ++ [r4e bs]) = TF) := Lib.hid (by
                    have e1 : N - z = (N - (z + 1)) + 1 := by omega
                    rw [← HTS.out.1, e1, takF_yes HOK.out.1 HLL.out, HEQ.out.2.2.2.2.2.2.2])
                  have HEN : Hid (ents (ts.upd t (ins ⟨k, ⟨v, (q : Int), false⟩⟩ (ts t))) = ents ts ++ [r4e bs] ∧ NumT (ts.upd t (ins ⟨k, ⟨v, (q : Int), false⟩⟩ (ts t)))) := Lib.hid (by
                    have h9 := r4_good HSB.out HOK.out.1
                    have h8 : r4e bs = ⟨t, ⟨k, ⟨v, (q : Int), false⟩⟩⟩ := by unfold r4e; rw [HEQ.out.1, HEQ.out.2.2.1, HEQ.out.2.2.2.2.1, HEQ.out.2.2.2.2.2.2.1]
                    obtain ⟨G9, hG9, _⟩ := HT.out.sm
                    have h7 := ents_snoc hG9.up (e := r4e bs) h9.1 HLL.out
                    have h6 := HTS.out.2.2.2.upd h9
                    rw [h8] at h7 h6 ⊢
                    exact ⟨h7, h6⟩)
                  have HST := Lib.hid (HTW.out.set (t := t) HOK.out.2 (fun i hi => Nat.le_trans (ents_part ts hi) (by rw [HTS.out.2.1]; have := HN4.out; omega)) k v (q : Int))
                  have x0 : w9.cell? ⟨p12, 0, none⟩ = some (.int .i64 (t : Int)) := by rw [cell_of_row _ _ 0 _ _ _ HBX.out]; rfl
                  have x1 : w9.cell? ⟨p12, 1, none⟩ = some (.int .i64 k) := by rw [cell_of_row _ _ 1 _ _ _ HBX.out]; rfl
                  have j1 : wrap64 (q : Int) = (q : Int) := by have := HOK.out.1.2.2; have := HEQ.out.2.2.2.2.2.2.1; unfold wrap64; omega
                  have j2 : IntKind.i64.wrap (q : Int) = (q : Int) := by have := HOK.out.1.2.2; have := HEQ.out.2.2.2.2.2.2.1; rw [IntKind.wrap_i64]; omega
                  go_wp2_with fail
                  refine Calls.mono HST.out ?_
                  rintro e9 w10 ⟨rfl, hT10⟩
                  have HT10 := Lib.hid hT10
                  obtain ⟨G9, hG9, _⟩ := hT10.sm
                  have y0 := hG9.last5
                  have y1 := hG9.frozen 5
                  have HT11 := Lib.hid (hT10.putLast (max last (q : Int)))
                  clear hT10 hG9 x0 x1
                  go_wp2_with fail
                  go_roundw
                  case rel =>
                    refine ⟨z + 1, _, _, a4, d4, by go_num, by omega, ?_, ?_, ?_, HEN.out.2, HT11.out⟩
                    · rw [HEN.out.1]; exact HLT.out
                    · rw [HEN.out.1, List.length_append, HTS.out.2.1]; rfl
                    · rw [HEN.out.1, maxQ_snoc, ← HTS.out.2.2.1, show (r4e bs).x.c.s = (q : Int) by rw [HEQ.out.2.2.2.2.2.2.1]; rfl]
                  case measure => simp [intOf]; omega
            · have i3 : (4611686018427387903 : Int) < (q : Int) := by omega
              have HE : Hid (R = none) := Lib.hid (by
                have e1 : N - z = (N - (z + 1)) + 1 := by omega
                have h9 := HTS.out.1
                rw [e1, takF_bad (fun h => h3 (by rw [HEQ.out.2.2.2.2.2.2.1]; exact h.2.2))] at h9
                rw [HRF.out, ← h9])
              go_wp2_with fail
              go_ret2
              exact TakE.bad HT7.out.b HE.out
          · have i2 : (q : Int) < 1 := by omega
            have HE : Hid (R = none) := Lib.hid (by
              have e1 : N - z = (N - (z + 1)) + 1 := by omega
              have h9 := HTS.out.1
              rw [e1, takF_bad (fun h => h2 (by rw [HEQ.out.2.2.2.2.2.2.1]; exact h.2.1))] at h9
              rw [HRF.out, ← h9])
            go_wp2_with fail
            go_ret2
            exact TakE.bad HT7.out.b HE.out
        · have i1 : (4 : Int) ≤ (t : Int) := by omega
          have HE : Hid (R = none) := Lib.hid (by
            have e1 : N - z = (N - (z + 1)) + 1 := by omega
            have h9 := HTS.out.1
            rw [e1, takF_bad (fun h => h1 (by rw [HEQ.out.1]; exact h.1))] at h9
            rw [HRF.out, ← h9])
          go_wp2_with fail
          go_ret2
          exact TakE.bad HT7.out.b HE.out
      · obtain rfl : z = N := by omega
        have HTN : Hid (TF = some (ents ts, bs)) := Lib.hid (by rw [← HTS.out.1, Nat.sub_self]; rfl)
        have HBY := Lib.hid HT.out.byte
        have HEM := Lib.hid (fun h : bad = true => (show bs = [] by have h9 := HT.out.rd; rw [h] at h9; exact h9.empty))
        cases bs with
        | nil =>
          have HE : Hid (R = none) := Lib.hid (by rw [HRF.out, HTN.out]; exact if_neg (by decide))
          rw [show byteT [] = 0 from rfl] at HBY
          go_wp2_with fail
          refine Calls.mono HBY.out ?_
          rintro e w4 ⟨rfl, hT4⟩
          have HB4 := Lib.hid hT4.b
          clear hT4
          go_wp2_with fail
          go_ret2
          exact TakE.bad HB4.out HE.out
        | cons y rest =>
          obtain rfl : bad = false := by
            cases bad with
            | false => rfl
            | true => have := HEM.out rfl; cases this
          rw [show byteT (y :: rest) = y from rfl, show (y :: rest).drop 1 = rest from rfl, show (false || decide ((y :: rest).length = 0)) = false by simp] at HBY
          by_cases hy : y = 83
          · subst hy
            cases rest with
            | nil =>
              have HE : Hid (R = some (ents ts)) := Lib.hid (by rw [HRF.out, HTN.out]; exact if_pos rfl)
              go_wp2_with fail
              refine Calls.mono HBY.out ?_
              rintro e w4 ⟨rfl, hT4⟩
              have HT4 := Lib.hid hT4
              have HED := Lib.hid (end_any B _ [] false w4 hT4.rd)
              rw [show endV [] false = .nilIface from rfl] at HED
              clear hT4
              go_wp2_with fail
              refine Calls.mono HED.out ?_
              rintro e w5 ⟨_, rfl, rfl, rfl⟩
              go_wp2_with fail
              go_ret2
              obtain ⟨G9, hG9, hG8⟩ := HT4.out.sm
              rw [HE.out]
              refine ⟨HT4.out.b, sb, G9, ts, rfl, by rw [← HTS.out.2.2.1]; exact hG9, fun q hq => ?_, rfl, HTS.out.2.2.2, fun i hi => Nat.le_trans (ents_part ts hi) (by rw [HTS.out.2.1]; exact HN4.out)⟩
              have := hG8 q hq
              have := HT4.out.hB g (HT4.out.rd.low' g rfl)
              omega
            | cons y2 r2 =>
              have HE : Hid (R = none) := Lib.hid (by rw [HRF.out, HTN.out]; exact if_neg (by simp))
              go_wp2_with fail
              refine Calls.mono HBY.out ?_
              rintro e w4 ⟨rfl, hT4⟩
              have HT4 := Lib.hid hT4
              have HED := Lib.hid (end_any B _ (y2 :: r2) false w4 hT4.rd)
              rw [show endV (y2 :: r2) false = .iface 64 (.int .i64 2) by simp [endV]] at HED
              clear hT4
              go_wp2_with fail
              refine Calls.mono HED.out ?_
              rintro e w5 ⟨_, rfl, rfl, rfl⟩
              go_wp2_with fail
              go_ret2
              exact TakE.bad HT4.out.b HE.out
          · have hy2 : ((y : Int) != 83) = true := by
              have : ¬ (y : Int) = 83 := by omega
              simpa using this
            have HE : Hid (R = none) := Lib.hid (by rw [HRF.out, HTN.out]; exact if_neg (by simp [hy]))
            clear hy
            go_wp2_with fail
            refine Calls.mono HBY.out ?_
            rintro e w4 ⟨rfl, hT4⟩
            have HB4 := Lib.hid hT4.b
            clear hT4
            go_wp2_with fail
            go_ret2
            exact TakE.bad HB4.out HE.out
end Go.Proofs.Ytejpjbmbcdgomaa

/- The contracts of the document's reader's Num and Bytes. -/
namespace Go.Proofs.Ytejpjbmbcdgomaa
set_option maxRecDepth 100000
open Go.RowKit

theorem Rdv.set {w : World} {A : Option Addr} {n size : Nat} {ys : List Value} (h : Rdv w A n size ys) (p : Addr) (u : Value) (hne : ∀ ad, A = some ad → ad.block ≠ p.block) : Rdv (w.setCell p u) A n size ys :=
  ⟨h.1, fun hn => by
    obtain ⟨b, off, e, hc⟩ := h.2 hn
    exact ⟨b, off, e, fun j v hj => (World.cell?_of_block (Deep.blk_setCell_other w p u b (hne _ e))).trans (hc j v hj)⟩⟩
set_option maxHeartbeats 400000 in
theorem mnum_any (B g : Nat) (bs : List Nat) (bad : Bool) (w : World) (h : Rfx w B g bs bad) :
    Calls Try.prog 65 #[.pointer (some ⟨g, 0, none⟩)] w fun e w' => e = .returned (.int .i64 (unfoldN (rcount bs).1)) ∧ Rfx w' B g (rcount bs).2.1 (rcount bs).2.2 ∧ OnlyG w w' g := by
  have HC := Lib.hid (mcount_any B g bs bad w h)
  have hlt := rcount_lt bs h.small
  obtain ⟨n, hn⟩ : ∃ n, n = (rcount bs).1 := ⟨_, rfl⟩
  rw [← hn] at HC hlt ⊢
  have hu : unfoldN n = if n % 2 = 1 then -((n / 2 : Nat) : Int) - 1 else ((n / 2 : Nat) : Int) := rfl
  obtain ⟨U, hU⟩ : ∃ U, U = unfoldN n := ⟨_, rfl⟩
  rw [← hU] at hu ⊢
  clear h hn hU
  by_cases h1 : n % 2 = 1
  · rw [if_pos h1] at hu
    have HU := Lib.hid hu
    have h1' : (n : Int) % 2 = 1 := by omega
    clear hu h1
    go_enter Try.func65, Try.ntmps65
    go_wp2_with fail
    refine Calls.mono HC.out ?_
    rintro e w1 ⟨rfl, h2, h3⟩
    have H2 := Lib.hid h2
    have H3 := Lib.hid h3
    clear h2 h3
    go_wp2_with fail
    go_ret
    exact ⟨by rw [HU.out]; go_num, H2.out, H3.out⟩
  · rw [if_neg h1] at hu
    have HU := Lib.hid hu
    have h1' : (n : Int) % 2 = 0 := by omega
    clear hu h1
    go_enter Try.func65, Try.ntmps65
    go_wp2_with fail
    refine Calls.mono HC.out ?_
    rintro e w1 ⟨rfl, h2, h3⟩
    have H2 := Lib.hid h2
    have H3 := Lib.hid h3
    clear h2 h3
    go_wp2_with fail
    go_ret
    exact ⟨by rw [HU.out]; go_num, H2.out, H3.out⟩
end Go.Proofs.Ytejpjbmbcdgomaa
