/- STakes, SOpenB: put together. -/
import Derived.Test.YtejpjbmbcdgomaaPc37
import Derived.Test.YtejpjbmbcdgomaaPc38
import Derived.Test.YtejpjbmbcdgomaaPc39
import Derived.Test.YtejpjbmbcdgomaaPc22
import Derived.Test.YtejpjbmbcdgomaaPc26
import Derived.Lib.SmallJoins
/- StoreTakes: which bytes are a store's text. -/
namespace Go.Proofs.Ytejpjbmbcdgomaa
set_option maxRecDepth 100000
open Go.RowKit

theorem SM.onlyG {w w' : World} {g : Nat} {G : Nat → Prop} {sb : Nat} {ts : Tb} {live last : Int} (h : SM w G sb ts live last) (ho : OnlyG w w' g) (hg : ¬ G g) : SM w' G sb ts live last := h.keep fun _ hq => ho.at (h.lt hq) fun e => hg (e ▸ hq)
theorem Ens.onlyG {w w' : World} {g : Nat} {A : Option Addr} {l : List En} (h : Ens w A l) (ho : OnlyG w w' g) (hg : ∀ b o, A = some ⟨b, o, none⟩ → b ≠ g) : Ens w' A l := Ens.same h fun hl b o e => by
  obtain ⟨b', o', e', hc⟩ := Ens.cell h hl
  rw [e] at e'
  have e1 : b = b' := by simpa using congrArg (fun x => x.map (·.block)) e'
  have hb := World.block_lt_of_cell? _ _ (hc 0 hl).1
  exact ho.at (by rw [e1]; exact hb) (hg b o e)
set_option maxHeartbeats 16000000 in
theorem takes_law {w : World} {A : Option Addr} {n c : Nat} {bs : List Nat} (hr : Rdv w A n 1 (valsB bs)) (hn : n ≤ 9223372036854775807) (hnc : n ≤ c) (hnil : A = none → c = 0) (hs : ∀ x ∈ bs, x < 256) :
    Calls Try.prog 4 #[.slice A n c] w fun e w' => e = .returned (.bool true) ∧ Below w.heap.size w w' := by
  have HIN := Lib.hid (And.intro hr (And.intro hnc (And.intro hnil hs)))
  have HA := Lib.hid (alive_any w)
  clear hr hnc hnil hs
  go_enter Try.func4, Try.ntmps4
  go_wp2_with fail
  refine Calls.mono HA.out ?_
  rintro e w1 ⟨rfl, hb1⟩
  have HB1 := Lib.hid hb1
  clear hb1
  by_cases h3 : n ≤ 3000
  · have i1 : ¬ (3000 : Int) < (n : Int) := by omega
    have HN := Lib.hid h3
    have HR1 : Hid (Rdv w1 A n 1 (valsB bs)) := Lib.hid (HIN.out.1.ext fun _ hp => HB1.out.cell hp)
    have HCP := Lib.hid (bcopy_any A n c bs w1 HR1.out HIN.out.2.2.1 (by omega))
    clear h3
    go_wp2_with fail
    refine Calls.mono HCP.out ?_
    rintro e w2 ⟨g, cap, rfl, hmk, hg, hb2⟩
    have H2 := Lib.hid (And.intro hmk (And.intro hg hb2))
    clear hmk hg hb2 HCP i1
    have HST := Lib.hid (stake_any (c := cap) H2.out.1.row (fun h => by cases h) HN.out HIN.out.2.2.2)
    go_wp2_with fail
    refine Calls.mono HST.out ?_
    rintro e w3 ⟨hb3, h3⟩
    have HR3 : Hid (Rdv w3 A n 1 (valsB bs)) := Lib.hid ((HR1.out.ext fun _ hp => H2.out.2.2.cell hp).ext fun _ hp => hb3.cell hp)
    have HRT := Lib.hid (r9take_any (c := c) HR3.out (fun h => ⟨HIN.out.2.2.1 h, by have := HIN.out.2.2.1 h; have := HIN.out.2.1; omega⟩) HN.out HIN.out.2.2.2)
    have HB3 := Lib.hid hb3
    have HTX := Lib.hid (fun l (h : takR bs = some l) => takR_text HIN.out.2.2.2 h)
    obtain ⟨R, hR⟩ : ∃ R, R = takR bs := ⟨_, rfl⟩
    rw [← hR] at h3 HRT HTX
    clear hb3 hR HST
    cases R with
    | none =>
      obtain rfl := h3
      rw [show errV 2 = .iface 64 (.int .i64 2) from rfl]
      go_wp2_with fail
      refine Calls.mono HRT.out ?_
      rintro e w4 ⟨hb4, A4, m4, c4, l4, rfl, _⟩
      have HB4 := Lib.hid hb4
      rw [show (none : Option (List En)).isSome = false from rfl]
      obtain ⟨w5, hw5⟩ : ∃ w5, w5 = w4.alloc (.cells #[.slice A4 m4 c4, .int .i64 l4] 31) := ⟨_, rfl⟩
      have hb5 : Below w4.heap.size w4 w5 := by rw [hw5]; exact (Below.refl _ _).alloc (Nat.le_refl _) _
      have HB5 : Hid (Below w3.heap.size w3 w5) := Lib.hid (HB4.out.trans (hb5.mono HB4.out.size))
      have HW5 := Lib.hid hw5
      clear hb4 hw5 hb5
      go_upto_region 8 with fail
      rw [← HW5.out]
      have HMK : Hid (Mk w5 g n cap bs) := Lib.hid ((H2.out.1.at (HB3.out.block g H2.out.1.lt)).at (HB5.out.block g (Nat.lt_of_lt_of_le H2.out.1.lt HB3.out.size)))
      have HR5 : Hid (Rdv w5 A n 1 (valsB bs)) := Lib.hid (HR3.out.ext fun _ hp => HB5.out.cell hp)
      have HKP := Lib.hid (kept_any g n cap bs A c w5 HMK.out HR5.out (by have := HN.out; omega))
      go_wp2_with fail
      refine Calls.mono HKP.out ?_
      rintro e w6 ⟨rfl, rfl⟩
      have HIS := Lib.hid (is_errV 2 2 (by decide) w5)
      rw [show errV 2 = .iface 64 (.int .i64 2) from rfl, show decide (2 = 2) = true from rfl] at HIS
      go_wp2_with fail
      refine Calls.mono HIS.out ?_
      rintro e w6 ⟨rfl, rfl⟩
      have HOV := Lib.hid (over_any (some ⟨g, 0, none⟩) g 0 n cap w5 (fun _ => ⟨rfl, HMK.out.bt HIN.out.2.2.2⟩) (by have := HN.out; omega))
      go_wp2_with fail
      refine Calls.mono HOV.out ?_
      rintro e w7 ⟨rfl, ho⟩
      have HO := Lib.hid ho
      clear ho
      go_wp2_with fail
      go_ret
      have h12 := HB1.out.trans (H2.out.2.2.mono HB1.out.size)
      have h13 := h12.trans (HB3.out.mono h12.size)
      have h15 := h13.trans (HB5.out.mono h13.size)
      exact ⟨rfl, HO.out.os.trans h15.os, HO.out.tape.trans h15.tape, HO.out.output.trans h15.output, Nat.le_trans h15.size HO.out.size, fun q hq => (HO.out.at (Nat.lt_of_lt_of_le hq h15.size) (by have := H2.out.2.1; have := HB1.out.size; omega)).trans (h15.block q hq)⟩
    | some l =>
      obtain ⟨sb, G, ts, rfl, hM, hG, rfl, hnum, hln⟩ := h3
      have HM := Lib.hid (And.intro hM (And.intro hG (And.intro hnum hln)))
      clear hM hG hnum hln
      go_wp2_with fail
      refine Calls.mono HRT.out ?_
      rintro e w4 ⟨hb4, A4, m4, c4, l4, rfl, h4⟩
      obtain ⟨rfl, rfl, hens, hfr⟩ := h4 _ rfl
      have HB4 := Lib.hid hb4
      have HEN := Lib.hid (And.intro hens hfr)
      rw [show (some (ents ts) : Option (List En)).isSome = true from rfl]
      obtain ⟨nE, hnE⟩ : ∃ nE, nE = (ents ts).length := ⟨_, rfl⟩
      obtain ⟨lq, hlq⟩ : ∃ lq, lq = maxQ (ents ts) := ⟨_, rfl⟩
      have HNE := Lib.hid (And.intro hnE hlq)
      rw [← hnE, ← hlq]
      obtain ⟨p6, hp6⟩ : ∃ p6, p6 = w4.heap.size := ⟨_, rfl⟩
      obtain ⟨w5, hw5⟩ : ∃ w5, w5 = w4.alloc (.cells #[.slice A4 nE c4, .int .i64 lq] 31) := ⟨_, rfl⟩
      have hb5 : Below w4.heap.size w4 w5 := by rw [hw5]; exact (Below.refl _ _).alloc (Nat.le_refl _) _
      have hx5 : w5.heap[p6]? = some (.cells #[.slice A4 nE c4, .int .i64 lq] 31 (0, 0)) := by rw [hw5, hp6]; exact heap_alloc_new w4 _
      have HB5 : Hid (Below w3.heap.size w3 w5) := Lib.hid (HB4.out.trans (hb5.mono HB4.out.size))
      have HX5 := Lib.hid hx5
      have HE5 := Lib.hid (RowAt.below HEN.out.1 hb5)
      have HP6 : Hid (p6 ≠ g) := Lib.hid (by have := H2.out.1.lt; have := HB3.out.size; have := HB4.out.size; omega)
      have HW5 := Lib.hid (And.intro hw5 hp6)
      clear hb4 hw5 hb5 hx5 hp6 h4 hens hfr hnE hlq
      go_upto_region 8 with fail
      rw [← HW5.out.1, ← HW5.out.2]
      have HMK : Hid (Mk w5 g n cap bs) := Lib.hid ((H2.out.1.at (HB3.out.block g H2.out.1.lt)).at (HB5.out.block g (Nat.lt_of_lt_of_le H2.out.1.lt HB3.out.size)))
      have HR5 : Hid (Rdv w5 A n 1 (valsB bs)) := Lib.hid (HR3.out.ext fun _ hp => HB5.out.cell hp)
      have HKP := Lib.hid (kept_any g n cap bs A c w5 HMK.out HR5.out (by have := HN.out; omega))
      go_wp2_with fail
      refine Calls.mono HKP.out ?_
      rintro e w6 ⟨rfl, rfl⟩
      have HOV := Lib.hid (over_any (some ⟨g, 0, none⟩) g 0 n cap w5 (fun _ => ⟨rfl, HMK.out.bt HIN.out.2.2.2⟩) (by have := HN.out; omega))
      go_wp2_with fail
      refine Calls.mono HOV.out ?_
      rintro e w7 ⟨rfl, ho⟩
      have hgl := H2.out.1.lt
      have HM7 : Hid (SM w7 G sb ts (liveT ts : Int) lq) := Lib.hid (by
        have h9 := (HM.out.1.below HB5.out).onlyG ho (fun c => by have := HM.out.2.1 g c; omega)
        rw [HNE.out.2]; exact h9)
      have HE7 : Hid (Ens w7 A4 (ents ts)) := Lib.hid (Ens.onlyG HE5.out ho (fun b o e => by have := HEN.out.2 b o e; have := HB3.out.size; omega))
      have HBB : Hid (Below w.heap.size w w7) := Lib.hid (by
        have h12 := HB1.out.trans (H2.out.2.2.mono HB1.out.size)
        have h13 := h12.trans (HB3.out.mono h12.size)
        have h15 := h13.trans (HB5.out.mono h13.size)
        exact ⟨ho.os.trans h15.os, ho.tape.trans h15.tape, ho.output.trans h15.output, Nat.le_trans h15.size ho.size, fun q hq => (ho.at (Nat.lt_of_lt_of_le hq h15.size) (by have := H2.out.2.1; have := HB1.out.size; omega)).trans (h15.block q hq)⟩)
      have hx7 := (ho.at (Array.getElem?_eq_some_iff.1 HX5.out).1 HP6.out).trans HX5.out
      have z0 : w7.cell? ⟨p6, 0, none⟩ = some (.slice A4 nE c4) := by rw [cell_of_row _ _ 0 _ _ _ hx7]; rfl
      have z1 : w7.cell? ⟨p6, 1, none⟩ = some (.int .i64 lq) := by rw [cell_of_row _ _ 1 _ _ _ hx7]; rfl
      have HSD := Lib.hid (stands_any (c := c4) HM7.out HE7.out (fun i hi => Nat.le_trans (HM.out.2.2.2 i hi) (by decide)) HM.out.2.2.1)
      rw [← HNE.out.1] at HSD
      clear ho hx7 hgl
      go_wp2_with fail
      refine Calls.mono HSD.out ?_
      rintro e w8 ⟨rfl, hb8⟩
      have HB8 := Lib.hid hb8
      have HPU := Lib.hid (sput_any (HM7.out.below hb8) (fun i hi => Nat.le_trans (HM.out.2.2.2 i hi) (by decide)) HM.out.2.2.1)
      have hpb : putB ts = bs := by rw [← txtE_ents]; exact (HTX.out _ rfl).symm
      have hbl : bs.length = n := by have := HR1.out.1; rw [valsB_length] at this; omega
      rw [hpb, hbl] at HPU
      clear hb8 z0 z1 hpb hbl
      go_wp2_with fail
      refine Calls.mono HPU.out ?_
      rintro e w9 ⟨Ap, cp, rfl, hrp, _, hb9⟩
      have HB9 := Lib.hid (HBB.out.trans ((HB8.out.trans (hb9.mono HB8.out.size)).mono HBB.out.size))
      have HR9 : Hid (Rdv w9 A n 1 (valsB bs)) := Lib.hid (HIN.out.1.ext fun _ hp => HB9.out.cell hp)
      have HRP := Lib.hid hrp
      clear hb9 hrp
      go_wp2_with fail
      refine Calls.mono (same_any Ap A n cp n c bs bs w9 HRP.out HR9.out HIN.out.2.2.2 HIN.out.2.2.2) ?_
      rintro e w10 ⟨rfl, rfl⟩
      rw [decide_eq_true (rfl : bs = bs)]
      go_wp2_with fail
      go_ret
      exact ⟨rfl, HB9.out⟩
  · have i1 : (3000 : Int) < (n : Int) := by omega
    go_wp2_with fail
    go_ret
    exact ⟨rfl, HB1.out⟩
end Go.Proofs.Ytejpjbmbcdgomaa

/- Bytes, opened. -/
namespace Go.Proofs.Ytejpjbmbcdgomaa
set_option maxRecDepth 100000
open Go.ChangeShapes Go.WideShapes Go.ChangeAt Go.RowKit

theorem cells5 : Try.prog.cellsOf 5 = 1 := by kernel_rfl
section
variable {H : Type} {enc : TypeId × Value → H} {W : World} {sp : Nat → Bool}
theorem wf_u8 {z : Int} (h : (Lit.int .u8 z).wf = true) : 0 ≤ z ∧ z < 256 := by
  have := bounds_u8 h
  omega
theorem open_bytes {fuel : Nat} {v : Value} {x : DataW H × List MemPlace} (hf : DataW.trod enc Try.prog W 0 sp true fuel 57 [v] = some x) :
    ∃ A n c xs, v = .slice A n c ∧ Rdv W A n 1 (valsB xs) ∧ n ≤ 9223372036854775807 ∧ n ≤ c ∧ (A = none → c = 0) ∧ ∀ y ∈ xs, y < 256 := by
  rcases open_ints Try.underlying57 Try.underlying5 cells5 hf with ⟨hcs, _⟩ | ⟨a, len, cap, zs, hcs, _, hl, hm, hz, _, hcell, hwz⟩
  · injection hcs with hcs
    subst hcs
    exact ⟨none, 0, 0, [], rfl, ⟨rfl, fun hn => absurd hn (by omega)⟩, by decide, Nat.le_refl _, fun _ => rfl, fun y hy => by cases hy⟩
  · injection hcs with hcs
    subst hcs
    unfold maxLen at hm
    have hlz : len ≤ zs.length := by rw [hz]; split <;> omega
    refine ⟨some a, len, cap, (zs.take len).map Int.toNat, rfl, ⟨by simp [valsB]; omega, fun hn => ?_⟩, by omega, hl, (fun h => by cases h), fun y hy => ?_⟩
    · obtain ⟨b, off, spot⟩ := a
      have h0 := hcell 0 (by omega)
      have hspot : spot = none := by simpa [Addr.add] using World.cell?_spot h0
      subst hspot
      refine ⟨b, off, rfl, fun j u hj => ?_⟩
      rw [valsB_get] at hj
      have hjl : j < len := by
        rcases Nat.lt_or_ge j len with h | h
        · exact h
        · rw [List.getElem?_eq_none (by simp; omega)] at hj; cases hj
      have h1 := hcell j (by omega)
      rw [addr_plus] at h1
      have hzj : zs[j]? = some (zs[j]'(by omega)) := List.getElem?_eq_getElem (by omega)
      have hwz1 := wf_u8 (hwz _ (List.getElem_mem (show j < zs.length by omega)))
      have e : ((zs.take len).map Int.toNat)[j]? = some (zs[j]'(by omega)).toNat := by
        rw [List.getElem?_map, List.getElem?_take, if_pos hjl, hzj]; rfl
      rw [e] at hj
      injection hj with hj
      rw [h1, ← hj]
      congr 2
      rw [List.getD_eq_getElem?_getD, hzj]
      show zs[j] = _
      omega
    · obtain ⟨z, hz, rfl⟩ := List.mem_map.1 hy
      have := wf_u8 (hwz z (List.mem_of_mem_take hz))
      omega
theorem open_bytesv {v : Value} {base : Nat} {r : Reach} {x : DataW H × List MemPlace} (hv : Value.okWide Try.prog W r base 57 v) (h : ∃ fuel, DataW.trod enc Try.prog W 0 sp true fuel 57 v.cells.toList = some x) :
    ∃ A n c xs, v = .slice A n c ∧ Rdv W A n 1 (valsB xs) ∧ n ≤ 9223372036854775807 ∧ n ≤ c ∧ (A = none → c = 0) ∧ ∀ y ∈ xs, y < 256 := by
  obtain ⟨a, l, c, rfl⟩ := okWide_slice Try.underlying57 hv
  obtain ⟨fuel, hf⟩ := h
  exact open_bytes (by simpa [Value.cells] using hf)
end
end Go.Proofs.Ytejpjbmbcdgomaa
