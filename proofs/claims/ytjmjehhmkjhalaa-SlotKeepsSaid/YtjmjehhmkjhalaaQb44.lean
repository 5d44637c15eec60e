/- SlLoad: put together. -/
import Derived.Test.YtjmjehhmkjhalaaQb33
import Derived.Test.YtjmjehhmkjhalaaQb43
import Derived.Test.YtjmjehhmkjhalaaQb34
/- slot.Load. -/
namespace Go.Proofs.Ytjmjehhmkjhalaa
set_option maxRecDepth 100000
open Go.RowKit

/-- Of two manifests the one that counts. -/
noncomputable def pickM (b : Mf) (i : Int) (s : Sx) : Mf := match openM cI s.l with
  | some m => if m.gen % 2 = i ∧ b.gen < m.gen then m else b
  | none => b
noncomputable def bestN (p : Pw) (ds : List Dk) : Nat → Mf
  | 0 => mf0
  | n + 1 => pickM (bestN p ds n) (n : Int) (readV p ds 0 (n : Int)).1
/-- What loading comes to. -/
noncomputable def loadV (p : Pw) (ds : List Dk) : Mf × Value :=
  if sizeV ds 0 < 2 then (mf0, eRange) else if p.gone = true then (mf0, eDown) else if (bestN p ds 2).gen = 0 then (mf0, eCor) else (bestN p ds 2, .nilIface)
/-- Between two rounds: the result's block, the best one's. -/
structure LdI (w W : World) (rp bb : Nat) (b : Mf) (A : Option Addr) (c : Nat) : Prop where
  below : Below w.heap.size w W
  res : W.heap[rp]? = some (.cells zeroC 93 (0, 0))
  bst : W.heap[bb]? = some (.cells (mfC b A c) 93 (0, 0))
  zs : W.ownsRow (bb + 1) 3 1 (.slice A b.heads.length c) b.heads.length (rowV zV b.heads)
  rlo : w.heap.size ≤ rp
  blo : w.heap.size ≤ bb
  lt : rp < bb
section
variable {w W W' : World} {rp bb : Nat} {b : Mf} {A : Option Addr} {c : Nat}
theorem LdI.rl (h : LdI w W rp bb b A c) : rp < W.heap.size := (Array.getElem?_eq_some_iff.1 h.res).1
theorem LdI.bl (h : LdI w W rp bb b A c) : bb < W.heap.size := (Array.getElem?_eq_some_iff.1 h.bst).1
theorem LdI.later (h : LdI w W rp bb b A c) (hb : Below W.heap.size W W') : LdI w W' rp bb b A c :=
  ⟨h.below.trans (hb.mono h.below.size), (hb.block _ h.rl).trans h.res, (hb.block _ h.bl).trans h.bst, own_keep h.zs fun r hr => hb.block r (h.zs.lt r hr).2, h.rlo, h.blo, h.lt⟩
theorem LdI.set (h : LdI w W rp bb b A c) {m : Mf} {A' : Option Addr} {c' B : Nat} (hz : W.ownsRow B 3 1 (.slice A' m.heads.length c') m.heads.length (rowV zV m.heads)) (hB : bb < B) :
    LdI w ((((((W.setCell ⟨bb, 0, none⟩ (.int .i64 m.gen)).setCell ⟨bb, 1, none⟩ (.int .i64 m.epoch)).setCell ⟨bb, 2, none⟩ (.int .i64 m.base)).setCell ⟨bb, 3, none⟩ (.int .i64 m.area)).setCell ⟨bb, 4, none⟩ (.int .i64 m.len)).setCell ⟨bb, 5, none⟩ (.slice A' m.heads.length c')) rp bb m A' c' := by
  have hb := h.bst
  unfold mfC at hb
  exact ⟨set6_below h.below h.blo _ _ _ _ _ _, (set6_other _ _ _ _ _ _ _ _ _ (by have := h.lt; omega)).trans h.res, set6 _ _ _ _ _ _ _ _ _ _ _ _ _ _ _ hb, own_lower (own_keep hz fun r hr => set6_other _ _ _ _ _ _ _ _ _ (by have := (hz.lt r hr).1; omega)) hB, h.rlo, h.blo, h.lt⟩
end
theorem resLd {w : World} {g : Nat} {a0 a1 a2 a3 a4 a5 : Value} (h : w.heap[g]? = some (.cells #[a0, a1, a2, a3, a4, a5] 93 (0, 0))) (tmps : Array Value) (h2 : tmps.getD 2 undef = .pointer (some ⟨g, 0, none⟩)) :
    (results Try.f62 tmps).run Try.prog w = .ok (.tuple #[.agg #[a0, a1, a2, a3, a4, a5], tmps.getD 3 undef]) w := by
  have h2' : tmps[2]?.getD undef = .pointer (some ⟨g, 0, none⟩) := by simpa using h2
  have k0 : w.cell? ⟨g, 0, none⟩ = some a0 := (cell_of_row _ _ 0 _ _ (0, 0) h).trans rfl
  have k1 : w.cell? ⟨g, 1, none⟩ = some a1 := (cell_of_row _ _ 1 _ _ (0, 0) h).trans rfl
  have k2 : w.cell? ⟨g, 2, none⟩ = some a2 := (cell_of_row _ _ 2 _ _ (0, 0) h).trans rfl
  have k3 : w.cell? ⟨g, 3, none⟩ = some a3 := (cell_of_row _ _ 3 _ _ (0, 0) h).trans rfl
  have k4 : w.cell? ⟨g, 4, none⟩ = some a4 := (cell_of_row _ _ 4 _ _ (0, 0) h).trans rfl
  have k5 : w.cell? ⟨g, 5, none⟩ = some a5 := (cell_of_row _ _ 5 _ _ (0, 0) h).trans rfl
  simp [results, Try.results62, h2', asAddr, Sem.run_bind, go_sem, k0, k1, k2, k3, k4, k5]
/-- What Load answers. -/
def LdE (m : Mf) (er : Value) (e : Ending) (w' : World) : Prop :=
  ∃ A c, e = .returned (.tuple #[.agg (mfC m A c), er]) ∧ Zs w' A m.heads
set_option maxHeartbeats 8000000 in
theorem slload_any {w : World} {F : Nat → Prop} {g : Nat} {p : Pw} {ds : List Dk} {K : Nat} (h : St w F g p ds K) (hl : ds.length ≤ 1000) (hK : K ≤ 1000000) :
    Calls Try.prog 62 #[.pointer (some ⟨g, 0, none⟩)] w fun e w' => LdE (loadV p ds).1 (loadV p ds).2 e w' ∧ Below w.heap.size w w' := by
  have HH := Lib.hid h
  have HLN := Lib.hid (And.intro hl hK)
  have HR := Lib.hid (show loadV p ds = _ from rfl)
  obtain ⟨R, hR⟩ : ∃ R, R = loadV p ds := ⟨_, rfl⟩
  have hR2 : R = if sizeV ds 0 < 2 then (mf0, eRange) else if p.gone = true then (mf0, eDown) else if (bestN p ds 2).gen = 0 then (mf0, eCor) else (bestN p ds 2, .nilIface) := hR
  rw [← hR]
  have HR2 := Lib.hid hR2
  clear HR h hl hK hR hR2
  go_enter Try.func62, Try.ntmps62
  go_upto_region 1 with (fail)
  obtain ⟨rp, hrp⟩ : ∃ rp, rp = w.heap.size := ⟨_, rfl⟩
  obtain ⟨w1, hw1⟩ : ∃ w1, w1 = w.alloc (.cells #[.int .i64 0, .int .i64 0, .int .i64 0, .int .i64 0, .int .i64 0, .slice none 0 0] 93) := ⟨_, rfl⟩
  have hb1 : Below w.heap.size w w1 := by rw [hw1]; exact (Below.refl _ _).alloc (Nat.le_refl _) _
  have hr1 : w1.heap[rp]? = some (.cells zeroC 93 (0, 0)) := by rw [hw1, hrp]; exact heap_alloc_new w _
  have H1 := Lib.hid (And.intro hb1 (And.intro hr1 (by omega : w.heap.size ≤ rp)))
  rw [← hw1, ← hrp]
  clear hw1 hrp hb1 hr1
  have HT1 := Lib.hid (HH.out.below H1.out.1)
  have HSZ := Lib.hid (st_size_gen HT1.out 0 HLN.out.1)
  by_cases h2 : sizeV ds 0 < 2
  · have hr := HR2.out
    rw [if_pos h2] at hr
    subst hr
    have d1 : decide ((sizeV ds 0 : Int) < 2) = true := decide_eq_true (by omega)
    obtain ⟨z, hz⟩ : ∃ z, z = sizeV ds 0 := ⟨_, rfl⟩
    rw [← hz] at d1 HSZ
    have hr3 := H1.out.2.1
    have k0 := (cell_of_row _ _ 0 _ _ (0, 0) hr3).trans rfl
    have k1 := (cell_of_row _ _ 1 _ _ (0, 0) hr3).trans rfl
    have k2 := (cell_of_row _ _ 2 _ _ (0, 0) hr3).trans rfl
    have k3 := (cell_of_row _ _ 3 _ _ (0, 0) hr3).trans rfl
    have k4 := (cell_of_row _ _ 4 _ _ (0, 0) hr3).trans rfl
    have k5 := (cell_of_row _ _ 5 _ _ (0, 0) hr3).trans rfl
    have f0 := frozen_at hr3 0
    have f1 := frozen_at hr3 1
    have f2 := frozen_at hr3 2
    have f3 := frozen_at hr3 3
    have f4 := frozen_at hr3 4
    have f5 := frozen_at hr3 5
    unfold zeroC at k0 k1 k2 k3 k4 k5 hr3
    have HF := Lib.hid (And.intro (set6 _ _ _ _ _ _ _ _ _ (.int .i64 0) (.int .i64 0) (.int .i64 0) (.int .i64 0) (.int .i64 0) (.slice none 0 0) hr3) (set6_below H1.out.1 H1.out.2.2 (.int .i64 0) (.int .i64 0) (.int .i64 0) (.int .i64 0) (.int .i64 0) (.slice none 0 0)))
    clear hz h2 hr3
    go_wp2_with fail
    refine Calls.mono HSZ.out ?_
    rintro e w4 ⟨rfl, rfl⟩
    go_wp2_with fail
    refine bodyPost_ret (resLd HF.out.1 _ rfl) rfl ?_
    exact ⟨⟨none, 0, rfl, zs_nil _ _⟩, HF.out.2⟩
  · have hr := HR2.out
    rw [if_neg h2] at hr
    have HRR := Lib.hid hr
    have d1 : decide ((sizeV ds 0 : Int) < 2) = false := decide_eq_false (by omega)
    have HHB := Lib.hid (fun (i : Int) (h0 : 0 ≤ i) (h1 : i < 2) => size_has h2 h0 h1)
    obtain ⟨z, hz⟩ : ∃ z, z = sizeV ds 0 := ⟨_, rfl⟩
    rw [← hz] at d1 HSZ
    clear hz h2 hr
    go_wp2_with fail
    refine Calls.mono HSZ.out ?_
    rintro e w4 ⟨rfl, rfl⟩
    clear HSZ
    go_wp2_with fail
    clear d1
    obtain ⟨bb, hbb⟩ : ∃ bb, bb = w1.heap.size := ⟨_, rfl⟩
    obtain ⟨w2, hw2⟩ : ∃ w2, w2 = w1.alloc (.cells #[.int .i64 0, .int .i64 0, .int .i64 0, .int .i64 0, .int .i64 0, .slice none 0 0] 93) := ⟨_, rfl⟩
    have hb2 : Below w1.heap.size w1 w2 := by rw [hw2]; exact (Below.refl _ _).alloc (Nat.le_refl _) _
    have HI2 : Hid (LdI w w2 rp bb mf0 none 0) := Lib.hid (by
      obtain ⟨h1a, h1b, h1c⟩ := H1.out
      have h1d := (Array.getElem?_eq_some_iff.1 h1b).1
      exact ⟨h1a.trans (hb2.mono h1a.size), (hb2.block _ h1d).trans h1b, by rw [hw2, hbb]; exact heap_alloc_new w1 _, World.ownsRow_nil _ _ _ _, h1c, by rw [hbb]; exact h1a.size, by omega⟩)
    rw [← hw2, ← hbb]
    clear hw2 hbb hb2
    cases hg : p.gone with
    | true =>
      have hr := HRR.out
      rw [if_pos hg] at hr
      subst hr
      have hrd := st_read_gen (HH.out.below HI2.out.below) 0 0 HLN.out.1 (by have := HLN.out.2; omega)
      have e9 : readV p ds 0 0 = (Sx.zero, 3) := by unfold readV; rw [if_pos hg]
      rw [e9] at hrd
      have HRD := Lib.hid (show Calls Try.prog 126 #[.pointer (some ⟨g, 0, none⟩), .int .i64 0, .int .i64 0] w2 fun e w' => e = .returned (.tuple #[.agg (secV (noughts 64)), .iface 43 (.int .i64 3)]) ∧ Below w2.heap.size w2 w' from hrd)
      have hsz : (secV (noughts 64)).size = 64 := by rw [secV_size]; exact noughts64
      have hst := fun w1 => store_new w1 (noughts 64) noughts64
      clear hrd e9 hg HRR HHB HT1
      refine wp_loop_rounds 1 ?_
      rw [rounds_succ]
      go_wp2_with fail
      refine Calls.mono HRD.out ?_
      rintro e w3 ⟨rfl, hb3⟩
      have HI3 := Lib.hid ((HI2.out.later hb3).later ((Below.refl _ w3).alloc (Nat.le_refl _) (.cells (secV (noughts 64)) 75)))
      clear hb3
      go_upto_region 8 with (fail)
      obtain ⟨w4, hw4⟩ : ∃ w4, w4 = w3.alloc (.cells (secV (noughts 64)) 75) := ⟨_, rfl⟩
      rw [← hw4] at HI3 ⊢
      clear hw4 hst hsz
      have hr3 := HI3.out.res
      have k0 := (cell_of_row _ _ 0 _ _ (0, 0) hr3).trans rfl
      have k1 := (cell_of_row _ _ 1 _ _ (0, 0) hr3).trans rfl
      have k2 := (cell_of_row _ _ 2 _ _ (0, 0) hr3).trans rfl
      have k3 := (cell_of_row _ _ 3 _ _ (0, 0) hr3).trans rfl
      have k4 := (cell_of_row _ _ 4 _ _ (0, 0) hr3).trans rfl
      have k5 := (cell_of_row _ _ 5 _ _ (0, 0) hr3).trans rfl
      have f0 := frozen_at hr3 0
      have f1 := frozen_at hr3 1
      have f2 := frozen_at hr3 2
      have f3 := frozen_at hr3 3
      have f4 := frozen_at hr3 4
      have f5 := frozen_at hr3 5
      unfold zeroC at k0 k1 k2 k3 k4 k5 hr3
      have HF := Lib.hid (And.intro (set6 _ _ _ _ _ _ _ _ _ (.int .i64 0) (.int .i64 0) (.int .i64 0) (.int .i64 0) (.int .i64 0) (.slice none 0 0) hr3) (set6_below HI3.out.below HI3.out.rlo (.int .i64 0) (.int .i64 0) (.int .i64 0) (.int .i64 0) (.int .i64 0) (.slice none 0 0)))
      clear hr3
      go_wp2_with fail
      refine bodyPost_ret (resLd HF.out.1 _ rfl) rfl ?_
      exact ⟨⟨none, 0, rfl, zs_nil _ _⟩, HF.out.2⟩
    | false =>
      have hr := HRR.out
      rw [if_neg (by rw [hg]; decide)] at hr
      have HRQ := Lib.hid hr
      have HRD := Lib.hid (show ∀ (W : World) (q : Nat), Below w.heap.size w W → q < 2 → Calls Try.prog 126 #[.pointer (some ⟨g, 0, none⟩), .int .i64 0, .int .i64 (q : Int)] W fun e w' => e = .returned (.tuple #[.agg (secV (readV p ds 0 (q : Int)).1.l), .nilIface]) ∧ Below W.heap.size W w' from fun W q hb hq => by
        have h9 := st_read_gen (HH.out.below hb) 0 (q : Int) HLN.out.1 (by have := HLN.out.2; omega)
        have h8 : (readV p ds 0 (q : Int)).2 = 0 := by
          unfold readV
          rw [if_neg (by rw [hg]; decide), if_neg (by rw [HHB.out (q : Int) (by omega) (by omega)]; decide)]
          have h7 := HHB.out (q : Int) (by omega) (by omega)
          obtain ⟨j, hj0, hj, _⟩ := hasB_true h7
          have : j = 0 := by omega
          subst this
          rw [Int.toNat_zero, List.getElem?_eq_getElem hj]
        rw [h8] at h9
        exact h9)
      have HBN := Lib.hid (show ∀ q : Nat, bestN p ds (q + 1) = pickM (bestN p ds q) (q : Int) (readV p ds 0 (q : Int)).1 from fun q => rfl)
      clear hr hg HRR HHB HT1
      go_loopw [5, 6, 7, 8, 15] (fun _ _ _ _ i wr => ∃ (q : Nat) (b : Mf) (A : Option Addr) (c : Nat), i = .int .i64 (q : Int) ∧ q ≤ 2 ∧ Hid (b = bestN p ds q) ∧ LdI w wr rp bb b A c) (fun _ _ _ _ i _ => 2 - (intOf i).toNat)
      case atStart => exact ⟨0, mf0, none, 0, rfl, by omega, Lib.hid rfl, HI2.out⟩
      case round =>
        obtain ⟨q, b, A, c, rfl, hq, HB, hI⟩ := hrel
        have HI := Lib.hid hI
        clear hI
        by_cases hlt : q < 2
        · have HR1 := Lib.hid (HRD.out wr q HI.out.below hlt)
          have HBQ := Lib.hid (HBN.out q)
          obtain ⟨x, hx⟩ : ∃ x, x = (readV p ds 0 (q : Int)).1 := ⟨_, rfl⟩
          rw [← hx] at HR1 HBQ
          have hxl := x.len
          have hxs := x.small
          obtain ⟨S, hS⟩ : ∃ S, S = x.l := ⟨_, rfl⟩
          rw [← hS] at HR1 hxl hxs
          have HSL := Lib.hid hxl
          have HOP := Lib.hid (fun W => slopen_any S hxl hxs W)
          have HPK := Lib.hid (show pickM b (q : Int) x = match openM cI S with | some m => if m.gen % 2 = (q : Int) ∧ b.gen < m.gen then m else b | none => b from by rw [hS]; rfl)
          have hsz : (secV S).size = 64 := by rw [secV_size]; exact hxl
          have hst := fun w1 => store_new w1 S hxl
          have hlt' := hlt
          clear hx hS hxl hxs
          go_wp2_with fail
          refine Calls.mono HR1.out ?_
          rintro e w3 ⟨rfl, hb3⟩
          have HI3 := Lib.hid ((HI.out.later hb3).later ((Below.refl _ w3).alloc (Nat.le_refl _) (.cells (secV S) 75)))
          have HS3 := Lib.hid (show Sec (w3.alloc (.cells (secV S) 75)) w3.heap.size S from heap_alloc_new w3 _)
          clear hb3
          go_upto_region 10 with (fail)
          obtain ⟨w4, hw4⟩ : ∃ w4, w4 = w3.alloc (.cells (secV S) 75) := ⟨_, rfl⟩
          obtain ⟨sb, hsb⟩ : ∃ sb, sb = w3.heap.size := ⟨_, rfl⟩
          rw [← hw4] at HI3 HS3 ⊢
          rw [← hsb] at HS3 ⊢
          clear hw4 hsb hst hsz
          go_wp2_with (first | refine wpList_load_sec (by rfl) (.tmp 6) rfl sb rfl S HSL.out HS3.out ?_)
          refine Calls.mono (HOP.out w4) ?_
          rintro e w5 ⟨ho, hb5⟩
          have HI5 := Lib.hid (HI3.out.later hb5)
          have HW4 := Lib.hid (show bb < w4.heap.size from HI3.out.bl)
          clear hb5
          rcases ho with ⟨hn, rfl⟩ | ⟨m, A2, c2, hn, rfl, hown⟩
          · have HN := Lib.hid (show b = bestN p ds (q + 1) from by rw [HBQ.out, ← HB.out, HPK.out, hn])
            clear hn
            unfold zeroC eCor
            have HI6 := Lib.hid (HI5.out.later ((Below.refl _ w5).alloc (Nat.le_refl _) (.cells #[.int .i64 0, .int .i64 0, .int .i64 0, .int .i64 0, .int .i64 0, .slice none 0 0] 93)))
            go_wp2_with fail
            go_roundw
            case rel => exact ⟨q + 1, b, A, c, by go_num, by omega, HN, HI6.out⟩
            case measure => simp [intOf]; omega
          · have HPM := Lib.hid (show bestN p ds (q + 1) = if m.gen % 2 = (q : Int) ∧ b.gen < m.gen then m else b from by rw [HBQ.out, ← HB.out, HPK.out, hn])
            have hgm := openM_good hn
            have HOW := Lib.hid hown
            have hmm : w5.alloc (.cells (mfC m A2 c2) 93) = w5.alloc (.cells #[.int .i64 m.gen, .int .i64 m.epoch, .int .i64 m.base, .int .i64 m.area, .int .i64 m.len, .slice A2 m.heads.length c2] 93) := rfl
            have HI6 := Lib.hid (HI5.out.later ((Below.refl _ w5).alloc (Nat.le_refl _) (.cells #[.int .i64 m.gen, .int .i64 m.epoch, .int .i64 m.base, .int .i64 m.area, .int .i64 m.len, .slice A2 m.heads.length c2] 93)))
            have HM6 := Lib.hid (heap_alloc_new w5 (.cells #[.int .i64 m.gen, .int .i64 m.epoch, .int .i64 m.base, .int .i64 m.area, .int .i64 m.len, .slice A2 m.heads.length c2] 93))
            have HO6 := Lib.hid (show (w5.alloc (.cells #[.int .i64 m.gen, .int .i64 m.epoch, .int .i64 m.base, .int .i64 m.area, .int .i64 m.len, .slice A2 m.heads.length c2] 93)).ownsRow w4.heap.size 3 1 (.slice A2 m.heads.length c2) m.heads.length (rowV zV m.heads) from own_keep hown fun r hr => heap_alloc_old _ _ (hown.lt r hr).2)
            have e2 : m.gen.tmod 2 = m.gen % 2 := by rw [Int.tmod_eq_emod_of_nonneg (by have := hgm.g1; omega)]
            clear hn hown hmm hgm
            unfold mfC
            go_upto_region 11 with (fail)
            obtain ⟨w6, hw6⟩ : ∃ w6, w6 = w5.alloc (.cells #[.int .i64 m.gen, .int .i64 m.epoch, .int .i64 m.base, .int .i64 m.area, .int .i64 m.len, .slice A2 m.heads.length c2] 93) := ⟨_, rfl⟩
            obtain ⟨xm, hxm⟩ : ∃ xm, xm = w5.heap.size := ⟨_, rfl⟩
            rw [← hw6] at HI6 HM6 HO6 ⊢
            rw [← hxm] at HM6 ⊢
            clear hw6 hxm
            have x0 := (cell_of_row _ _ 0 _ _ (0, 0) HM6.out).trans rfl
            have x1 := (cell_of_row _ _ 1 _ _ (0, 0) HM6.out).trans rfl
            have x2 := (cell_of_row _ _ 2 _ _ (0, 0) HM6.out).trans rfl
            have x3 := (cell_of_row _ _ 3 _ _ (0, 0) HM6.out).trans rfl
            have x4 := (cell_of_row _ _ 4 _ _ (0, 0) HM6.out).trans rfl
            have x5 := (cell_of_row _ _ 5 _ _ (0, 0) HM6.out).trans rfl
            have hr3 := HI6.out.bst
            unfold mfC at hr3
            have k0 := (cell_of_row _ _ 0 _ _ (0, 0) hr3).trans rfl
            have k1 := (cell_of_row _ _ 1 _ _ (0, 0) hr3).trans rfl
            have k2 := (cell_of_row _ _ 2 _ _ (0, 0) hr3).trans rfl
            have k3 := (cell_of_row _ _ 3 _ _ (0, 0) hr3).trans rfl
            have k4 := (cell_of_row _ _ 4 _ _ (0, 0) hr3).trans rfl
            have k5 := (cell_of_row _ _ 5 _ _ (0, 0) hr3).trans rfl
            have f0 := frozen_at hr3 0
            have f1 := frozen_at hr3 1
            have f2 := frozen_at hr3 2
            have f3 := frozen_at hr3 3
            have f4 := frozen_at hr3 4
            have f5 := frozen_at hr3 5
            clear hr3
            by_cases hp : m.gen % 2 = (q : Int)
            · have d1 : (m.gen % 2 == (q : Int)) = true := by simpa using hp
              by_cases hgg : b.gen < m.gen
              · have d2 : decide (b.gen < m.gen) = true := decide_eq_true hgg
                have HN := Lib.hid (show m = bestN p ds (q + 1) from by rw [HPM.out, if_pos ⟨hp, hgg⟩])
                have HI7 := Lib.hid (HI6.out.set HO6.out HW4.out)
                clear hp hgg
                go_wp2_with fail
                go_roundw
                case rel => exact ⟨q + 1, m, A2, c2, by go_num, by omega, HN, HI7.out⟩
                case measure => simp [intOf]; omega
              · have d2 : decide (b.gen < m.gen) = false := decide_eq_false hgg
                have HN := Lib.hid (show b = bestN p ds (q + 1) from by rw [HPM.out, if_neg (fun h => hgg h.2)])
                clear hp hgg
                go_wp2_with fail
                go_roundw
                case rel => exact ⟨q + 1, b, A, c, by go_num, by omega, HN, HI6.out⟩
                case measure => simp [intOf]; omega
            · have d1 : (m.gen % 2 == (q : Int)) = false := by simpa using hp
              have HN := Lib.hid (show b = bestN p ds (q + 1) from by rw [HPM.out, if_neg (fun h => hp h.1)])
              clear hp
              go_wp2_with fail
              go_roundw
              case rel => exact ⟨q + 1, b, A, c, by go_num, by omega, HN, HI6.out⟩
              case measure => simp [intOf]; omega
        · have HQ2 := Lib.hid (show q = 2 by omega)
          have dq : decide ((q : Int) < 2) = false := decide_eq_false (by omega)
          have HBB := Lib.hid (show b = bestN p ds 2 from by rw [HB.out, HQ2.out])
          have hr3 := HI.out.res
          have k0 := (cell_of_row _ _ 0 _ _ (0, 0) hr3).trans rfl
          have k1 := (cell_of_row _ _ 1 _ _ (0, 0) hr3).trans rfl
          have k2 := (cell_of_row _ _ 2 _ _ (0, 0) hr3).trans rfl
          have k3 := (cell_of_row _ _ 3 _ _ (0, 0) hr3).trans rfl
          have k4 := (cell_of_row _ _ 4 _ _ (0, 0) hr3).trans rfl
          have k5 := (cell_of_row _ _ 5 _ _ (0, 0) hr3).trans rfl
          have f0 := frozen_at hr3 0
          have f1 := frozen_at hr3 1
          have f2 := frozen_at hr3 2
          have f3 := frozen_at hr3 3
          have f4 := frozen_at hr3 4
          have f5 := frozen_at hr3 5
          unfold zeroC at k0 k1 k2 k3 k4 k5 hr3
          have hm3 := HI.out.bst
          unfold mfC at hm3
          have x0 := (cell_of_row _ _ 0 _ _ (0, 0) hm3).trans rfl
          have x1 := (cell_of_row _ _ 1 _ _ (0, 0) hm3).trans rfl
          have x2 := (cell_of_row _ _ 2 _ _ (0, 0) hm3).trans rfl
          have x3 := (cell_of_row _ _ 3 _ _ (0, 0) hm3).trans rfl
          have x4 := (cell_of_row _ _ 4 _ _ (0, 0) hm3).trans rfl
          have x5 := (cell_of_row _ _ 5 _ _ (0, 0) hm3).trans rfl
          by_cases h0 : b.gen = 0
          · have hr := HRQ.out
            rw [← HBB.out, if_pos h0] at hr
            subst hr
            have d1 : (b.gen == 0) = true := by simpa using h0
            have HF := Lib.hid (And.intro (set6 _ _ _ _ _ _ _ _ _ (.int .i64 0) (.int .i64 0) (.int .i64 0) (.int .i64 0) (.int .i64 0) (.slice none 0 0) hr3) (set6_below HI.out.below HI.out.rlo (.int .i64 0) (.int .i64 0) (.int .i64 0) (.int .i64 0) (.int .i64 0) (.slice none 0 0)))
            clear hr3 hm3 h0 hlt
            go_wp2_with fail
            refine bodyPost_ret (resLd HF.out.1 _ rfl) rfl ?_
            exact ⟨⟨none, 0, rfl, zs_nil _ _⟩, HF.out.2⟩
          · have hr := HRQ.out
            rw [← HBB.out, if_neg h0] at hr
            subst hr
            have d1 : (b.gen == 0) = false := by simpa using h0
            have HF := Lib.hid (And.intro (set6 _ _ _ _ _ _ _ _ _ (.int .i64 b.gen) (.int .i64 b.epoch) (.int .i64 b.base) (.int .i64 b.area) (.int .i64 b.len) (.slice A b.heads.length c) hr3) (And.intro (set6_below HI.out.below HI.out.rlo (.int .i64 b.gen) (.int .i64 b.epoch) (.int .i64 b.base) (.int .i64 b.area) (.int .i64 b.len) (.slice A b.heads.length c)) (show ((((((wr.setCell ⟨rp, 0, none⟩ (.int .i64 b.gen)).setCell ⟨rp, 1, none⟩ (.int .i64 b.epoch)).setCell ⟨rp, 2, none⟩ (.int .i64 b.base)).setCell ⟨rp, 3, none⟩ (.int .i64 b.area)).setCell ⟨rp, 4, none⟩ (.int .i64 b.len)).setCell ⟨rp, 5, none⟩ (.slice A b.heads.length c)).ownsRow (bb + 1) 3 1 (.slice A b.heads.length c) b.heads.length (rowV zV b.heads) from own_keep HI.out.zs fun r hr => set6_other _ _ _ _ _ _ _ _ _ (by have := (HI.out.zs.lt r hr).1; have := HI.out.lt; omega))))
            clear hr3 hm3 h0 hlt
            go_wp2_with fail
            refine bodyPost_ret (resLd HF.out.1 _ rfl) rfl ?_
            exact ⟨⟨A, c, rfl, zs_own (c := c) HF.out.2.2 rfl⟩, HF.out.2.1⟩
end Go.Proofs.Ytjmjehhmkjhalaa
