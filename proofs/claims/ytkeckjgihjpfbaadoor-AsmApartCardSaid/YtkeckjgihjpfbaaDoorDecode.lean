/- The contract of prog.Decode: the walk. -/
import Derived.Test.YtkeckjgihjpfbaaDoorDec
import Derived.Deep.RegionLaw
import Derived.Deep.DrawnRows
namespace Go.Proofs.YtkeckjgihjpfbaaDoor
set_option maxRecDepth 100000
open Go.RowKit
attribute [local go_sem ↓] Go.wp_at_zero Go.wp_at_succ

theorem takeN_succ (k : Nat) (bs : List Nat) (bad : Bool) : takeN (k + 1) bs bad = ((takeN k bs bad).1 ++ [(takeI (takeN k bs bad).2.1 (takeN k bs bad).2.2).1], (takeI (takeN k bs bad).2.1 (takeN k bs bad).2.2).2) := rfl
theorem Rdr.drew {w : World} {B : Nat → Prop} {V : Value} {bs : List Nat} {bad : Bool} (h : Rdr w B V bs bad) : Rdr w.drew B V bs bad := h.stays (Nat.le_refl _) (fun _ _ _ => rfl)
theorem DI.drew {w wr : World} {q hi : Nat} {B : Nat → Prop} {g : Nat} {f : Int} {v : Value} {s : List Ins × List Nat × Bool} (h : DI w q hi wr B g f v s) : DI w q hi wr.drew B g f v s :=
  ⟨h.rdr.drew, h.below.drew, h.out, h.cur, h.own, h.away, h.lo, h.hiq, h.lt⟩
theorem DI.later {w wr w2 : World} {q hi : Nat} {B : Nat → Prop} {g : Nat} {f : Int} {v : Value} {s : List Ins × List Nat × Bool} (h : DI w q hi wr B g f v s) (hb : Below wr.heap.size wr w2) : DI w q hi w2 B g f v s :=
  ⟨h.rdr.stays hb.size (fun k hk _ => hb.block k hk), h.below.trans (hb.mono h.below.size), (hb.block _ (by have := h.lt; have := h.lo; omega)).trans h.out, (hb.block _ (by have := h.lt; omega)).trans h.cur, own_keep h.own fun b cur _ e => hb.block b (Array.getElem?_eq_some_iff.1 e).1, h.away, h.lo, h.hiq, Nat.le_trans h.lt hb.size⟩
/-- The answer stored. -/
theorem DI.fin {w wr : World} {q hi : Nat} {B : Nat → Prop} {g : Nat} {f : Int} {v : Value} {s : List Ins × List Nat × Bool} (h : DI w q hi wr B g f v s) (z : Int) (u : Value) :
    ((wr.setCell ⟨w.heap.size, 0, none⟩ (.int .i64 z)).setCell ⟨w.heap.size, 1, none⟩ u).heap[w.heap.size]? = some (.cells #[.int .i64 z, u] 24 (0, 0)) ∧
    ((wr.setCell ⟨w.heap.size, 0, none⟩ (.int .i64 z)).setCell ⟨w.heap.size, 1, none⟩ u).ownsRow w.heap.size 43 6 v s.1.length (insV s.1) ∧
    Below w.heap.size w ((wr.setCell ⟨w.heap.size, 0, none⟩ (.int .i64 z)).setCell ⟨w.heap.size, 1, none⟩ u) := by
  refine ⟨heap_at (heap_at h.out 0 _) 1 u, own_keep h.own fun b cur _ e => ?_, (h.below.setCell (by show w.heap.size ≤ w.heap.size; omega) _).setCell (by show w.heap.size ≤ w.heap.size; omega) _⟩
  have hne : b ≠ w.heap.size := fun e2 => by subst e2; rw [h.out] at e; cases e
  exact (Deep.blk_setCell_other _ _ _ b hne).trans (Deep.blk_setCell_other _ _ _ b hne)
theorem codes_of_own {w : World} {B n c : Nat} {A : Option Addr} {l : List Ins} (h : w.ownsRow B 43 6 (.slice A n c) n (insV l)) (hl : l.length = n) : Codes w A n l := by
  obtain ⟨_, _, e, hr, _, _⟩ := rdv_own h
  injection e with e1 _ e2
  subst e1 e2
  exact ⟨hl, hr⟩
set_option maxHeartbeats 8000000 in
theorem decode_any (A : Option Addr) (n c : Nat) (xs : List Nat) (w : World) (hT : Tab w) (hr : Rdv w A n 1 (valsB xs)) (hnil : A = none → c = 0 ∧ n = 0) (hn : n ≤ 140737488355328) (hs : ∀ x ∈ xs, x < 256) :
    Calls Tryd.prog 19 #[.slice A n c] w fun e w' => DecE xs w w' e ∧ Below w.heap.size w w' := by
  have hb0 := (Below.refl w.heap.size w).alloc (Nat.le_refl _) (.cells #[.int .i64 0, .slice none 0 0] 24)
  have HB0 := Lib.hid hb0
  have HT := Lib.hid hT
  have HN := Lib.hid (newReader_any A n c xs _ (hr.ext (stays_b hb0)) hnil hn hs)
  have htz := tab_size hT
  obtain ⟨R, hR⟩ : ∃ R, R = readP xs := ⟨_, rfl⟩
  have HR := Lib.hid hR
  have HDE := Lib.hid (show decOk xs = (decide (R.2.2.2 = false ∧ R.2.2.1 = []) && decide (chk R.1 R.2.1 = -2)) by rw [hR]; rfl)
  have HNEW := Lib.hid (heap_alloc_new w (.cells #[.int .i64 0, .slice none 0 0] 24))
  clear hT hr hnil hn hs hb0 hR
  go_enter Tryd.func19, Tryd.ntmps19
  go_wp2_with fail
  refine Calls.mono HN.out ?_
  rintro e w1 ⟨g, rfl, hrd, hb1⟩
  have HRD := Lib.hid hrd
  have hgl := (rdr_block hrd).1
  have hs1 := hb1.size
  rw [World.size_alloc] at hs1 hgl
  have HB1 := Lib.hid (HB0.out.trans (hb1.mono HB0.out.size))
  have HOUT1 := Lib.hid ((hb1.block _ (by rw [World.size_alloc]; omega)).trans HNEW.out)
  have HBB := Lib.hid (fun k (hk : (fun k => (w.alloc (.cells #[.int .i64 0, .slice none 0 0] 24)).heap.size ≤ k ∧ k < w1.heap.size) k) => (by have h2 := hk.1; rw [World.size_alloc] at h2; exact ⟨by omega, hk.2⟩ : w.heap.size < k ∧ k < w1.heap.size))
  have HC1 := Lib.hid (rcount_any _ _ xs false w1 hrd)
  have hul := rcount_lt xs hrd.small'
  clear hrd hb1
  obtain ⟨u, hu⟩ : ∃ u, u = (rcount xs).1 := ⟨_, rfl⟩
  obtain ⟨f, hf⟩ : ∃ f, f = wrapI (rcount xs).1 := ⟨_, rfl⟩
  have hwf : IntKind.i64.wrap (u : Int) = f := by rw [hf, hu]; rfl
  rw [← hu] at HC1 hul
  have HF := Lib.hid hf
  clear hu hf
  go_wp2_with fail
  refine Calls.mono HC1.out ?_
  rintro e w2 ⟨rfl, hr2, ho2⟩
  have hs2 := ho2.size
  have HR2 := Lib.hid (hr2.alloc (.cells #[.int .i64 f, .slice none 0 0] 24))
  have hout2 : w2.heap[w.heap.size]? = some (.cells #[.int .i64 0, .slice none 0 0] 24 (0, 0)) := (ho2.block _ (by omega) (fun e => by injection e with e; injection e with e; injection e with e; omega)).trans HOUT1.out
  have HB2 := Lib.hid (show Below w.heap.size w w2 from ⟨ho2.os.trans HB1.out.os, ho2.tape.trans HB1.out.tape, ho2.output.trans HB1.out.output, Nat.le_trans HB1.out.size ho2.size, fun k hk => (ho2.block k (by omega) (fun e => by injection e with e; injection e with e; injection e with e; omega)).trans (HB1.out.block k hk)⟩)
  have HDI := Lib.hid (show DI w w2.heap.size w1.heap.size (w2.alloc (.cells #[.int .i64 f, .slice none 0 0] 24)) (fun k => (w.alloc (.cells #[.int .i64 0, .slice none 0 0] 24)).heap.size ≤ k ∧ k < w1.heap.size) g f (.slice none 0 0) ([], (rcount xs).2.1, (rcount xs).2.2) from
    ⟨HR2.out, HB2.out.alloc HB2.out.size _, (heap_alloc_old w2 _ (by omega)).trans hout2, heap_alloc_new w2 _, ⟨rfl, .inl ⟨rfl, rfl⟩⟩, (fun b e => by cases e), by omega, hs2, by rw [World.size_alloc]; exact Nat.le_refl _⟩)
  have HC2 := Lib.hid (rcount_any _ _ _ _ _ HR2.out)
  have hul2 := rcount_lt _ HR2.out.small'
  obtain ⟨u2, hu2⟩ : ∃ u2, u2 = (rcount (rcount xs).2.1).1 := ⟨_, rfl⟩
  rw [← hu2] at HC2 hul2
  have HU2 := Lib.hid hu2
  clear hr2 ho2 hout2 hu2
  go_wp2_with fail
  refine Calls.mono HC2.out ?_
  rintro e w3 ⟨rfl, hr3, ho3⟩
  have hdi3 := HDI.out.step HBB.out hr3 ho3
  have HDI3 := Lib.hid hdi3
  clear hr3 ho3 hdi3
  obtain ⟨m, hm⟩ : ∃ m, m = min u2 33 := ⟨_, rfl⟩
  have hmin : min (u2 : Int) 33 = (m : Int) := by omega
  have hm33 : m ≤ 33 := by omega
  have HM := Lib.hid hm
  clear hm
  obtain ⟨BS2, hBS2⟩ : ∃ b, b = (rcount (rcount xs).2.1).2.1 := ⟨_, rfl⟩
  obtain ⟨BD2, hBD2⟩ : ∃ b, b = (rcount (rcount xs).2.1).2.2 := ⟨_, rfl⟩
  have HREQ := Lib.hid (show R = (f, takeN m BS2 BD2) by rw [HR.out]; unfold readP; rw [← HF.out, HM.out, HU2.out, hBS2, hBD2])
  rw [← hBS2, ← hBD2] at HDI3
  clear hBS2 hBD2
  go_wp2_with fail
  clear hmin
  go_loopw [15] (fun i wr => ∃ (k : Nat) (v : Value), i = .int .u64 (k : Int) ∧ k ≤ m ∧ DI w w2.heap.size w1.heap.size wr (fun k => (w.alloc (.cells #[.int .i64 0, .slice none 0 0] 24)).heap.size ≤ k ∧ k < w1.heap.size) g f v (takeN k BS2 BD2)) (fun i _ => m - (intOf i).toNat)
  case atStart => exact ⟨0, _, rfl, by omega, HDI3.out⟩
  case round =>
    obtain ⟨k, v, rfl, hk, hdi⟩ := hrel
    have hlen := takeN_len k BS2 BD2
    have HTS := Lib.hid (takeN_succ k BS2 BD2)
    obtain ⟨S, hS⟩ : ∃ S, S = takeN k BS2 BD2 := ⟨_, rfl⟩
    rw [← hS] at hdi hlen HTS
    have HS := Lib.hid hS
    obtain ⟨l, bs, bad⟩ := S
    have hll : l.length = k := hlen
    have hlt2 := hdi.lt
    have hlk : l.length ≤ 33 := by omega
    have HLL := Lib.hid hll
    obtain ⟨A3, c3, rfl, _, _, _⟩ := rdv_own hdi.own
    have HDI4 := Lib.hid hdi.drew
    have HDI5 := Lib.hid hdi
    have c1 : wr.cell? ⟨w2.heap.size, 1, none⟩ = some (.slice A3 l.length c3) := cell_of_row wr _ 1 _ 24 (0, 0) hdi.cur
    have hbe := hdi.below
    have HBE := Lib.hid hbe
    clear hS hdi hlen hll
    by_cases hlt : k < m
    · have htk := takeI_any (fun k => (w.alloc (.cells #[.int .i64 0, .slice none 0 0] 24)).heap.size ≤ k ∧ k < w1.heap.size) (.pointer (some ⟨g, 0, none⟩)) bs bad wr.drew (HT.out.ext HBE.out.drew) HDI4.out.rdr (fun e => by injection e with e; injection e with e; injection e with e; omega) (fun k hk => by have := (HBB.out k hk).2; show k < wr.heap.size; omega)
      obtain ⟨x, hx⟩ : ∃ x, x = (takeI bs bad).1 := ⟨_, rfl⟩
      rw [← hx] at htk
      unfold Ins.val at htk
      have HTK := Lib.hid htk
      have HX := Lib.hid hx
      clear hx htk hbe
      go_wp2_with fail
      go_region_law (first | (go_simp; go_at_call 45; refine Calls.mono HTK.out ?_; rintro e w5 ⟨rfl, hr5, ho5⟩; have h5 := HDI4.out.step HBB.out hr5 ho5; have d1 : w5.cell? ⟨w2.heap.size, 1, none⟩ = some (.slice A3 l.length c3) := cell_of_row w5 _ 1 _ 24 (0, 0) h5.cur; have d2 := (World.cell?_alloc_lt w5 (.cells #[.int .i64 x.op, .int .i64 x.a, .int .i64 x.b, .int .i64 x.c, .int .i64 x.t, .int .i64 x.n] 43) ⟨w2.heap.size, 1, none⟩ (World.block_lt_of_cell? _ _ d1)).trans d1) | (refine step_append_rowv elemC (by simp [Region.wanted]) (.tmp 18) (.tmp 21) (by rfl) w.heap.size (.slice A3 l.length c3) l.length (insV l) (by rfl) (h5.own.alloc _) (some ⟨w5.heap.size, 0, none⟩) 1 1 (insV [x]) (by rfl) (rdv_ins w5 x) (insV_one _) (by intro h; cases h) (by unfold maxLen; omega) (by omega) (by have := h5.below.size; rw [World.size_alloc]; omega) ?_; intro v6 w6 hown6 hg6 hb6; obtain ⟨A6, c6, rfl, _, _, _⟩ := rdv_own hown6; obtain ⟨hq6, hdi6⟩ := DI.push h5 HBB.out hown6 hg6 hb6; have e1 : w6.cell? ⟨w2.heap.size, 1, none⟩ = some (.slice A3 l.length c3) := cell_of_row w6 _ 1 _ 24 (0, 0) hq6; have f1 : w6.frozen? ⟨w2.heap.size, 1, none⟩ = false := by simp [World.frozen?, hq6]))
      all_goals
        have HDI6 := Lib.hid hdi6
        clear hdi6 hq6 h5 hr5 ho5 hown6 hg6 hb6 d1 d2 e1 f1
        go_wp2_with fail
        go_roundw
        case rel => exact ⟨k + 1, _, by go_num, by omega, by rw [HTS.out, ← HX.out]; exact HDI6.out⟩
        case measure => simp [intOf]; omega
    · obtain rfl : k = m := by omega
      have HRE := Lib.hid (show R = (f, l, bs, bad) by rw [HREQ.out, ← HS.out])
      have HDD := Lib.hid (show decOk xs = (decide (bad = false ∧ bs = []) && decide (chk f l = -2)) by rw [HDE.out, HRE.out])
      have HEN := Lib.hid (end_any _ _ bs bad wr (HDI5.out.rdr))
      have z0 : wr.cell? ⟨w.heap.size, 0, none⟩ = some (.int .i64 0) := cell_of_row wr _ 0 _ 24 (0, 0) HDI5.out.out
      have z1 : wr.cell? ⟨w.heap.size, 1, none⟩ = some (.slice none 0 0) := cell_of_row wr _ 1 _ 24 (0, 0) HDI5.out.out
      have f0 : wr.frozen? ⟨w.heap.size, 0, none⟩ = false := by simp [World.frozen?, HDI5.out.out]
      have f1 : wr.frozen? ⟨w.heap.size, 1, none⟩ = false := by simp [World.frozen?, HDI5.out.out]
      have c0 : wr.cell? ⟨w2.heap.size, 0, none⟩ = some (.int .i64 f) := cell_of_row wr _ 0 _ 24 (0, 0) HDI5.out.cur
      clear hbe
      by_cases hok : bad = false ∧ bs = []
      · have hev : endV bs bad = .nilIface := if_pos hok
        rw [hev] at HEN
        have HDD2 := Lib.hid (show decOk xs = decide (chk f l = -2) by rw [HDD.out, decide_eq_true hok, Bool.true_and])
        have HCK := Lib.hid (check_any f A3 l.length c3 l wr (HT.out.ext HBE.out) (codes_of_own HDI5.out.own rfl) (by omega))
        clear hok hev
        go_wp2_with fail
        refine Calls.mono HEN.out ?_
        rintro e w6 ⟨v, rfl, rfl, rfl⟩
        go_wp2_with fail
        refine Calls.mono HCK.out ?_
        rintro e w7 ⟨he, hb7⟩
        have h7 := HDI5.out.later hb7
        have H7 := Lib.hid h7
        have y0 : w7.cell? ⟨w.heap.size, 0, none⟩ = some (.int .i64 0) := cell_of_row w7 _ 0 _ 24 (0, 0) h7.out
        have y1 : w7.cell? ⟨w.heap.size, 1, none⟩ = some (.slice none 0 0) := cell_of_row w7 _ 1 _ 24 (0, 0) h7.out
        have g0 : w7.frozen? ⟨w.heap.size, 0, none⟩ = false := by simp [World.frozen?, h7.out]
        have g1 : w7.frozen? ⟨w.heap.size, 1, none⟩ = false := by simp [World.frozen?, h7.out]
        have d0 : w7.cell? ⟨w2.heap.size, 0, none⟩ = some (.int .i64 f) := cell_of_row w7 _ 0 _ 24 (0, 0) h7.cur
        have d1 : w7.cell? ⟨w2.heap.size, 1, none⟩ = some (.slice A3 l.length c3) := cell_of_row w7 _ 1 _ 24 (0, 0) h7.cur
        clear hb7 h7
        rcases he with ⟨hck, rfl⟩ | ⟨hck, b, rfl, _, _⟩
        · have HDT := Lib.hid (show decOk xs = true by rw [HDD2.out, decide_eq_true hck])
          clear hck
          go_wp2_with fail
          obtain ⟨r1, r2, r3⟩ := H7.out.fin f (.slice A3 l.length c3)
          refine bodyPost_ret (results19 _ _ f A3 l.length c3 .nilIface r1 _ rfl rfl) rfl ⟨.inl ⟨HDT.out, ?_⟩, r3⟩
          rw [← HR.out, HRE.out]
          exact ⟨A3, c3, rfl, codes_of_own r2 rfl, r2⟩
        · have HDT := Lib.hid (show decOk xs = false by rw [HDD2.out, decide_eq_false hck])
          clear hck
          go_wp2_with fail
          obtain ⟨r1, r2, r3⟩ := H7.out.fin 0 (.slice none 0 0)
          exact bodyPost_ret (results19 _ _ 0 none 0 0 (.iface 36 (.int .i64 2)) r1 _ rfl rfl) rfl ⟨.inr ⟨HDT.out, rfl⟩, r3⟩
      · have hev : endV bs bad = .iface 36 (.int .i64 2) := if_neg hok
        rw [hev] at HEN
        have HDT := Lib.hid (show decOk xs = false by rw [HDD.out, decide_eq_false hok, Bool.false_and])
        clear hok hev
        go_wp2_with fail
        refine Calls.mono HEN.out ?_
        rintro e w6 ⟨v, rfl, rfl, rfl⟩
        go_wp2_with fail
        obtain ⟨r1, r2, r3⟩ := HDI5.out.fin 0 (.slice none 0 0)
        exact bodyPost_ret (results19 _ _ 0 none 0 0 (.iface 36 (.int .i64 2)) r1 _ rfl rfl) rfl ⟨.inr ⟨HDT.out, rfl⟩, r3⟩
end Go.Proofs.YtkeckjgihjpfbaaDoor
