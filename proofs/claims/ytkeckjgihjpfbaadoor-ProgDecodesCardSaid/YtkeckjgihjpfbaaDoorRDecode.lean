/- The contract of the document's Decode: the walk. -/
import Derived.Test.YtkeckjgihjpfbaaDoorRDec
import Derived.Deep.RegionHeld3
import Derived.Deep.RegionLaw
import Derived.Test.YtkeckjgihjpfbaaDoorEncodesLaw
import Derived.Deep.Cut
namespace Go.Proofs.YtkeckjgihjpfbaaDoor
set_option maxRecDepth 100000
open Go.RowKit
attribute [local go_sem ↓] Go.wp_at_zero Go.wp_at_succ

def RefDecE (xs : List Nat) (w' : World) (e : Ending) : Prop :=
  (decOk xs = true ∧ ∃ A c, e = .returned (.tuple #[.agg #[.int .i64 (readP xs).1, .slice A (readP xs).2.1.length c], .bool true]) ∧ Codes w' A (readP xs).2.1.length (readP xs).2.1) ∨
  (decOk xs = false ∧ e = .returned (.tuple #[.agg #[.int .i64 0, .slice none 0 0], .bool false]))
theorem results23 (w : World) (g : Nat) (f : Int) (A : Option Addr) (n c : Nat) (v : Value) (h : w.heap[g]? = some (.cells #[.int .i64 f, .slice A n c] 24 (0, 0))) (tmps : Array Value) (h2 : tmps.getD 2 undef = .pointer (some ⟨g, 0, none⟩)) (h3 : tmps.getD 3 undef = v) :
    (results Tryd.f23 tmps).run Tryd.prog w = .ok (.tuple #[.agg #[.int .i64 f, .slice A n c], v]) w := by
  have h2' : tmps[2]?.getD undef = .pointer (some ⟨g, 0, none⟩) := by simpa using h2
  have h3' : tmps[3]?.getD undef = v := by simpa using h3
  have c0 : w.cell? ⟨g, 0, none⟩ = some (.int .i64 f) := cell_of_row w g 0 _ 24 (0, 0) h
  have c1 : w.cell? ⟨g, 1, none⟩ = some (.slice A n c) := cell_of_row w g 1 _ 24 (0, 0) h
  have e : Tryd.f23.results = #[.cell 2 24, .tmp 3] := Tryd.results23
  have hl : (loadVar 24 ⟨g, 0, none⟩).run Tryd.prog w = .ok (.agg #[.int .i64 f, .slice A n c]) w := by simp [go_sem, c0, c1]
  simp only [results, e]
  simp [asAddr, h2', hl, h3']
theorem codes_of_own' {w : World} {B n c : Nat} {A : Option Addr} {l : List Ins} (h : w.ownsRow B 43 6 (.slice A n c) n (insV l)) (hl : l.length = n) : Codes w A n l := by
  obtain ⟨_, _, e, hr, _, _⟩ := rdv_own h
  injection e with e1 _ e2
  subst e1 e2
  exact ⟨hl, hr⟩
/-- The reader made. -/
theorem rf_start {w1 : World} {B n c : Nat} {A : Option Addr} {xs : List Nat} (h : w1.ownsRow B 5 1 (.slice A n c) n (valsB xs)) (hs : ∀ x ∈ xs, x < 256) (hn : n ≤ 140737488355328) :
    Rfx (w1.alloc (.cells #[.slice A n c, .bool false] 86)) w1.heap.size w1.heap.size xs false := by
  have h2 := h
  obtain ⟨_, _, e, hr, hnil, hle⟩ := rdv_own h
  injection e with e1 _ e2
  subst e1 e2
  refine ⟨_, _, _, Nat.le_refl _, heap_alloc_new w1 _, hr.ext (stays_b ((Below.refl _ w1).alloc (Nat.le_refl _) _)), ?_, (fun e => by cases e), hs, hn⟩
  rcases h2.2 with ⟨e, h0⟩ | ⟨b, cap, cur, e, _, hb, _⟩
  · injection e with e1 _ e2
    exact .inl ⟨e1, h0, e2⟩
  · injection e with e1 _ e2
    exact .inr ⟨b, 0, e1, (Array.getElem?_eq_some_iff.1 hb).1, hle⟩
theorem chk_ways (f : Int) (l : List Ins) : chk f l = -2 ∨ chk f l = -1 ∨ ∃ m : Nat, chk f l = (m : Int) := by
  unfold chk
  split
  · exact .inr (.inl rfl)
  · split
    · exact .inr (.inr ⟨_, rfl⟩)
    · exact .inl rfl
/-- Where the walk of the rounds ends. -/
theorem rdec_end {xs : List Nat} (hs : ∀ b ∈ xs, b < 256) {F nI : Int} {k : Nat} {l : List Ins} {bs : List Nat} {bad : Bool} (hF : F = refc (rcount xs).1) (hnI : nI = refc (rcount (rcount xs).2.1).1) (hk : k = 0 ∨ (k : Int) ≤ nI)
    (hS : (l, bs, bad) = takeGN refc k (rcount (rcount xs).2.1).2.1 (rcount (rcount xs).2.1).2.2) (hend : ¬ (k : Int) < nI ∨ bad = true) :
    decOk xs = decide (bad = false ∧ bs = [] ∧ chk F l = -2 ∧ encP F.toNat l = xs) ∧ (decOk xs = true → (readP xs).1 = F ∧ (readP xs).2.1 = l) := by
  cases hd : decOk xs with
  | true =>
    obtain ⟨F', l', hc, hx, hr, e1, _, e2, e3, hall⟩ := rdec_known hs hd
    rw [e1] at hF
    rw [e2] at hnI
    have hkl : k ≤ l'.length := by omega
    rw [e3, hall k hkl] at hS
    injection hS with h1 h2
    injection h2 with h2 h3
    have hkk : k = l'.length := by
      rcases hend with h | h
      · omega
      · rw [h3] at h; cases h
    subst hF h1 h2 h3
    rw [hkk, List.take_length, List.drop_length] at *
    exact ⟨(decide_eq_true ⟨rfl, rfl, hc, hx.symm⟩).symm, fun _ => by rw [hr]; exact ⟨rfl, rfl⟩⟩
  | false =>
    refine ⟨(decide_eq_false fun h => ?_).symm, fun h => by cases h⟩
    have hf := (takeGN_fits k _ (rcount (rcount xs).2.1).2.2 (rest_small _ (rest_small xs hs))).1
    rw [← hS] at hf
    have := dec_back h.2.2.1 hf
    rw [h.2.2.2, hd] at this
    cases this
set_option maxHeartbeats 32000000 in
theorem refdec_any (A : Option Addr) (n c : Nat) (xs : List Nat) (w : World) (hr : Rdv w A n 1 (valsB xs)) (hnil : A = none → c = 0) (hn : n ≤ 3000) (hs : ∀ x ∈ xs, x < 256) :
    Calls Tryd.prog 23 #[.slice A n c] w fun e w' => RefDecE xs w' e ∧ Below w.heap.size w w' := by
  have hl : xs.length = n := by have := hr.1; rw [valsB_length] at this; omega
  have hb0 := (Below.refl w.heap.size w).alloc (Nat.le_refl _) (.cells #[.int .i64 0, .slice none 0 0] 24)
  have HB0 := Lib.hid hb0
  have HN0 := Lib.hid (heap_alloc_new w (.cells #[.int .i64 0, .slice none 0 0] 24))
  have HR := Lib.hid hr
  have HS := Lib.hid hs
  have HL := Lib.hid hl
  have HOE := Lib.hid (own_empty (w.alloc (.cells #[.int .i64 0, .slice none 0 0] 24)) w.heap.size 5 1 5 rfl (by rw [World.size_alloc]; omega))
  rw [World.size_alloc] at HOE
  have HR1 := Lib.hid (hr.ext (stays_b (hb0.alloc hb0.size (.cells #[] 5))))
  have HKN := Lib.hid (rdec_known hs)
  clear hr hs hl hb0
  go_enter Tryd.func23, Tryd.ntmps23
  go_upto_region 2 with (at_builtin; refine wpList_append_rowv elemB rfl (.tmp 12) (.tmp 13) rfl w.heap.size (.slice (some ⟨w.heap.size + 1, 0, none⟩) 0 0) 0 [] rfl HOE.out A n c (valsB xs) rfl HR1.out (valsB_one _) hnil (by unfold maxLen; omega) (by omega) (by rw [World.size_alloc, World.size_alloc]; omega) ?_; intro v1 w1 hown1 hg1 hb1; rw [Nat.zero_add, List.nil_append] at hown1; obtain ⟨A1, c1, rfl, _, _, _⟩ := rdv_own hown1; have HO1 := Lib.hid hown1; have HG1 := Lib.hid hg1; clear hown1 hg1 hb1)
  clear HOE HR1
  have hgs := HG1.out.size
  rw [World.size_alloc, World.size_alloc] at hgs
  have hout1 : w1.heap[w.heap.size]? = some (.cells #[.int .i64 0, .slice none 0 0] 24 (0, 0)) := (HG1.out.block _ (by rw [World.size_alloc, World.size_alloc]; omega) (fun e => by have e2 : (some w.heap.size : Option Nat) = some (w.heap.size + 1) := e; injection e2 with e2; omega)).trans ((heap_alloc_old _ _ (by rw [World.size_alloc]; omega)).trans HN0.out)
  have hbw1 : Below w.heap.size w w1 := (HB0.out.alloc HB0.out.size _).grown HG1.out (by rw [World.size_alloc, World.size_alloc]; omega) (fun k e => by have e2 : (some (w.heap.size + 1) : Option Nat) = some k := e; injection e2 with e2; omega)
  have hrf := rf_start HO1.out HS.out (by omega)
  have hbW : Below w.heap.size w (w1.alloc (.cells #[.slice A1 n c1, .bool false] 86)) := hbw1.alloc hbw1.size _
  have HBW := Lib.hid hbW
  have HBW1 := Lib.hid hbw1
  have HOUT1 := Lib.hid hout1
  have HC1 := Lib.hid (refc_any _ _ _ _ _ hrf)
  clear hout1 hbw1 hrf hbW
  obtain ⟨F, hF⟩ : ∃ F, F = refc (rcount xs).1 := ⟨_, rfl⟩
  rw [← hF] at HC1
  have HF := Lib.hid hF
  clear hF
  go_wp2_with fail
  refine Calls.mono HC1.out ?_
  rintro e w2 ⟨rfl, hr2, ho2⟩
  have hz2 := ho2.size
  rw [World.size_alloc] at hz2
  have hb2 : Below w.heap.size w w2 := ⟨ho2.os.trans HBW.out.os, ho2.tape.trans HBW.out.tape, ho2.output.trans HBW.out.output, Nat.le_trans HBW.out.size ho2.size, fun k hk => (ho2.at (by rw [World.size_alloc]; omega) (by omega)).trans (HBW.out.block k hk)⟩
  have hri : RI w w2.heap.size w1.heap.size (w2.alloc (.cells #[.int .i64 F, .slice none 0 0] 24)) F (.slice none 0 0) ([], (rcount xs).2.1, (rcount xs).2.2) :=
    ⟨hr2.stays (heap_alloc_old w2 _ (by omega)) (fun k hk => heap_alloc_old w2 _ (by omega)), hb2.alloc hb2.size _, (heap_alloc_old w2 _ (by omega)).trans ((ho2.at (by rw [World.size_alloc]; omega) (by omega)).trans ((heap_alloc_old w1 _ (by omega)).trans HOUT1.out)), heap_alloc_new w2 _, ⟨rfl, .inl ⟨rfl, rfl⟩⟩, (fun b e => by cases e), by omega, by omega, by rw [World.size_alloc]; exact Nat.le_refl _⟩
  have HRI := Lib.hid hri
  have HC2 := Lib.hid (refc_any _ _ _ _ _ hri.rf)
  clear hr2 ho2 hb2 hri HC1
  have hnlt : refc (rcount (rcount xs).2.1).1 ≤ 100000 := by unfold refc; split <;> omega
  obtain ⟨nI, hnI⟩ : ∃ nI, nI = refc (rcount (rcount xs).2.1).1 := ⟨_, rfl⟩
  obtain ⟨BS2, hBS2⟩ : ∃ b, b = (rcount (rcount xs).2.1).2.1 := ⟨_, rfl⟩
  obtain ⟨BD2, hBD2⟩ : ∃ b, b = (rcount (rcount xs).2.1).2.2 := ⟨_, rfl⟩
  have HEND := Lib.hid (fun (k : Nat) (l : List Ins) (bs : List Nat) (bad : Bool) hk hS hend => rdec_end HS.out (F := F) (nI := nI) (k := k) (l := l) (bs := bs) (bad := bad) HF.out hnI hk hS hend)
  have HSM := Lib.hid (rest_small _ (rest_small xs HS.out))
  simp only [← hnI, ← hBS2, ← hBD2] at HC2 hnlt HEND HSM
  clear hnI hBS2 hBD2
  go_wp2_with fail
  refine Calls.mono HC2.out ?_
  rintro e w3 ⟨rfl, hr3, ho3⟩
  have HRI3 := Lib.hid (HRI.out.step hr3 ho3)
  clear hr3 ho3 HC2 HRI
  go_wp2_with fail
  go_loopw [7] (fun i wr => ∃ (k : Nat) (v : Value), i = .int .i64 (k : Int) ∧ k ≤ 100000 ∧ (k = 0 ∨ (k : Int) ≤ nI) ∧ RI w w2.heap.size w1.heap.size wr F v (takeGN refc k BS2 BD2)) (fun i _ => nI.toNat - (intOf i).toNat)
  case atStart => exact ⟨0, _, rfl, by omega, .inl rfl, HRI3.out⟩
  case round =>
    obtain ⟨k, v, rfl, hk, hkn, hri⟩ := hrel
    have hlen := takeGN_len k BS2 BD2
    have HTS := Lib.hid (show takeGN refc (k + 1) BS2 BD2 = ((takeGN refc k BS2 BD2).1 ++ [(takeG refc (takeGN refc k BS2 BD2).2.1 (takeGN refc k BS2 BD2).2.2).1], (takeG refc (takeGN refc k BS2 BD2).2.1 (takeGN refc k BS2 BD2).2.2).2) from rfl)
    obtain ⟨S, hS⟩ : ∃ S, S = takeGN refc k BS2 BD2 := ⟨_, rfl⟩
    rw [← hS] at hri hlen HTS
    have HS2 := Lib.hid hS
    obtain ⟨l, bs, bad⟩ := S
    have hll : l.length = k := hlen
    have HLL := Lib.hid hll
    have hlk : l.length ≤ 100000 := by omega
    obtain ⟨A3, c3, rfl, _, _, _⟩ := rdv_own hri.own
    have HRI4 := Lib.hid hri
    obtain ⟨Ar, nr, cr, hrr⟩ := hri.rf
    have g1 : wr.cell? ⟨w1.heap.size, 1, none⟩ = some (.bool bad) := hrr.c1
    have hlt4 := hri.lt
    have hsm4 := hri.rf.small
    have hlo4 := hri.lo
    have hgq4 := hri.gq
    clear hS hri hlen hll hrr
    by_cases hgo : (k : Int) < nI ∧ bad = false
    · obtain ⟨hlt, rfl⟩ := hgo
      have HMB := Lib.hid (mbyte_any _ _ bs false wr HRI4.out.rf)
      have hb256 := byteT_lt hsm4
      have HGL0 := Lib.hid (show takeGL bs false 0 = ({ Ins.zero with op := (byteT bs : Int) }, bs.drop 1, false || decide (bs.length = 0)) from rfl)
      have HGS := Lib.hid (takeGL_succ bs false)
      have HGA := Lib.hid (takeGL_all bs false)
      have HIX0 := Lib.hid (shapeL_small (byteT bs : Int))
      have hm5 := shapeL_len (byteT bs : Int)
      obtain ⟨b, hb⟩ : ∃ b, b = byteT bs := ⟨_, rfl⟩
      rw [← hb] at HMB hb256 HGL0 HIX0 hm5
      have HBB := Lib.hid hb
      clear hb
      have eb : IntKind.i64.wrap (b : Int) = ((b : Nat) : Int) := by rw [IntKind.wrap_i64]; omega
      go_wp2_with fail
      refine Calls.mono HMB.out ?_
      rintro e w4 ⟨rfl, hr4, ho4⟩
      have hri4 := HRI4.out.step hr4 ho4
      have hrj := RJ.start hri4 b
      rw [← HGL0.out] at hrj
      have HRJ := Lib.hid hrj
      have HSH := Lib.hid (refshape_any (b : Int) (w4.alloc (.cells #[.int .i64 (b : Int), .int .i64 0, .int .i64 0, .int .i64 0, .int .i64 0, .int .i64 0] 43)))
      clear g1 hr4 ho4 hri4 hrj
      go_wp2_with fail
      obtain ⟨ls, hls⟩ : ∃ ls, ls = shapeL (b : Int) := ⟨_, rfl⟩
      obtain ⟨s, hs⟩ : ∃ s, s = strN ls := ⟨_, rfl⟩
      obtain ⟨m, hm⟩ : ∃ m, m = ls.length := ⟨_, rfl⟩
      have hsz : s.size = m := by rw [hs, strN_size, hm]
      rw [← hls] at HSH hm5 HIX0
      have HIX := Lib.hid (fun k (hk : k < ls.length) w => (by rw [hs]; exact idx_str ls HIX0.out k hk w : (Instr.index 9 (.string s) (.int .i64 (k : Int))).run Tryd.prog w = .ok (.int .u8 ((ls[k] : Nat) : Int)) w))
      rw [← hs] at HSH
      have HGS2 := Lib.hid (show ∀ j (hj : j < ls.length), takeGL bs false (j + 1) = stepG refc (takeGL bs false j) ls[j] from fun j hj => by have h := HGS.out j (by rw [← HBB.out, ← hls]; exact hj); rw [h]; congr 1; simp only [← HBB.out, ← hls])
      have HGA2 := Lib.hid (HGA.out m (by rw [← HBB.out, ← hls, hm]))
      have HM := Lib.hid hm
      rw [← hm] at hm5
      clear hls hs hm HGS HGA HIX0 HGL0
      refine Calls.mono HSH.out ?_
      rintro e w5 ⟨rfl, rfl⟩
      go_wp2_with fail
      go_loopw [10] (fun i wr => ∃ j : Nat, i = .int .i64 (j : Int) ∧ j ≤ m ∧ RJ w w2.heap.size w1.heap.size w4.heap.size wr F (.slice A3 l.length c3) l (takeGL bs false j)) (fun i _ => m - (intOf i).toNat)
      case atStart => exact ⟨0, rfl, by omega, HRJ.out⟩
      case round =>
        obtain ⟨j, rfl, hj, hrj⟩ := hrel
        obtain ⟨X, hX⟩ : ∃ X, X = takeGL bs false j := ⟨_, rfl⟩
        have HGJ := Lib.hid (HGS2.out j)
        rw [← hX] at hrj HGJ
        have HX := Lib.hid hX
        obtain ⟨y, bs6, bad6⟩ := X
        have HRJ6 := Lib.hid hrj
        have hrf6 := hrj.ri.rf
        have hlt6 := hrj.ri.lt
        have hz6 := hrj.zlo
        clear hX hrj
        by_cases hjm : j < m
        · have hjl : j < ls.length := by rw [← HM.out]; exact hjm
          have hix := HIX.out j hjl
          have hst := HGJ.out hjl
          obtain ⟨q, hq⟩ : ∃ q, q = ls[j] := ⟨_, rfl⟩
          rw [← hq] at hix hst
          have HST := Lib.hid hst
          clear hq hst
          by_cases h110 : q = 110
          · have d1 : ((q : Int) == 110) = true := by rw [beq_iff_eq]; omega
            have HEQ := Lib.hid (show takeGL bs false (j + 1) = (y.set 5 (unfoldN (rcount bs6).1), (rcount bs6).2.1, (rcount bs6).2.2) by rw [HST.out, h110]; rfl)
            have HN := Lib.hid (mnum_any _ _ bs6 bad6 wr hrf6)
            clear h110 hrf6
            go_wp2_with fail
            refine Calls.mono HN.out ?_
            rintro e w7 ⟨rfl, hr7, ho7⟩
            have hrj7 := HRJ6.out.step hr7 ho7
            have HRJ8 := Lib.hid (hrj7.put 5 ⟨by omega, by omega⟩ (unfoldN (rcount bs6).1))
            have c5 : w7.cell? ⟨w4.heap.size, 5, none⟩ = some (.int .i64 y.n) := cell_of_row w7 _ 5 _ 43 (0, 0) hrj7.ins
            have f5 : w7.frozen? ⟨w4.heap.size, 5, none⟩ = false := by simp [World.frozen?, hrj7.ins]
            rw [← HEQ.out] at HRJ8
            clear hr7 ho7 hrj7
            go_wp2_with fail
            go_roundw
            case rel => exact ⟨j + 1, by go_num, by omega, HRJ8.out⟩
            case measure => simp [intOf]; omega
          · have d1 : ((q : Int) == 110) = false := by rw [beq_eq_false_iff_ne]; omega
            have HN := Lib.hid (refc_any _ _ bs6 bad6 wr hrf6)
            have HEQ0 := Lib.hid (show takeGL bs false (j + 1) = (y.set (offL q) (refc (rcount bs6).1), (rcount bs6).2.1, (rcount bs6).2.2) by rw [HST.out]; unfold stepG; rw [if_neg h110])
            obtain ⟨u, hu⟩ : ∃ u, u = refc (rcount bs6).1 := ⟨_, rfl⟩
            rw [← hu] at HN HEQ0
            clear h110 hrf6 hu
            go_wp2_with fail
            refine Calls.mono HN.out ?_
            rintro e w7 ⟨rfl, hr7, ho7⟩
            have hrj7 := HRJ6.out.step hr7 ho7
            have HPUT := Lib.hid (fun o ho => hrj7.put o ho u)
            have c1' : w7.cell? ⟨w4.heap.size, 1, none⟩ = some (.int .i64 y.a) := cell_of_row w7 _ 1 _ 43 (0, 0) hrj7.ins
            have c2' : w7.cell? ⟨w4.heap.size, 2, none⟩ = some (.int .i64 y.b) := cell_of_row w7 _ 2 _ 43 (0, 0) hrj7.ins
            have c3' : w7.cell? ⟨w4.heap.size, 3, none⟩ = some (.int .i64 y.c) := cell_of_row w7 _ 3 _ 43 (0, 0) hrj7.ins
            have c4' : w7.cell? ⟨w4.heap.size, 4, none⟩ = some (.int .i64 y.t) := cell_of_row w7 _ 4 _ 43 (0, 0) hrj7.ins
            have c5' : w7.cell? ⟨w4.heap.size, 5, none⟩ = some (.int .i64 y.n) := cell_of_row w7 _ 5 _ 43 (0, 0) hrj7.ins
            have f1 : w7.frozen? ⟨w4.heap.size, 1, none⟩ = false := by simp [World.frozen?, hrj7.ins]
            have f2 : w7.frozen? ⟨w4.heap.size, 2, none⟩ = false := by simp [World.frozen?, hrj7.ins]
            have f3 : w7.frozen? ⟨w4.heap.size, 3, none⟩ = false := by simp [World.frozen?, hrj7.ins]
            have f4 : w7.frozen? ⟨w4.heap.size, 4, none⟩ = false := by simp [World.frozen?, hrj7.ins]
            have f5 : w7.frozen? ⟨w4.heap.size, 5, none⟩ = false := by simp [World.frozen?, hrj7.ins]
            clear hr7 ho7 hrj7
            by_cases h97 : q = 97 ∨ q = 115
            · have HRJ8 := HPUT.out 1 ⟨by omega, by omega⟩
              have ho : offL q = 1 := if_pos h97
              rw [← ho, ← HEQ0.out, ho] at HRJ8
              have HRJ9 := Lib.hid HRJ8
              clear HRJ8 ho
              rcases h97 with h97 | h97
              · have d97 : ((q : Int) == 97) = true := by rw [beq_iff_eq]; omega
                clear h97
                go_wp2_with fail
                go_roundw
                case rel => exact ⟨j + 1, by go_num, by omega, HRJ9.out⟩
                case measure => simp [intOf]; omega
              · have d97 : ((q : Int) == 97) = false := by rw [beq_eq_false_iff_ne]; omega
                have d115 : ((q : Int) == 115) = true := by rw [beq_iff_eq]; omega
                clear h97
                go_wp2_with fail
                go_roundw
                case rel => exact ⟨j + 1, by go_num, by omega, HRJ9.out⟩
                case measure => simp [intOf]; omega
            · have d97 : ((q : Int) == 97) = false := by rw [beq_eq_false_iff_ne]; omega
              have d115 : ((q : Int) == 115) = false := by rw [beq_eq_false_iff_ne]; omega
              by_cases h98 : q = 98
              · have d98 : ((q : Int) == 98) = true := by rw [beq_iff_eq]; omega
                have HRJ8 := HPUT.out 2 ⟨by omega, by omega⟩
                have ho : offL q = 2 := by rw [h98]; rfl
                rw [← ho, ← HEQ0.out, ho] at HRJ8
                have HRJ9 := Lib.hid HRJ8
                clear HRJ8 ho h97 h98
                go_wp2_with fail
                go_roundw
                case rel => exact ⟨j + 1, by go_num, by omega, HRJ9.out⟩
                case measure => simp [intOf]; omega
              · have d98 : ((q : Int) == 98) = false := by rw [beq_eq_false_iff_ne]; omega
                by_cases h99 : q = 99
                · have d99 : ((q : Int) == 99) = true := by rw [beq_iff_eq]; omega
                  have HRJ8 := HPUT.out 3 ⟨by omega, by omega⟩
                  have ho : offL q = 3 := by rw [h99]; rfl
                  rw [← ho, ← HEQ0.out, ho] at HRJ8
                  have HRJ9 := Lib.hid HRJ8
                  clear HRJ8 ho h97 h98 h99
                  go_wp2_with fail
                  go_roundw
                  case rel => exact ⟨j + 1, by go_num, by omega, HRJ9.out⟩
                  case measure => simp [intOf]; omega
                · have d99 : ((q : Int) == 99) = false := by rw [beq_eq_false_iff_ne]; omega
                  by_cases h116 : q = 116
                  · have d116 : ((q : Int) == 116) = true := by rw [beq_iff_eq]; omega
                    have HRJ8 := HPUT.out 4 ⟨by omega, by omega⟩
                    have ho : offL q = 4 := by rw [h116]; rfl
                    rw [← ho, ← HEQ0.out, ho] at HRJ8
                    have HRJ9 := Lib.hid HRJ8
                    clear HRJ8 ho h97 h98 h99 h116
                    go_wp2_with fail
                    go_roundw
                    case rel => exact ⟨j + 1, by go_num, by omega, HRJ9.out⟩
                    case measure => simp [intOf]; omega
                  · have d116 : ((q : Int) == 116) = false := by rw [beq_eq_false_iff_ne]; omega
                    have HRJ8 := HPUT.out 5 ⟨by omega, by omega⟩
                    have ho : offL q = 5 := by unfold offL; rw [if_neg h97, if_neg h98, if_neg h99, if_neg h116]
                    rw [← ho, ← HEQ0.out, ho] at HRJ8
                    have HRJ9 := Lib.hid HRJ8
                    clear HRJ8 ho h97 h98 h99 h116
                    go_wp2_with fail
                    go_roundw
                    case rel => exact ⟨j + 1, by go_num, by omega, HRJ9.out⟩
                    case measure => simp [intOf]; omega
        · obtain rfl : j = m := by omega
          have HXE := Lib.hid (show (y, bs6, bad6) = takeG refc bs false by rw [HX.out, HGA2.out])
          have z0 : wr.cell? ⟨w4.heap.size, 0, none⟩ = some (.int .i64 y.op) := cell_of_row wr _ 0 _ 43 (0, 0) HRJ6.out.ins
          have z1 : wr.cell? ⟨w4.heap.size, 1, none⟩ = some (.int .i64 y.a) := cell_of_row wr _ 1 _ 43 (0, 0) HRJ6.out.ins
          have z2 : wr.cell? ⟨w4.heap.size, 2, none⟩ = some (.int .i64 y.b) := cell_of_row wr _ 2 _ 43 (0, 0) HRJ6.out.ins
          have z3 : wr.cell? ⟨w4.heap.size, 3, none⟩ = some (.int .i64 y.c) := cell_of_row wr _ 3 _ 43 (0, 0) HRJ6.out.ins
          have z4 : wr.cell? ⟨w4.heap.size, 4, none⟩ = some (.int .i64 y.t) := cell_of_row wr _ 4 _ 43 (0, 0) HRJ6.out.ins
          have z5 : wr.cell? ⟨w4.heap.size, 5, none⟩ = some (.int .i64 y.n) := cell_of_row wr _ 5 _ 43 (0, 0) HRJ6.out.ins
          have q1 : wr.cell? ⟨w2.heap.size, 1, none⟩ = some (.slice A3 l.length c3) := cell_of_row wr _ 1 _ 24 (0, 0) HRJ6.out.ri.cur
          have hsz6 := HRJ6.out.ri.below.size
          go_wp2_with (at_builtin; refine wpList_append_rowv elemC rfl (.tmp 89) (.tmp 91) rfl w.heap.size (.slice A3 l.length c3) l.length (insV l) rfl (HRJ6.out.ri.own.alloc _) (some ⟨wr.heap.size, 0, none⟩) 1 1 (insV [y]) rfl (rdv_ins wr y) (insV_one _) (fun h => by cases h) (by unfold maxLen; omega) (by omega) (by rw [World.size_alloc]; omega) ?_; intro v8 w8 hown8 hg8 hb8; obtain ⟨A8, c8, rfl, _, _, _⟩ := rdv_own hown8; obtain ⟨hq8, hri8⟩ := RI.push HRJ6.out.ri hown8 hg8 hb8; have HRI8 := Lib.hid hri8; have e1 : w8.cell? ⟨w2.heap.size, 1, none⟩ = some (.slice A3 l.length c3) := cell_of_row w8 _ 1 _ 24 (0, 0) hq8; have fq1 : w8.frozen? ⟨w2.heap.size, 1, none⟩ = false := by simp [World.frozen?, hq8])
          go_roundw
          case rel => exact ⟨k + 1, _, by go_num, by omega, .inr (by omega), by rw [HTS.out, ← HXE.out]; exact HRI8.out⟩
          case measure => simp [intOf]; omega
    · have hend : ¬ (k : Int) < nI ∨ bad = true := by
        by_cases h : (k : Int) < nI
        · cases bad
          · exact absurd ⟨h, rfl⟩ hgo
          · exact .inr rfl
        · exact .inl h
      obtain ⟨hdk, hrd⟩ := HEND.out k l bs bad hkn HS2.out (hend.imp (fun h => by omega) id)
      have HDK := Lib.hid hdk
      have HRD := Lib.hid hrd
      have hfit := (takeGN_fits k BS2 BD2 HSM.out).1
      rw [← HS2.out] at hfit
      have HFT := Lib.hid hfit
      have HMD := Lib.hid (mdone_any _ _ bs bad wr HRI4.out.rf)
      have HCD := Lib.hid (codes_of_own' HRI4.out.own rfl)
      obtain ⟨tt, htt⟩ : ∃ t, t = strN xs := ⟨_, rfl⟩
      have HTT := Lib.hid htt
      have HXX := Lib.hid (show ∀ w' : World, Below wr.heap.size wr w' → w'.cell? ⟨w2.heap.size, 0, none⟩ = some (.int .i64 F) ∧ w'.cell? ⟨w2.heap.size, 1, none⟩ = some (.slice A3 l.length c3) ∧ (convert 28 9 (.slice A n c)).run Tryd.prog w' = .ok (.string tt) w' ∧ Below wr.heap.size wr w' from fun w' hb =>
        ⟨cell_of_row w' _ 0 _ 24 (0, 0) (HRI4.out.later hb).cur, cell_of_row w' _ 1 _ 24 (0, 0) (HRI4.out.later hb).cur, by rw [htt]; exact run_str w' A n c xs (HR.out.ext (stays_b (HRI4.out.later hb).below)), hb⟩)
      have HMD0 := Lib.hid (show ∀ (b : Bool), (!bad && decide (bs = [])) = b → ∀ (W : World), Below wr.heap.size wr W → Calls Tryd.prog 53 #[.pointer (some ⟨w1.heap.size, 0, none⟩)] W fun e w' => e = .returned (.bool b) ∧ Below W.heap.size W w' from fun b hb W h => (mdone_any _ _ bs bad W (HRI4.out.later h).rf).mono fun e w' h2 => ⟨by rw [h2.1, hb], by rw [← h2.2]; exact Below.refl _ _⟩)
      have HCK0 := Lib.hid (show ∀ (W : World), Below wr.heap.size wr W → Calls Tryd.prog 16 #[.agg #[.int .i64 F, .slice A3 l.length c3]] W fun e w' => e = .returned (.int .i64 (chk F l)) ∧ Below W.heap.size W w' from fun W h => refcheck_any F A3 l.length c3 l W (HCD.out.ext (stays_b h)) (by omega))
      clear hdk hrd hend hfit htt HMD
      by_cases hlt : (k : Int) < nI
      case' pos =>
        have hbt : bad = true := by
          cases bad
          · exact absurd ⟨hlt, rfl⟩ hgo
          · rfl
        have e1 := decide_eq_true hlt
        have g2 := g1
        rw [hbt] at g2
        clear hbt
      case' neg =>
        have e1 : decide ((k : Int) < nI) = false := decide_eq_false hlt
        have g2 := g1
      all_goals
        clear hlt hgo g1
        go_upto_region 25 with fail
        clear e1 g2
        by_cases hok : bad = false ∧ bs = []
        · have HMD9 := Lib.hid (HMD0.out true (by rw [hok.1, decide_eq_true hok.2]; rfl))
          have HDK2 := Lib.hid (show decOk xs = decide (chk F l = -2 ∧ encP F.toNat l = xs) by rw [HDK.out]; exact decide_eq_decide.2 ⟨fun h => h.2.2, fun h => ⟨hok.1, hok.2, h⟩⟩)
          clear hok
          by_cases hck : chk F l = -2
          · have HCK9 := HCK0
            rw [hck] at HCK9
            have HDK3 := Lib.hid (show decOk xs = decide (encP F.toNat l = xs) by rw [HDK2.out]; exact decide_eq_decide.2 ⟨fun h => h.2, fun h => ⟨hck, h⟩⟩)
            obtain ⟨hh, _⟩ := chk_good hck
            have hsml := good_small hck HFT.out
            have hFF : ((F.toNat : Nat) : Int) = F := by omega
            have hbeq := strN_beq (encP F.toNat l) xs (encP_small hsml) HS.out
            obtain ⟨L, hL⟩ : ∃ L, L = encP F.toNat l := ⟨_, rfl⟩
            obtain ⟨ss, hss⟩ : ∃ t, t = strN L := ⟨_, rfl⟩
            have HEN9 := Lib.hid (show ∀ (W : World), Below wr.heap.size wr W → Calls Tryd.prog 21 #[.agg #[.int .i64 F, .slice A3 l.length c3]] W fun e w' => ∃ v, e = .returned v ∧ (∃ Av cv, v = .slice Av L.length cv ∧ (convert 28 9 (.slice Av L.length cv)).run Tryd.prog w' = .ok (.string ss) w') ∧ Below W.heap.size W w' from fun W h => by
              have h1 := refenc_any F.toNat A3 l.length c3 l W (HCD.out.ext (stays_b h)) hsml (by omega) (by omega)
              rw [hFF] at h1
              refine h1.mono ?_
              rintro e w' ⟨v, h2, h3, h4⟩
              obtain ⟨Av, cv, h5, h6, _⟩ := ownB_rdv h3
              rw [← hL] at h5 h6
              exact ⟨v, h2, ⟨Av, cv, h5, by rw [hss]; exact run_str w' Av _ cv L h6⟩, h4⟩)
            rw [← hL, ← hss, ← HTT.out] at hbeq
            have HDK4 := HDK3
            rw [← hL] at HDK4
            clear hck hh hsml hFF hL hss
            by_cases hen : L = xs
            · rw [decide_eq_true hen] at hbeq
              have hbne : (ss.toList != tt.toList) = false := by rw [bne, hbeq]; rfl
              have HDT := Lib.hid (show decOk xs = true by rw [HDK4.out, decide_eq_true hen])
              clear hen
              go_wp2_with fail
              first | (go_region_law (first | (go_simp; go_at_call 53; refine Calls.mono (HMD9.out _ (Below.refl _ wr).drew) ?_; rintro e wa ⟨rfl, hbK⟩; obtain ⟨p0, p1, p2, hb6⟩ := HXX.out wa (Below.trans (Below.refl _ wr).drew hbK)) | (go_simp; go_at_call 16; refine Calls.mono (HCK9.out _ hb6) ?_; rintro e wb ⟨rfl, hbK2⟩; obtain ⟨q0, q1, q2, hb7⟩ := HXX.out wb (hb6.trans (hbK2.mono hb6.size))) | (go_simp; go_at_call 21; refine Calls.mono (HEN9.out _ hb7) ?_; rintro e w7 ⟨v, rfl, hcv0, hbK3⟩; obtain ⟨Av, cv, rfl, hcv⟩ := hcv0; obtain ⟨s0, s1, s2, hb8⟩ := HXX.out w7 (hb7.trans (hbK3.mono hb7.size))))) | fail
              all_goals
                have hri7 := HRI4.out.later hb8
                have HRI7 := Lib.hid hri7
                clear p0 p1 p2 hb6 hbK q0 q1 q2 hb7 hbK2 s0 s1 s2 hb8 hbK3 hcv
                have y0 : w7.cell? ⟨w.heap.size, 0, none⟩ = some (.int .i64 0) := cell_of_row w7 _ 0 _ 24 (0, 0) hri7.out
                have y1 : w7.cell? ⟨w.heap.size, 1, none⟩ = some (.slice none 0 0) := cell_of_row w7 _ 1 _ 24 (0, 0) hri7.out
                have x0 : w7.frozen? ⟨w.heap.size, 0, none⟩ = false := by simp [World.frozen?, hri7.out]
                have x1 : w7.frozen? ⟨w.heap.size, 1, none⟩ = false := by simp [World.frozen?, hri7.out]
                have d0 : w7.cell? ⟨w2.heap.size, 0, none⟩ = some (.int .i64 F) := cell_of_row w7 _ 0 _ 24 (0, 0) hri7.cur
                have d1 : w7.cell? ⟨w2.heap.size, 1, none⟩ = some (.slice A3 l.length c3) := cell_of_row w7 _ 1 _ 24 (0, 0) hri7.cur
                clear hri7
                go_wp2_with fail
                obtain ⟨r1, r2, r3⟩ := HRI7.out.fin F (.slice A3 l.length c3)
                refine bodyPost_ret (results23 _ _ F A3 l.length c3 (.bool true) r1 _ rfl rfl) rfl ⟨.inl ⟨HDT.out, ?_⟩, r3⟩
                rw [(HRD.out HDT.out).1, (HRD.out HDT.out).2]
                exact ⟨A3, c3, rfl, codes_of_own' r2 rfl⟩
            · rw [decide_eq_false hen] at hbeq
              have hbne : (ss.toList != tt.toList) = true := by rw [bne, hbeq]; rfl
              have HDT := Lib.hid (show decOk xs = false by rw [HDK4.out, decide_eq_false hen])
              clear hen
              go_wp2_with fail
              first | (go_region_law (first | (go_simp; go_at_call 53; refine Calls.mono (HMD9.out _ (Below.refl _ wr).drew) ?_; rintro e wa ⟨rfl, hbK⟩; obtain ⟨p0, p1, p2, hb6⟩ := HXX.out wa (Below.trans (Below.refl _ wr).drew hbK)) | (go_simp; go_at_call 16; refine Calls.mono (HCK9.out _ hb6) ?_; rintro e wb ⟨rfl, hbK2⟩; obtain ⟨q0, q1, q2, hb7⟩ := HXX.out wb (hb6.trans (hbK2.mono hb6.size))) | (go_simp; go_at_call 21; refine Calls.mono (HEN9.out _ hb7) ?_; rintro e w7 ⟨v, rfl, hcv0, hbK3⟩; obtain ⟨Av, cv, rfl, hcv⟩ := hcv0; obtain ⟨s0, s1, s2, hb8⟩ := HXX.out w7 (hb7.trans (hbK3.mono hb7.size))))) | fail
              all_goals
                have hri7 := HRI4.out.later hb8
                have HRI7 := Lib.hid hri7
                clear p0 p1 p2 hb6 hbK q0 q1 q2 hb7 hbK2 s0 s1 s2 hb8 hbK3 hcv
                have y0 : w7.cell? ⟨w.heap.size, 0, none⟩ = some (.int .i64 0) := cell_of_row w7 _ 0 _ 24 (0, 0) hri7.out
                have y1 : w7.cell? ⟨w.heap.size, 1, none⟩ = some (.slice none 0 0) := cell_of_row w7 _ 1 _ 24 (0, 0) hri7.out
                have x0 : w7.frozen? ⟨w.heap.size, 0, none⟩ = false := by simp [World.frozen?, hri7.out]
                have x1 : w7.frozen? ⟨w.heap.size, 1, none⟩ = false := by simp [World.frozen?, hri7.out]
                have d0 : w7.cell? ⟨w2.heap.size, 0, none⟩ = some (.int .i64 F) := cell_of_row w7 _ 0 _ 24 (0, 0) hri7.cur
                have d1 : w7.cell? ⟨w2.heap.size, 1, none⟩ = some (.slice A3 l.length c3) := cell_of_row w7 _ 1 _ 24 (0, 0) hri7.cur
                clear hri7
                go_wp2_with fail
                obtain ⟨r1, r2, r3⟩ := HRI7.out.fin 0 (.slice none 0 0)
                exact bodyPost_ret (results23 _ _ 0 none 0 0 (.bool false) r1 _ rfl rfl) rfl ⟨.inr ⟨HDT.out, rfl⟩, r3⟩
          · have HDT := Lib.hid (show decOk xs = false by rw [HDK2.out]; exact decide_eq_false fun h => hck h.1)
            have HCK9 := HCK0
            rcases chk_ways F l with h9 | h9 | ⟨m9, h9⟩
            · exact absurd h9 hck
            all_goals
              rw [h9] at HCK9
              clear hck h9
              go_wp2_with fail
              first | (go_region_law (first | (go_simp; go_at_call 53; refine Calls.mono (HMD9.out _ (Below.refl _ wr).drew) ?_; rintro e w6 ⟨rfl, hbK⟩; obtain ⟨p0, p1, p2, hb6⟩ := HXX.out w6 (Below.trans (Below.refl _ wr).drew hbK)) | (go_simp; go_at_call 16; refine Calls.mono (HCK9.out _ hb6) ?_; rintro e w7 ⟨rfl, hbK2⟩; have hHeld := HXX.out w7 (hb6.trans (hbK2.mono hb6.size))))) | fail
              all_goals
                have hri7 := HRI4.out.later hHeld.2.2.2
                have HRI7 := Lib.hid hri7
                clear hHeld hb6 hbK hbK2 p0 p1 p2
                have y0 : w7.cell? ⟨w.heap.size, 0, none⟩ = some (.int .i64 0) := cell_of_row w7 _ 0 _ 24 (0, 0) hri7.out
                have y1 : w7.cell? ⟨w.heap.size, 1, none⟩ = some (.slice none 0 0) := cell_of_row w7 _ 1 _ 24 (0, 0) hri7.out
                have x0 : w7.frozen? ⟨w.heap.size, 0, none⟩ = false := by simp [World.frozen?, hri7.out]
                have x1 : w7.frozen? ⟨w.heap.size, 1, none⟩ = false := by simp [World.frozen?, hri7.out]
                clear hri7
                go_wp2_with fail
                obtain ⟨r1, r2, r3⟩ := HRI7.out.fin 0 (.slice none 0 0)
                exact bodyPost_ret (results23 _ _ 0 none 0 0 (.bool false) r1 _ rfl rfl) rfl ⟨.inr ⟨HDT.out, rfl⟩, r3⟩
        · have HDT := Lib.hid (show decOk xs = false by rw [HDK.out]; exact decide_eq_false fun h => hok ⟨h.1, h.2.1⟩)
          have HMD9 := Lib.hid (HMD0.out false (by
            cases bad
            · exact decide_eq_false fun h => hok ⟨rfl, h⟩
            · rfl))
          have HMDQ := Lib.hid (fun j => (mdone_any _ _ bs bad (wr.drewN j) (HRI4.out.later (below_drewN' (Below.refl _ wr) j)).rf).mono fun e w' h2 => (⟨by rw [h2.1]; cases bad <;> first | rfl | exact ret_bool' (decide_eq_false fun h => hok ⟨rfl, h⟩), h2.2.symm⟩ : e = .returned (.bool false) ∧ w' = wr.drewN j))
          clear hok
          go_wp2_with fail
          go_quiet ((go_at_call 53; with_reducible exact Calls.quiet_of_same (HMDQ.out _)))
          have HRI7 := Lib.hid (HRI4.out.later (below_drewN' (Below.refl _ wr) nq))
          have y0 : (wr.drewN nq).cell? ⟨w.heap.size, 0, none⟩ = some (.int .i64 0) := cell_of_row (wr.drewN nq) _ 0 _ 24 (0, 0) HRI7.out.out
          have y1 : (wr.drewN nq).cell? ⟨w.heap.size, 1, none⟩ = some (.slice none 0 0) := cell_of_row (wr.drewN nq) _ 1 _ 24 (0, 0) HRI7.out.out
          have x0 : (wr.drewN nq).frozen? ⟨w.heap.size, 0, none⟩ = false := by simp [World.frozen?, HRI4.out.out]
          have x1 : (wr.drewN nq).frozen? ⟨w.heap.size, 1, none⟩ = false := by simp [World.frozen?, HRI4.out.out]
          go_wp2_with fail
          obtain ⟨r1, r2, r3⟩ := HRI7.out.fin 0 (.slice none 0 0)
          exact bodyPost_ret (results23 _ _ 0 none 0 0 (.bool false) r1 _ rfl rfl) rfl ⟨.inr ⟨HDT.out, rfl⟩, r3⟩
end Go.Proofs.YtkeckjgihjpfbaaDoor
