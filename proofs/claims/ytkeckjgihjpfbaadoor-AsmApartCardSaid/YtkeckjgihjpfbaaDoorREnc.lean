/- The contract of the document's Encode. -/
import Derived.Test.YtkeckjgihjpfbaaDoorValue
import Derived.Test.YtkeckjgihjpfbaaDoorBackM
import Derived.Test.YtkeckjgihjpfbaaDoorWholes
import Derived.Test.YtkeckjgihjpfbaaDoorRefW
import Derived.Deep.RegionLaw
namespace Go.Proofs.YtkeckjgihjpfbaaDoor
set_option maxRecDepth 100000
open Go.RowKit
attribute [local go_sem ↓] Go.wp_at_zero Go.wp_at_succ

/-- What stands while the document's bytes are written: the program's box, and the row. -/
structure EI (w : World) (f : Int) (A : Option Addr) (n c : Nat) (wr : World) (v : Value) (bs : List Nat) : Prop where
  below : Below w.heap.size w wr
  box : wr.heap[w.heap.size]? = some (.cells #[.int .i64 f, .slice A n c] 24 (0, 0))
  own : OwnB wr w.heap.size v bs
theorem own_ne {w : World} {B b n : Nat} {v : Value} {xs : List Value} {cs : Array Value} {t e : TypeId} {f0 : Nat × Nat} (h : w.ownsRow B e 1 v n xs) (hb : w.heap[b]? = some (.cells cs t f0)) (ht : t ≠ e) : v.ownBlock ≠ some b := fun e2 => by
  obtain ⟨_, _, cur, h2⟩ := own_cells h b e2
  rw [hb] at h2
  injection h2 with h2
  injection h2 with _ h2
  exact ht h2
theorem EI.later {w wr w2 : World} {f : Int} {A : Option Addr} {n c : Nat} {v : Value} {bs : List Nat} (h : EI w f A n c wr v bs) (hb : Below wr.heap.size wr w2) : EI w f A n c w2 v bs :=
  ⟨h.below.trans (hb.mono h.below.size), (hb.block _ (Array.getElem?_eq_some_iff.1 h.box).1).trans h.box, own_keep h.own fun b _ _ e => hb.block b (Array.getElem?_eq_some_iff.1 e).1⟩
theorem EI.app {w wr w2 : World} {f : Int} {A : Option Addr} {n c m : Nat} {v v' : Value} {bs ys : List Nat} (h : EI w f A n c wr v bs) (ho : w2.ownsRow w.heap.size 5 1 v' (bs.length + m) (valsB bs ++ valsB ys)) (hm : ys.length = m) (hg : wr.grownBy w2 v.ownBlock) : EI w f A n c w2 v' (bs ++ ys) := by
  have hlt := (Array.getElem?_eq_some_iff.1 h.box).1
  refine ⟨h.below.grown hg h.below.size (fun q e => (own_cells h.own q e).1), (hg.block _ hlt (fun e => own_ne h.own h.box (by decide) e.symm)).trans h.box, ?_⟩
  rw [← valsB_append] at ho
  exact ownB_of ho (by rw [List.length_append, hm])
/-- With the instruction's copy besides. -/
structure EJ (w : World) (f : Int) (A : Option Addr) (n c : Nat) (q : Nat) (x : Ins) (wr : World) (v : Value) (bs : List Nat) : Prop where
  ei : EI w f A n c wr v bs
  cur : wr.heap[q]? = some (.cells x.vals.toArray 43 (0, 0))
theorem EJ.later {w wr w2 : World} {f : Int} {A : Option Addr} {n c q : Nat} {x : Ins} {v : Value} {bs : List Nat} (h : EJ w f A n c q x wr v bs) (hb : Below wr.heap.size wr w2) : EJ w f A n c q x w2 v bs :=
  ⟨h.ei.later hb, (hb.block _ (Array.getElem?_eq_some_iff.1 h.cur).1).trans h.cur⟩
theorem EJ.app {w wr w2 : World} {f : Int} {A : Option Addr} {n c q m : Nat} {x : Ins} {v v' : Value} {bs ys : List Nat} (h : EJ w f A n c q x wr v bs) (ho : w2.ownsRow w.heap.size 5 1 v' (bs.length + m) (valsB bs ++ valsB ys)) (hm : ys.length = m) (hg : wr.grownBy w2 v.ownBlock) : EJ w f A n c q x w2 v' (bs ++ ys) :=
  ⟨h.ei.app ho hm hg, (hg.block _ (Array.getElem?_eq_some_iff.1 h.cur).1 (fun e => own_ne h.ei.own h.cur (by decide) e.symm)).trans h.cur⟩
theorem ownB_rdv {w : World} {B : Nat} {v : Value} {xs : List Nat} (h : OwnB w B v xs) : ∃ A c, v = .slice A xs.length c ∧ Rdv w A xs.length 1 (valsB xs) ∧ (A = none → c = 0) := by
  obtain ⟨A, c, e, h1, h2, _⟩ := OwnB.rdv h
  exact ⟨A, c, e, h1, h2⟩
theorem OwnB.later {w w2 : World} {B : Nat} {v : Value} {xs : List Nat} (h : OwnB w B v xs) (hb : Below w.heap.size w w2) : OwnB w2 B v xs := own_keep h fun b _ _ e => hb.block b (Array.getElem?_eq_some_iff.1 e).1
theorem ownB_base {w : World} {B B' : Nat} {v : Value} {xs : List Nat} (h : OwnB w B v xs) (hB : B' ≤ B) : OwnB w B' v xs := by
  refine ⟨h.1, ?_⟩
  rcases h.2 with h0 | ⟨g, cap, cur, e, h1, h2⟩
  · exact .inl h0
  · exact .inr ⟨g, cap, cur, e, by omega, h2⟩
theorem rdv_b1 (w : World) (x : Nat) : Rdv (w.alloc (.cells #[.int .u8 (x : Int)] 5)) (some ⟨w.heap.size, 0, none⟩) 1 1 (valsB [x]) := rdv_one w x
set_option maxHeartbeats 16000000 in
theorem refenc_any (fn : Nat) (A : Option Addr) (n c : Nat) (l : List Ins) (w : World) (hC : Codes w A n l) (hsm : ∀ x ∈ l, x.Small) (hf : fn ≤ 1000) (hn : n ≤ 32) :
    Calls Tryd.prog 21 #[.agg #[.int .i64 (fn : Int), .slice A n c]] w fun e w' => ∃ v, e = .returned v ∧ OwnB w' w.heap.size v (encP fn l) ∧ Below w.heap.size w w' := by
  have hb1 := (Below.refl w.heap.size w).alloc (Nat.le_refl _) (.cells #[.int .i64 (fn : Int), .slice A n c] 24)
  have HB1 := Lib.hid hb1
  have HN1 := Lib.hid (one_new w (.cells #[.int .i64 (fn : Int), .slice A n c] 24))
  have HC := Lib.hid hC
  have HL := Lib.hid hC.len
  have HSM := Lib.hid hsm
  have HES := Lib.hid (fun k => (encIs_len (l.take k) (fun x hx => (hsm x (List.mem_of_mem_take hx)).enc) : (encIs (l.take k)).length ≤ (l.take k).length * 51))
  have HC1 := Lib.hid (refCount_any fn (by omega) (w.alloc (.cells #[.int .i64 (fn : Int), .slice A n c] 24)))
  have ef : IntKind.u64.wrap (fn : Int) = ((fn : Nat) : Int) := by rw [IntKind.wrap_u64]; omega
  have en : IntKind.u64.wrap (n : Int) = ((n : Nat) : Int) := by rw [IntKind.wrap_u64]; omega
  have hlf := cntN_len fn (by omega)
  have hln := cntN_len n (by omega)
  clear hb1 hC hsm
  go_enter Tryd.func21, Tryd.ntmps21
  go_wp2_with fail
  refine Calls.mono HC1.out ?_
  rintro e w1 ⟨v1, rfl, ho1, hb1⟩
  have hei1 : EI w (fn : Int) A n c w1 v1 (cntN fn) := ⟨HB1.out.trans (hb1.mono HB1.out.size), (hb1.block _ (by rw [World.size_alloc]; omega)).trans HN1.out, ownB_base ho1 (by rw [World.size_alloc]; omega)⟩
  have HEI1 := Lib.hid hei1
  have g1 : w1.cell? ⟨w.heap.size, 1, none⟩ = some (.slice A n c) := cell_of_row w1 _ 1 _ 24 (0, 0) hei1.box
  have HC2 := Lib.hid (refCount_any n (by omega) w1)
  clear ho1 hb1 hei1
  go_wp2_with fail
  refine Calls.mono HC2.out ?_
  rintro e w2 ⟨v2, rfl, ho2, hb2⟩
  have hei2 := HEI1.out.later hb2
  have HEI2 := Lib.hid hei2
  obtain ⟨A1, c1, rfl, _, _⟩ := ownB_rdv hei2.own
  obtain ⟨A2, c2, rfl, hr2, hnil2⟩ := ownB_rdv ho2
  have HR2 := Lib.hid hr2
  have hs2 := hei2.below.size
  have g1' : w2.cell? ⟨w.heap.size, 1, none⟩ = some (.slice A n c) := cell_of_row w2 _ 1 _ 24 (0, 0) hei2.box
  clear ho2 hb2 hei2 hr2
  go_wp2_with (at_builtin; refine wpList_append_rowv elemB rfl (.tmp 12) (.tmp 17) rfl w.heap.size _ (cntN fn).length (valsB (cntN fn)) rfl HEI2.out.own A2 (cntN n).length c2 (valsB (cntN n)) rfl HR2.out (valsB_one _) hnil2 (by unfold maxLen; omega) (by omega) hs2 ?_; intro v3 w3 hown3 hg3 hb3; have HEI3 := Lib.hid (HEI2.out.app hown3 rfl hg3); clear hown3 hg3 hb3)
  clear g1 g1'
  go_loopw [4, 3] (fun i v wr => ∃ k : Nat, i = .int .i64 (k : Int) ∧ k ≤ n ∧ EI w (fn : Int) A n c wr v (cntN fn ++ cntN n ++ encIs (l.take k))) (fun i _ _ => n - (intOf i).toNat)
  case atStart => exact ⟨0, rfl, by omega, by rw [show encIs (l.take 0) = [] from rfl, List.append_nil]; exact HEI3.out⟩
  case round =>
    obtain ⟨k, rfl, hk, hei⟩ := hrel
    have HEI := Lib.hid hei
    have hll := HES.out k
    rw [List.length_take] at hll
    have gr : wr.cell? ⟨w.heap.size, 1, none⟩ = some (.slice A n c) := cell_of_row wr _ 1 _ 24 (0, 0) hei.box
    have hsr := hei.below.size
    have HBR := Lib.hid hei.below
    obtain ⟨pre, hpre⟩ : ∃ p, p = cntN fn ++ cntN n ++ encIs (l.take k) := ⟨_, rfl⟩
    have HPRE := Lib.hid hpre
    have hlp : pre.length ≤ 2000 := by rw [hpre, List.length_append, List.length_append]; omega
    rw [← hpre] at HEI
    clear hei hpre
    by_cases hlt : k < n
    · have hkl : k < l.length := by rw [HL.out]; exact hlt
      obtain ⟨b, off, rfl, hc⟩ := (HC.out.ext (stays_b HBR.out)).cells (by omega)
      obtain ⟨c0, c1', c2', c3, c4, c5⟩ := hc k hkl
      have HTK := Lib.hid (encIs_take l k hkl)
      have hxs := HSM.out _ (List.getElem_mem hkl)
      obtain ⟨x, hx⟩ : ∃ x, x = l[k] := ⟨_, rfl⟩
      rw [← hx] at c0 c1' c2' c3 c4 c5 HTK hxs
      have HXS := Lib.hid hxs
      obtain ⟨op, hop⟩ := Int.eq_ofNat_of_zero_le hxs.op.1
      have hop16 : op < 16 := by have := hxs.op.2; omega
      have e8 : IntKind.u8.wrap x.op = ((op : Nat) : Int) := by rw [hop, IntKind.wrap_u8]; omega
      have HENC := Lib.hid (show encI x = [op] ++ encLs x (shapeL x.op) by unfold encI; rw [hop, Int.toNat_natCast]; rfl)
      obtain ⟨Av, cv, rfl, hrv, hnv⟩ := ownB_rdv HEI.out.own
      have hej : EJ w (fn : Int) (some ⟨b, off, none⟩) n c wr.heap.size x ((wr.alloc (.cells #[.int .i64 x.op, .int .i64 x.a, .int .i64 x.b, .int .i64 x.c, .int .i64 x.t, .int .i64 x.n] 43)).alloc (.cells #[.int .u8 (op : Int)] 5)) (.slice Av pre.length cv) pre :=
        ⟨HEI.out.later (((Below.refl _ wr).alloc (Nat.le_refl _) _).alloc (by simp) _), (heap_alloc_old _ _ (by simp)).trans (heap_alloc_new wr _)⟩
      have HEJ := Lib.hid hej
      have HRB := Lib.hid (rdv_b1 (wr.alloc (.cells #[.int .i64 x.op, .int .i64 x.a, .int .i64 x.b, .int .i64 x.c, .int .i64 x.t, .int .i64 x.n] 43)) op)
      rw [World.size_alloc] at HRB
      clear hc hx hxs hop hrv hej
      go_wp2_with (at_builtin; refine wpList_append_rowv elemB rfl (.tmp 31) (.tmp 35) rfl w.heap.size _ pre.length (valsB pre) rfl HEJ.out.ei.own (some ⟨wr.heap.size + 1, 0, none⟩) 1 1 (valsB [op]) rfl HRB.out (valsB_one _) (fun h => by cases h) (by unfold maxLen; omega) (by omega) (by rw [World.size_alloc, World.size_alloc]; omega) ?_; intro v5 w5 hown5 hg5 hb5; have hej5 := HEJ.out.app hown5 rfl hg5; have HEJ5 := Lib.hid hej5; have q0 : w5.cell? ⟨wr.heap.size, 0, none⟩ = some (.int .i64 x.op) := cell_of_row w5 _ 0 _ 43 (0, 0) hej5.cur; clear hown5 hg5 hb5 hej5)
      obtain ⟨ls, hls⟩ : ∃ ls, ls = shapeL x.op := ⟨_, rfl⟩
      have HSML := Lib.hid (show ∀ y ∈ ls, y < 256 by rw [hls]; exact shapeL_small _)
      have hlen : ls.length ≤ 5 := by rw [hls]; exact shapeL_len _
      have HFL := Lib.hid (show ∀ q ∈ ls, q ≠ 110 → 0 ≤ x.get (offL q) ∧ x.get (offL q) ≤ 100000 by rw [hls]; exact HXS.out.flds)
      have HLE := Lib.hid (fun j => (encLs_len HXS.out.enc (ls.take j) (fun q hq => by rw [← hls]; exact List.mem_of_mem_take hq) : (encLs x (ls.take j)).length ≤ (ls.take j).length * 10))
      have HSH := Lib.hid (refshape_any x.op w5)
      obtain ⟨s, hs⟩ : ∃ s, s = strN ls := ⟨_, rfl⟩
      obtain ⟨m, hm⟩ : ∃ m, m = ls.length := ⟨_, rfl⟩
      have hsz : s.size = m := by rw [hs, strN_size, hm]
      have HIX := Lib.hid (fun k (hk : k < ls.length) w => (by rw [hs]; exact idx_str ls HSML.out k hk w : (Instr.index 9 (.string s) (.int .i64 (k : Int))).run Tryd.prog w = .ok (.int .u8 ((ls[k] : Nat) : Int)) w))
      rw [← hls, ← hs] at HSH
      rw [← hls] at HENC
      have HM := Lib.hid hm
      rw [← hm] at hlen
      clear hls hs hm c0 c1' c2' c3 c4 c5 gr e8
      refine Calls.mono HSH.out ?_
      rintro e w6 ⟨rfl, rfl⟩
      go_wp2_with fail
      clear q0
      obtain ⟨wo, hwo⟩ : ∃ wo : Nat, wo = wr.heap.size := ⟨_, rfl⟩
      rw [← hwo] at HEJ5 ⊢
      have HWO := Lib.hid hwo
      clear hwo
      rename World => wouter
      go_loopw [7, 3] (fun i v wr => ∃ j : Nat, i = .int .i64 (j : Int) ∧ j ≤ m ∧ EJ w (fn : Int) (some ⟨b, off, none⟩) n c wo x wr v (pre ++ [op] ++ encLs x (ls.take j))) (fun i _ _ => m - (intOf i).toNat)
      case atStart => exact ⟨0, rfl, by omega, by rw [show encLs x (ls.take 0) = [] from rfl, List.append_nil]; exact HEJ5.out⟩
      case round =>
        obtain ⟨j, rfl, hj, hej⟩ := hrel
        have HEJ6 := Lib.hid hej
        have hlj := HLE.out j
        rw [List.length_take] at hlj
        obtain ⟨pr, hpr⟩ : ∃ p, p = pre ++ [op] ++ encLs x (ls.take j) := ⟨_, rfl⟩
        have HPR := Lib.hid hpr
        have hlpr : pr.length ≤ 3000 := by rw [hpr, List.length_append, List.length_append]; show pre.length + 1 + _ ≤ _; omega
        rw [← hpr] at HEJ6
        have q0 : wr.cell? ⟨wo, 0, none⟩ = some (.int .i64 x.op) := cell_of_row wr _ 0 _ 43 (0, 0) hej.cur
        have q1 : wr.cell? ⟨wo, 1, none⟩ = some (.int .i64 x.a) := cell_of_row wr _ 1 _ 43 (0, 0) hej.cur
        have q2 : wr.cell? ⟨wo, 2, none⟩ = some (.int .i64 x.b) := cell_of_row wr _ 2 _ 43 (0, 0) hej.cur
        have q3 : wr.cell? ⟨wo, 3, none⟩ = some (.int .i64 x.c) := cell_of_row wr _ 3 _ 43 (0, 0) hej.cur
        have q4 : wr.cell? ⟨wo, 4, none⟩ = some (.int .i64 x.t) := cell_of_row wr _ 4 _ 43 (0, 0) hej.cur
        have q5 : wr.cell? ⟨wo, 5, none⟩ = some (.int .i64 x.n) := cell_of_row wr _ 5 _ 43 (0, 0) hej.cur
        have hsr2 := hej.ei.below.size
        clear hej hpr
        by_cases hjm : j < m
        · have hjl : j < ls.length := by rw [← HM.out]; exact hjm
          have hix := HIX.out j hjl
          obtain ⟨q, hq⟩ : ∃ q, q = ls[j] := ⟨_, rfl⟩
          have HTJ := Lib.hid (encLs_take x ls j hjl)
          rw [← hq] at hix HTJ
          have hqm : q ∈ ls := by rw [hq]; exact List.getElem_mem hjl
          have hq256 := HSML.out q hqm
          obtain ⟨Av6, cv6, rfl, _, _⟩ := ownB_rdv HEJ6.out.ei.own
          clear hq
          by_cases h110 : q = 110
          · have d1 : ((q : Int) == 110) = true := by rw [beq_iff_eq]; omega
            have HEL := Lib.hid (show encL x q = cntN (foldN x.n) from if_pos h110)
            have HN := Lib.hid (refNum_any x.n HXS.out.n wr)
            have hlz := cntN_len (foldN x.n) (foldN_lt HXS.out.n)
            clear h110 hqm q0 q1 q2 q3 q4
            go_wp2_with fail
            refine Calls.mono HN.out ?_
            rintro e w7 ⟨v7, rfl, ho7, hb7⟩
            have HEJ7 := Lib.hid (HEJ6.out.later hb7)
            obtain ⟨A7, c7, rfl, hr7, hn7⟩ := ownB_rdv ho7
            have HR7 := Lib.hid hr7
            have hs7 := hb7.size
            clear ho7 hb7 hr7 q5
            go_wp2_with (at_builtin; refine wpList_append_rowv elemB rfl (.tmp 50) (.tmp 53) rfl w.heap.size _ pr.length (valsB pr) rfl HEJ7.out.ei.own A7 _ c7 (valsB (cntN (foldN x.n))) rfl HR7.out (valsB_one _) hn7 (by unfold maxLen; omega) (by omega) (by omega) ?_; intro v8 w8 hown8 hg8 hb8; have HEJ8 := Lib.hid (HEJ7.out.app hown8 rfl hg8); clear hown8 hg8 hb8)
            go_roundw
            case rel => exact ⟨j + 1, by go_num, by omega, by rw [HTJ.out, ← List.append_assoc, ← HPR.out, HEL.out]; exact HEJ8.out⟩
            case measure => simp [intOf]; omega
          · have d1 : ((q : Int) == 110) = false := by rw [beq_eq_false_iff_ne]; omega
            have hv := HFL.out q hqm h110
            have hval := value_any x q wr.drew
            obtain ⟨z, hz⟩ : ∃ z, z = x.get (offL q) := ⟨_, rfl⟩
            have HEL := Lib.hid (show encL x q = cntN z.toNat by rw [hz]; exact if_neg h110)
            rw [← hz] at hv hval
            obtain ⟨u, rfl⟩ := Int.eq_ofNat_of_zero_le hv.1
            have hu : u ≤ 100000 := by omega
            have eu : IntKind.u64.wrap (u : Int) = ((u : Nat) : Int) := by rw [IntKind.wrap_u64]; omega
            unfold Ins.val at hval
            have HV := Lib.hid hval
            have HN := Lib.hid (fun W => refCount_any u (by omega) W)
            have hlz := cntN_len u (by omega)
            have HEJD := Lib.hid (HEJ6.out.later (wr.drew |> fun _ => (Below.refl _ wr).drew))
            have hsd : wr.drew.heap.size = wr.heap.size := rfl
            clear h110 hqm hz hv hval hsd
            go_wp2_with fail
            go_region_law (first | (go_simp; go_at_call 49; refine Calls.mono HV.out ?_; rintro e w7 ⟨rfl, hb7⟩; have HEJ7 := Lib.hid (HEJD.out.later hb7); have hs7 := hb7.size) | (go_simp; go_at_call 47; refine Calls.mono (HN.out _) ?_; rintro e w8 ⟨v8, rfl, ho8, hb8⟩; obtain ⟨A8, c8, rfl, hr8, hn8⟩ := ownB_rdv ho8; have HEJ8 := Lib.hid (HEJ7.out.later hb8); have hs8 := hb8.size) | (refine step_append_rowv elemB (by simp [Region.wanted]) (.tmp 55) (.tmp 62) (by rfl) w.heap.size _ pr.length (valsB pr) (by rfl) HEJ8.out.ei.own A8 _ c8 (valsB (cntN u)) (by rfl) hr8 (valsB_one _) hn8 (by unfold maxLen; omega) (by omega) (by have := HEJ8.out.ei.below.size; omega) ?_; intro v9 w9 hown9 hg9 hb9; have HEJ9 := Lib.hid (HEJ8.out.app hown9 rfl hg9)))
            all_goals
              clear hown9 hg9 hb9 hr8 ho8 hb8 hb7
              go_wp2_with fail
              go_roundw
              case rel => exact ⟨j + 1, by go_num, by omega, by rw [HTJ.out, ← List.append_assoc, ← HPR.out, HEL.out, Int.toNat_natCast]; exact HEJ9.out⟩
              case measure => simp [intOf]; omega
        · obtain rfl : j = m := by omega
          have HPE := Lib.hid (show pr = cntN fn ++ cntN n ++ encIs (l.take (k + 1)) by rw [HPR.out, HTK.out, HENC.out, ← List.append_assoc, ← List.append_assoc, ← HPRE.out, HM.out, List.take_length])
          clear q0 q1 q2 q3 q4 q5
          go_wp2_with fail
          go_roundw
          case rel => exact ⟨k + 1, by go_num, by omega, by rw [← HPE.out]; exact HEJ6.out.ei⟩
          case measure => simp [intOf]; omega
    · obtain rfl : k = n := by omega
      go_wp2_with fail
      go_ret
      refine ⟨_, rfl, ?_, HBR.out⟩
      have h := HEI.out.own
      rw [HPRE.out, ← HL.out, List.take_length] at h
      exact h
end Go.Proofs.YtkeckjgihjpfbaaDoor
