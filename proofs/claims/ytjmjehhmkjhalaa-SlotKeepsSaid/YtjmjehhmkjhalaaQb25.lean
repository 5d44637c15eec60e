/- LOpen: put together. -/
import Derived.Test.YtjmjehhmkjhalaaQb24
import Derived.Deep.RegionLaw
import Derived.Deep.RegionHeld3
/- The contract of slab.Open. -/
namespace Go.Proofs.Ytjmjehhmkjhalaa
set_option maxRecDepth 100000
open Go.RowKit

theorem info_sec {l : List Nat} (hl : l.length = 64) : (Try.prog.info? 75).map (·.size) = some (secV l).size := by rw [secV_size, hl]; exact info50
theorem load_sec {w : World} {g : Nat} {l : List Nat} (h : Sec w g l) (hl : l.length = 64) : (loadVar 75 ⟨g, 0, none⟩).run Try.prog w = .ok (.agg (secV l)) w :=
  run_loadVar_row w g 75 75 (secV l) (0, 0) _ h Try.underlying75 rfl (info_sec hl)
/-- A whole sector is read. -/
theorem wpList_load_sec {ops : Array Oper} {rest : List Oper} {o : Oper} {a : Act} {w : World} {Q : Exit → Act → World → Prop} (hwt : Region.wanted o (yielded ops a.tmps) = true) (x : Operand) (ho : o.op = .load 75 x)
    (g : Nat) (hx : a.eval x = .pointer (some ⟨g, 0, none⟩)) (l : List Nat) (hl : l.length = 64) (hg : Sec w g l)
    (h : wpList Try.prog ops Q rest (a.put o.dst (.agg (secV l))) w) : wpList Try.prog ops Q (o :: rest) a w := by
  unfold wpList
  rw [if_pos hwt]
  exact .inl (wp_load_row 75 x ho g hx 75 (secV l) (0, 0) _ hg Try.underlying75 rfl (info_sec hl) h)
theorem Sec.range {w : World} {g : Nat} {l : List Nat} (h : Sec w g l) : w.rangeAt g 0 (valsB l) := fun j v hj => by
  rw [Nat.zero_add, cell_of_row w g j (secV l) 75 (0, 0) h]
  simpa [secV] using hj
theorem info_vals {l : List Nat} (hl : l.length = 64) : (Try.prog.info? 75).map (·.size) = some (valsB l).length := by rw [valsB_length, hl]; exact info50

def eCorrupt : Value := .iface 43 (.int .i64 9)
/-- A block that holds a slab. -/
def Sl (w : World) (g : Nat) (a b c : Value) : Prop := w.heap[g]? = some (.cells #[a, b, c] 208 (0, 0))
theorem Sl.lt {w : World} {g : Nat} {a b c : Value} (h : Sl w g a b c) : g < w.heap.size := (Array.getElem?_eq_some_iff.1 h).1
theorem Sl.old {w w' : World} {g : Nat} {a b c : Value} (h : Sl w g a b c) (hb : Below w.heap.size w w') : Sl w' g a b c := (hb.block g h.lt).trans h
theorem Sl.c0 {w : World} {g : Nat} {a b c : Value} (h : Sl w g a b c) : w.cell? ⟨g, 0, none⟩ = some a := cell_of_row w g 0 _ 208 (0, 0) h
theorem Sl.c1 {w : World} {g : Nat} {a b c : Value} (h : Sl w g a b c) : w.cell? ⟨g, 1, none⟩ = some b := cell_of_row w g 1 _ 208 (0, 0) h
theorem Sl.c2 {w : World} {g : Nat} {a b c : Value} (h : Sl w g a b c) : w.cell? ⟨g, 2, none⟩ = some c := cell_of_row w g 2 _ 208 (0, 0) h
theorem Sl.fr {w : World} {g : Nat} {a b c : Value} (h : Sl w g a b c) (k : Nat) : w.frozen? ⟨g, k, none⟩ = false := by
  unfold Sl at h
  simp [World.frozen?, h]
theorem Sl.set {w : World} {g : Nat} {a b c : Value} (h : Sl w g a b c) (x y z : Value) : Sl (((w.setCell ⟨g, 0, none⟩ x).setCell ⟨g, 1, none⟩ y).setCell ⟨g, 2, none⟩ z) g x y z := by
  unfold Sl at h ⊢
  simp [World.setCell, Array.getElem?_modify, h]
theorem ofLE_lt48 (l : List Nat) (_ : l.length = 64) (hs : ∀ x ∈ l, x < 256) (p : Nat) : ofLE ((l.drop p).take 6) < 281474976710656 := by
  have h := ofLE_lt ((l.drop p).take 6) (fun x hx => hs x (List.mem_of_mem_drop (List.mem_of_mem_take hx)))
  have h2 : ((l.drop p).take 6).length ≤ 6 := by rw [List.length_take]; omega
  exact Nat.lt_of_lt_of_le h (Nat.le_trans (Nat.pow_le_pow_right (by omega) h2) (by decide))
theorem res40 {w : World} {g : Nat} {a b c : Value} (h : Sl w g a b c) (tmps : Array Value) (h2 : tmps.getD 2 undef = .pointer (some ⟨g, 0, none⟩)) :
    (results Try.f118 tmps).run Try.prog w = .ok (.tuple #[.agg #[a, b, c], tmps.getD 3 undef]) w := by
  have h2' : tmps[2]?.getD undef = .pointer (some ⟨g, 0, none⟩) := by simpa using h2
  have k0 := h.c0
  have k1 := h.c1
  have k2 := h.c2
  simp [results, Try.results118, h2', asAddr, Sem.run_bind, go_sem, k0, k1, k2]

theorem stamp0_any (l : List Nat) (hl : l.length = 64) (hs : ∀ x ∈ l, x < 256) (w : World) :
    Calls Try.prog 146 #[.agg (secV l), .int .i64 0] w fun e w' => e = .returned (.int .i64 ((ofLE (l.take 6) : Nat) : Int)) ∧ Below w.heap.size w w' := stampAt_any l hl hs 0 (by omega) w
theorem stamp58_any (l : List Nat) (hl : l.length = 64) (hs : ∀ x ∈ l, x < 256) (w : World) :
    Calls Try.prog 146 #[.agg (secV l), .int .i64 58] w fun e w' => e = .returned (.int .i64 ((ofLE (l.drop 58) : Nat) : Int)) ∧ Below w.heap.size w w' := by
  have h := stampAt_any l hl hs 58 (by omega) w
  rw [List.take_of_length_le (show (l.drop 58).length ≤ 6 by rw [List.length_drop]; omega)] at h
  exact h
/-- What Open answers. -/
def OpenE (l : List Nat) (w : World) (e : Ending) (w' : World) : Prop :=
  (openN l = none ∧ e = .returned (.tuple #[.agg #[.int .i64 0, .int .i64 0, .slice none 0 0], eCorrupt])) ∨
  ∃ (st kd : Nat) (d : List Nat) (A : Option Addr) (c : Nat), openN l = some (st, kd, d) ∧ e = .returned (.tuple #[.agg #[.int .i64 (st : Int), .int .i64 (kd : Int), .slice A d.length c], .nilIface]) ∧ Rdv w' A d.length 1 (valsB d) ∧ NewAt w w' A d.length c
theorem all_of (l : List Nat) (a n : Nat) (h : ∀ j, j < n → l.getD (a + j) 0 = 0) : ((l.drop a).take n).all (· == 0) = true := by
  rw [List.all_eq_true]
  intro x hx
  obtain ⟨j, hj, rfl⟩ := List.getElem_of_mem hx
  have hj' : j < n := by rw [List.length_take] at hj; omega
  have := h j hj'
  rw [List.getElem_take, List.getElem_drop]
  rw [List.length_take, List.length_drop] at hj
  rw [List.getD_eq_getElem?_getD, List.getElem?_eq_getElem (by omega)] at this
  simpa using this
theorem not_all (l : List Nat) (a n j : Nat) (hj : j < n) (hl : a + j < l.length) (h : l.getD (a + j) 0 ≠ 0) : ¬ ((l.drop a).take n).all (· == 0) = true := by
  intro hall
  rw [List.all_eq_true] at hall
  have hm : l.getD (a + j) 0 ∈ (l.drop a).take n := by
    rw [List.getD_eq_getElem?_getD, List.getElem?_eq_getElem hl]
    refine List.mem_iff_getElem?.2 ⟨j, ?_⟩
    rw [List.getElem?_take, if_pos hj, List.getElem?_drop, List.getElem?_eq_getElem hl]
    rfl
  exact h (by simpa using hall _ hm)
theorem rdv_mid {w : World} {g : Nat} {l : List Nat} (h : Sec w g l) (p m : Nat) (hm : p + m ≤ l.length) : Rdv w (some ⟨g, p, none⟩) m 1 (valsB ((l.drop p).take m)) := by
  refine ⟨by rw [valsB_length, List.length_take, List.length_drop]; omega, fun _ => ⟨g, p, rfl, fun j u hj => ?_⟩⟩
  rw [valsB_get] at hj
  rw [List.getElem?_take] at hj
  by_cases hjm : j < m
  · rw [if_pos hjm, List.getElem?_drop] at hj
    rw [h.cell (p + j) (by omega), ← hj, List.getElem?_eq_getElem (by omega), List.getD_eq_getElem?_getD, List.getElem?_eq_getElem (by omega)]
    rfl
  · rw [if_neg hjm] at hj
    cases hj

theorem Rdv.setL {w : World} {A : Option Addr} {n : Nat} {ys : List Value} (h : Rdv w A n 1 ys) (g o : Nat) (v : Value) (hne : ∀ b o, A = some ⟨b, o, none⟩ → b ≠ g) : Rdv (w.setCell ⟨g, o, none⟩ v) A n 1 ys :=
  ⟨h.1, fun hn => by
    obtain ⟨b, off, e, hc⟩ := h.2 hn
    refine ⟨b, off, e, fun j u hj => ?_⟩
    rw [World.cell?_setCell_other w _ _ v (fun he => hne b off e (by injection he with he; exact he.symm))]
    exact hc j u hj⟩
theorem NewAt.set {w w' : World} {A : Option Addr} {n c : Nat} (h : NewAt w w' A n c) (g o : Nat) (v : Value) (hne : g < w.heap.size) : NewAt w (w'.setCell ⟨g, o, none⟩ v) A n c := by
  rcases h with h | ⟨b, e, h1, h2, h3, h4⟩
  · exact .inl h
  · refine .inr ⟨b, e, h1, by rw [World.size_setCell]; exact h2, h3, fun hn => ?_⟩
    obtain ⟨cs, h5⟩ := h4 hn
    exact ⟨cs, (Deep.blk_setCell_other w' _ _ b (by show b ≠ g; omega)).trans h5⟩
theorem NewAt.ne {w w' : World} {A : Option Addr} {n c : Nat} (h : NewAt w w' A n c) {g : Nat} (hne : g < w.heap.size) : ∀ b o, A = some ⟨b, o, none⟩ → b ≠ g := by
  intro b o e
  rcases h with ⟨h, _⟩ | ⟨b', e', h1, _⟩
  · rw [h] at e; cases e
  · rw [e'] at e
    injection e with e
    injection e with e
    omega
theorem NewAt.mono {w0 w w' : World} {A : Option Addr} {n c : Nat} (h : NewAt w w' A n c) (hs : w0.heap.size ≤ w.heap.size) : NewAt w0 w' A n c := by
  rcases h with h | ⟨b, e, h1, h2⟩
  · exact .inl h
  · exact .inr ⟨b, e, by omega, h2⟩
/-- What Open answers of a slab. -/
theorem openE_good {l : List Nat} {w wd w5 : World} {st kd m : Nat} {A : Option Addr} {c g : Nat} {x y z : Value} (hl : ((l.drop 8).take m).length = m) (he : openN l = some (st, kd, (l.drop 8).take m)) (hr : Rdv w5 A m 1 (valsB ((l.drop 8).take m))) (hn : NewAt wd w5 A m c) (hg : g < wd.heap.size) (hs : w.heap.size ≤ wd.heap.size) :
    OpenE l w (.returned (.tuple #[.agg #[.int .i64 (st : Int), .int .i64 (kd : Int), .slice A m c], .nilIface])) (((w5.setCell ⟨g, 0, none⟩ x).setCell ⟨g, 1, none⟩ y).setCell ⟨g, 2, none⟩ z) := by
  refine .inr ⟨st, kd, _, A, c, he, by rw [hl], ?_, ?_⟩
  · rw [hl]
    exact ((hr.setL g 0 x (hn.ne hg)).setL g 1 y (hn.ne hg)).setL g 2 z (hn.ne hg)
  · rw [hl]
    exact (((hn.set g 0 x hg).set g 1 y hg).set g 2 z hg).mono hs
theorem arr50 : Try.prog.underlying 75 = some (.array (Try.prog.arrayLen 75) (Try.prog.elem 75)) := by kernel_rfl
theorem len50 : Try.prog.arrayLen 75 = 64 := by kernel_rfl
theorem elem50 : Try.prog.elem 75 = 5 := by kernel_rfl
theorem size5 (w : World) : (sizeOf 5).run Try.prog w = .ok 1 w := by kernel_rfl
theorem slice_sec (w : World) (g lo hi : Nat) (x y : Int) (hx : x = (lo : Int)) (hy : y = (hi : Int)) (h1 : lo ≤ hi) (h2 : hi ≤ 58) :
    (Instr.sliceAt 75 (.pointer (some ⟨g, 0, none⟩)) (some (.int .i64 x)) (some (.int .i64 y)) none).run Try.prog w = .ok (.slice (some ⟨g, lo, none⟩) (hi - lo) (64 - lo)) w := by
  subst hx hy
  rw [run_sliceAt_array_lh w 75 ⟨g, 0, none⟩ arr50 .i64 .i64 lo hi (by omega) (by omega) (by rw [len50]; omega), elem50, size5, len50]
  show Result.ok (slicedAt _ _ _ _ _) w = _
  unfold slicedAt
  rw [if_neg (by omega), addr_plus]
  simp

set_option maxHeartbeats 1000000 in
theorem open_any (l : List Nat) (hl : l.length = 64) (hs : ∀ x ∈ l, x < 256) (w : World) :
    Calls Try.prog 118 #[.agg (secV l)] w fun e w' => OpenE l w e w' ∧ Below w.heap.size w w' := by
  have hb : Below w.heap.size w ((w.alloc (.cells (secV l) 75)).alloc (.cells #[.int .i64 0, .int .i64 0, .slice none 0 0] 208)) := ((Below.refl _ w).alloc (Nat.le_refl _) _).alloc (by simp) _
  have hS : Sec ((w.alloc (.cells (secV l) 75)).alloc (.cells #[.int .i64 0, .int .i64 0, .slice none 0 0] 208)) w.heap.size l := Sec.alloc (heap_alloc_new w _) _
  have hT : Sl ((w.alloc (.cells (secV l) 75)).alloc (.cells #[.int .i64 0, .int .i64 0, .slice none 0 0] 208)) (w.heap.size + 1) (.int .i64 0) (.int .i64 0) (.slice none 0 0) := heap_alloc2_new w _ _
  have HB := Lib.hid hb
  have HS := Lib.hid hS
  have HT := Lib.hid hT
  have HL := Lib.hid hl
  have HSM := Lib.hid hs
  obtain ⟨st, hst⟩ : ∃ st, st = ofLE (l.take 6) := ⟨_, rfl⟩
  obtain ⟨st2, hst2⟩ : ∃ st2, st2 = ofLE (l.drop 58) := ⟨_, rfl⟩
  obtain ⟨m, hm⟩ : ∃ m, m = l.getD 7 0 := ⟨_, rfl⟩
  obtain ⟨kd, hkd⟩ : ∃ kd, kd = l.getD 6 0 := ⟨_, rfl⟩
  have HO := Lib.hid (show openN l = if 1 ≤ st ∧ st2 = st ∧ kd ≠ 0 ∧ m ≤ 50 ∧ ((l.drop (8 + m)).take (50 - m)).all (· == 0) = true then some (st, kd, (l.drop 8).take m) else none by rw [hst, hst2, hm, hkd]; rfl)
  have hst48 : st < 281474976710656 := by
    rw [hst]
    exact ofLE_lt48 l hl hs 0
  have hst48' : st2 < 281474976710656 := by
    rw [hst2, ← List.take_of_length_le (show (l.drop 58).length ≤ 6 by rw [List.length_drop]; omega)]
    exact ofLE_lt48 l hl hs 58
  have hm256 : m < 256 := by rw [hm]; exact getD_small hs _
  have hkd256 : kd < 256 := by rw [hkd]; exact getD_small hs _
  have C := fun w => stamp0_any l hl hs w
  have C2 := fun w => stamp58_any l hl hs w
  rw [← hst] at C
  rw [← hst2] at C2
  have HC := Lib.hid C
  have HC2 := Lib.hid C2
  have HM := Lib.hid hm
  have HKD := Lib.hid hkd
  clear hb hS hT hl hs hst hst2 hm hkd C C2
  go_enter Try.func118, Try.ntmps118
  go_wp2_with fail
  obtain ⟨w1, hw1⟩ : ∃ w1, w1 = (w.alloc (.cells (secV l) 75)).alloc (.cells #[.int .i64 0, .int .i64 0, .slice none 0 0] 208) := ⟨_, rfl⟩
  rw [← hw1] at HB HS HT ⊢
  clear hw1
  have hS1 : Sec w1.drew w.heap.size l := HS.out
  have HK := Lib.hid (fun w' (h : Sec w' w.heap.size l) => (⟨h.range, by rw [HM.out]; exact h.cell 7 (by rw [HL.out]; omega)⟩ : w'.rangeAt w.heap.size 0 (valsB l) ∧ w'.cell? ⟨w.heap.size, 7, none⟩ = some (.int .u8 (m : Int))))
  have hu50 := Try.underlying75
  have hi50 := info_vals HL.out
  have hn50 : (valsB l).length = 64 := by rw [valsB_length]; exact HL.out
  have h150 := valsB_one l
  have em : IntKind.i64.wrap (m : Int) = (m : Int) := IntWalk.i64_in _ (by omega)
  have HS1 := Lib.hid hS1
  clear hS1
  go_region_held3 (fun w' => w'.rangeAt w.heap.size 0 (valsB l) ∧ w'.cell? ⟨w.heap.size, 7, none⟩ = some (.int .u8 (m : Int))) (first | exact HK.out _ HS1.out | exact HK.out _ (HS1.out.old hb3)) (first | (go_at_call 146; refine Calls.mono (HC.out _) ?_; rintro e w3 ⟨rfl, hb3⟩))
  rename_i hHeld
  have HS3 := Lib.hid (HS1.out.old hb3)
  have HT3 := Lib.hid ((show Sl w1.drew _ _ _ _ from HT.out).old hb3)
  have HB3 := Lib.hid (HB.out.drew.trans (hb3.mono HB.out.drew.size))
  clear hb3 hu50 hi50 hn50 h150 em HC hHeld HS1 HS HT HB HK
  have k0 := HT3.out.c0
  have k1 := HT3.out.c1
  have k2 := HT3.out.c2
  have f0 := HT3.out.fr 0
  have f1 := HT3.out.fr 1
  have f2 := HT3.out.fr 2
  by_cases h1 : st < 1
  · have HE := Lib.hid (show openN l = none by rw [HO.out, if_neg (by omega)])
    have d1 : decide ((st : Int) < 1) = true := decide_eq_true (by omega)
    go_wp2_with fail
    exact bodyPost_ret (res40 (HT3.out.set _ _ _) _ rfl) rfl ⟨.inl ⟨HE.out, rfl⟩, ((HB3.out.setCell (Nat.le_succ _) _).setCell (Nat.le_succ _) _).setCell (Nat.le_succ _) _⟩
  · have h1' : 1 ≤ st := by omega
    have d1 : decide ((st : Int) < 1) = false := decide_eq_false (by omega)
    clear h1
    go_wp2_with (first | refine wpList_load_sec (by rfl) (.tmp 1) rfl w.heap.size rfl l HL.out HS3.out ?_)
    refine Calls.mono (HC2.out _) ?_
    rintro e w4 ⟨rfl, hb4⟩
    have HS4 := Lib.hid (HS3.out.old hb4)
    have HT4 := Lib.hid (HT3.out.old hb4)
    have HB4 := Lib.hid (HB3.out.trans (hb4.mono HB3.out.size))
    clear hb4 k0 k1 k2 f0 f1 f2
    have k0 := HT4.out.c0
    have k1 := HT4.out.c1
    have k2 := HT4.out.c2
    have f0 := HT4.out.fr 0
    have f1 := HT4.out.fr 1
    have f2 := HT4.out.fr 2
    have g6 := HS4.out.cell 6 (by rw [HL.out]; omega)
    rw [← HKD.out] at g6
    by_cases h2 : st2 = st
    · subst h2
      have d2 : ((st2 : Int) != (st2 : Int)) = false := by simp
      by_cases h3 : kd = 0
      · have HE := Lib.hid (show openN l = none by rw [HO.out, if_neg (fun h => h.2.2.1 h3)])
        have d3 : ((kd : Int) == 0) = true := by rw [beq_iff_eq]; omega
        clear h3
        go_wp2_with fail
        exact bodyPost_ret (res40 (HT4.out.set _ _ _) _ rfl) rfl ⟨.inl ⟨HE.out, rfl⟩, ((HB4.out.setCell (Nat.le_succ _) _).setCell (Nat.le_succ _) _).setCell (Nat.le_succ _) _⟩
      · have d3 : ((kd : Int) == 0) = false := by rw [beq_eq_false_iff_ne]; omega
        by_cases h4 : 50 < m
        · have HE := Lib.hid (show openN l = none by rw [HO.out, if_neg (fun h => by omega)])
          have d4 : decide (50 < (m : Int)) = true := decide_eq_true (by omega)
          go_wp2_with fail
          exact bodyPost_ret (res40 (HT4.out.set _ _ _) _ rfl) rfl ⟨.inl ⟨HE.out, rfl⟩, ((HB4.out.setCell (Nat.le_succ _) _).setCell (Nat.le_succ _) _).setCell (Nat.le_succ _) _⟩
        · have d4 : decide (50 < (m : Int)) = false := decide_eq_false (by omega)
          have HN3 := Lib.hid h3
          have h4' : m ≤ 50 := by omega
          clear h3 h4
          have hsl := fun w' => slice_sec w' w.heap.size (8 + m) 58 (8 + (m : Int)) 58 (by omega) rfl (by omega) (by omega)
          have hn : 58 - (8 + m) = 50 - m := by omega
          rw [hn] at hsl
          have enm : IntKind.i64.wrap (8 + (m : Int)) = 8 + (m : Int) := IntWalk.i64_in _ (by omega)
          clear hn
          go_wp2_with fail
          clear hsl enm
          obtain ⟨N, hN⟩ : ∃ N, N = 50 - m := ⟨_, rfl⟩
          have hN50 : N + m = 50 := by omega
          rw [← hN]
          clear hN
          go_loop [7, 36] (fun _ i => ∃ k : Nat, k ≤ N ∧ i = .int .i64 (k : Int) ∧ ∀ j, j < k → l.getD (8 + m + j) 0 = 0) (fun _ i => N - (intOf i).toNat)
          case atStart => exact ⟨0, by omega, rfl, fun j hj => absurd hj (by omega)⟩
          case round =>
            obtain ⟨k, hk, rfl, hz⟩ := hrel
            have HZ := Lib.hid hz
            clear hz
            by_cases hlt : k < N
            · have hc := HS4.out.cell (8 + m + k) (by rw [HL.out]; omega)
              obtain ⟨x, hx⟩ : ∃ x, x = l.getD (8 + m + k) 0 := ⟨_, rfl⟩
              rw [← hx] at hc
              have HX := Lib.hid hx
              clear hx
              by_cases hx0 : x = 0
              · subst hx0
                go_wp2_with fail
                refine ⟨⟨k + 1, by omega, by go_num, fun j hj => ?_⟩, by simp [intOf]; omega⟩
                rcases Nat.lt_or_ge j k with h | h
                · exact HZ.out j h
                · obtain rfl : j = k := by omega
                  exact HX.out.symm
              · have hxb : ((x : Int) == 0) = false := by rw [beq_eq_false_iff_ne]; omega
                have hxn : ((x : Int) != 0) = true := by rw [bne_iff_ne]; omega
                have HE := Lib.hid (show openN l = none by rw [HO.out, if_neg (fun h => not_all l (8 + m) (50 - m) k (by omega) (by rw [HL.out]; omega) (by rw [← HX.out]; exact hx0) h.2.2.2.2)])
                clear hx0
                go_wp2_with fail
                exact bodyPost_ret (res40 (HT4.out.set _ _ _) _ rfl) rfl ⟨.inl ⟨HE.out, rfl⟩, ((HB4.out.setCell (Nat.le_succ _) _).setCell (Nat.le_succ _) _).setCell (Nat.le_succ _) _⟩
            · obtain rfl : k = N := by omega
              have HE := Lib.hid (show openN l = some (st2, kd, (l.drop 8).take m) by rw [HO.out]; exact if_pos ⟨h1', by trivial, HN3.out, h4', all_of l _ _ (fun j hj => HZ.out j (by omega))⟩)
              have hsl := fun w' => slice_sec w' w.heap.size 8 (8 + m) 8 (8 + (m : Int)) rfl (by omega) (by omega) (by omega)
              rw [show 8 + m - 8 = m by omega] at hsl
              have enm : IntKind.i64.wrap (8 + (m : Int)) = 8 + (m : Int) := IntWalk.i64_in _ (by omega)
              have enk : IntKind.i64.wrap (kd : Int) = (kd : Int) := IntWalk.i64_in _ (by omega)
              have HCL := Lib.hid (fun w' (h : Sec w' w.heap.size l) => clone_any (some ⟨w.heap.size, 8, none⟩) m 56 ((l.drop 8).take m) w' (rdv_mid h 8 m (by rw [HL.out]; omega)) (fun h => by cases h) (by omega))
              have hlen : ((l.drop 8).take m).length = m := by rw [List.length_take, List.length_drop, HL.out]; omega
              have HLEN := Lib.hid hlen
              have HSD := Lib.hid (show Sec w4.drew w.heap.size l from HS4.out)
              have HTD := Lib.hid (show Sl w4.drew (w.heap.size + 1) (.int .i64 0) (.int .i64 0) (.slice none 0 0) from HT4.out)
              have HBD := Lib.hid HB4.out.drew
              clear hlen d1 d2 d3 d4
              go_wp2_with fail
              go_region_law (first | (go_simp; go_at_call 137; refine Calls.mono (HCL.out _ HSD.out) ?_; rintro e w5 ⟨_, rfl, A', c', rfl, r5, n5, b5⟩; have q0 := (HTD.out.old b5).c0; have q1 := (HTD.out.old b5).c1; have q2 := (HTD.out.old b5).c2; have p0 := (HTD.out.old b5).fr 0; have p1 := (HTD.out.old b5).fr 1; have p2 := (HTD.out.old b5).fr 2; have g6' := (HSD.out.old b5).cell 6 (by rw [HL.out]; omega); rw [← HKD.out] at g6'))
              all_goals
                have HR := Lib.hid r5
                have HN := Lib.hid n5
                have HT5 := Lib.hid (HTD.out.old b5)
                have HB5 := Lib.hid (HBD.out.trans (b5.mono HBD.out.size))
                clear r5 n5 b5
                go_wp2_with fail
                exact bodyPost_ret (res40 (HT5.out.set _ _ _) _ rfl) rfl ⟨openE_good HLEN.out HE.out HR.out HN.out (by have := HTD.out.lt; exact this) (by have := HBD.out.size; exact this), ((HB5.out.setCell (Nat.le_succ _) _).setCell (Nat.le_succ _) _).setCell (Nat.le_succ _) _⟩
    · have HE := Lib.hid (show openN l = none by rw [HO.out, if_neg (fun h => h2 h.2.1)])
      have d2 : ((st2 : Int) != (st : Int)) = true := by
        rw [bne_iff_ne]; exact fun h => h2 (by omega)
      clear h2
      go_wp2_with fail
      exact bodyPost_ret (res40 (HT4.out.set _ _ _) _ rfl) rfl ⟨.inl ⟨HE.out, rfl⟩, ((HB4.out.setCell (Nat.le_succ _) _).setCell (Nat.le_succ _) _).setCell (Nat.le_succ _) _⟩
end Go.Proofs.Ytjmjehhmkjhalaa
