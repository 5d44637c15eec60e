/- slices.Clone and slab.Open once more: what they hand out is the caller's own. -/
import Derived.Test.YtiemjgkpjmncfaaOpen
namespace Go.Proofs.Ytiemjgkpjmncfaa
set_option maxRecDepth 100000
open Go.RowKit

/-- A new slice of bytes that is the caller's own. -/
def NewO (w w' : World) (A : Option Addr) (n c : Nat) (ys : List Nat) : Prop := w'.ownsRow w.heap.size 5 1 (.slice A n c) n (valsB ys)
theorem NewO.stays {w w' w'' : World} {A : Option Addr} {n c : Nat} {ys : List Nat} (h : NewO w w' A n c ys) (hb : ∀ b, A = some ⟨b, 0, none⟩ → w.heap.size ≤ b → w''.heap[b]? = w'.heap[b]?) : NewO w w'' A n c ys := by
  refine ⟨h.1, ?_⟩
  rcases h.2 with h0 | ⟨g, cap, cur, e, h1, h2, h3⟩
  · exact .inl h0
  · injection e with e1 e2 e3
    subst e1 e3
    exact .inr ⟨g, c, cur, rfl, h1, (hb g rfl h1).trans h2, h3⟩
theorem NewO.set {w w' : World} {A : Option Addr} {n c : Nat} {ys : List Nat} (h : NewO w w' A n c ys) (g o : Nat) (v : Value) (hne : g < w.heap.size) : NewO w (w'.setCell ⟨g, o, none⟩ v) A n c ys :=
  h.stays fun b _ hb => Deep.blk_setCell_other w' _ _ b (by show b ≠ g; omega)
theorem NewO.ne {w w' : World} {A : Option Addr} {n c : Nat} {ys : List Nat} (h : NewO w w' A n c ys) {g : Nat} (hne : g < w.heap.size) : ∀ b o, A = some ⟨b, o, none⟩ → b ≠ g := by
  intro b o e
  rcases h.2 with ⟨h1, _⟩ | ⟨b', cap, cur, h1, h2, _⟩
  · injection h1 with h1
    rw [h1] at e; cases e
  · injection h1 with h1
    rw [h1] at e
    injection e with e
    injection e with e
    omega
theorem NewO.mono {w0 w w' : World} {A : Option Addr} {n c : Nat} {ys : List Nat} (h : NewO w w' A n c ys) (hs : w0.heap.size ≤ w.heap.size) : NewO w0 w' A n c ys := by
  refine ⟨h.1, ?_⟩
  rcases h.2 with h0 | ⟨g, cap, cur, e, h1, h2⟩
  · exact .inl h0
  · exact .inr ⟨g, cap, cur, e, by omega, h2⟩
theorem NewO.rdv {w w' : World} {A : Option Addr} {n c : Nat} {ys : List Nat} (h : NewO w w' A n c ys) : Rdv w' A n 1 (valsB ys) := by
  obtain ⟨A', c', e, h1, _⟩ := rdv_own h
  injection e with e1 _ _
  subst e1
  exact h1
theorem NewO.later {w w' : World} {A : Option Addr} {n c : Nat} {ys : List Nat} (h : NewO w w' A n c ys) (o : Obj) : NewO w (w'.alloc o) A n c ys := World.ownsRow.alloc h o
set_option maxHeartbeats 400000 in
theorem clone_own (A : Option Addr) (n c : Nat) (ys : List Nat) (w : World) (hr : Rdv w A n 1 (valsB ys)) (hnil : A = none → c = 0 ∧ n = 0) (hn : n ≤ 17592186044416) :
    Calls Try.prog 64 #[.slice A n c] w fun e w' => ∃ v, e = .returned v ∧ ∃ A' c', v = .slice A' n c' ∧ Rdv w' A' n 1 (valsB ys) ∧ NewO w w' A' n c' ys ∧ Below w.heap.size w w' := by
  rcases A with _ | p
  · obtain ⟨rfl, rfl⟩ := hnil rfl
    have HR := Lib.hid hr
    have hys : ys = [] := by
      have := hr.1
      rw [valsB_length] at this
      exact List.eq_nil_of_length_eq_zero (by omega)
    have HY := Lib.hid hys
    have e1 := eql_nil w none 0 0 true rfl
    clear hr hys
    go_enter Try.func64, Try.ntmps64
    go_wp2_with fail
    go_ret
    exact ⟨_, rfl, none, 0, rfl, HR.out, by rw [HY.out]; exact World.ownsRow_nil _ _ _ _, Below.refl _ _⟩
  · have hb : Below w.heap.size w (w.alloc (.cells #[] 5)) := (Below.refl _ w).alloc (Nat.le_refl _) _
    have hl : ys.length = n := by have := hr.1; rw [valsB_length] at this; omega
    have HR := Lib.hid (hr.ext (stays_b hb))
    have HB := Lib.hid hb
    have HL := Lib.hid hl
    have e1 := eql_nil w (some p) n c false rfl
    have HM := Lib.hid (show ([] : List Nat).length + n ≤ 17592186044416 by simp; omega)
    have HS := Lib.hid (show w.heap.size ≤ (w.alloc (.cells #[] 5)).heap.size by rw [World.size_alloc]; omega)
    clear hr hb hl
    have HO := Lib.hid (show OwnB (w.alloc (.cells #[] 5)) w.heap.size (.slice (some ⟨w.heap.size, 0, none⟩) 0 0) [] from own_empty w w.heap.size 5 1 5 rfl (Nat.le_refl _))
    go_enter Try.func64, Try.ntmps64
    go_wp2_with (at_builtin; refine wpList_appB rfl (.tmp 5) (.tmp 6) rfl w.heap.size (.slice (some ⟨w.heap.size, 0, none⟩) 0 0) [] rfl HO.out (some p) n c ys rfl HR.out (fun h => by cases h) HM.out HS.out ?_; intro v' w' h1 h2 h3 h4)
    rw [List.nil_append] at h1
    obtain ⟨A', c', rfl, h5, _, _⟩ := h1.rdv
    have HE := Lib.hid (HB.out.trans h2)
    have H1 := Lib.hid h1
    have H5 := Lib.hid h5
    clear h1 h2 h3 h4 h5
    go_wp2_with fail
    go_ret
    have hl := HL.out
    subst hl
    exact ⟨_, rfl, A', c', rfl, H5.out, H1.out, HE.out⟩
/-- What Open answers, owned. -/
def OpenO (l : List Nat) (w : World) (e : Ending) (w' : World) : Prop :=
  (openN l = none ∧ e = .returned (.tuple #[.agg #[.int .i64 0, .int .i64 0, .slice none 0 0], eCorrupt])) ∨
  ∃ (st kd : Nat) (d : List Nat) (A : Option Addr) (c : Nat), openN l = some (st, kd, d) ∧ e = .returned (.tuple #[.agg #[.int .i64 (st : Int), .int .i64 (kd : Int), .slice A d.length c], .nilIface]) ∧ NewO w w' A d.length c d
theorem openO_good {l : List Nat} {w wd w5 : World} {st kd m : Nat} {A : Option Addr} {c g : Nat} {x y z : Value} (hl : ((l.drop 8).take m).length = m) (he : openN l = some (st, kd, (l.drop 8).take m)) (_ : Rdv w5 A m 1 (valsB ((l.drop 8).take m))) (hn : NewO wd w5 A m c ((l.drop 8).take m)) (hg : g < wd.heap.size) (hs : w.heap.size ≤ wd.heap.size) :
    OpenO l w (.returned (.tuple #[.agg #[.int .i64 (st : Int), .int .i64 (kd : Int), .slice A m c], .nilIface])) (((w5.setCell ⟨g, 0, none⟩ x).setCell ⟨g, 1, none⟩ y).setCell ⟨g, 2, none⟩ z) := by
  refine .inr ⟨st, kd, _, A, c, he, by rw [hl], ?_⟩
  rw [hl]
  exact (((hn.set g 0 x hg).set g 1 y hg).set g 2 z hg).mono hs
set_option maxHeartbeats 1000000 in
theorem open_own (l : List Nat) (hl : l.length = 64) (hs : ∀ x ∈ l, x < 256) (w : World) :
    Calls Try.prog 40 #[.agg (secV l)] w fun e w' => OpenO l w e w' ∧ Below w.heap.size w w' := by
  have hb : Below w.heap.size w ((w.alloc (.cells (secV l) 50)).alloc (.cells #[.int .i64 0, .int .i64 0, .slice none 0 0] 77)) := ((Below.refl _ w).alloc (Nat.le_refl _) _).alloc (by simp) _
  have hS : Sec ((w.alloc (.cells (secV l) 50)).alloc (.cells #[.int .i64 0, .int .i64 0, .slice none 0 0] 77)) w.heap.size l := Sec.alloc (heap_alloc_new w _) _
  have hT : Sl ((w.alloc (.cells (secV l) 50)).alloc (.cells #[.int .i64 0, .int .i64 0, .slice none 0 0] 77)) (w.heap.size + 1) (.int .i64 0) (.int .i64 0) (.slice none 0 0) := heap_alloc2_new w _ _
  have HB := Lib.hid hb
  have HS := Lib.hid hS
  have HT := Lib.hid hT
  have HL := Lib.hid hl
  have HSM := Lib.hid hs
  obtain ⟨st, hst⟩ : ∃ st, st = ofLE (l.take 6) := ⟨_, rfl⟩
  obtain ⟨st2, hst2⟩ : ∃ st2, st2 = ofLE (l.drop 58) := ⟨_, rfl⟩
  obtain ⟨m, hm⟩ : ∃ m, m = l.getD 7 0 := ⟨_, rfl⟩
  obtain ⟨kd, hkd⟩ : ∃ kd, kd = l.getD 6 0 := ⟨_, rfl⟩
  have HO := Lib.hid (show openN l = if 1 ≤ st ∧ st2 = st ∧ kd ≠ 0 ∧ m ≤ 50 ∧ ((l.drop (8 + m)).take (50 - m)).all (· == 0) = true then some (st, kd, (l.drop 8).take m) else none by rw [hst, hst2, hm, hkd]; rfl)
  have hst48 : st < 281474976710656 := by
    rw [hst]
    exact ofLE_lt48 l hl hs 0
  have hst48' : st2 < 281474976710656 := by
    rw [hst2, ← List.take_of_length_le (show (l.drop 58).length ≤ 6 by rw [List.length_drop]; omega)]
    exact ofLE_lt48 l hl hs 58
  have hm256 : m < 256 := by rw [hm]; exact getD_small hs _
  have hkd256 : kd < 256 := by rw [hkd]; exact getD_small hs _
  have C := fun w => stamp0_any l hl hs w
  have C2 := fun w => stamp58_any l hl hs w
  rw [← hst] at C
  rw [← hst2] at C2
  have HC := Lib.hid C
  have HC2 := Lib.hid C2
  have HM := Lib.hid hm
  have HKD := Lib.hid hkd
  clear hb hS hT hl hs hst hst2 hm hkd C C2
  go_enter Try.func40, Try.ntmps40
  go_wp2_with fail
  obtain ⟨w1, hw1⟩ : ∃ w1, w1 = (w.alloc (.cells (secV l) 50)).alloc (.cells #[.int .i64 0, .int .i64 0, .slice none 0 0] 77) := ⟨_, rfl⟩
  rw [← hw1] at HB HS HT ⊢
  clear hw1
  have hS1 : Sec w1.drew w.heap.size l := HS.out
  have HK := Lib.hid (fun w' (h : Sec w' w.heap.size l) => (⟨h.range, by rw [HM.out]; exact h.cell 7 (by rw [HL.out]; omega)⟩ : w'.rangeAt w.heap.size 0 (valsB l) ∧ w'.cell? ⟨w.heap.size, 7, none⟩ = some (.int .u8 (m : Int))))
  have hu50 := Try.underlying50
  have hi50 := info_vals HL.out
  have hn50 : (valsB l).length = 64 := by rw [valsB_length]; exact HL.out
  have h150 := valsB_one l
  have em : IntKind.i64.wrap (m : Int) = (m : Int) := IntWalk.i64_in _ (by omega)
  have HS1 := Lib.hid hS1
  clear hS1
  go_region_held3 (fun w' => w'.rangeAt w.heap.size 0 (valsB l) ∧ w'.cell? ⟨w.heap.size, 7, none⟩ = some (.int .u8 (m : Int))) (first | exact HK.out _ HS1.out | exact HK.out _ (HS1.out.old hb3)) (first | (go_at_call 63; refine Calls.mono (HC.out _) ?_; rintro e w3 ⟨rfl, hb3⟩))
  rename_i hHeld
  have HS3 := Lib.hid (HS1.out.old hb3)
  have HT3 := Lib.hid ((show Sl w1.drew _ _ _ _ from HT.out).old hb3)
  have HB3 := Lib.hid (HB.out.drew.trans (hb3.mono HB.out.drew.size))
  clear hb3 hu50 hi50 hn50 h150 em HC hHeld HS1 HS HT HB HK
  have k0 := HT3.out.c0
  have k1 := HT3.out.c1
  have k2 := HT3.out.c2
  have f0 := HT3.out.fr 0
  have f1 := HT3.out.fr 1
  have f2 := HT3.out.fr 2
  by_cases h1 : st < 1
  · have HE := Lib.hid (show openN l = none by rw [HO.out, if_neg (by omega)])
    have d1 : decide ((st : Int) < 1) = true := decide_eq_true (by omega)
    go_wp2_with fail
    exact bodyPost_ret (res40 (HT3.out.set _ _ _) _ rfl) rfl ⟨.inl ⟨HE.out, rfl⟩, ((HB3.out.setCell (Nat.le_succ _) _).setCell (Nat.le_succ _) _).setCell (Nat.le_succ _) _⟩
  · have h1' : 1 ≤ st := by omega
    have d1 : decide ((st : Int) < 1) = false := decide_eq_false (by omega)
    clear h1
    go_wp2_with (first | refine wpList_load_sec (by rfl) (.tmp 1) rfl w.heap.size rfl l HL.out HS3.out ?_)
    refine Calls.mono (HC2.out _) ?_
    rintro e w4 ⟨rfl, hb4⟩
    have HS4 := Lib.hid (HS3.out.old hb4)
    have HT4 := Lib.hid (HT3.out.old hb4)
    have HB4 := Lib.hid (HB3.out.trans (hb4.mono HB3.out.size))
    clear hb4 k0 k1 k2 f0 f1 f2
    have k0 := HT4.out.c0
    have k1 := HT4.out.c1
    have k2 := HT4.out.c2
    have f0 := HT4.out.fr 0
    have f1 := HT4.out.fr 1
    have f2 := HT4.out.fr 2
    have g6 := HS4.out.cell 6 (by rw [HL.out]; omega)
    rw [← HKD.out] at g6
    by_cases h2 : st2 = st
    · subst h2
      have d2 : ((st2 : Int) != (st2 : Int)) = false := by simp
      by_cases h3 : kd = 0
      · have HE := Lib.hid (show openN l = none by rw [HO.out, if_neg (fun h => h.2.2.1 h3)])
        have d3 : ((kd : Int) == 0) = true := by rw [beq_iff_eq]; omega
        clear h3
        go_wp2_with fail
        exact bodyPost_ret (res40 (HT4.out.set _ _ _) _ rfl) rfl ⟨.inl ⟨HE.out, rfl⟩, ((HB4.out.setCell (Nat.le_succ _) _).setCell (Nat.le_succ _) _).setCell (Nat.le_succ _) _⟩
      · have d3 : ((kd : Int) == 0) = false := by rw [beq_eq_false_iff_ne]; omega
        by_cases h4 : 50 < m
        · have HE := Lib.hid (show openN l = none by rw [HO.out, if_neg (fun h => by omega)])
          have d4 : decide (50 < (m : Int)) = true := decide_eq_true (by omega)
          go_wp2_with fail
          exact bodyPost_ret (res40 (HT4.out.set _ _ _) _ rfl) rfl ⟨.inl ⟨HE.out, rfl⟩, ((HB4.out.setCell (Nat.le_succ _) _).setCell (Nat.le_succ _) _).setCell (Nat.le_succ _) _⟩
        · have d4 : decide (50 < (m : Int)) = false := decide_eq_false (by omega)
          have HN3 := Lib.hid h3
          have h4' : m ≤ 50 := by omega
          clear h3 h4
          have hsl := fun w' => slice_sec w' w.heap.size (8 + m) 58 (8 + (m : Int)) 58 (by omega) rfl (by omega) (by omega)
          have hn : 58 - (8 + m) = 50 - m := by omega
          rw [hn] at hsl
          have enm : IntKind.i64.wrap (8 + (m : Int)) = 8 + (m : Int) := IntWalk.i64_in _ (by omega)
          clear hn
          go_wp2_with fail
          clear hsl enm
          obtain ⟨N, hN⟩ : ∃ N, N = 50 - m := ⟨_, rfl⟩
          have hN50 : N + m = 50 := by omega
          rw [← hN]
          clear hN
          go_loop [7, 36] (fun _ i => ∃ k : Nat, k ≤ N ∧ i = .int .i64 (k : Int) ∧ ∀ j, j < k → l.getD (8 + m + j) 0 = 0) (fun _ i => N - (intOf i).toNat)
          case atStart => exact ⟨0, by omega, rfl, fun j hj => absurd hj (by omega)⟩
          case round =>
            obtain ⟨k, hk, rfl, hz⟩ := hrel
            have HZ := Lib.hid hz
            clear hz
            by_cases hlt : k < N
            · have hc := HS4.out.cell (8 + m + k) (by rw [HL.out]; omega)
              obtain ⟨x, hx⟩ : ∃ x, x = l.getD (8 + m + k) 0 := ⟨_, rfl⟩
              rw [← hx] at hc
              have HX := Lib.hid hx
              clear hx
              by_cases hx0 : x = 0
              · subst hx0
                go_wp2_with fail
                refine ⟨⟨k + 1, by omega, by go_num, fun j hj => ?_⟩, by simp [intOf]; omega⟩
                rcases Nat.lt_or_ge j k with h | h
                · exact HZ.out j h
                · obtain rfl : j = k := by omega
                  exact HX.out.symm
              · have hxb : ((x : Int) == 0) = false := by rw [beq_eq_false_iff_ne]; omega
                have hxn : ((x : Int) != 0) = true := by rw [bne_iff_ne]; omega
                have HE := Lib.hid (show openN l = none by rw [HO.out, if_neg (fun h => not_all l (8 + m) (50 - m) k (by omega) (by rw [HL.out]; omega) (by rw [← HX.out]; exact hx0) h.2.2.2.2)])
                clear hx0
                go_wp2_with fail
                exact bodyPost_ret (res40 (HT4.out.set _ _ _) _ rfl) rfl ⟨.inl ⟨HE.out, rfl⟩, ((HB4.out.setCell (Nat.le_succ _) _).setCell (Nat.le_succ _) _).setCell (Nat.le_succ _) _⟩
            · obtain rfl : k = N := by omega
              have HE := Lib.hid (show openN l = some (st2, kd, (l.drop 8).take m) by rw [HO.out]; exact if_pos ⟨h1', by trivial, HN3.out, h4', all_of l _ _ (fun j hj => HZ.out j (by omega))⟩)
              have hsl := fun w' => slice_sec w' w.heap.size 8 (8 + m) 8 (8 + (m : Int)) rfl (by omega) (by omega) (by omega)
              rw [show 8 + m - 8 = m by omega] at hsl
              have enm : IntKind.i64.wrap (8 + (m : Int)) = 8 + (m : Int) := IntWalk.i64_in _ (by omega)
              have enk : IntKind.i64.wrap (kd : Int) = (kd : Int) := IntWalk.i64_in _ (by omega)
              have HCL := Lib.hid (fun w' (h : Sec w' w.heap.size l) => clone_own (some ⟨w.heap.size, 8, none⟩) m 56 ((l.drop 8).take m) w' (rdv_mid h 8 m (by rw [HL.out]; omega)) (fun h => by cases h) (by omega))
              have hlen : ((l.drop 8).take m).length = m := by rw [List.length_take, List.length_drop, HL.out]; omega
              have HLEN := Lib.hid hlen
              have HSD := Lib.hid (show Sec w4.drew w.heap.size l from HS4.out)
              have HTD := Lib.hid (show Sl w4.drew (w.heap.size + 1) (.int .i64 0) (.int .i64 0) (.slice none 0 0) from HT4.out)
              have HBD := Lib.hid HB4.out.drew
              clear hlen d1 d2 d3 d4
              go_wp2_with fail
              go_region_law (first | (go_simp; go_at_call 64; refine Calls.mono (HCL.out _ HSD.out) ?_; rintro e w5 ⟨_, rfl, A', c', rfl, r5, n5, b5⟩; have q0 := (HTD.out.old b5).c0; have q1 := (HTD.out.old b5).c1; have q2 := (HTD.out.old b5).c2; have p0 := (HTD.out.old b5).fr 0; have p1 := (HTD.out.old b5).fr 1; have p2 := (HTD.out.old b5).fr 2; have g6' := (HSD.out.old b5).cell 6 (by rw [HL.out]; omega); rw [← HKD.out] at g6'))
              all_goals
                have HR := Lib.hid r5
                have HN := Lib.hid n5
                have HT5 := Lib.hid (HTD.out.old b5)
                have HB5 := Lib.hid (HBD.out.trans (b5.mono HBD.out.size))
                clear r5 n5 b5
                go_wp2_with fail
                exact bodyPost_ret (res40 (HT5.out.set _ _ _) _ rfl) rfl ⟨openO_good HLEN.out HE.out HR.out HN.out (by have := HTD.out.lt; exact this) (by have := HBD.out.size; exact this), ((HB5.out.setCell (Nat.le_succ _) _).setCell (Nat.le_succ _) _).setCell (Nat.le_succ _) _⟩
    · have HE := Lib.hid (show openN l = none by rw [HO.out, if_neg (fun h => h2 h.2.1)])
      have d2 : ((st2 : Int) != (st : Int)) = true := by
        rw [bne_iff_ne]; exact fun h => h2 (by omega)
      clear h2
      go_wp2_with fail
      exact bodyPost_ret (res40 (HT4.out.set _ _ _) _ rfl) rfl ⟨.inl ⟨HE.out, rfl⟩, ((HB4.out.setCell (Nat.le_succ _) _).setCell (Nat.le_succ _) _).setCell (Nat.le_succ _) _⟩
end Go.Proofs.Ytiemjgkpjmncfaa
