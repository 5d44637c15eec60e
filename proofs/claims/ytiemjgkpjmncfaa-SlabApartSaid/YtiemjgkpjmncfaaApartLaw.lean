/- SlabApart answers true of whatever slabs: the walk. -/
import Derived.Test.YtiemjgkpjmncfaaTornLaw
import Derived.Deep.QuietTactic
import Derived.BigQuiet
namespace Go.Proofs.Ytiemjgkpjmncfaa
set_option maxRecDepth 100000
open Go.RowKit

/-- A whole sector is read in a region that draws its order. -/
theorem quiet_load_sec {w : World} {K : Act → Prop} {E : Prop} {ops : Array Oper} {a : Act} {o : Oper} (hwt : Region.wanted o (yielded ops a.tmps) = true) (x : Operand) (ho : o.op = .load 50 x) (g : Nat) (hx : a.eval x = .pointer (some ⟨g, 0, none⟩)) (l : List Nat) (hl : l.length = 64) (h : Sec w g l)
    (k : K (a.put o.dst (.agg (secV l)))) : if Region.wanted o (yielded ops a.tmps) = true then o.quiet Try.prog a (fun w' => ∃ n, w' = w.drewN n) K else E := by
  rw [if_pos hwt]
  refine ⟨.agg (secV l), fun w' hw => ?_, k⟩
  obtain ⟨n, rfl⟩ := hw
  have hl' := load_sec (show Sec (w.drewN n) g l from h) hl
  unfold Oper.quietAt execOp
  simp only [ho, hx, Instr.loadAt, Instr.sureAddr, Sem.run_bind, Sem.run_pure, Result.andThen_ok, hl']
  exact ⟨rfl, rfl⟩
theorem seal_either (b l : Int) (A : Option Addr) (n c : Nat) (es : List Nat) (w : World) (hr : Rdv w A n 1 (valsB es)) (hnil : A = none → c = 0) (hn : n ≤ 9223372036854775807) :
    ∃ (L : List Nat) (ev : Value), L.length = 64 ∧ Calls Try.prog 37 #[.agg #[.int .i64 b, .int .i64 l, .slice A n c]] w fun e w' => e = .returned (.tuple #[.agg (secV L), ev]) ∧ Below w.heap.size w w' := by
  have hle : es.length = n := by have := hr.1; rw [valsB_length] at this; omega
  by_cases h : Good b l n
  · exact ⟨_, _, good_len h hle, seal_good b l A n c es w h hr hnil⟩
  · obtain ⟨k, _, hc⟩ := seal_bad b l A n c w h hn
    exact ⟨_, _, noughts64, hc⟩
theorem good_same {a k b l : Int} {n m : Nat} {ds es : List Nat} (hg : Good a k n) (hh : Good b l m) (hd : ds.length = n) (he : es.length = m) : decide (sealN a.toNat k.toNat ds = sealN b.toNat l.toNat es) = (decide (a = b) && (decide (k = l) && decide (ds = es))) := by
  unfold Good at hg hh
  rw [Bool.eq_iff_iff, Bool.and_eq_true, Bool.and_eq_true, decide_eq_true_iff, decide_eq_true_iff, decide_eq_true_iff, decide_eq_true_iff]
  constructor
  · intro h
    obtain ⟨h1, h2, h3⟩ := sealN_inj (by omega) (by omega) (by omega) (by omega) (by omega) (by omega) (by omega) (by omega) h
    exact ⟨by omega, by omega, h3⟩
  · rintro ⟨rfl, rfl, rfl⟩
    rfl

theorem quiet_eql_sec {w : World} {K : Act → Prop} {E : Prop} {ops : Array Oper} {a : Act} {o : Oper} (hwt : Region.wanted o (yielded ops a.tmps) = true) (x y : Operand) (ho : o.op = .binOp .eql 50 x y 50) (l m : List Nat) (hx : a.eval x = .agg (secV l)) (hy : a.eval y = .agg (secV m)) (b : Bool)
    (he : ∀ w, (Op.equalIn 10000 50 (.agg (secV l)) (.agg (secV m))).run Try.prog w = .ok b w)
    (k : K (a.put o.dst (.bool b))) : if Region.wanted o (yielded ops a.tmps) = true then o.quiet Try.prog a (fun w' => ∃ n, w' = w.drewN n) K else E := by
  rw [if_pos hwt]
  refine ⟨.bool b, fun w' _ => ?_, k⟩
  have h1 := he w'
  unfold Oper.quietAt execOp
  simp only [ho, hx, hy]
  go_simp
set_option maxHeartbeats 4000000 in
theorem apart_law (a k b l : Int) (A : Option Addr) (n c : Nat) (ds : List Nat) (A2 : Option Addr) (n2 c2 : Nat) (es : List Nat) (w : World) (ra : Rdv w A n 1 (valsB ds)) (rb : Rdv w A2 n2 1 (valsB es)) (hnil : A = none → c = 0) (hnil2 : A2 = none → c2 = 0) (hds : ∀ x ∈ ds, x < 256) (hes : ∀ x ∈ es, x < 256) (hn : n ≤ 9223372036854775807) (hn2 : n2 ≤ 9223372036854775807) :
    Calls Try.prog 12 #[.agg #[.int .i64 a, .int .i64 k, .slice A n c], .agg #[.int .i64 b, .int .i64 l, .slice A2 n2 c2]] w fun e w' => e = .returned (.bool true) ∧ Below w.heap.size w w' := by
  have hld : ds.length = n := by have := ra.1; rw [valsB_length] at this; omega
  have hle : es.length = n2 := by have := rb.1; rw [valsB_length] at this; omega
  have HT := Lib.hid (two_new w a k b l A n c ds A2 n2 c2 es ra rb)
  have HAL := Lib.hid (alive_any ((w.alloc (.cells #[.int .i64 a, .int .i64 k, .slice A n c] 74)).alloc (.cells #[.int .i64 b, .int .i64 l, .slice A2 n2 c2] 74)))
  have HLD := Lib.hid hld
  have HLE := Lib.hid hle
  have HNIL := Lib.hid hnil
  have HNIL2 := Lib.hid hnil2
  have HDS := Lib.hid hds
  have HES := Lib.hid hes
  clear ra rb hld hle hnil hnil2 hds hes
  go_enter Try.func12, Try.ntmps12
  go_wp2_with fail
  refine Calls.mono HAL.out ?_
  rintro e w1 ⟨rfl, hb1⟩
  have HT1 := Lib.hid (HT.out.old hb1)
  clear hb1 HT
  have a0 := HT1.out.one.c0
  have a1 := HT1.out.one.c1
  have a2 := HT1.out.one.c2
  have b0 := HT1.out.two.c0
  have b1 := HT1.out.two.c1
  have b2 := HT1.out.two.c2
  by_cases h1 : 100 < n
  · have d1 : decide (100 < (n : Int)) = true := decide_eq_true (by omega)
    go_wp2_with fail
    go_ret
    exact ⟨rfl, HT1.out.below⟩
  have d1 : decide (100 < (n : Int)) = false := decide_eq_false (by omega)
  by_cases h2 : 100 < n2
  · have d2 : decide (100 < (n2 : Int)) = true := decide_eq_true (by omega)
    go_wp2_with fail
    go_ret
    exact ⟨rfl, HT1.out.below⟩
  have d2 : decide (100 < (n2 : Int)) = false := decide_eq_false (by omega)
  by_cases hg : Good a k n
  · have HC := Lib.hid (seal_good a k A n c ds w1 hg HT1.out.ra HNIL.out)
    have HG := Lib.hid hg
    clear hg
    go_wp2_with fail
    refine Calls.mono HC.out ?_
    rintro e w2 ⟨rfl, hb2⟩
    have HT2 := Lib.hid ((HT1.out.old hb2).old ((Below.refl w2.heap.size w2).alloc (Nat.le_refl _) (.cells (secV (sealN a.toNat k.toNat ds)) 50)))
    clear hb2 d1 d2 a0 a1 a2 b0 b1 b2
    have hlen := good_len HG.out HLD.out
    have HXS := Lib.hid (good_small HG.out HLD.out HDS.out)
    obtain ⟨X, hX⟩ : ∃ X, X = sealN a.toNat k.toNat ds := ⟨_, rfl⟩
    rw [← hX] at hlen HT2 HXS ⊢
    have hsz : (secV X).size = 64 := by rw [secV_size]; exact hlen
    have hst := fun w1 => store_new w1 X hlen
    have HX := Lib.hid hX
    have HXL := Lib.hid hlen
    have HSX := Lib.hid (show Sec (w2.alloc (.cells (secV X) 50)) w2.heap.size X from heap_alloc_new w2 _)
    clear hlen hX
    go_upto_region 6 with fail
    clear hst hsz
    obtain ⟨w3, hw3⟩ : ∃ w3, w3 = w2.alloc (.cells (secV X) 50) := ⟨_, rfl⟩
    obtain ⟨g, hgg⟩ : ∃ g, g = w2.heap.size := ⟨_, rfl⟩
    rw [← hw3, ← hgg] at HSX
    rw [← hw3] at HT2 ⊢
    rw [← hgg]
    clear hw3 hgg
    have b0 := HT2.out.two.c0
    have b1 := HT2.out.two.c1
    have b2 := HT2.out.two.c2
    by_cases hgb : Good b l n2
    · have HC2 := Lib.hid (seal_good b l A2 n2 c2 es w3 hgb HT2.out.rb HNIL2.out)
      have hsame := good_same HG.out hgb HLD.out HLE.out
      have hlen := good_len hgb HLE.out
      have HYS := Lib.hid (good_small hgb HLE.out HES.out)
      clear hgb
      go_wp2_with fail
      refine Calls.mono HC2.out ?_
      rintro e w4 ⟨rfl, hb4⟩
      have HSX4 := Lib.hid ((HSX.out.old hb4).alloc (.cells (secV (sealN b.toNat l.toNat es)) 50))
      have HT4 := Lib.hid ((HT2.out.old hb4).old ((Below.refl w4.heap.size w4).alloc (Nat.le_refl _) (.cells (secV (sealN b.toNat l.toNat es)) 50)))
      obtain ⟨Y, hY⟩ : ∃ Y, Y = sealN b.toNat l.toNat es := ⟨_, rfl⟩
      rw [← hY, ← HX.out] at hsame
      rw [← hY] at hlen HT4 HSX4 HYS ⊢
      have hsz : (secV Y).size = 64 := by rw [secV_size]; exact hlen
      have hst := fun w1 => store_new w1 Y hlen
      have HYL := Lib.hid hlen
      have HSY := Lib.hid (show Sec (w4.alloc (.cells (secV Y) 50)) w4.heap.size Y from heap_alloc_new w4 _)
      have HSAME := Lib.hid hsame
      clear hlen hY hb4 b0 b1 b2 hsame
      go_upto_region 9 with fail
      clear hst hsz
      obtain ⟨w5, hw5⟩ : ∃ w5, w5 = w4.alloc (.cells (secV Y) 50) := ⟨_, rfl⟩
      obtain ⟨q, hq⟩ : ∃ q, q = w4.heap.size := ⟨_, rfl⟩
      rw [← hw5, ← hq] at HSY
      rw [← hw5] at HT4 HSX4 ⊢
      rw [← hq]
      clear hw5 hq
      have a0 := HT4.out.one.c0
      have a1 := HT4.out.one.c1
      have a2 := HT4.out.one.c2
      have b0 := HT4.out.two.c0
      have b1 := HT4.out.two.c1
      have b2 := HT4.out.two.c2
      have e1 : ∀ w, (Op.equalIn 10000 50 (.agg (secV X)) (.agg (secV Y))).run Try.prog w = .ok (decide (X = Y)) w := fun w => run_equalIn_deep' 9998 w X Y HXL.out HYL.out HXS.out HYS.out
      rw [HSAME.out] at e1
      have HSM := Lib.hid (fun m => (same_any A A2 n c n2 c2 ds es (w5.drewN m) HT4.out.ra HT4.out.rb HDS.out HES.out).mono fun _ _ h => (⟨h.1, h.2.symm⟩ : _ ∧ _))
      have HBE := Lib.hid (fun m => show Below w.heap.size w (w5.drewN m) from ⟨HT4.out.below.os, HT4.out.below.tape, HT4.out.below.output, HT4.out.below.size, HT4.out.below.block⟩)
      obtain ⟨dd, hdd⟩ : ∃ dd, dd = decide (ds = es) := ⟨_, rfl⟩
      rw [← hdd] at e1 HSM
      by_cases h3 : a = b
      · subst h3
        have q1 : (a == a) = true := by simp
        by_cases h4 : k = l
        · subst h4
          have q2 : (k == k) = true := by simp
          rw [decide_eq_true rfl, decide_eq_true rfl, Bool.true_and, Bool.true_and] at e1
          clear hdd
          refine wp_region_quiet_lit (by kernel_rfl) (by kernel_rfl) ?_
          refine wpQuiet_step (fun K hK => ?_)
          refine quiet_load_sec (by rfl) (.tmp 5) rfl g rfl X HXL.out HSX4.out ?_
          go_simp
          refine hK _ ?_
          clear hK K
          refine wpQuiet_step (fun K hK => ?_)
          refine quiet_load_sec (by rfl) (.tmp 7) rfl q rfl Y HYL.out HSY.out ?_
          go_simp
          refine hK _ ?_
          clear hK K
          refine wpQuiet_step (fun K hK => ?_)
          refine quiet_eql_sec (by rfl) (.tmp 49) (.tmp 50) rfl X Y rfl rfl _ e1 ?_
          go_simp
          refine hK _ ?_
          clear hK K
          repeat (go_big_quiet_step ((go_at_call 42; exact Calls.quiet_of_same (HSM.out _))))
          refine wpQuiet_nil ?_
          intro _ hw'
          obtain ⟨nq, hw''⟩ := hw'
          subst hw''
          go_wp2_with fail
          go_ret
          exact ⟨ret_bool (by cases dd <;> rfl), HBE.out nq⟩
        · have q2 : (k == l) = false := by rw [beq_eq_false_iff_ne]; exact h4
          rw [decide_eq_true rfl, decide_eq_false h4, Bool.true_and, Bool.false_and] at e1
          clear hdd h4
          refine wp_region_quiet_lit (by kernel_rfl) (by kernel_rfl) ?_
          refine wpQuiet_step (fun K hK => ?_)
          refine quiet_load_sec (by rfl) (.tmp 5) rfl g rfl X HXL.out HSX4.out ?_
          go_simp
          refine hK _ ?_
          clear hK K
          refine wpQuiet_step (fun K hK => ?_)
          refine quiet_load_sec (by rfl) (.tmp 7) rfl q rfl Y HYL.out HSY.out ?_
          go_simp
          refine hK _ ?_
          clear hK K
          refine wpQuiet_step (fun K hK => ?_)
          refine quiet_eql_sec (by rfl) (.tmp 49) (.tmp 50) rfl X Y rfl rfl _ e1 ?_
          go_simp
          refine hK _ ?_
          clear hK K
          repeat (go_big_quiet_step (fail))
          refine wpQuiet_nil ?_
          intro _ hw'
          obtain ⟨nq, hw''⟩ := hw'
          subst hw''
          go_wp2_with fail
          go_ret
          exact ⟨rfl, HBE.out nq⟩
      · have q1 : (a == b) = false := by rw [beq_eq_false_iff_ne]; exact h3
        rw [decide_eq_false h3, Bool.false_and] at e1
        clear hdd h3
        refine wp_region_quiet_lit (by kernel_rfl) (by kernel_rfl) ?_
        refine wpQuiet_step (fun K hK => ?_)
        refine quiet_load_sec (by rfl) (.tmp 5) rfl g rfl X HXL.out HSX4.out ?_
        go_simp
        refine hK _ ?_
        clear hK K
        refine wpQuiet_step (fun K hK => ?_)
        refine quiet_load_sec (by rfl) (.tmp 7) rfl q rfl Y HYL.out HSY.out ?_
        go_simp
        refine hK _ ?_
        clear hK K
        refine wpQuiet_step (fun K hK => ?_)
        refine quiet_eql_sec (by rfl) (.tmp 49) (.tmp 50) rfl X Y rfl rfl _ e1 ?_
        go_simp
        refine hK _ ?_
        clear hK K
        repeat (go_big_quiet_step (fail))
        refine wpQuiet_nil ?_
        intro _ hw'
        obtain ⟨nq, hw''⟩ := hw'
        subst hw''
        go_wp2_with fail
        go_ret
        exact ⟨rfl, HBE.out nq⟩
    · obtain ⟨kk, hkk, HC0⟩ := seal_bad b l A2 n2 c2 w3 hgb hn2
      have HC2 := Lib.hid HC0
      clear hgb HC0
      go_wp2_with fail
      refine Calls.mono HC2.out ?_
      rintro e w4 ⟨rfl, hb4⟩
      have HB4 := Lib.hid (HT2.out.old hb4).below
      have hsz : (secV (noughts 64)).size = 64 := by rw [secV_size]; exact noughts64
      have hst := fun w1 => store_new w1 (noughts 64) noughts64
      clear hb4 b0 b1 b2
      go_wp2_with fail
      go_ret
      exact ⟨rfl, HB4.out.alloc HB4.out.size _⟩
  · obtain ⟨kk, hkk, HC0⟩ := seal_bad a k A n c w1 hg hn
    have HC := Lib.hid HC0
    clear hg HC0
    go_wp2_with fail
    refine Calls.mono HC.out ?_
    rintro e w2 ⟨rfl, hb2⟩
    have HT2 := Lib.hid ((HT1.out.old hb2).old ((Below.refl w2.heap.size w2).alloc (Nat.le_refl _) (.cells (secV (noughts 64)) 50)))
    have hsz : (secV (noughts 64)).size = 64 := by rw [secV_size]; exact noughts64
    have hst := fun w1 => store_new w1 (noughts 64) noughts64
    clear hb2 d1 d2 a0 a1 a2 b0 b1 b2
    go_upto_region 6 with fail
    clear hst hsz
    obtain ⟨w3, hw3⟩ : ∃ w3, w3 = w2.alloc (.cells (secV (noughts 64)) 50) := ⟨_, rfl⟩
    rw [← hw3] at HT2 ⊢
    clear hw3
    have b0 := HT2.out.two.c0
    have b1 := HT2.out.two.c1
    have b2 := HT2.out.two.c2
    obtain ⟨L, ev, hlen, HC0⟩ := seal_either b l A2 n2 c2 es w3 HT2.out.rb HNIL2.out hn2
    have HC2 := Lib.hid HC0
    clear HC0
    go_wp2_with fail
    refine Calls.mono HC2.out ?_
    rintro e w4 ⟨rfl, hb4⟩
    have HB4 := Lib.hid (HT2.out.old hb4).below
    have hsz : (secV L).size = 64 := by rw [secV_size]; exact hlen
    have hst := fun w1 => store_new w1 L hlen
    clear hb4 b0 b1 b2 hlen
    go_wp2_with fail
    go_ret
    exact ⟨rfl, HB4.out.alloc HB4.out.size _⟩
end Go.Proofs.Ytiemjgkpjmncfaa
