/- SlabTorn answers true of whatever slabs and tear: the walk. -/
import Derived.Test.YtiemjgkpjmncfaaTornWalk
namespace Go.Proofs.Ytiemjgkpjmncfaa
set_option maxRecDepth 100000
open Go.RowKit

theorem run_storeVar_sec {w : World} {g : Nat} {z l : List Nat} (h : Sec w g z) (hz : z.length = 64) (hl : l.length = 64) : (storeVar 50 ⟨g, 0, none⟩ (.agg (secV l))).run Try.prog w = .ok () (w.setRow g (secV l)) :=
  run_storeVar_row w g 50 50 (secV z) (secV l) h (info_sec hl) (by rw [secV_size, secV_size, hz, hl]) (secV_one l)
/-- A whole sector is stored. -/
theorem wpList_store_sec {ops : Array Oper} {rest : List Oper} {o : Oper} {a : Act} {w : World} {Q : Exit → Act → World → Prop} (hgd : o.guard = none) (x y : Operand) (ho : o.op = .store 50 x y)
    (g : Nat) (hx : a.eval x = .pointer (some ⟨g, 0, none⟩)) (z l : List Nat) (hy : a.eval y = .agg (secV l)) (hz : z.length = 64) (hl : l.length = 64) (h : Sec w g z) (k : wpList Try.prog ops Q rest (a.put o.dst undef) (w.setRow g (secV l))) : wpList Try.prog ops Q (o :: rest) a w := by
  refine wpList_plain hgd fun K hK => ?_
  unfold Oper.wp execOp
  simp only [ho, hx, hy, Instr.storeAt, Instr.sureAddr, Sem.run_bind, Sem.run_pure, Result.andThen_ok, run_storeVar_sec h hz hl]
  exact hK _ _ k
theorem equal_noughts (w : World) : (Op.equalIn 10000 50 (.agg (secV (noughts 64))) (.agg #[.int .u8 0, .int .u8 0, .int .u8 0, .int .u8 0, .int .u8 0, .int .u8 0, .int .u8 0, .int .u8 0, .int .u8 0, .int .u8 0, .int .u8 0, .int .u8 0, .int .u8 0, .int .u8 0, .int .u8 0, .int .u8 0, .int .u8 0, .int .u8 0, .int .u8 0, .int .u8 0, .int .u8 0, .int .u8 0, .int .u8 0, .int .u8 0, .int .u8 0, .int .u8 0, .int .u8 0, .int .u8 0, .int .u8 0, .int .u8 0, .int .u8 0, .int .u8 0, .int .u8 0, .int .u8 0, .int .u8 0, .int .u8 0, .int .u8 0, .int .u8 0, .int .u8 0, .int .u8 0, .int .u8 0, .int .u8 0, .int .u8 0, .int .u8 0, .int .u8 0, .int .u8 0, .int .u8 0, .int .u8 0, .int .u8 0, .int .u8 0, .int .u8 0, .int .u8 0, .int .u8 0, .int .u8 0, .int .u8 0, .int .u8 0, .int .u8 0, .int .u8 0, .int .u8 0, .int .u8 0, .int .u8 0, .int .u8 0, .int .u8 0, .int .u8 0])).run Try.prog w = .ok true w := by
  rw [zeros_sec]
  have h := run_equalIn_deep' 9998 w (noughts 64) (noughts 64) noughts64 noughts64 (noughts_small 64) (noughts_small 64)
  rw [decide_eq_true rfl] at h
  exact h
/-- A slab as it came in, in a block. -/
def Ar (w : World) (g : Nat) (a k : Int) (S : Value) : Prop := w.heap[g]? = some (.cells #[.int .i64 a, .int .i64 k, S] 74 (0, 0))
theorem Ar.old {w w' : World} {B g : Nat} {a k : Int} {S : Value} (h : Ar w g a k S) (hb : Below B w w') (hg : g < B) : Ar w' g a k S := (hb.block g hg).trans h
theorem Ar.c0 {w : World} {g : Nat} {a k : Int} {S : Value} (h : Ar w g a k S) : w.cell? ⟨g, 0, none⟩ = some (.int .i64 a) := cell_of_row w g 0 _ 74 (0, 0) h
theorem Ar.c1 {w : World} {g : Nat} {a k : Int} {S : Value} (h : Ar w g a k S) : w.cell? ⟨g, 1, none⟩ = some (.int .i64 k) := cell_of_row w g 1 _ 74 (0, 0) h
theorem Ar.c2 {w : World} {g : Nat} {a k : Int} {S : Value} (h : Ar w g a k S) : w.cell? ⟨g, 2, none⟩ = some S := cell_of_row w g 2 _ 74 (0, 0) h
/-- What the law knows of its two arguments, in each world behind. -/
structure Two (w0 : World) (a k b l : Int) (A : Option Addr) (n c : Nat) (ds : List Nat) (A2 : Option Addr) (n2 c2 : Nat) (es : List Nat) (w : World) : Prop where
  one : Ar w w0.heap.size a k (.slice A n c)
  two : Ar w (w0.heap.size + 1) b l (.slice A2 n2 c2)
  ra : Rdv w A n 1 (valsB ds)
  rb : Rdv w A2 n2 1 (valsB es)
  below : Below w0.heap.size w0 w
  size : w0.heap.size + 2 ≤ w.heap.size
theorem Two.old {w0 w w' : World} {a k b l : Int} {A : Option Addr} {n c : Nat} {ds : List Nat} {A2 : Option Addr} {n2 c2 : Nat} {es : List Nat} (h : Two w0 a k b l A n c ds A2 n2 c2 es w) (hb : Below w.heap.size w w') : Two w0 a k b l A n c ds A2 n2 c2 es w' :=
  ⟨h.one.old hb (by have := h.size; omega), h.two.old hb (by have := h.size; omega), h.ra.ext (stays_b hb), h.rb.ext (stays_b hb), h.below.trans (hb.mono h.below.size), Nat.le_trans h.size hb.size⟩
theorem two_new (w : World) (a k b l : Int) (A : Option Addr) (n c : Nat) (ds : List Nat) (A2 : Option Addr) (n2 c2 : Nat) (es : List Nat) (ra : Rdv w A n 1 (valsB ds)) (rb : Rdv w A2 n2 1 (valsB es)) :
    Two w a k b l A n c ds A2 n2 c2 es ((w.alloc (.cells #[.int .i64 a, .int .i64 k, .slice A n c] 74)).alloc (.cells #[.int .i64 b, .int .i64 l, .slice A2 n2 c2] 74)) := by
  have hb : Below w.heap.size w ((w.alloc (.cells #[.int .i64 a, .int .i64 k, .slice A n c] 74)).alloc (.cells #[.int .i64 b, .int .i64 l, .slice A2 n2 c2] 74)) := ((Below.refl _ w).alloc (Nat.le_refl _) _).alloc (by simp) _
  exact ⟨(heap_alloc_old _ _ (by simp)).trans (heap_alloc_new w _), heap_alloc2_new w _ _, ra.ext (stays_b hb), rb.ext (stays_b hb), hb, by simp⟩

set_option maxHeartbeats 4000000 in
theorem torn_law (a k b l t : Int) (A : Option Addr) (n c : Nat) (ds : List Nat) (A2 : Option Addr) (n2 c2 : Nat) (es : List Nat) (w : World) (ra : Rdv w A n 1 (valsB ds)) (rb : Rdv w A2 n2 1 (valsB es)) (hnil : A = none → c = 0) (hnil2 : A2 = none → c2 = 0) (hds : ∀ x ∈ ds, x < 256) (hes : ∀ x ∈ es, x < 256) (hn : n ≤ 9223372036854775807) (hn2 : n2 ≤ 9223372036854775807) :
    Calls Try.prog 10 #[.agg #[.int .i64 a, .int .i64 k, .slice A n c], .agg #[.int .i64 b, .int .i64 l, .slice A2 n2 c2], .int .i64 t] w fun e w' => e = .returned (.bool true) ∧ Below w.heap.size w w' := by
  have hld : ds.length = n := by have := ra.1; rw [valsB_length] at this; omega
  have hle : es.length = n2 := by have := rb.1; rw [valsB_length] at this; omega
  have HT := Lib.hid (two_new w a k b l A n c ds A2 n2 c2 es ra rb)
  have HAL := Lib.hid (alive_any ((w.alloc (.cells #[.int .i64 a, .int .i64 k, .slice A n c] 74)).alloc (.cells #[.int .i64 b, .int .i64 l, .slice A2 n2 c2] 74)))
  have HLD := Lib.hid hld
  have HLE := Lib.hid hle
  have HNIL := Lib.hid hnil
  have HNIL2 := Lib.hid hnil2
  have HDS := Lib.hid hds
  have HES := Lib.hid hes
  clear ra rb hld hle hnil hnil2 hds hes
  go_enter Try.func10, Try.ntmps10
  go_wp2_with fail
  refine Calls.mono HAL.out ?_
  rintro e w1 ⟨rfl, hb1⟩
  have HT1 := Lib.hid (HT.out.old hb1)
  clear hb1 HT
  have a0 := HT1.out.one.c0
  have a1 := HT1.out.one.c1
  have a2 := HT1.out.one.c2
  have b0 := HT1.out.two.c0
  have b1 := HT1.out.two.c1
  have b2 := HT1.out.two.c2
  by_cases h1 : 100 < n
  · have d1 : decide (100 < (n : Int)) = true := decide_eq_true (by omega)
    go_wp2_with fail
    go_ret
    exact ⟨rfl, HT1.out.below⟩
  have d1 : decide (100 < (n : Int)) = false := decide_eq_false (by omega)
  by_cases h2 : 100 < n2
  · have d2 : decide (100 < (n2 : Int)) = true := decide_eq_true (by omega)
    go_wp2_with fail
    go_ret
    exact ⟨rfl, HT1.out.below⟩
  have d2 : decide (100 < (n2 : Int)) = false := decide_eq_false (by omega)
  by_cases h3 : a = b
  · have d3 : (a == b) = true := by rw [beq_iff_eq]; exact h3
    clear h3
    go_wp2_with fail
    go_ret
    exact ⟨rfl, HT1.out.below⟩
  have d3 : (a == b) = false := by rw [beq_eq_false_iff_ne]; exact h3
  have H3 := Lib.hid h3
  clear h3
  by_cases hg : Good a k n
  · have HC := Lib.hid (seal_good a k A n c ds w1 hg HT1.out.ra HNIL.out)
    have HG := Lib.hid hg
    clear hg
    go_wp2_with fail
    refine Calls.mono HC.out ?_
    rintro e w2 ⟨rfl, hb2⟩
    have HT2 := Lib.hid (HT1.out.old hb2)
    clear hb2 d1 d2 d3 a0 a1 a2 b0 b1 b2
    have hlen := good_len HG.out HLD.out
    obtain ⟨O, hO⟩ : ∃ O, O = sealN a.toNat k.toNat ds := ⟨_, rfl⟩
    rw [← hO] at hlen ⊢
    have hsz : (secV O).size = 64 := by rw [secV_size]; exact hlen
    have hst := fun w1 => store_new w1 O hlen
    have HOS := Lib.hid (show (Good a k n ∧ O = sealN a.toNat k.toNat ds) ∨ O = noughts 64 from .inl ⟨HG.out, hO⟩)
    have HOL := Lib.hid hlen
    clear hlen hO
    go_upto_region 8 with fail
    obtain ⟨w3, hw3⟩ : ∃ w3, w3 = w2.alloc (.cells (secV O) 50) := ⟨_, rfl⟩
    obtain ⟨g, hg⟩ : ∃ g, g = w2.heap.size := ⟨_, rfl⟩
    rw [← hw3]
    have HSO := Lib.hid (show Sec w3 g O by rw [hw3, hg]; exact heap_alloc_new w2 _)
    have HT3 := Lib.hid (show Two w a k b l A n c ds A2 n2 c2 es w3 by rw [hw3]; exact HT2.out.old ((Below.refl w2.heap.size w2).alloc (Nat.le_refl _) _))
    rw [← hg]
    clear hw3 hg hst hsz
    have b0 := HT3.out.two.c0
    have b1 := HT3.out.two.c1
    have b2 := HT3.out.two.c2
    by_cases hgb : Good b l n2
    · have HC2 := Lib.hid (seal_good b l A2 n2 c2 es w3 hgb HT3.out.rb HNIL2.out)
      have HGB := Lib.hid hgb
      clear hgb
      go_wp2_with fail
      refine Calls.mono HC2.out ?_
      rintro e w4 ⟨rfl, hb4⟩
      have HT4 := Lib.hid (HT3.out.old hb4)
      have HSO4 := Lib.hid (HSO.out.old hb4)
      have hlen := good_len HGB.out HLE.out
      obtain ⟨F, hF⟩ : ∃ F, F = sealN b.toNat l.toNat es := ⟨_, rfl⟩
      rw [← hF] at hlen ⊢
      have hsz : (secV F).size = 64 := by rw [secV_size]; exact hlen
      have hst := fun w1 => store_new w1 F hlen
      have HFL := Lib.hid hlen
      have HFS := Lib.hid (show ∀ x ∈ F, x < 256 by rw [hF]; exact good_small HGB.out HLE.out HES.out)
      have HOS2 := Lib.hid (show ∀ x ∈ O, x < 256 by
        rcases HOS.out with ⟨h1, h2⟩ | h2
        · rw [h2]; exact good_small h1 HLD.out HDS.out
        · rw [h2]; exact noughts_small 64)
      have htl : tearN t ≤ 64 := Nat.min_le_left _ _
      have hkey := torn_sealed (k := k) HGB.out HLD.out HLE.out HDS.out HES.out H3.out (tearN t) htl O HOS.out
      rw [← hF] at hkey
      have HTO := Lib.hid (fun w => torn_any O F HOL.out HFL.out HFS.out t w)
      obtain ⟨T, hT⟩ : ∃ T, T = tornN O F (tearN t) := ⟨_, rfl⟩
      rw [← hT] at hkey HTO
      have HTL := Lib.hid (show T.length = 64 by rw [hT]; exact tornN_length O F _ HOL.out HFL.out htl)
      have HTS := Lib.hid (show ∀ x ∈ T, x < 256 by
        rw [hT]
        intro x hx
        rcases List.mem_append.1 hx with h | h
        · exact HFS.out x (List.mem_of_mem_take h)
        · exact HOS2.out x (List.mem_of_mem_drop h))
      have HKEY := Lib.hid hkey
      have HSF := Lib.hid (show Sec (w4.alloc (.cells (secV F) 50)) w4.heap.size F from heap_alloc_new w4 _)
      have HSO5 := Lib.hid (HSO4.out.alloc (.cells (secV F) 50))
      have HT5 := Lib.hid (HT4.out.old ((Below.refl w4.heap.size w4).alloc (Nat.le_refl _) (.cells (secV F) 50)))
      clear hb4 b0 b1 b2 hlen hF hkey hT htl
      go_upto_region 11 with fail
      clear hst hsz
      obtain ⟨w5, hw5⟩ : ∃ w5, w5 = w4.alloc (.cells (secV F) 50) := ⟨_, rfl⟩
      obtain ⟨f, hf⟩ : ∃ f, f = w4.heap.size := ⟨_, rfl⟩
      rw [← hw5, ← hf] at HSF
      rw [← hw5] at HSO5 HT5 ⊢
      rw [← hf]
      clear hw5 hf
      have hsz : (secV T).size = 64 := by rw [secV_size]; exact HTL.out
      have hst := fun w1 => store_new w1 T HTL.out
      go_wp2_with (first | refine wpList_load_sec (by rfl) (.tmp 7) rfl g rfl O HOL.out HSO5.out ?_ | refine wpList_load_sec (by rfl) (.tmp 9) rfl f rfl F HFL.out HSF.out ?_)
      refine Calls.mono (HTO.out _) ?_
      rintro e w6 ⟨rfl, hb6⟩
      have HSO6 := Lib.hid ((HSO5.out.old hb6).alloc (.cells (secV T) 50))
      have HSF6 := Lib.hid ((HSF.out.old hb6).alloc (.cells (secV T) 50))
      have HT6 := Lib.hid ((HT5.out.old hb6).old ((Below.refl w6.heap.size w6).alloc (Nat.le_refl _) (.cells (secV T) 50)))
      have HST := Lib.hid (show Sec (w6.alloc (.cells (secV T) 50)) w6.heap.size T from heap_alloc_new w6 _)
      clear hb6
      go_upto_region 12 with fail
      clear hst hsz
      obtain ⟨w7, hw7⟩ : ∃ w7, w7 = w6.alloc (.cells (secV T) 50) := ⟨_, rfl⟩
      obtain ⟨q, hq⟩ : ∃ q, q = w6.heap.size := ⟨_, rfl⟩
      rw [← hw7, ← hq] at HST
      rw [← hw7] at HSO6 HSF6 HT6 ⊢
      rw [← hq]
      clear hw7 hq
      have HOP := Lib.hid (fun w => open_any T HTL.out HTS.out w)
      go_wp2_with (first | refine wpList_load_sec (by rfl) (.tmp 10) rfl q rfl T HTL.out HST.out ?_)
      refine Calls.mono (HOP.out _) ?_
      rintro e w8 ⟨ho, hb8⟩
      have HSO8 := Lib.hid (HSO6.out.old hb8)
      have HSF8 := Lib.hid (HSF6.out.old hb8)
      have HST8 := Lib.hid (HST.out.old hb8)
      have HB8 := Lib.hid (HT6.out.old hb8).below
      clear hb8
      rcases ho with ⟨_, rfl⟩ | ⟨st, kd, d, A', c', h, rfl, _⟩
      · unfold eCorrupt
        go_wp2_with fail
        go_ret
        exact ⟨rfl, HB8.out⟩
      · have e1 := fun w => run_equalIn_deep' 9998 w T O HTL.out HOL.out HTS.out HOS2.out
        have e2 := fun w => run_equalIn_deep' 9998 w T F HTL.out HFL.out HTS.out HFS.out
        rcases HKEY.out with hk | hk | hk
        · rw [hk] at h; cases h
        · rw [show decide (T = O) = true from decide_eq_true hk] at e1
          clear e2 hk h
          go_wp2_with (first | refine wpList_load_sec (by rfl) (.tmp 10) rfl q rfl T HTL.out HST8.out ?_ | refine wpList_load_sec (by rfl) (.tmp 7) rfl g rfl O HOL.out HSO8.out ?_)
          go_ret
          exact ⟨rfl, HB8.out⟩
        · rw [show decide (T = F) = true from decide_eq_true hk] at e2
          obtain ⟨bb, hbb⟩ : ∃ bb, bb = decide (T = O) := ⟨_, rfl⟩
          rw [← hbb] at e1
          clear hbb hk h
          cases bb
          · go_wp2_with (first | refine wpList_load_sec (by rfl) (.tmp 10) rfl q rfl T HTL.out HST8.out ?_ | refine wpList_load_sec (by rfl) (.tmp 7) rfl g rfl O HOL.out HSO8.out ?_ | refine wpList_load_sec (by rfl) (.tmp 9) rfl f rfl F HFL.out HSF8.out ?_)
            go_ret
            exact ⟨rfl, HB8.out⟩
          · go_wp2_with (first | refine wpList_load_sec (by rfl) (.tmp 10) rfl q rfl T HTL.out HST8.out ?_ | refine wpList_load_sec (by rfl) (.tmp 7) rfl g rfl O HOL.out HSO8.out ?_)
            go_ret
            exact ⟨rfl, HB8.out⟩
    · obtain ⟨kk, hkk, HC0⟩ := seal_bad b l A2 n2 c2 w3 hgb hn2
      have HC2 := Lib.hid HC0
      clear hgb HC0
      go_wp2_with fail
      refine Calls.mono HC2.out ?_
      rintro e w4 ⟨rfl, hb4⟩
      have HB4 := Lib.hid (HT3.out.old hb4).below
      have hsz : (secV (noughts 64)).size = 64 := by rw [secV_size]; exact noughts64
      have hst := fun w1 => store_new w1 (noughts 64) noughts64
      clear hb4 b0 b1 b2
      go_upto_region 10 with fail
      clear hst hsz
      have HSN := Lib.hid (show Sec (w4.alloc (.cells (secV (noughts 64)) 50)) w4.heap.size (noughts 64) from heap_alloc_new w4 _)
      have HB5 := Lib.hid (HB4.out.alloc HB4.out.size (.cells (secV (noughts 64)) 50))
      obtain ⟨w5, hw5⟩ : ∃ w5, w5 = w4.alloc (.cells (secV (noughts 64)) 50) := ⟨_, rfl⟩
      obtain ⟨f, hf⟩ : ∃ f, f = w4.heap.size := ⟨_, rfl⟩
      rw [← hw5, ← hf] at HSN
      rw [← hw5] at HB5 ⊢
      rw [← hf]
      clear hw5 hf
      have e1 := equal_noughts
      go_wp2_with (first | refine wpList_load_sec (by rfl) (.tmp 9) rfl f rfl (noughts 64) noughts64 HSN.out ?_)
      go_ret
      exact ⟨rfl, HB5.out⟩
  · obtain ⟨kk, hkk, HC0⟩ := seal_bad a k A n c w1 hg hn
    have HC := Lib.hid HC0
    have hkn : kk ≠ 0 := by rcases hkk with rfl | rfl <;> decide
    clear hg HC0
    go_wp2_with fail
    refine Calls.mono HC.out ?_
    rintro e w2 ⟨rfl, hb2⟩
    have HT2 := Lib.hid (HT1.out.old hb2)
    clear hb2 d1 d2 d3 a0 a1 a2 b0 b1 b2
    obtain ⟨O, hO⟩ : ∃ O, O = noughts 64 := ⟨_, rfl⟩
    have hlen : O.length = 64 := by rw [hO]; exact noughts64
    rw [← hO]
    have hsz : (secV O).size = 64 := by rw [secV_size]; exact hlen
    have hst := fun w1 => store_new w1 O hlen
    have HOS := Lib.hid (show (Good a k n ∧ O = sealN a.toNat k.toNat ds) ∨ O = noughts 64 from .inr hO)
    have HOL := Lib.hid hlen
    have HOO := Lib.hid hO
    clear hlen hO
    go_upto_region 7 with fail
    go_upto_region 8 with (first | refine wpList_store_sec rfl (.tmp 7) (.tmp 43) rfl w2.heap.size rfl O O (by rw [HOO.out]; exact congrArg Value.agg zeros_sec) HOL.out HOL.out (show Sec (w2.alloc (.cells (secV O) 50)) w2.heap.size O from heap_alloc_new w2 _) ?_)
    obtain ⟨w3, hw3⟩ : ∃ w3, w3 = (w2.alloc (.cells (secV O) 50)).setRow w2.heap.size (secV O) := ⟨_, rfl⟩
    obtain ⟨g, hg⟩ : ∃ g, g = w2.heap.size := ⟨_, rfl⟩
    rw [← hw3]
    have HSO := Lib.hid (show Sec w3 g O by rw [hw3, hg]; exact (show Sec (w2.alloc (.cells (secV O) 50)) w2.heap.size O from heap_alloc_new w2 _).put O)
    have HT3 := Lib.hid (show Two w a k b l A n c ds A2 n2 c2 es w3 by rw [hw3]; exact HT2.out.old (below_setRow ((Below.refl w2.heap.size w2).alloc (Nat.le_refl _) _) (Nat.le_refl _) _))
    rw [← hg]
    clear hw3 hg hst hsz
    have b0 := HT3.out.two.c0
    have b1 := HT3.out.two.c1
    have b2 := HT3.out.two.c2
    by_cases hgb : Good b l n2
    · have HC2 := Lib.hid (seal_good b l A2 n2 c2 es w3 hgb HT3.out.rb HNIL2.out)
      have HGB := Lib.hid hgb
      clear hgb
      go_wp2_with fail
      refine Calls.mono HC2.out ?_
      rintro e w4 ⟨rfl, hb4⟩
      have HT4 := Lib.hid (HT3.out.old hb4)
      have HSO4 := Lib.hid (HSO.out.old hb4)
      have hlen := good_len HGB.out HLE.out
      obtain ⟨F, hF⟩ : ∃ F, F = sealN b.toNat l.toNat es := ⟨_, rfl⟩
      rw [← hF] at hlen ⊢
      have hsz : (secV F).size = 64 := by rw [secV_size]; exact hlen
      have hst := fun w1 => store_new w1 F hlen
      have HFL := Lib.hid hlen
      have HFS := Lib.hid (show ∀ x ∈ F, x < 256 by rw [hF]; exact good_small HGB.out HLE.out HES.out)
      have HOS2 := Lib.hid (show ∀ x ∈ O, x < 256 by
        rcases HOS.out with ⟨h1, h2⟩ | h2
        · rw [h2]; exact good_small h1 HLD.out HDS.out
        · rw [h2]; exact noughts_small 64)
      have htl : tearN t ≤ 64 := Nat.min_le_left _ _
      have hkey := torn_sealed (k := k) HGB.out HLD.out HLE.out HDS.out HES.out H3.out (tearN t) htl O HOS.out
      rw [← hF] at hkey
      have HTO := Lib.hid (fun w => torn_any O F HOL.out HFL.out HFS.out t w)
      obtain ⟨T, hT⟩ : ∃ T, T = tornN O F (tearN t) := ⟨_, rfl⟩
      rw [← hT] at hkey HTO
      have HTL := Lib.hid (show T.length = 64 by rw [hT]; exact tornN_length O F _ HOL.out HFL.out htl)
      have HTS := Lib.hid (show ∀ x ∈ T, x < 256 by
        rw [hT]
        intro x hx
        rcases List.mem_append.1 hx with h | h
        · exact HFS.out x (List.mem_of_mem_take h)
        · exact HOS2.out x (List.mem_of_mem_drop h))
      have HKEY := Lib.hid hkey
      have HSF := Lib.hid (show Sec (w4.alloc (.cells (secV F) 50)) w4.heap.size F from heap_alloc_new w4 _)
      have HSO5 := Lib.hid (HSO4.out.alloc (.cells (secV F) 50))
      have HT5 := Lib.hid (HT4.out.old ((Below.refl w4.heap.size w4).alloc (Nat.le_refl _) (.cells (secV F) 50)))
      clear hb4 b0 b1 b2 hlen hF hkey hT htl
      go_upto_region 11 with fail
      clear hst hsz
      obtain ⟨w5, hw5⟩ : ∃ w5, w5 = w4.alloc (.cells (secV F) 50) := ⟨_, rfl⟩
      obtain ⟨f, hf⟩ : ∃ f, f = w4.heap.size := ⟨_, rfl⟩
      rw [← hw5, ← hf] at HSF
      rw [← hw5] at HSO5 HT5 ⊢
      rw [← hf]
      clear hw5 hf
      have hsz : (secV T).size = 64 := by rw [secV_size]; exact HTL.out
      have hst := fun w1 => store_new w1 T HTL.out
      go_wp2_with (first | refine wpList_load_sec (by rfl) (.tmp 7) rfl g rfl O HOL.out HSO5.out ?_ | refine wpList_load_sec (by rfl) (.tmp 9) rfl f rfl F HFL.out HSF.out ?_)
      refine Calls.mono (HTO.out _) ?_
      rintro e w6 ⟨rfl, hb6⟩
      have HSO6 := Lib.hid ((HSO5.out.old hb6).alloc (.cells (secV T) 50))
      have HSF6 := Lib.hid ((HSF.out.old hb6).alloc (.cells (secV T) 50))
      have HT6 := Lib.hid ((HT5.out.old hb6).old ((Below.refl w6.heap.size w6).alloc (Nat.le_refl _) (.cells (secV T) 50)))
      have HST := Lib.hid (show Sec (w6.alloc (.cells (secV T) 50)) w6.heap.size T from heap_alloc_new w6 _)
      clear hb6
      go_upto_region 12 with fail
      clear hst hsz
      obtain ⟨w7, hw7⟩ : ∃ w7, w7 = w6.alloc (.cells (secV T) 50) := ⟨_, rfl⟩
      obtain ⟨q, hq⟩ : ∃ q, q = w6.heap.size := ⟨_, rfl⟩
      rw [← hw7, ← hq] at HST
      rw [← hw7] at HSO6 HSF6 HT6 ⊢
      rw [← hq]
      clear hw7 hq
      have HOP := Lib.hid (fun w => open_any T HTL.out HTS.out w)
      go_wp2_with (first | refine wpList_load_sec (by rfl) (.tmp 10) rfl q rfl T HTL.out HST.out ?_)
      refine Calls.mono (HOP.out _) ?_
      rintro e w8 ⟨ho, hb8⟩
      have HSO8 := Lib.hid (HSO6.out.old hb8)
      have HSF8 := Lib.hid (HSF6.out.old hb8)
      have HST8 := Lib.hid (HST.out.old hb8)
      have HB8 := Lib.hid (HT6.out.old hb8).below
      clear hb8
      rcases ho with ⟨_, rfl⟩ | ⟨st, kd, d, A', c', h, rfl, _⟩
      · unfold eCorrupt
        go_wp2_with fail
        go_ret
        exact ⟨rfl, HB8.out⟩
      · have e1 := fun w => run_equalIn_deep' 9998 w T O HTL.out HOL.out HTS.out HOS2.out
        have e2 := fun w => run_equalIn_deep' 9998 w T F HTL.out HFL.out HTS.out HFS.out
        rcases HKEY.out with hk | hk | hk
        · rw [hk] at h; cases h
        · rw [show decide (T = O) = true from decide_eq_true hk] at e1
          clear e2 hk h
          go_wp2_with (first | refine wpList_load_sec (by rfl) (.tmp 10) rfl q rfl T HTL.out HST8.out ?_ | refine wpList_load_sec (by rfl) (.tmp 7) rfl g rfl O HOL.out HSO8.out ?_)
          go_ret
          exact ⟨rfl, HB8.out⟩
        · rw [show decide (T = F) = true from decide_eq_true hk] at e2
          obtain ⟨bb, hbb⟩ : ∃ bb, bb = decide (T = O) := ⟨_, rfl⟩
          rw [← hbb] at e1
          clear hbb hk h
          cases bb
          · go_wp2_with (first | refine wpList_load_sec (by rfl) (.tmp 10) rfl q rfl T HTL.out HST8.out ?_ | refine wpList_load_sec (by rfl) (.tmp 7) rfl g rfl O HOL.out HSO8.out ?_ | refine wpList_load_sec (by rfl) (.tmp 9) rfl f rfl F HFL.out HSF8.out ?_)
            go_ret
            exact ⟨rfl, HB8.out⟩
          · go_wp2_with (first | refine wpList_load_sec (by rfl) (.tmp 10) rfl q rfl T HTL.out HST8.out ?_ | refine wpList_load_sec (by rfl) (.tmp 7) rfl g rfl O HOL.out HSO8.out ?_)
            go_ret
            exact ⟨rfl, HB8.out⟩
    · obtain ⟨kk, hkk, HC0⟩ := seal_bad b l A2 n2 c2 w3 hgb hn2
      have HC2 := Lib.hid HC0
      clear hgb HC0
      go_wp2_with fail
      refine Calls.mono HC2.out ?_
      rintro e w4 ⟨rfl, hb4⟩
      have HB4 := Lib.hid (HT3.out.old hb4).below
      have hsz : (secV (noughts 64)).size = 64 := by rw [secV_size]; exact noughts64
      have hst := fun w1 => store_new w1 (noughts 64) noughts64
      clear hb4 b0 b1 b2
      go_upto_region 10 with fail
      clear hst hsz
      have HSN := Lib.hid (show Sec (w4.alloc (.cells (secV (noughts 64)) 50)) w4.heap.size (noughts 64) from heap_alloc_new w4 _)
      have HB5 := Lib.hid (HB4.out.alloc HB4.out.size (.cells (secV (noughts 64)) 50))
      obtain ⟨w5, hw5⟩ : ∃ w5, w5 = w4.alloc (.cells (secV (noughts 64)) 50) := ⟨_, rfl⟩
      obtain ⟨f, hf⟩ : ∃ f, f = w4.heap.size := ⟨_, rfl⟩
      rw [← hw5, ← hf] at HSN
      rw [← hw5] at HB5 ⊢
      rw [← hf]
      clear hw5 hf
      have e1 := equal_noughts
      go_wp2_with (first | refine wpList_load_sec (by rfl) (.tmp 9) rfl f rfl (noughts 64) noughts64 HSN.out ?_)
      go_ret
      exact ⟨rfl, HB5.out⟩
end Go.Proofs.Ytiemjgkpjmncfaa
