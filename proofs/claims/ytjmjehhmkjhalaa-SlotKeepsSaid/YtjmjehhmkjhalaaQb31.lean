/- SlGoodA, LTorn, LTornWalk, LTornLaw: put together. -/
import Derived.Test.YtjmjehhmkjhalaaQb30
import Derived.Test.YtjmjehhmkjhalaaQb22
import Derived.Test.YtjmjehhmkjhalaaQb28
/- slot.Good. Written by gen_slgood.py. -/
namespace Go.Proofs.Ytjmjehhmkjhalaa
set_option maxRecDepth 100000
open Go.RowKit

set_option maxHeartbeats 4000000 in
theorem slgood_any (m : Mf) (A : Option Addr) (c : Nat) (w : World) (h : Zs w A m.heads) (hn : m.heads.length ≤ 9223372036854775807) :
    Calls Try.prog 52 #[.agg (mfC m A c)] w fun e w' => e = .returned (.bool (goodB m)) ∧ Below w.heap.size w w' := by
  obtain ⟨g, e, b, a, l, hs⟩ := m
  dsimp only at h hn
  have HA := Lib.hid (fun W (hb : Below w.heap.size w W) => anyH_any A c hs W (RowAt.below h hb) hn)
  have HR := Lib.hid (show goodB ⟨g, e, b, a, l, hs⟩ = _ from rfl)
  obtain ⟨G, hG⟩ : ∃ G, G = goodB ⟨g, e, b, a, l, hs⟩ := ⟨_, rfl⟩
  unfold goodB at HR
  unfold goodB at hG
  dsimp only at hG
  clear HR
  unfold mfC
  dsimp only
  obtain ⟨q, hq⟩ : ∃ q, q = hs.any badH := ⟨_, rfl⟩
  rw [← hq] at HA hG
  obtain ⟨n, hnn⟩ : ∃ n, n = hs.length := ⟨_, rfl⟩
  rw [← hnn] at HA hG ⊢
  have HB := Lib.hid ((Below.refl w.heap.size w).alloc (Nat.le_refl _) (.cells #[.int .i64 g, .int .i64 e, .int .i64 b, .int .i64 a, .int .i64 l, .slice A n c] 93))
  have k0 : goodB ⟨g, e, b, a, l, hs⟩ = G := by rw [hG, hq, hnn]; rfl
  have k1 := Lib.hid k0
  have HG := Lib.hid hG
  clear hG hq hnn h hn k0
  rw [k1.out]
  clear k1
  by_cases h0 : 1 ≤ g
  case neg =>
    have d0 : decide (1 ≤ g) = false := decide_eq_false (by omega)
    have HE : Hid (decide (1 ≤ g) = false) := Lib.hid (decide_eq_false h0)
    go_enter Try.func52, Try.ntmps52
    go_wp2_with fail
    go_ret
    exact ⟨by rw [HG.out, HE.out]; simp, HB.out⟩
  have d0 : decide (1 ≤ g) = true := decide_eq_true (by omega)
  have E0 := Lib.hid (decide_eq_true h0)
  by_cases h1 : g ≤ 17179869183
  case neg =>
    have d1 : decide (g ≤ 17179869183) = false := decide_eq_false (by omega)
    have HE : Hid (decide (g ≤ 17179869183) = false) := Lib.hid (decide_eq_false h1)
    go_enter Try.func52, Try.ntmps52
    go_wp2_with fail
    go_ret
    exact ⟨by rw [HG.out, HE.out]; simp, HB.out⟩
  have d1 : decide (g ≤ 17179869183) = true := decide_eq_true (by omega)
  have E1 := Lib.hid (decide_eq_true h1)
  by_cases h2 : 1 ≤ e
  case neg =>
    have d2 : decide (1 ≤ e) = false := decide_eq_false (by omega)
    have HE : Hid (decide (1 ≤ e) = false) := Lib.hid (decide_eq_false h2)
    go_enter Try.func52, Try.ntmps52
    go_wp2_with fail
    go_ret
    exact ⟨by rw [HG.out, HE.out]; simp, HB.out⟩
  have d2 : decide (1 ≤ e) = true := decide_eq_true (by omega)
  have E2 := Lib.hid (decide_eq_true h2)
  by_cases h3 : e ≤ 65535
  case neg =>
    have d3 : decide (e ≤ 65535) = false := decide_eq_false (by omega)
    have HE : Hid (decide (e ≤ 65535) = false) := Lib.hid (decide_eq_false h3)
    go_enter Try.func52, Try.ntmps52
    go_wp2_with fail
    go_ret
    exact ⟨by rw [HG.out, HE.out]; simp, HB.out⟩
  have d3 : decide (e ≤ 65535) = true := decide_eq_true (by omega)
  have E3 := Lib.hid (decide_eq_true h3)
  by_cases h4 : 0 ≤ b
  case neg =>
    have d4 : decide (0 ≤ b) = false := decide_eq_false (by omega)
    have HE : Hid (decide (0 ≤ b) = false) := Lib.hid (decide_eq_false h4)
    go_enter Try.func52, Try.ntmps52
    go_wp2_with fail
    go_ret
    exact ⟨by rw [HG.out, HE.out]; simp, HB.out⟩
  have d4 : decide (0 ≤ b) = true := decide_eq_true (by omega)
  have E4 := Lib.hid (decide_eq_true h4)
  by_cases h5 : b ≤ 281474976710655
  case neg =>
    have d5 : decide (b ≤ 281474976710655) = false := decide_eq_false (by omega)
    have HE : Hid (decide (b ≤ 281474976710655) = false) := Lib.hid (decide_eq_false h5)
    go_enter Try.func52, Try.ntmps52
    go_wp2_with fail
    go_ret
    exact ⟨by rw [HG.out, HE.out]; simp, HB.out⟩
  have d5 : decide (b ≤ 281474976710655) = true := decide_eq_true (by omega)
  have E5 := Lib.hid (decide_eq_true h5)
  by_cases h6 : 0 ≤ a
  case neg =>
    have d6 : decide (0 ≤ a) = false := decide_eq_false (by omega)
    have HE : Hid (decide (0 ≤ a) = false) := Lib.hid (decide_eq_false h6)
    go_enter Try.func52, Try.ntmps52
    go_wp2_with fail
    go_ret
    exact ⟨by rw [HG.out, HE.out]; simp, HB.out⟩
  have d6 : decide (0 ≤ a) = true := decide_eq_true (by omega)
  have E6 := Lib.hid (decide_eq_true h6)
  by_cases h7 : a ≤ 1
  case neg =>
    have d7 : decide (a ≤ 1) = false := decide_eq_false (by omega)
    have HE : Hid (decide (a ≤ 1) = false) := Lib.hid (decide_eq_false h7)
    go_enter Try.func52, Try.ntmps52
    go_wp2_with fail
    go_ret
    exact ⟨by rw [HG.out, HE.out]; simp, HB.out⟩
  have d7 : decide (a ≤ 1) = true := decide_eq_true (by omega)
  have E7 := Lib.hid (decide_eq_true h7)
  by_cases h8 : 0 ≤ l
  case neg =>
    have d8 : decide (0 ≤ l) = false := decide_eq_false (by omega)
    have HE : Hid (decide (0 ≤ l) = false) := Lib.hid (decide_eq_false h8)
    go_enter Try.func52, Try.ntmps52
    go_wp2_with fail
    go_ret
    exact ⟨by rw [HG.out, HE.out]; simp, HB.out⟩
  have d8 : decide (0 ≤ l) = true := decide_eq_true (by omega)
  have E8 := Lib.hid (decide_eq_true h8)
  by_cases h9 : l ≤ 1048576
  case neg =>
    have d9 : decide (l ≤ 1048576) = false := decide_eq_false (by omega)
    have HE : Hid (decide (l ≤ 1048576) = false) := Lib.hid (decide_eq_false h9)
    go_enter Try.func52, Try.ntmps52
    go_wp2_with fail
    go_ret
    exact ⟨by rw [HG.out, HE.out]; simp, HB.out⟩
  have d9 : decide (l ≤ 1048576) = true := decide_eq_true (by omega)
  have E9 := Lib.hid (decide_eq_true h9)
  by_cases h10 : 1 ≤ n
  case neg =>
    have d10 : decide (1 ≤ (n : Int)) = false := decide_eq_false (by omega)
    have HE : Hid (decide (1 ≤ n) = false) := Lib.hid (decide_eq_false h10)
    go_enter Try.func52, Try.ntmps52
    go_wp2_with fail
    go_ret
    exact ⟨by rw [HG.out, HE.out]; simp, HB.out⟩
  have d10 : decide (1 ≤ (n : Int)) = true := decide_eq_true (by omega)
  have E10 := Lib.hid (decide_eq_true h10)
  by_cases h11 : n ≤ 4
  case neg =>
    have d11 : decide ((n : Int) ≤ 4) = false := decide_eq_false (by omega)
    have HE : Hid (decide (n ≤ 4) = false) := Lib.hid (decide_eq_false h11)
    go_enter Try.func52, Try.ntmps52
    go_wp2_with fail
    go_ret
    exact ⟨by rw [HG.out, HE.out]; simp, HB.out⟩
  have d11 : decide ((n : Int) ≤ 4) = true := decide_eq_true (by omega)
  have E11 := Lib.hid (decide_eq_true h11)
  clear h0 h1 h2 h3 h4 h5 h6 h7 h8 h9 h10 h11
  go_enter Try.func52, Try.ntmps52
  go_wp2_with fail
  refine Calls.mono (HA.out _ HB.out) ?_
  rintro e w1 ⟨rfl, hb1⟩
  have HB1 := Lib.hid (HB.out.trans (hb1.mono HB.out.size))
  clear hb1
  go_wp2_with fail
  go_ret
  exact ⟨by rw [HG.out, E0.out, E1.out, E2.out, E3.out, E4.out, E5.out, E6.out, E7.out, E8.out, E9.out, E10.out, E11.out]; simp, HB1.out⟩
end Go.Proofs.Ytjmjehhmkjhalaa

/- The contract of the document's Torn. -/
namespace Go.Proofs.Ytjmjehhmkjhalaa
set_option maxRecDepth 100000
open Go.RowKit

/-- How many bytes a tear takes. -/
def tearN (t : Int) : Nat := min 64 t.toNat
end Go.Proofs.Ytjmjehhmkjhalaa

/- SlabTorn answers true of whatever slabs and tear. -/
namespace Go.Proofs.Ytjmjehhmkjhalaa
set_option maxRecDepth 100000
open Go.RowKit

/-- A slab that is sealed. -/
def Good (st kd : Int) (n : Nat) : Prop := 1 ≤ st ∧ st ≤ 281474976710655 ∧ 1 ≤ kd ∧ kd ≤ 255 ∧ n ≤ 50
theorem noughts_small (k : Nat) : ∀ x ∈ noughts k, x < 256 := fun x hx => by rw [(List.mem_replicate.1 hx).2]; omega
end Go.Proofs.Ytjmjehhmkjhalaa

/- SlabTorn answers true of whatever slabs and tear: the walk. -/
namespace Go.Proofs.Ytjmjehhmkjhalaa
set_option maxRecDepth 100000
open Go.RowKit

theorem run_storeVar_sec {w : World} {g : Nat} {z l : List Nat} (h : Sec w g z) (hz : z.length = 64) (hl : l.length = 64) : (storeVar 75 ⟨g, 0, none⟩ (.agg (secV l))).run Try.prog w = .ok () (w.setRow g (secV l)) :=
  run_storeVar_row w g 75 75 (secV z) (secV l) h (info_sec hl) (by rw [secV_size, secV_size, hz, hl]) (secV_one l)
/-- A whole sector is stored. -/
theorem wpList_store_sec {ops : Array Oper} {rest : List Oper} {o : Oper} {a : Act} {w : World} {Q : Exit → Act → World → Prop} (hgd : o.guard = none) (x y : Operand) (ho : o.op = .store 75 x y)
    (g : Nat) (hx : a.eval x = .pointer (some ⟨g, 0, none⟩)) (z l : List Nat) (hy : a.eval y = .agg (secV l)) (hz : z.length = 64) (hl : l.length = 64) (h : Sec w g z) (k : wpList Try.prog ops Q rest (a.put o.dst undef) (w.setRow g (secV l))) : wpList Try.prog ops Q (o :: rest) a w := by
  refine wpList_plain hgd fun K hK => ?_
  unfold Oper.wp execOp
  simp only [ho, hx, hy, Instr.storeAt, Instr.sureAddr, Sem.run_bind, Sem.run_pure, Result.andThen_ok, run_storeVar_sec h hz hl]
  exact hK _ _ k
theorem equal_noughts (w : World) : (Op.equalIn 10000 75 (.agg (secV (noughts 64))) (.agg #[.int .u8 0, .int .u8 0, .int .u8 0, .int .u8 0, .int .u8 0, .int .u8 0, .int .u8 0, .int .u8 0, .int .u8 0, .int .u8 0, .int .u8 0, .int .u8 0, .int .u8 0, .int .u8 0, .int .u8 0, .int .u8 0, .int .u8 0, .int .u8 0, .int .u8 0, .int .u8 0, .int .u8 0, .int .u8 0, .int .u8 0, .int .u8 0, .int .u8 0, .int .u8 0, .int .u8 0, .int .u8 0, .int .u8 0, .int .u8 0, .int .u8 0, .int .u8 0, .int .u8 0, .int .u8 0, .int .u8 0, .int .u8 0, .int .u8 0, .int .u8 0, .int .u8 0, .int .u8 0, .int .u8 0, .int .u8 0, .int .u8 0, .int .u8 0, .int .u8 0, .int .u8 0, .int .u8 0, .int .u8 0, .int .u8 0, .int .u8 0, .int .u8 0, .int .u8 0, .int .u8 0, .int .u8 0, .int .u8 0, .int .u8 0, .int .u8 0, .int .u8 0, .int .u8 0, .int .u8 0, .int .u8 0, .int .u8 0, .int .u8 0, .int .u8 0])).run Try.prog w = .ok true w := by
  rw [zeros_sec]
  have h := run_equalIn_deep' 9998 w (noughts 64) (noughts 64) noughts64 noughts64 (noughts_small 64) (noughts_small 64)
  rw [decide_eq_true rfl] at h
  exact h
/-- A slab as it came in, in a block. -/
def Ar (w : World) (g : Nat) (a k : Int) (S : Value) : Prop := w.heap[g]? = some (.cells #[.int .i64 a, .int .i64 k, S] 172 (0, 0))
theorem Ar.old {w w' : World} {B g : Nat} {a k : Int} {S : Value} (h : Ar w g a k S) (hb : Below B w w') (hg : g < B) : Ar w' g a k S := (hb.block g hg).trans h
theorem Ar.c0 {w : World} {g : Nat} {a k : Int} {S : Value} (h : Ar w g a k S) : w.cell? ⟨g, 0, none⟩ = some (.int .i64 a) := cell_of_row w g 0 _ 172 (0, 0) h
theorem Ar.c1 {w : World} {g : Nat} {a k : Int} {S : Value} (h : Ar w g a k S) : w.cell? ⟨g, 1, none⟩ = some (.int .i64 k) := cell_of_row w g 1 _ 172 (0, 0) h
theorem Ar.c2 {w : World} {g : Nat} {a k : Int} {S : Value} (h : Ar w g a k S) : w.cell? ⟨g, 2, none⟩ = some S := cell_of_row w g 2 _ 172 (0, 0) h
/-- What the law knows of its two arguments, in each world behind. -/
structure Two (w0 : World) (a k b l : Int) (A : Option Addr) (n c : Nat) (ds : List Nat) (A2 : Option Addr) (n2 c2 : Nat) (es : List Nat) (w : World) : Prop where
  one : Ar w w0.heap.size a k (.slice A n c)
  two : Ar w (w0.heap.size + 1) b l (.slice A2 n2 c2)
  ra : Rdv w A n 1 (valsB ds)
  rb : Rdv w A2 n2 1 (valsB es)
  below : Below w0.heap.size w0 w
  size : w0.heap.size + 2 ≤ w.heap.size
theorem Two.old {w0 w w' : World} {a k b l : Int} {A : Option Addr} {n c : Nat} {ds : List Nat} {A2 : Option Addr} {n2 c2 : Nat} {es : List Nat} (h : Two w0 a k b l A n c ds A2 n2 c2 es w) (hb : Below w.heap.size w w') : Two w0 a k b l A n c ds A2 n2 c2 es w' :=
  ⟨h.one.old hb (by have := h.size; omega), h.two.old hb (by have := h.size; omega), h.ra.ext (stays_b hb), h.rb.ext (stays_b hb), h.below.trans (hb.mono h.below.size), Nat.le_trans h.size hb.size⟩
end Go.Proofs.Ytjmjehhmkjhalaa
