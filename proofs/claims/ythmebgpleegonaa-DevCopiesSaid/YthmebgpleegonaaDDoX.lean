/- An act by both, whatever its kind; acts opened with what they keep; sizes opened. -/
import Derived.Test.YthmebgpleegonaaDDoA
import Derived.Test.YthmebgpleegonaaDOpen
namespace Go.Proofs.Ythmebgpleegonaa
set_option maxRecDepth 100000
open Go.ChangeShapes Go.WideShapes Go.ChangeAt Go.RowKit

theorem do_any {w : World} {F X : Nat → Prop} {g : Nat} {p : Pw} {ds : List Dk} {K : Nat} {A : Option Addr} {c : Nat} {left : Int} (h : St w F g p ds K) (hr : RSet w X A c ds) (hk : LeftOk p left) (hx : ∀ k, X k → ¬ F k) (hok : OkN K ds) (hl : ds.length ≤ 1000) (hKb : K ≤ 1000000) (hps : p.steps ≤ K) (hpa : p.armed ≤ 9223372036854775807)
    (o : Opx) (hb : o.b < 256) (hn : o.n ≤ 9223372036854775807) (kl : List Kp) (hkp : ∀ (W : World) (F1 : Nat → Prop), Chg w W F F1 → Kps W o.A kl) (hkl : kl.length = o.m) (hml : o.m ≤ 1000000) :
    ∃ p' ds', Calls Try.prog 14 #[.pointer (some ⟨g, 0, none⟩), rsV A c ds p left, .agg #[.int .i64 o.kind, .int .i64 o.dev, .int .i64 o.n, .int .u8 (o.b : Int), .slice o.A o.m o.c]] w (DoPost w F X g K p' ds') ∧ OkN (K + 1) ds' ∧ p'.steps ≤ K + 1 ∧ p'.armed ≤ 9223372036854775807 ∧ ds'.map Dk.size = ds.map Dk.size := by
  obtain ⟨kd, dv, n, b, Ak, mk, ck⟩ := o
  dsimp only at hb hn hkp hkl hml ⊢
  by_cases h1 : kd = 1
  · subst h1
    obtain ⟨e1, e2, e3⟩ := writeM_le p ds dv n (Sx.full b hb)
    exact ⟨_, _, do_write h hr hk hx hok hl hKb hps hpa dv n b hb Ak mk ck, hok.write dv n _, by omega, by omega, e3⟩
  by_cases h2 : kd = 2
  · subst h2
    obtain ⟨e1, e2, e3⟩ := flushM_le p ds dv
    exact ⟨_, _, do_flush h hr hk hx hok hl hKb hps hpa dv n b hb Ak mk ck, (hok.flush dv).mono (Nat.le_succ _), by omega, by omega, e3⟩
  by_cases h5 : kd = 5
  · subst h5
    exact ⟨_, _, do_crash h hr hk hx hok hl hKb hps hpa dv n b hb Ak mk ck kl hkp hkl hml, (hok.crash kl).mono (Nat.le_succ _), by show p.steps ≤ K + 1; omega, by show 0 ≤ _; omega, crashM_size kl ds⟩
  by_cases h4 : kd = 4
  · subst h4
    by_cases hn0 : n < 0
    · exact ⟨_, _, do_arm_no h hr hk hx hok hl hKb hps hpa dv n b hb Ak mk ck hn0, hok.mono (Nat.le_succ _), by omega, hpa, rfl⟩
    · obtain ⟨m, rfl⟩ := Int.eq_ofNat_of_zero_le (show 0 ≤ n by omega)
      exact ⟨_, _, do_arm_yes h hr hk hx hok hl hKb hps hpa dv m b hb Ak mk ck (by omega), hok.mono (Nat.le_succ _), by show p.steps ≤ K + 1; omega, by show m ≤ _; omega, rfl⟩
  exact ⟨_, _, do_read h hr hk hx hok hl hKb hps hpa dv n b hb Ak mk ck kd h1 h2 h4 h5, hok.mono (Nat.le_succ _), by omega, hpa, rfl⟩
theorem cellsKp : Try.prog.cellsOf 54 = 3 := by kernel_rfl
/-- An act whose kept row lies in memory. -/
def OpOk (W : World) (o : Opx) : Prop := o.b < 256 ∧ o.n ≤ 9223372036854775807 ∧ ∃ l, Kps W o.A l ∧ l.length = o.m
section
variable {H : Type} {enc : TypeId × Value → H} {W : World} {sp : Nat → Bool}
theorem trod_struct3 {P : Program} {base : Nat} {held : Bool} {t : TypeId} {f0 f1 f2 : Field} {fuel : Nat} {cs : List Value} {x : DataW H × List MemPlace} (ht : P.underlying t = some (.struct #[f0, f1, f2])) (h : DataW.trod enc P W base sp held fuel t cs = some x) :
    ∃ y0 y1 y2 n, x = (.agg [y0.1, y1.1, y2.1], y0.2 ++ (y1.2 ++ y2.2)) ∧ cs.length = P.cellsOf t ∧ DataW.trod enc P W base sp held n f0.type ((cs.drop f0.offset).take (P.cellsOf f0.type)) = some y0 ∧
      DataW.trod enc P W base sp held n f1.type ((cs.drop f1.offset).take (P.cellsOf f1.type)) = some y1 ∧ DataW.trod enc P W base sp held n f2.type ((cs.drop f2.offset).take (P.cellsOf f2.type)) = some y2 := by
  obtain ⟨xs, n, _, rfl, hl, hlen, hf⟩ := DataW.trod_struct ht h
  match xs, hlen with
  | [y0, y1, y2], _ => exact ⟨y0, y1, y2, n, by simp, hl, by simpa using hf 0 f0 rfl, by simpa using hf 1 f1 rfl, by simpa using hf 2 f2 rfl⟩
theorem open_kp {fuel : Nat} {cs : List Value} {x : DataW H × List MemPlace} (hf : DataW.trod enc Try.prog W 0 sp true fuel 54 cs = some x) : ∃ q : Kp, cs = q.vals ∧ True := by
  obtain ⟨y0, y1, y2, n, _, hl, g0, g1, g2⟩ := trod_struct3 Try.underlying54 hf
  rw [cellsKp] at hl
  match cs, hl with
  | [v0, v1, v2], _ =>
    simp [cells3] at g0 g1 g2
    obtain ⟨a0, e0, _⟩ := DataW.trod_int Try.underlying3 g0
    obtain ⟨a1, e1, _⟩ := DataW.trod_int Try.underlying3 g1
    obtain ⟨a2, e2, _⟩ := DataW.trod_int Try.underlying3 g2
    injection e0 with e0
    injection e1 with e1
    injection e2 with e2
    exact ⟨⟨a0, a1, a2⟩, by rw [e0, e1, e2]; rfl, trivial⟩
theorem open_op2 {fuel : Nat} {cs : List Value} {x : DataW H × List MemPlace} (hf : DataW.trod enc Try.prog W 0 sp true fuel 40 cs = some x) : ∃ q : Opx, cs = q.vals ∧ OpOk W q := by
  obtain ⟨y0, y1, y2, y3, y4, n, _, hl, g0, g1, g2, g3, g4⟩ := trod_struct5 Try.underlying40 hf
  rw [cellsOp] at hl
  match cs, hl with
  | [v0, v1, v2, v3, v4], _ =>
    simp [cells3, cellsB, cellsKs] at g0 g1 g2 g3 g4
    obtain ⟨a0, e0, _⟩ := DataW.trod_int Try.underlying3 g0
    obtain ⟨a1, e1, _⟩ := DataW.trod_int Try.underlying3 g1
    obtain ⟨a2, e2, _, w2⟩ := DataW.trod_int Try.underlying3 g2
    obtain ⟨a3, e3, _, w3⟩ := DataW.trod_int Try.underlying5 g3
    injection e0 with e0
    injection e1 with e1
    injection e2 with e2
    injection e3 with e3
    have b3 := bounds_u8 w3
    have b2 := bounds_i64 w2
    obtain ⟨A, m, c, l, rfl, h1, _, _, _⟩ := open_rowat (f := Kp.vals) (k := 3) (fun _ : Kp => True) (fun _ => rfl) (by decide) Try.underlying38 cellsKp ⟨0, 0, 0⟩ open_kp g4
    refine ⟨⟨a0, a1, a2, a3.toNat, A, m, c⟩, by rw [e0, e1, e2, e3]; unfold Opx.vals; simp only; rw [Int.toNat_of_nonneg b3.1], by show a3.toNat < 256; omega, b2.2, l, ?_, h1.len⟩
    obtain rfl := h1.len
    exact h1
theorem open_ops2 {v : Value} {base : Nat} {r : Reach} {x : DataW H × List MemPlace} (hv : Value.okWide Try.prog W r base 23 v) (h : ∃ fuel, DataW.trod enc Try.prog W 0 sp true fuel 23 v.cells.toList = some x) :
    ∃ A c l, v = .slice A (List.length l) c ∧ Ops W A l ∧ l.length ≤ 9223372036854775807 ∧ ∀ o ∈ l, OpOk W o := by
  obtain ⟨B, len, cap, rfl⟩ := okWide_slice Try.underlying23 hv
  obtain ⟨fuel, hf⟩ := h
  obtain ⟨A, n, c, l, e, h1, h2, _, h4⟩ := open_rowat (OpOk W) Opx.vlen (by decide) Try.underlying23 cellsOp ⟨0, 0, 0, 0, none, 0, 0⟩ open_op2 (by simpa [Value.cells] using hf)
  obtain rfl := h1.len
  exact ⟨A, c, l, e, h1, h2, h4⟩
/-- A row of numbers. -/
def zV (n : Int) : List Value := [.int .i64 n]
abbrev Zs (w : World) (A : Option Addr) (l : List Int) : Prop := RowAt zV 1 w A l.length l
theorem open_z {fuel : Nat} {cs : List Value} {x : DataW H × List MemPlace} (hf : DataW.trod enc Try.prog W 0 sp true fuel 3 cs = some x) : ∃ q : Int, cs = zV q ∧ (-9223372036854775808 ≤ q ∧ q ≤ 9223372036854775807) := by
  obtain ⟨a0, e0, _, w0⟩ := DataW.trod_int Try.underlying3 hf
  exact ⟨a0, e0, bounds_i64 w0⟩
theorem open_zs {v : Value} {base : Nat} {r : Reach} {x : DataW H × List MemPlace} (hv : Value.okWide Try.prog W r base 22 v) (h : ∃ fuel, DataW.trod enc Try.prog W 0 sp true fuel 22 v.cells.toList = some x) :
    ∃ A c l, v = .slice A (List.length l) c ∧ Zs W A l ∧ l.length ≤ 9223372036854775807 ∧ ∀ n ∈ l, -9223372036854775808 ≤ n ∧ n ≤ 9223372036854775807 := by
  obtain ⟨B, len, cap, rfl⟩ := okWide_slice Try.underlying22 hv
  obtain ⟨fuel, hf⟩ := h
  obtain ⟨A, n, c, l, e, h1, h2, _, h4⟩ := open_rowat (f := zV) (k := 1) (fun n : Int => -9223372036854775808 ≤ n ∧ n ≤ 9223372036854775807) (fun _ => rfl) (by decide) Try.underlying22 cells3 0 open_z (by simpa [Value.cells] using hf)
  obtain rfl := h1.len
  exact ⟨A, c, l, e, h1, h2, h4⟩
end
end Go.Proofs.Ythmebgpleegonaa
