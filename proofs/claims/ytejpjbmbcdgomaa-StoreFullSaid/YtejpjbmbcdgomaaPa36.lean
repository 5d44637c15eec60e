/- SOpen, SGet: put together. -/
import Derived.Test.YtejpjbmbcdgomaaPa35
import Derived.ProofKit
import Derived.OpenShut
import Derived.Deep.Slices
import Derived.Deep.Strs
import Derived.ShutString
import Derived.ChangeOld
import Derived.WideShapes
import Derived.Test.YtejpjbmbcdgomaaPa32
/- Acts on a store, opened. -/
namespace Go.Proofs.Ytejpjbmbcdgomaa
set_option maxRecDepth 100000
open Go.ChangeShapes Go.WideShapes Go.ChangeAt Go.RowKit

theorem addr_add' (b off j : Nat) : (⟨b, off, none⟩ : Addr).add j = ⟨b, off + j, none⟩ := by
  unfold Addr.add
  by_cases h : j = 0
  · subst h; simp
  · simp [h]
theorem RowAt.of {α : Type} {f : α → List Value} {k : Nat} {W : World} {n : Nat} {l : List α} (hf : ∀ x, (f x).length = k) (hk : 0 < k) (hl : l.length = n) (b off : Nat) (hc : ∀ (i : Nat) (hi : i < l.length) (r : Nat) (u : Value), r < k → (f l[i])[r]? = some u → W.cell? ⟨b, off + i * k + r, none⟩ = some u) : RowAt f k W (some ⟨b, off, none⟩) n l := by
  have hlen : (rowV f l).length = n * k := by
    rw [← hl]
    clear hl hc
    induction l with
    | nil => simp [rowV]
    | cons a l ih =>
      have e : rowV f (a :: l) = f a ++ rowV f l := by simp [rowV]
      rw [e, List.length_append, ih, hf, List.length_cons, Nat.succ_mul, Nat.add_comm]
  refine ⟨hl, hlen, fun _ => ⟨b, off, rfl, fun j u hj => ?_⟩⟩
  have hjl : j < n * k := by rw [← hlen]; exact (List.getElem?_eq_some_iff.1 hj).1
  have h1 : j / k < l.length := by rw [hl]; exact Nat.div_lt_of_lt_mul (by rw [Nat.mul_comm]; exact hjl)
  have h2 : j % k < k := Nat.mod_lt _ hk
  have e : j / k * k + j % k = j := Nat.div_add_mod' j k
  have h3 := rowV_get f k hf l (j / k) h1 (j % k) h2
  rw [e, hj] at h3
  have h4 := hc (j / k) h1 (j % k) u h2 h3.symm
  rw [Nat.add_assoc, e] at h4
  exact h4
section
variable {H : Type} {enc : TypeId × Value → H} {W : World} {sp : Nat → Bool}
theorem trod_struct3 {P : Program} {base : Nat} {held : Bool} {t : TypeId} {f0 f1 f2 : Field} {fuel : Nat} {cs : List Value} {x : DataW H × List MemPlace} (ht : P.underlying t = some (.struct #[f0, f1, f2])) (h : DataW.trod enc P W base sp held fuel t cs = some x) :
    ∃ y0 y1 y2 n, x = (.agg [y0.1, y1.1, y2.1], y0.2 ++ (y1.2 ++ y2.2)) ∧ cs.length = P.cellsOf t ∧ DataW.trod enc P W base sp held n f0.type ((cs.drop f0.offset).take (P.cellsOf f0.type)) = some y0 ∧
      DataW.trod enc P W base sp held n f1.type ((cs.drop f1.offset).take (P.cellsOf f1.type)) = some y1 ∧ DataW.trod enc P W base sp held n f2.type ((cs.drop f2.offset).take (P.cellsOf f2.type)) = some y2 := by
  obtain ⟨xs, n, _, rfl, hl, hlen, hf⟩ := DataW.trod_struct ht h
  match xs, hlen with
  | [y0, y1, y2], _ => exact ⟨y0, y1, y2, n, by simp, hl, by simpa using hf 0 f0 rfl, by simpa using hf 1 f1 rfl, by simpa using hf 2 f2 rfl⟩
theorem open_rowat {α : Type} {f : α → List Value} {k : Nat} (p : α → Prop) (hf : ∀ x, (f x).length = k) (hk : 0 < k) {t e : TypeId} (hu : Try.prog.underlying t = some (.slice e)) (he : Try.prog.cellsOf e = k) (d : α)
    (ho : ∀ {fuel : Nat} {cs : List Value} {x : DataW H × List MemPlace}, DataW.trod enc Try.prog W 0 sp true fuel e cs = some x → ∃ q : α, cs = f q ∧ p q) {fuel : Nat} {v : Value} {x : DataW H × List MemPlace} (hin : DataW.trod enc Try.prog W 0 sp true fuel t [v] = some x) :
    ∃ A n c l, v = .slice A n c ∧ RowAt f k W A n l ∧ n ≤ 9223372036854775807 ∧ (A = none → c = 0) ∧ ∀ s ∈ l, p s := by
  rcases Go.Deep.open_slice hu hin with ⟨hcs, _⟩ | ⟨a, len, cap, m, k2, D, Pl, hcs, _, hl, hm, hmm, _, hx⟩
  · injection hcs with hcs
    subst hcs
    exact ⟨none, 0, 0, [], rfl, ⟨rfl, by simp [rowV], fun hn => absurd hn (by omega)⟩, by decide, fun _ => rfl, fun s hs => by simp at hs⟩
  · injection hcs with hcs
    subst hcs
    unfold maxLen at hm
    have hlm : len ≤ m := by rw [hmm]; split <;> omega
    have hall : ∀ j, ∃ q : α, j < len → W.cells? 0 (a.add (j * k)) k = some (f q) ∧ p q := by
      intro j
      by_cases hj : j < len
      · obtain ⟨cs', h1, h2⟩ := hx j (by omega)
        rw [he] at h1
        obtain ⟨q, rfl, hp⟩ := ho h2
        exact ⟨q, fun _ => ⟨h1, hp⟩⟩
      · exact ⟨d, fun h => absurd h hj⟩
    obtain ⟨F, hall⟩ := Classical.axiomOfChoice hall
    rcases Nat.eq_zero_or_pos len with h0 | h0
    · subst h0
      exact ⟨some a, 0, cap, [], rfl, ⟨rfl, by simp [rowV], fun hn => absurd hn (by omega)⟩, by decide, fun h => absurd h (by simp), fun s hs => by simp at hs⟩
    obtain ⟨b, off, spot⟩ := a
    obtain ⟨_, _, h0'⟩ := World.cells?_some (hall 0 h0).1
    have h00 := h0' 0 hk
    rw [List.getElem?_eq_getElem (by rw [hf]; exact hk)] at h00
    have hspot : spot = none := by simpa [Addr.add] using World.cell?_spot h00
    subst hspot
    refine ⟨_, len, cap, (List.range len).map F, rfl, RowAt.of hf hk (by simp) b off fun j hj r u hr hu => ?_, by omega, fun h => absurd h (by simp), fun s hs => ?_⟩
    · have hj' : j < len := by simpa using hj
      obtain ⟨_, _, h1⟩ := World.cells?_some (hall j hj').1
      have c0 := h1 r (by omega)
      simp only [addr_add'] at c0
      simp only [List.getElem_map, List.getElem_range] at hu
      rw [c0]
      simpa using hu
    · rw [List.mem_map] at hs
      obtain ⟨i, hi, rfl⟩ := hs
      exact (hall i (List.mem_range.1 hi)).2
end
/-- An act: a transaction's number, its writes where they lie. -/
structure Oq where
  q : Int
  A : Option Addr
  c : Nat
  ws : List Wr
  pg : Bool
def Oq.vals (o : Oq) : List Value := [.int .i64 o.q, .slice o.A o.ws.length o.c, .bool o.pg]
theorem Oq.vlen (o : Oq) : o.vals.length = 3 := rfl
/-- A write of numbers. -/
def WrOk (x : Wr) : Prop := (-9223372036854775808 ≤ x.k ∧ x.k ≤ 9223372036854775807) ∧ (-9223372036854775808 ≤ x.v ∧ x.v ≤ 9223372036854775807)
structure OqOk (W : World) (o : Oq) : Prop where
  row : Wrs W o.A o.ws
  nums : ∀ x ∈ o.ws, WrOk x
  big : o.ws.length ≤ 9223372036854775807
  num : -9223372036854775808 ≤ o.q ∧ o.q ≤ 9223372036854775807
  nil : o.A = none → o.c = 0
theorem OqOk.numW {W : World} {o : Oq} (h : OqOk W o) : NumW o.ws := fun x hx => (h.nums x hx).1
theorem OqOk.below {W W' : World} {o : Oq} (h : OqOk W o) (hb : Below W.heap.size W W') : OqOk W' o := ⟨RowAt.below h.row hb, h.nums, h.big, h.num, h.nil⟩
/-- Acts as they lie. -/
structure Acts (W : World) (A : Option Addr) (os : List Oq) : Prop where
  row : RowAt Oq.vals 3 W A os.length os
  ok : ∀ o ∈ os, OqOk W o
  big : os.length ≤ 9223372036854775807
theorem Acts.below {W W' : World} {A : Option Addr} {os : List Oq} (h : Acts W A os) (hb : Below W.heap.size W W') : Acts W' A os := ⟨RowAt.below h.row hb, fun o ho => (h.ok o ho).below hb, h.big⟩
theorem Acts.cell {W : World} {A : Option Addr} {os : List Oq} (h : Acts W A os) (hn : 0 < os.length) : ∃ b off, A = some ⟨b, off, none⟩ ∧ ∀ q (hq : q < os.length), W.cell? ⟨b, off + q * 3, none⟩ = some (.int .i64 os[q].q) ∧ W.cell? ⟨b, off + q * 3 + 1, none⟩ = some (.slice os[q].A os[q].ws.length os[q].c) ∧ W.cell? ⟨b, off + q * 3 + 2, none⟩ = some (.bool os[q].pg) := by
  obtain ⟨b, off, e, hc⟩ := RowAt.cells h.row Oq.vlen hn
  exact ⟨b, off, e, fun q hq => ⟨hc q hq 0 _ (by omega) rfl, hc q hq 1 _ (by omega) rfl, hc q hq 2 _ (by omega) rfl⟩⟩
theorem cells3 : Try.prog.cellsOf 3 = 1 := by kernel_rfl
theorem cellsBo : Try.prog.cellsOf 4 = 1 := by kernel_rfl
theorem cellsKy : Try.prog.cellsOf 42 = 2 := by kernel_rfl
theorem cellsWr : Try.prog.cellsOf 51 = 4 := by kernel_rfl
theorem cellsWs : Try.prog.cellsOf 32 = 1 := by kernel_rfl
theorem cellsOp : Try.prog.cellsOf 34 = 3 := by kernel_rfl
section
variable {H : Type} {enc : TypeId × Value → H} {W : World} {sp : Nat → Bool}
theorem trod_struct2 {P : Program} {base : Nat} {held : Bool} {t : TypeId} {f0 f1 : Field} {fuel : Nat} {cs : List Value} {x : DataW H × List MemPlace} (ht : P.underlying t = some (.struct #[f0, f1])) (h : DataW.trod enc P W base sp held fuel t cs = some x) :
    ∃ y0 y1 n, x = (.agg [y0.1, y1.1], y0.2 ++ y1.2) ∧ cs.length = P.cellsOf t ∧ DataW.trod enc P W base sp held n f0.type ((cs.drop f0.offset).take (P.cellsOf f0.type)) = some y0 ∧
      DataW.trod enc P W base sp held n f1.type ((cs.drop f1.offset).take (P.cellsOf f1.type)) = some y1 := by
  obtain ⟨xs, n, _, rfl, hl, hlen, hf⟩ := DataW.trod_struct ht h
  match xs, hlen with
  | [y0, y1], _ => exact ⟨y0, y1, n, by simp, hl, by simpa using hf 0 f0 rfl, by simpa using hf 1 f1 rfl⟩
theorem open_wr {fuel : Nat} {cs : List Value} {x : DataW H × List MemPlace} (hf : DataW.trod enc Try.prog W 0 sp true fuel 51 cs = some x) : ∃ q : Wr, cs = q.vals ∧ WrOk q := by
  obtain ⟨y0, y1, y2, n, _, hl, g0, g1, g2⟩ := trod_struct3 Try.underlying51 hf
  rw [cellsWr] at hl
  match cs, hl with
  | [v0, v1, v2, v3], _ =>
    simp [cells3, cellsBo, cellsKy] at g0 g1 g2
    obtain ⟨z0, z1, n2, _, hl2, k0, k1⟩ := trod_struct2 Try.underlying42 g0
    simp [cells3] at k0 k1
    obtain ⟨a0, e0, _⟩ := DataW.trod_int Try.underlying3 k0
    obtain ⟨a1, e1, _, w1⟩ := DataW.trod_int Try.underlying3 k1
    obtain ⟨a2, e2, _, w2⟩ := DataW.trod_int Try.underlying3 g1
    obtain ⟨b3, e3, _⟩ := DataW.trod_bool Try.underlying4 g2
    injection e0 with e0
    injection e1 with e1
    injection e2 with e2
    injection e3 with e3
    exact ⟨⟨a0, a1, a2, b3⟩, by rw [e0, e1, e2, e3]; rfl, bounds_i64 w1, bounds_i64 w2⟩
theorem open_op {fuel : Nat} {cs : List Value} {x : DataW H × List MemPlace} (hf : DataW.trod enc Try.prog W 0 sp true fuel 34 cs = some x) : ∃ o : Oq, cs = o.vals ∧ OqOk W o := by
  obtain ⟨y0, y1, y2, n, _, hl, g0, g1, g2⟩ := trod_struct3 Try.underlying34 hf
  rw [cellsOp] at hl
  match cs, hl with
  | [v0, v1, v2], _ =>
    simp [cells3, cellsBo, cellsWs] at g0 g1 g2
    obtain ⟨a0, e0, _, w0⟩ := DataW.trod_int Try.underlying3 g0
    obtain ⟨A, m, c, l, e1, h1, h2, h3, h4⟩ := open_rowat (f := Wr.vals) WrOk Wr.vlen (by decide) Try.underlying32 cellsWr ⟨0, 0, 0, false⟩ open_wr g1
    obtain ⟨b2, e2, _⟩ := DataW.trod_bool Try.underlying4 g2
    injection e0 with e0
    injection e2 with e2
    obtain rfl := h1.len
    exact ⟨⟨a0, A, c, l, b2⟩, by rw [e0, e1, e2]; rfl, ⟨h1, h4, h2, bounds_i64 w0, h3⟩⟩
theorem open_acts {v : Value} {base : Nat} {r : Reach} {x : DataW H × List MemPlace} (hv : Value.okWide Try.prog W r base 22 v) (h : ∃ fuel, DataW.trod enc Try.prog W 0 sp true fuel 22 v.cells.toList = some x) :
    ∃ A c os, v = .slice A (List.length os) c ∧ Acts W A os := by
  obtain ⟨B, len, cap, rfl⟩ := okWide_slice Try.underlying22 hv
  obtain ⟨fuel, hf⟩ := h
  obtain ⟨A, n, c, l, e, h1, h2, _, h4⟩ := open_rowat (f := Oq.vals) (OqOk W) Oq.vlen (by decide) Try.underlying22 cellsOp ⟨0, none, 0, [], false⟩ open_op (by simpa [Value.cells] using hf)
  obtain rfl := h1.len
  exact ⟨A, c, l, e, ⟨h1, h4, h2⟩⟩
end
end Go.Proofs.Ytejpjbmbcdgomaa

/- Get of a store. -/
namespace Go.Proofs.Ytejpjbmbcdgomaa
set_option maxRecDepth 100000
open Go.RowKit

def gok (o : Option Cl) : Bool := o.isSome && !(cv o).dead
def gv (o : Option Cl) : Int := if gok o then (cv o).v else 0
theorem one_gok (o : Option Cl) : one o = if gok o then 1 else 0 := by
  unfold one gok
  cases o with
  | none => rfl
  | some c => show (if c.dead then 0 else 1) = if (true && !c.dead) = true then 1 else 0; cases c.dead <;> rfl
set_option maxHeartbeats 4000000 in
theorem get_gen {w : World} {p : Option Addr} {t k : Int} {o : Option Cl} (h : ∀ w1, Below w.heap.size w w1 → Calls Try.prog 68 #[.pointer p, .agg #[.int .i64 t, .int .i64 k]] w1 fun e w' => e = .returned (ansC o) ∧ Below w1.heap.size w1 w') :
    Calls Try.prog 46 #[.pointer p, .agg #[.int .i64 t, .int .i64 k]] w fun e w' => e = .returned (.tuple #[.int .i64 (gv o), .bool (gok o)]) ∧ Below w.heap.size w w' := by
  have hb : Below w.heap.size w (w.alloc (.cells #[.int .i64 t, .int .i64 k] 42)) := (Below.refl _ _).alloc (Nat.le_refl _) _
  have HB := Lib.hid hb
  have HC := Lib.hid (h _ hb)
  obtain ⟨ok, hok⟩ : ∃ ok, ok = o.isSome := ⟨_, rfl⟩
  obtain ⟨cl, hcl⟩ : ∃ cl, cl = cv o := ⟨_, rfl⟩
  have HG : Hid (gok o = (ok && !cl.dead) ∧ gv o = if (ok && !cl.dead) then cl.v else 0) := Lib.hid ⟨by rw [hok, hcl]; rfl, by rw [hok, hcl]; rfl⟩
  obtain ⟨va, hva⟩ : ∃ va, va = gv o := ⟨_, rfl⟩
  obtain ⟨vb, hvb⟩ : ∃ vb, vb = gok o := ⟨_, rfl⟩
  rw [← hva, ← hvb] at HG ⊢
  unfold ansC at HC
  rw [← hok, ← hcl] at HC
  clear hb h hok hcl hva hvb
  go_enter Try.func46, Try.ntmps46
  go_wp2_with fail
  refine Calls.mono HC.out ?_
  rintro e w2 ⟨rfl, hb2⟩
  have HE := Lib.hid ((HB.out.trans (hb2.mono HB.out.size)).alloc (HB.out.trans (hb2.mono HB.out.size)).size (.cells #[.int .i64 cl.v, .int .i64 cl.s, .bool cl.dead] 44))
  clear hb2
  obtain ⟨dd, hdd⟩ : ∃ dd, dd = cl.dead := ⟨_, rfl⟩
  rw [← hdd] at HE HG ⊢
  clear hdd
  cases ok with
  | false =>
    go_wp2_with fail
    go_ret2
    exact ⟨by rw [HG.out.1, HG.out.2]; rfl, HE.out⟩
  | true =>
    cases dd with
    | true =>
      go_wp2_with fail
      go_ret2
      exact ⟨by rw [HG.out.1, HG.out.2]; rfl, HE.out⟩
    | false =>
      go_wp2_with fail
      go_ret2
      exact ⟨by rw [HG.out.1, HG.out.2]; rfl, HE.out⟩
theorem sget_any {w : World} {G : Nat → Prop} {sb : Nat} {ts : Tb} {live last : Int} (h : SM w G sb ts live last) (t k : Int) :
    Calls Try.prog 46 #[.pointer (some ⟨sb, 0, none⟩), .agg #[.int .i64 t, .int .i64 k]] w fun e w' => e = .returned (.tuple #[.int .i64 (gv (cellAt ts t k)), .bool (gok (cellAt ts t k))]) ∧ Below w.heap.size w w' :=
  get_gen fun _ hb => cell_any (h.below hb) t k
theorem sget_nil (w : World) (t k : Int) : Calls Try.prog 46 #[.pointer none, .agg #[.int .i64 t, .int .i64 k]] w fun e w' => e = .returned (.tuple #[.int .i64 0, .bool false]) ∧ Below w.heap.size w w' :=
  get_gen (o := none) fun w1 _ => cell_nil w1 t k
end Go.Proofs.Ytejpjbmbcdgomaa
