/- The document's writes and sectors in rows: their operations. -/
import Derived.Test.YthmebgpleegonaaDRefW
namespace Go.Proofs.Ythmebgpleegonaa
set_option maxRecDepth 100000
open Go.RowKit

theorem built_wr' (i : Int) (f : Nat → Nat) : Try.prog.built 110 [(0, .int .i64 i), (1, .agg (valsB ((List.range 64).map f)).toArray)] = some (Value.int .i64 i :: valsB ((List.range 64).map f)).toArray := by kernel_rfl
theorem built_wr (y : Wx) : Try.prog.built 110 [(0, .int .i64 y.i), (1, y.x.val)] = some y.arr := by
  have h := built_wr' y.i fun j => y.x.l.getD j 0
  rw [← range_get y.x.l y.x.len] at h
  exact h
theorem run_build_wr (w : World) (y : Wx) : (Instr.build 110 #[(0, .int .i64 y.i), (1, y.x.val)]).run Try.prog w = .ok y.val w := run_build w 110 _ _ (built_wr y)
theorem wp_build_wr {w : World} {o : Oper} {a : Act} {K : Act → World → Prop} {Q : Exit → Act → World → Prop} (x1 x2 : Operand) (ho : o.op = .build 110 #[(0, x1), (1, x2)]) (y : Wx) (h1 : a.eval x1 = .int .i64 y.i) (h2 : a.eval x2 = y.x.val) (h : K (a.put o.dst y.val) w) : Oper.wp Try.prog o a w K Q := by
  unfold Oper.wp execOp
  simp only [ho, List.map_toArray, List.map_cons, List.map_nil, h1, h2, run_build_wr, Sem.run_bind, Sem.run_pure, Result.andThen_ok]
  exact h
theorem sliced_wr' (i : Int) (f : Nat → Nat) : Try.prog.builtSlice 110 1 [(0, .agg (Value.int .i64 i :: valsB ((List.range 64).map f)).toArray)] = some (Value.int .i64 i :: valsB ((List.range 64).map f)).toArray := by kernel_rfl
theorem sliced_wr (y : Wx) : Try.prog.builtSlice 110 1 [(0, y.val)] = some y.arr := by
  have h := sliced_wr' y.i fun j => y.x.l.getD j 0
  rw [← range_get y.x.l y.x.len] at h
  exact h
theorem run_slice_wr (w : World) (y : Wx) : (Instr.buildSlice 83 1 #[(0, y.val)]).run Try.prog w = .ok (.slice (some ⟨w.heap.size, 0, none⟩) 1 1) (w.alloc (.cells y.arr 110)) := by
  have hf := sliced_wr y
  unfold Program.builtSlice at hf
  cases hie : Try.prog.info? 110 with
  | none => simp [hie] at hf
  | some ie =>
    simp only [hie] at hf
    cases hz : ie.zero with
    | none => simp [hz] at hf
    | some z =>
      simp only [hz] at hf
      by_cases hc : 1 * ie.size > 2 ^ 24 ∨ 1 * ie.size = 0
      · exfalso
        simp at hf
        omega
      · rw [if_neg hc] at hf
        exact run_buildSlice w 83 110 1 _ y.arr ie z Try.underlying83 hie hz (fun h' => hc (Or.inl h')) (fun h' => hc (Or.inr h')) hf
theorem wp_slice_wr {w : World} {o : Oper} {a : Act} {K : Act → World → Prop} {Q : Exit → Act → World → Prop} (x1 : Operand) (ho : o.op = .buildSlice 83 1 #[(0, x1)]) (y : Wx) (h1 : a.eval x1 = y.val) (h : K (a.put o.dst (.slice (some ⟨w.heap.size, 0, none⟩) 1 1)) (w.alloc (.cells y.arr 110))) : Oper.wp Try.prog o a w K Q := by
  unfold Oper.wp execOp
  simp only [ho, List.map_toArray, List.map_cons, List.map_nil, h1, run_slice_wr, Sem.run_bind, Sem.run_pure, Result.andThen_ok]
  exact h
theorem elemRW : ElemT Try.prog 83 110 65 72 :=
  ⟨Try.underlying83, by kernel_rfl, by
    obtain ⟨i, hi, hz, h1, _⟩ := info_parts (show (Try.prog.info? 110).map (fun i => (i.zero, i.size, i.bytes)) = some (some (.agg #[.int .i64 0, .int .u8 0, .int .u8 0, .int .u8 0, .int .u8 0, .int .u8 0, .int .u8 0, .int .u8 0, .int .u8 0, .int .u8 0, .int .u8 0, .int .u8 0, .int .u8 0, .int .u8 0, .int .u8 0, .int .u8 0, .int .u8 0, .int .u8 0, .int .u8 0, .int .u8 0, .int .u8 0, .int .u8 0, .int .u8 0, .int .u8 0, .int .u8 0, .int .u8 0, .int .u8 0, .int .u8 0, .int .u8 0, .int .u8 0, .int .u8 0, .int .u8 0, .int .u8 0, .int .u8 0, .int .u8 0, .int .u8 0, .int .u8 0, .int .u8 0, .int .u8 0, .int .u8 0, .int .u8 0, .int .u8 0, .int .u8 0, .int .u8 0, .int .u8 0, .int .u8 0, .int .u8 0, .int .u8 0, .int .u8 0, .int .u8 0, .int .u8 0, .int .u8 0, .int .u8 0, .int .u8 0, .int .u8 0, .int .u8 0, .int .u8 0, .int .u8 0, .int .u8 0, .int .u8 0, .int .u8 0, .int .u8 0, .int .u8 0, .int .u8 0, .int .u8 0]), 65, 72) by kernel_rfl)
    exact ⟨i, _, hi, hz, rfl⟩, by decide⟩
theorem elemRS : ElemT Try.prog 82 50 64 64 :=
  ⟨Try.underlying82, by kernel_rfl, by
    obtain ⟨i, hi, hz, h1, _⟩ := info_parts (show (Try.prog.info? 50).map (fun i => (i.zero, i.size, i.bytes)) = some (some (.agg #[.int .u8 0, .int .u8 0, .int .u8 0, .int .u8 0, .int .u8 0, .int .u8 0, .int .u8 0, .int .u8 0, .int .u8 0, .int .u8 0, .int .u8 0, .int .u8 0, .int .u8 0, .int .u8 0, .int .u8 0, .int .u8 0, .int .u8 0, .int .u8 0, .int .u8 0, .int .u8 0, .int .u8 0, .int .u8 0, .int .u8 0, .int .u8 0, .int .u8 0, .int .u8 0, .int .u8 0, .int .u8 0, .int .u8 0, .int .u8 0, .int .u8 0, .int .u8 0, .int .u8 0, .int .u8 0, .int .u8 0, .int .u8 0, .int .u8 0, .int .u8 0, .int .u8 0, .int .u8 0, .int .u8 0, .int .u8 0, .int .u8 0, .int .u8 0, .int .u8 0, .int .u8 0, .int .u8 0, .int .u8 0, .int .u8 0, .int .u8 0, .int .u8 0, .int .u8 0, .int .u8 0, .int .u8 0, .int .u8 0, .int .u8 0, .int .u8 0, .int .u8 0, .int .u8 0, .int .u8 0, .int .u8 0, .int .u8 0, .int .u8 0, .int .u8 0]), 64, 64) by kernel_rfl)
    exact ⟨i, _, hi, hz, rfl⟩, by decide⟩
theorem info110 : (Try.prog.info? 110).map (·.size) = some 65 := by kernel_rfl
theorem load_wr {w : World} {b off : Nat} {y : Wx} (h : At w b off y.vals) : (loadVar 110 ⟨b, off, none⟩).run Try.prog w = .ok y.val w :=
  run_loadVar_at 110 _ y.arr (by unfold Wx.arr; simpa using h) Try.underlying110 rfl (by rw [y.size]; exact info110)
theorem arm_build_r {ops : Array Oper} {w : World} {o : Oper} {a : Act} {K : Act → World → Prop} {Q : Exit → Act → World → Prop} (x1 x2 : Operand) (hg : o.guard = none) (ho : o.op = .build 110 #[(0, x1), (1, x2)]) (y : Wx) (h1 : a.eval x1 = .int .i64 y.i) (h2 : a.eval x2 = y.x.val) (h : K (a.put o.dst y.val) w) : Arm Try.prog ops Q o K a w := arm_of hg (wp_build_wr x1 x2 ho y h1 h2 h)
theorem arm_slice_r {ops : Array Oper} {w : World} {o : Oper} {a : Act} {K : Act → World → Prop} {Q : Exit → Act → World → Prop} (x1 : Operand) (hg : o.guard = none) (ho : o.op = .buildSlice 83 1 #[(0, x1)]) (y : Wx) (h1 : a.eval x1 = y.val) (h : K (a.put o.dst (.slice (some ⟨w.heap.size, 0, none⟩) 1 1)) (w.alloc (.cells y.arr 110))) : Arm Try.prog ops Q o K a w := arm_of hg (wp_slice_wr x1 ho y h1 h)
theorem rowSx_one (l : List Sx) : ∀ u ∈ rowV Sx.vals l, u.oneCell' = true := by
  intro u hu
  unfold rowV at hu
  obtain ⟨r, _, hr⟩ := List.mem_flatMap.1 hu
  exact r.one u hr
theorem rowWx_one (l : List Wx) : ∀ u ∈ rowV Wx.vals l, u.oneCell' = true := by
  intro u hu
  unfold rowV at hu
  obtain ⟨r, _, hr⟩ := List.mem_flatMap.1 hu
  exact r.one u hr
/-- A sector stands in a row. -/
theorem at_row {α : Type} {f : α → List Value} {k : Nat} {w : World} {b off : Nat} {l : List α} (hf : ∀ x, (f x).length = k) (hc : ∀ j u, (rowV f l)[j]? = some u → w.cell? ⟨b, off + j, none⟩ = some u) (q : Nat) (hq : q < l.length) : At w b (off + q * k) (f l[q]) := fun r u hr => by
  have hr2 : r < k := by
    have := (List.getElem?_eq_some_iff.1 hr).1
    rwa [hf] at this
  have := hc (q * k + r) u ((rowV_get f k hf l q hq r hr2).trans hr)
  rwa [← Nat.add_assoc] at this
/-- A fresh empty slice. -/
theorem own_void {w : World} {B e size p : Nat} (hp : w.heap[p]? = some (.cells #[] e (0, 0))) (hB : B ≤ p) : w.ownsRow B e size (.slice (some ⟨p, 0, none⟩) 0 0) 0 [] :=
  ⟨by simp, .inr ⟨p, 0, #[], rfl, hB, hp, Nat.le_refl _, by decide, by simp, by simp⟩⟩
theorem run_append_fresho {P : Program} {t e : TypeId} {size bytes : Nat} (E : ElemT P t e size bytes) (w : World) (ty : TypeId) (p B : Nat) (hp : w.heap[p]? = some (.cells #[] e (0, 0))) (hB : B ≤ p)
    (A : Option Addr) (m c : Nat) (ys : List Value) (hr : Rdv w A m size ys) (h1 : ∀ u ∈ ys, u.oneCell' = true) (hnil : A = none → c = 0) (hmx : m ≤ maxLen) (hby : m * bytes ≤ 140737488355328) :
    ∃ v w', (Builtin.append_ #[t, t] ty #[.slice (some ⟨p, 0, none⟩) 0 0, .slice A m c]).run P w = .ok v w' ∧ w'.ownsRow B e size v m ys ∧ Below w.heap.size w w' := by
  have hpl : p < w.heap.size := (Array.getElem?_eq_some_iff.1 hp).1
  obtain ⟨v, w', hrun, hown, _, _⟩ := run_append_row E w B ty (.slice (some ⟨p, 0, none⟩) 0 0) 0 [] (own_void hp hB) A m c ys hr h1 hnil (by omega) (by rw [Nat.zero_add]; exact hby) (by omega)
  simp only [Nat.zero_add, List.nil_append] at hown
  refine ⟨v, w', hrun, hown, ?_⟩
  obtain ⟨ht, hinfo, ⟨i, z, hi, hz, hzs⟩, hpos⟩ := E
  rw [hi] at hinfo
  simp at hinfo
  obtain ⟨hl, hc⟩ := hr
  by_cases hm : m = 0
  · subst hm
    have : w' = w := by
      rcases A with _ | ad
      · simp [Builtin.append_, run_underlying ht, sizeOf, typeInfo, hi, Builtin.lenOf, Builtin.firstCells, loadCells, loadCellsFrom, storeCells, hnil rfl] at hrun
        exact hrun.2.symm
      · simp [Builtin.append_, run_underlying ht, sizeOf, typeInfo, hi, Builtin.lenOf, Builtin.firstCells, loadCells, loadCellsFrom, storeCells] at hrun
        exact hrun.2.symm
    rw [this]
    exact Below.refl _ _
  · obtain ⟨b, off, rfl, h5⟩ := hc (by omega)
    have hnews : ∀ j u, ys[j]? = some u → w.cell? ((⟨b, off, none⟩ : Addr).add j) = some u := fun j u hj => by rw [addr_plus]; exact h5 j u hj
    have hrun2 := run_append_grow (P := P) w t ty e i z ht hi hz ⟨p, 0, none⟩ 0 0 [] (by simp) (fun j u hj => by simp at hj) ⟨b, off, none⟩ m c ys (by rw [hl, hinfo.1]) hnews (by omega) (by unfold maxLen at hmx; omega) (growslice_fits (by unfold maxLen at hmx; omega) (by rw [hinfo.2, Nat.zero_add]; exact hby))
    rw [hrun] at hrun2
    injection hrun2 with _ e2
    rw [e2]
    exact ((Below.refl _ w).drew).alloc (Nat.le_refl _) _
theorem does_append_fresho {P : Program} {t e : TypeId} {size bytes : Nat} (E : ElemT P t e size bytes) {ops : Array Oper} {Q : Exit → Act → World → Prop} {o : Oper} {a : Act} {w : World} (hgd : o.guard = none) (s x : Operand)
    (ho : o.op = .call { callee := .builtin .append, args := #[s, x], argTypes := #[t, t] }) (p B : Nat) (hp : w.heap[p]? = some (.cells #[] e (0, 0))) (hB : B ≤ p) (hs : a.eval s = .slice (some ⟨p, 0, none⟩) 0 0)
    (A : Option Addr) (m c : Nat) (ys : List Value) (hx : a.eval x = .slice A m c) (hr : Rdv w A m size ys) (h1 : ∀ u ∈ ys, u.oneCell' = true) (hnil : A = none → c = 0) (hmx : m ≤ maxLen) (hby : m * bytes ≤ 140737488355328) {F : Fact} {d : List Past}
    (hF : ∀ v w', w'.ownsRow B e size v m ys → F d v w w') : Does P ops Q o F w d a := by
  intro K hK
  rw [if_pos (by simp [Region.wanted, hgd])]
  obtain ⟨v, w', hrun, h2, h3⟩ := run_append_fresho E w o.type p B hp hB A m c ys hr h1 hnil hmx hby
  have h6 := hK v w' (hF _ _ h2) h3
  unfold Oper.wp
  simp [execOp, ho, resolve, invoke, builtin, hs, hx, hrun, Result.andThen]
  exact h6
end Go.Proofs.Ythmebgpleegonaa
