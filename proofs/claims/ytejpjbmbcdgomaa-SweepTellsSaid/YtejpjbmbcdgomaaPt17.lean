/- SFn2, KMap: put together. -/
import Derived.Test.YtejpjbmbcdgomaaPt15
import Derived.Test.YtejpjbmbcdgomaaPt01
import Derived.Maps.RangeWalk
import Derived.DeepKeys4
import Derived.WalkArith
/- takes: a transaction's number and its tables. -/
namespace Go.Proofs.Ytejpjbmbcdgomaa
set_option maxRecDepth 100000
open Go.RowKit

def Wr.vals (x : Wr) : List Value := [.int .i64 x.t, .int .i64 x.k, .int .i64 x.v, .bool x.dead]
theorem Wr.vlen (x : Wr) : x.vals.length = 4 := rfl
abbrev Wrs (w : World) (A : Option Addr) (l : List Wr) : Prop := RowAt Wr.vals 4 w A l.length l
theorem Wrs.cell {w : World} {A : Option Addr} {l : List Wr} (h : Wrs w A l) (hn : 0 < l.length) : ∃ b off, A = some ⟨b, off, none⟩ ∧ ∀ q (hq : q < l.length), w.cell? ⟨b, off + q * 4, none⟩ = some (.int .i64 l[q].t) ∧ w.cell? ⟨b, off + q * 4 + 1, none⟩ = some (.int .i64 l[q].k) ∧ w.cell? ⟨b, off + q * 4 + 2, none⟩ = some (.int .i64 l[q].v) ∧ w.cell? ⟨b, off + q * 4 + 3, none⟩ = some (.bool l[q].dead) := by
  obtain ⟨b, off, e, hc⟩ := RowAt.cells h Wr.vlen hn
  exact ⟨b, off, e, fun q hq => ⟨hc q hq 0 _ (by omega) rfl, hc q hq 1 _ (by omega) rfl, hc q hq 2 _ (by omega) rfl, hc q hq 3 _ (by omega) rfl⟩⟩
/-- Are a transaction and its tables some? -/
def takB (q : Int) (ws : List Wr) : Bool := decide (1 ≤ q) && ws.all fun x => decide (0 ≤ x.t ∧ x.t < 4)
theorem takB_in {q : Int} {ws : List Wr} (h : takB q ws = true) : 1 ≤ q ∧ ∀ x ∈ ws, InT x.t := by
  unfold takB at h
  simp only [Bool.and_eq_true, decide_eq_true_eq, List.all_eq_true] at h
  exact h
theorem takB_low {q : Int} {ws : List Wr} (h : q < 1) : takB q ws = false := by
  unfold takB
  rw [decide_eq_false (by omega), Bool.false_and]
theorem takB_bad {q : Int} {ws : List Wr} {x : Wr} (hx : x ∈ ws) (h : ¬ InT x.t) : takB q ws = false := by
  cases e : takB q ws
  · rfl
  · exact absurd ((takB_in e).2 x hx) h
theorem takB_good {q : Int} {ws : List Wr} (hq : 1 ≤ q) (h : ∀ (j : Nat) (hj : j < ws.length), InT ws[j].t) : takB q ws = true := by
  unfold takB
  simp only [Bool.and_eq_true, decide_eq_true_eq, List.all_eq_true]
  refine ⟨hq, fun x hx => ?_⟩
  obtain ⟨j, hj, rfl⟩ := List.getElem_of_mem hx
  exact h j hj
set_option maxHeartbeats 4000000 in
theorem takes_any {w : World} {sb : Nat} {A : Option Addr} {c : Nat} {ws : List Wr} (q : Int) (h : Wrs w A ws) (hl : ws.length ≤ 100000) : Calls Try.prog 54 #[.pointer (some ⟨sb, 0, none⟩), .int .i64 q, .slice A ws.length c] w fun e w' => e = .returned (.bool (takB q ws)) ∧ Below w.heap.size w w' := by
  obtain ⟨n, hn⟩ : ∃ n, n = ws.length := ⟨_, rfl⟩
  have HN := Lib.hid hn
  have H := Lib.hid h
  rw [← hn] at hl ⊢
  obtain ⟨r, hr⟩ : ∃ r, r = takB q ws := ⟨_, rfl⟩
  have HR := Lib.hid hr
  rw [← hr]
  clear hn h hr
  by_cases h1 : q < 1
  · have d1 : decide (q < 1) = true := decide_eq_true h1
    obtain rfl : r = false := by rw [HR.out]; exact takB_low h1
    clear h1
    go_enter Try.func54, Try.ntmps54
    go_wp2_with fail
    go_ret
    exact ⟨rfl, Below.refl _ _⟩
  · have d1 : decide (q < 1) = false := decide_eq_false h1
    have HQ : Hid (1 ≤ q) := Lib.hid (by omega)
    clear h1
    go_enter Try.func54, Try.ntmps54
    go_wp2_with fail
    go_loopw [8, 17, 18, 19, 20, 21, 22, 23, 24, 25, 26, 27, 28, 29, 30, 31] (fun _ ix _ _ _ _ _ _ _ _ _ _ _ _ _ _ wr => ∃ z : Nat, ix = .int .i64 (z : Int) ∧ z ≤ n ∧ (∀ (j : Nat) (hj : j < ws.length), j < z → InT ws[j].t) ∧ Below w.heap.size w wr) (fun _ ix _ _ _ _ _ _ _ _ _ _ _ _ _ _ wr => n - (intOf ix).toNat)
    case atStart => exact ⟨0, rfl, by omega, fun j _ hj => by omega, Below.refl _ _⟩
    case round =>
      obtain ⟨z, rfl, hz, hall, hb⟩ := hrel
      have HB := Lib.hid (And.intro hall hb)
      clear hall hb
      by_cases hlt : z < n
      · have hzl : z < ws.length := by rw [← HN.out]; exact hlt
        obtain ⟨b, off, rfl, hcl⟩ := Wrs.cell (RowAt.below H.out HB.out.2) (by omega)
        obtain ⟨x0, x1, x2, x3⟩ := hcl z hzl
        obtain ⟨x, hx⟩ : ∃ x, x = ws[z] := ⟨_, rfl⟩
        rw [← hx] at x0 x1 x2 x3
        have HX := Lib.hid hx
        have HAL := Lib.hid (HB.out.2.trans (((Below.refl _ wr).alloc (Nat.le_refl _) (.cells #[.int .i64 x.t, .int .i64 x.k, .int .i64 x.v, .bool x.dead] 51)).mono HB.out.2.size))
        clear hcl hx
        by_cases hin : InT x.t
        · have d2 : decide (x.t < 0) = false := decide_eq_false (by have := hin.1; omega)
          have d3 : decide ((4 : Int) ≤ x.t) = false := decide_eq_false (by have := hin.2; omega)
          have HI := Lib.hid hin
          clear hin
          go_wp2_with fail
          go_roundw
          case rel => exact ⟨z + 1, by go_num, by omega, fun j hj hjz => by
            rcases Nat.lt_or_ge j z with e | e
            · exact HB.out.1 j hj e
            · obtain rfl : j = z := by omega
              rw [← HX.out]; exact HI.out, HAL.out⟩
          case measure => simp [intOf]; omega
        · obtain rfl : r = false := by rw [HR.out]; exact takB_bad (by rw [HX.out]; exact List.getElem_mem hzl) hin
          by_cases h0 : x.t < 0
          · have d2 : decide (x.t < 0) = true := decide_eq_true h0
            clear hin h0
            go_wp2_with fail
            go_ret
            exact ⟨rfl, HAL.out⟩
          · have d2 : decide (x.t < 0) = false := decide_eq_false h0
            have d3 : decide ((4 : Int) ≤ x.t) = true := decide_eq_true (by unfold InT at hin; omega)
            clear hin h0
            go_wp2_with fail
            go_ret
            exact ⟨rfl, HAL.out⟩
      · obtain rfl : z = n := by omega
        obtain rfl : r = true := by rw [HR.out]; exact takB_good HQ.out fun j hj => HB.out.1 j hj (by rw [HN.out]; exact hj)
        go_wp2_with fail
        go_ret
        exact ⟨rfl, HB.out.2⟩
end Go.Proofs.Ytejpjbmbcdgomaa

/- Maps keyed by api.Key, as functions of two numbers; ranges over them. -/
namespace Go.Proofs.Ytejpjbmbcdgomaa
set_option maxRecDepth 100000
open Go.RowKit

def WfK (i : Int) : Prop := (Lit.int .i64 i).wf = true
theorem wfK {i : Int} (h : -9223372036854775808 ≤ i ∧ i ≤ 9223372036854775807) : WfK i := WalkArith.wf_i64 h
def keyV (t k : Int) : Value := .agg #[.int .i64 t, .int .i64 k]
def keyL (t k : Int) : Lit := .string (keyBytes [.int .i64 t, .int .i64 k])
theorem laidK : laidOutB Try.prog = true := by kernel_rfl
theorem wideK : (match Try.prog.underlying 42 with | some (.array _ _) | some (.struct _) => true | _ => false) = true := by kernel_rfl
theorem keyedK : Go.Maps.Keyed Try.prog 42 := Go.Maps.Keyed.of_law (deep_law_laid laidK (m := 2) (by omega) (of_decide_eq_true (by kernel_rfl)) (by kernel_rfl) wideK)
theorem keyTypeK : Try.prog.keyType 42 = true := by kernel_rfl
theorem cellsK : Try.prog.cellsOf 42 = 2 := by kernel_rfl
theorem cellsI : Try.prog.cellsOf 3 = 1 := by kernel_rfl
theorem typesK : ∃ N, Try.prog.types.size + 1 = N + 1 + 1 := ⟨Try.prog.types.size - 1, by have h : 0 < Try.prog.types.size := of_decide_eq_true (by kernel_rfl); omega⟩
theorem litsK (N : Nat) {t k : Int} (ht : WfK t) (hk : WfK k) : Try.prog.keyLits (N + 1 + 1) 42 [.int .i64 t, .int .i64 k] = some [.int .i64 t, .int .i64 k] := by
  unfold WfK at ht hk
  simp [Program.keyLits, Try.underlying42, Try.underlying3, cellsK, cellsI, ht, hk]
theorem keyOf_mk {t k : Int} (ht : WfK t) (hk : WfK k) : keyOf Try.prog 42 (keyV t k) = some (keyL t k) := by
  obtain ⟨N, hN⟩ := typesK
  have hf : (keyV t k).formed Try.prog 42 = true := by simp [Value.formed, keyV, Try.underlying42, cellsK]
  have hl : Try.prog.keyLits (Try.prog.types.size + 1) 42 (keyV t k).cells.toList = some [.int .i64 t, .int .i64 k] := by rw [hN]; exact litsK N ht hk
  unfold keyOf
  rw [Try.underlying42]
  simp only [keyTypeK, hf, hl, Bool.and_self, if_true, Option.map_some]
  rfl
theorem lit_int {N : Nat} {a : Value} {L : List Lit} (h : Try.prog.keyLits (N + 1) 3 [a] = some L) : ∃ n, a = .int .i64 n ∧ L = [.int .i64 n] ∧ WfK n := by
  unfold Program.keyLits at h
  rw [Try.underlying3] at h
  cases a <;> simp at h
  rename_i q n
  obtain ⟨⟨rfl, hw⟩, rfl⟩ := h
  exact ⟨n, rfl, rfl, hw⟩
theorem key_inv {v : Value} {l : Lit} (h : keyOf Try.prog 42 v = some l) : ∃ t k, v = keyV t k ∧ l = keyL t k ∧ WfK t ∧ WfK k := by
  obtain ⟨xs, L, rfl, h1, rfl⟩ := keyOf_top wideK h
  obtain ⟨N, hN⟩ := typesK
  rw [hN] at h1
  obtain ⟨l⟩ := xs
  unfold Program.keyLits at h1
  rw [Try.underlying42] at h1
  simp only [cellsK] at h1
  split at h1
  · rename_i hc
    match l, hc.1 with
    | [a, b], _ =>
      simp [cellsI] at h1
      cases h2 : Try.prog.keyLits (N + 1) 3 [a] with
      | none => simp [h2] at h1
      | some la =>
        cases h3 : Try.prog.keyLits (N + 1) 3 [b] with
        | none => simp [h2, h3] at h1
        | some lb =>
          obtain ⟨t, rfl, rfl, ht⟩ := lit_int h2
          obtain ⟨k, rfl, rfl, hk⟩ := lit_int h3
          simp [h2, h3] at h1
          exact ⟨t, k, rfl, by rw [← h1]; rfl, ht, hk⟩
  · cases h1
theorem keyL_inj {t k t' k' : Int} (ht : WfK t) (hk : WfK k) (ht' : WfK t') (hk' : WfK k') (h : keyL t k = keyL t' k') : t = t' ∧ k = k' := by
  have := keyedK.inj (keyOf_mk ht hk) (by rw [h]; exact keyOf_mk ht' hk')
  unfold keyV at this
  injection this with this
  simpa using this
/-- What reads as whatever it is. -/
def RVK (v : Value) : Option (DataW Value × List MemPlace) := some (.held v, [])
section
variable {α : Type} {enc : α → Value}
/-- What a map reads as. -/
structure Vw (enc : α → Value) (D : DataW Value) (g : Int → Int → Option α) : Prop where
  has : ∀ t k, WfK t → WfK k → Maps.has D (keyL t k) = (g t k).isSome
  at_ : ∀ t k x, WfK t → WfK k → g t k = some x → ∀ z, D.atKey (keyL t k) z = .held (enc x)
def KM (enc : α → Value) (w : World) (b n : Nat) (g : Int → Int → Option α) : Prop := ∃ D, w.ownsMap Try.prog 42 RVK b n D ∧ Vw enc D g
theorem KM.made (w : World) : KM enc (w.alloc (.map #[] 0)) w.heap.size 0 fun _ _ => none :=
  ⟨.map [], World.ownsMap_made w _ _ _, fun _ _ _ _ => rfl, fun _ _ _ _ _ h => by cases h⟩
theorem KM.lt {w : World} {b n : Nat} {g : Int → Int → Option α} (h : KM enc w b n g) : b < w.heap.size := by
  obtain ⟨D, h, _⟩ := h
  exact h.lt
theorem KM.keep {w w' : World} {b n : Nat} {g : Int → Int → Option α} (h : KM enc w b n g) (hb : w'.heap[b]? = w.heap[b]?) : KM enc w' b n g := by
  obtain ⟨D, ⟨es, clock, h1, h2⟩, hf⟩ := h
  exact ⟨D, ⟨es, clock, hb.trans h1, h2⟩, hf⟩
theorem KM.below {w w' : World} {b n : Nat} {g : Int → Int → Option α} (h : KM enc w b n g) (hb : Below w.heap.size w w') : KM enc w' b n g := h.keep (hb.block _ h.lt)
theorem KM.look {w : World} {b n : Nat} {g : Int → Int → Option α} {mt et : TypeId} (h : KM enc w b n g) (hm : Try.prog.underlying mt = some (.map 42 et)) {z : Value} (hz : (zeroValue et).run Try.prog w = .ok z w) {t k : Int} (ht : WfK t) (hk : WfK k) :
    (Instr.lookup mt (.map (some b)) (keyV t k) true).run Try.prog w = .ok (.tuple #[(match g t k with | some x => enc x | none => z), .bool (g t k).isSome]) w := by
  obtain ⟨D, ho, hv⟩ := h
  obtain ⟨v, ps, hrun, hr⟩ := ho.look_ok keyedK hm hz (zd := .held z) (zp := []) rfl (keyOf_mk ht hk)
  rw [hv.has t k ht hk] at hrun
  rw [hrun]
  unfold RVK at hr
  injection hr with hr
  injection hr with hr _
  cases hg : g t k with
  | some x =>
    rw [hv.at_ t k x ht hk hg] at hr
    injection hr with hr
    rw [hr]
  | none =>
    have hh := hv.has t k ht hk
    rw [hg] at hh
    rw [Go.Maps.atKey_of_not_has hh] at hr
    injection hr with hr
    rw [hr]
def updK (g : Int → Int → Option α) (t k : Int) (x : α) : Int → Int → Option α := fun u j => if u = t ∧ j = k then some x else g u j
theorem KM.store {w : World} {b n : Nat} {g : Int → Int → Option α} {mt et : TypeId} (h : KM enc w b n g) (hm : Try.prog.underlying mt = some (.map 42 et)) {t k : Int} (ht : WfK t) (hk : WfK k) (x : α) (hn : n < maxLen) :
    ∃ w', (Instr.mapUpdate mt (.map (some b)) (keyV t k) (enc x)).run Try.prog w = .ok () w' ∧ KM enc w' b (n + 1) (updK g t k x) ∧ w.grownBy w' (some b) := by
  obtain ⟨D, ho, hv⟩ := h
  obtain ⟨w', hrun, h1, h2⟩ := ho.update (d := .held (enc x)) (ps := []) keyedK hm hn (keyOf_mk ht hk) rfl
  refine ⟨w', hrun, ⟨_, h1, fun u j hu hj => ?_, fun u j y hu hj hy z => ?_⟩, h2⟩
  · unfold updK
    by_cases e : u = t ∧ j = k
    · obtain ⟨rfl, rfl⟩ := e
      rw [if_pos ⟨rfl, rfl⟩]
      exact Go.Maps.has_put_same ho.isMap (keyedK.key (keyOf_mk ht hk)) _
    · rw [if_neg e, Go.Maps.has_put_other (fun c => e (keyL_inj hu hj ht hk c))]
      exact hv.has u j hu hj
  · unfold updK at hy
    by_cases e : u = t ∧ j = k
    · obtain ⟨rfl, rfl⟩ := e
      rw [if_pos ⟨rfl, rfl⟩] at hy
      cases hy
      exact Go.Maps.atKey_put_same ho.isMap (keyedK.key (keyOf_mk ht hk)) _ _
    · rw [if_neg e] at hy
      rw [Go.Maps.atKey_put_other (fun c => e (keyL_inj hu hj ht hk c))]
      exact hv.at_ u j y hu hj hy z
/-- A range under way: what is still to come. -/
def KR (enc : α → Value) (w : World) (b r n : Nat) (g : Int → Int → Option α) (left : Int → Int → Bool) (cnt : Nat) : Prop :=
  ∃ D lf, w.ranges Try.prog 42 RVK b r n D lf cnt ∧ Vw enc D g ∧ ∀ t k, left t k = true ↔ (WfK t ∧ WfK k ∧ lf (keyL t k) = true)
theorem KM.range {w : World} {b n : Nat} {g : Int → Int → Option α} {mt et : TypeId} (h : KM enc w b n g) (hm : Try.prog.underlying mt = some (.map 42 et)) :
    ∃ w' left cnt, (Instr.range mt (.map (some b))).run Try.prog w = .ok (.pointer (some ⟨w.heap.size, 0, none⟩)) w' ∧ KR enc w' b w.heap.size n g left cnt ∧ cnt ≤ n ∧ (∀ t k, WfK t → WfK k → left t k = (g t k).isSome) ∧ w.grownBy w' none ∧ w'.heap.size = w.heap.size + 1 := by
  classical
  obtain ⟨D, ho, hv⟩ := h
  obtain ⟨w', h1, h2, h3, h4⟩ := ho.range keyedK hm
  refine ⟨w', fun t k => decide (WfK t ∧ WfK k ∧ Maps.has D (keyL t k) = true), Maps.size D, h1, ⟨D, Maps.has D, h2, hv, fun t k => by simp⟩, ho.size_le, fun t k ht hk => ?_, h3, h4⟩
  simp only [hv.has t k ht hk]
  cases (g t k).isSome <;> simp [ht, hk]
theorem KR.next {w : World} {b r n : Nat} {g : Int → Int → Option α} {left : Int → Int → Bool} {cnt : Nat} (_henc : ∀ x y, enc x = enc y → x = y) (h : KR enc w b r n g left cnt) (ty : TypeId) :
    (cnt = 0 ∧ (∀ t k, left t k = false) ∧ (Instr.next (.pointer (some ⟨r, 0, none⟩)) false ty).run Try.prog w = .ok (.tuple #[.bool false]) w) ∨
    ∃ t k x w' cnt', WfK t ∧ WfK k ∧ left t k = true ∧ g t k = some x ∧ (Instr.next (.pointer (some ⟨r, 0, none⟩)) false ty).run Try.prog w = .ok (.tuple #[.bool true, keyV t k, enc x]) w' ∧
      KR enc w' b r n g (fun u j => left u j && !(decide (u = t ∧ j = k))) cnt' ∧ cnt' < cnt ∧ w.grownBy w' (some r) ∧ w'.heap.size = w.heap.size ∧ (Instr.entry (.pointer (some ⟨r, 0, none⟩))).run Try.prog w' = .ok (.tuple #[keyV t k, enc x]) w' := by
  obtain ⟨D, lf, hr, hv, hl⟩ := h
  rcases hr.next keyedK ty with ⟨h0, h1, h2⟩ | ⟨key, v, kl, y, w', cnt', h1, h2, h3, h4, h5, h6, h7, h8, h9, h10⟩
  · refine .inl ⟨h0, fun t k => ?_, h2⟩
    cases e : left t k
    · rfl
    · have := (hl t k).1 e
      rw [h1] at this
      cases this.2.2
  · obtain ⟨t, k, rfl, rfl, ht, hk⟩ := key_inv h1
    have hh := Go.Maps.has_true_of_atKey h4
    rw [hv.has t k ht hk] at hh
    obtain ⟨x, hx⟩ := Option.isSome_iff_exists.1 hh
    have hvx : v = enc x := by
      have e1 := h4 .nil
      rw [hv.at_ t k x ht hk hx] at e1
      unfold RVK at h3
      injection h3 with h3
      rw [← h3] at e1
      injection e1 with e1
      exact e1.symm
    subst hvx
    refine .inr ⟨t, k, x, w', cnt', ht, hk, (hl t k).2 ⟨ht, hk, h2⟩, hx, h5, ⟨D, _, h6, hv, fun u j => ?_⟩, h7, h8, h9, h10⟩
    constructor
    · intro e
      simp only [Bool.and_eq_true, Bool.not_eq_true', decide_eq_false_iff_not] at e
      obtain ⟨e1, e2⟩ := e
      obtain ⟨hu, hj, e3⟩ := (hl u j).1 e1
      refine ⟨hu, hj, ?_⟩
      simp only [Bool.and_eq_true, Bool.not_eq_true']
      exact ⟨e3, Go.Maps.sameKey_ne fun c => e2 (keyL_inj hu hj ht hk c)⟩
    · rintro ⟨hu, hj, e⟩
      simp only [Bool.and_eq_true, Bool.not_eq_true'] at e
      simp only [Bool.and_eq_true, Bool.not_eq_true', decide_eq_false_iff_not]
      refine ⟨(hl u j).2 ⟨hu, hj, e.1⟩, ?_⟩
      rintro ⟨rfl, rfl⟩
      rw [WideAt.sameKey_self (keyedK.key (keyOf_mk hu hj))] at e
      cases e.2
theorem KR.kept {w w' : World} {b r n : Nat} {g : Int → Int → Option α} {left : Int → Int → Bool} {cnt : Nat} (h : KR enc w b r n g left cnt) (hb : w'.heap[b]? = w.heap[b]?) (hr : w'.heap[r]? = w.heap[r]?) : KR enc w' b r n g left cnt := by
  obtain ⟨D, lf, ⟨es, clock, since, seen, c0, h1, h2, h3, h4, h5, h6⟩, hv⟩ := h
  exact ⟨D, lf, ⟨es, clock, since, seen, c0, hb.trans h1, h2, h3, h4, hr.trans h5, h6⟩, hv⟩
theorem KR.lt {w : World} {b r n : Nat} {g : Int → Int → Option α} {left : Int → Int → Bool} {cnt : Nat} (h : KR enc w b r n g left cnt) : b < w.heap.size ∧ r < w.heap.size := by
  obtain ⟨D, lf, h, _⟩ := h
  exact ⟨h.owns.lt, h.lt⟩
theorem KR.types {w : World} {b r n : Nat} {g : Int → Int → Option α} {left : Int → Int → Bool} {cnt : Nat} (h : KR enc w b r n g left cnt) : (∃ es c, w.heap[b]? = some (.map es c)) ∧ ∃ a s c d, w.heap[r]? = some (.mapIter a s c d) := by
  obtain ⟨D, lf, ⟨es, clock, since, seen, c0, h1, h2, h3, h4, h5, h6⟩, hv⟩ := h
  exact ⟨⟨_, _, h1⟩, _, _, _, _, h5⟩
end
end Go.Proofs.Ytejpjbmbcdgomaa
