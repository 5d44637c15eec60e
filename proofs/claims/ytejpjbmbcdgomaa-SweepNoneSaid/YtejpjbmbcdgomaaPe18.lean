/- RSM, SFn2, KMap: put together. -/
import Derived.Test.YtejpjbmbcdgomaaPe17
import Derived.Test.YtejpjbmbcdgomaaPe01
import Derived.Maps.RangeWalk
import Derived.DeepKeys4
import Derived.WalkArith
/- The document's store, pure: put, and what it comes to in the tables. -/
namespace Go.Proofs.Ytejpjbmbcdgomaa
set_option maxRecDepth 100000
open Go.RowKit

theorem getN_gv (o : Option Cl) : getN o = gv o ∧ getH o = gok o := by
  unfold getN getH gv gok
  cases o with
  | none => exact ⟨rfl, rfl⟩
  | some c => cases hc : c.dead <;> simp [cv, hc]
def lessE (e f : En) : Bool := lessK e.t e.x.k f.t f.x.k
def sameE (e f : En) : Bool := decide (e.t = f.t ∧ e.x.k = f.x.k)
/-- What the document's put comes to. -/
def goE (f : En) : Bool → List En → List En
  | done, [] => if done then [] else [f]
  | done, e :: l => (if !done && !lessE e f then [f] else []) ++ ((if sameE e f then [] else [e]) ++ goE f (done || !lessE e f) l)
theorem less_same {e f : En} (h : lessE e f = true) : sameE e f = false := by
  unfold lessE lessK at h
  unfold sameE
  simp only [Bool.or_eq_true, Bool.and_eq_true, decide_eq_true_eq] at h
  apply decide_eq_false
  rintro ⟨h1, h2⟩
  omega
theorem goE_lo {f : En} {r : List En} : ∀ l : List En, (∀ e ∈ l, lessE e f = true) → goE f false (l ++ r) = l ++ goE f false r
  | [], _ => rfl
  | e :: l, h => by
    have h1 := h e (by simp)
    have ih := goE_lo (r := r) l fun x hx => h x (by simp [hx])
    rw [List.cons_append, goE, h1, less_same h1]
    show goE f false (l ++ r) |> fun z => [] ++ ([e] ++ z) = _
    simp only [ih, List.nil_append, List.cons_append]
theorem goE_done {f : En} : ∀ l : List En, goE f true l = l.filter fun e => !sameE e f
  | [] => rfl
  | e :: l => by
    rw [goE, Bool.true_or, goE_done l]
    cases hs : sameE e f
    · rw [List.filter_cons_of_pos (by simp [hs])]; rfl
    · rw [List.filter_cons_of_neg (by simp [hs])]; rfl
theorem goE_hi {f : En} {l : List En} (h : ∀ e ∈ l, lessE e f = false) : goE f false l = f :: l.filter fun e => !sameE e f := by
  cases l with
  | nil => rfl
  | cons e l =>
    have h1 := h e (by simp)
    rw [goE, h1, show (false || !false) = true from rfl, goE_done l]
    cases hs : sameE e f
    · rw [List.filter_cons_of_pos (by simp [hs])]; rfl
    · rw [List.filter_cons_of_neg (by simp [hs])]; rfl
theorem mem_tag {t : Nat} {l : List Ix} {e : En} (h : e ∈ tag t l) : e.t = t ∧ e.x ∈ l := by
  unfold tag at h
  obtain ⟨x, hx, rfl⟩ := List.mem_map.1 h
  exact ⟨rfl, hx⟩
theorem mem_allE {ps : Nat → List Ix} {e : En} : ∀ {n i : Nat}, e ∈ allE ps i n → i ≤ e.t ∧ e.t < i + n ∧ e.x ∈ ps e.t
  | 0, _, h => by simp [allE] at h
  | n + 1, i, h => by
    rw [allE, List.mem_append] at h
    rcases h with h | h
    · obtain ⟨h1, h2⟩ := mem_tag h
      exact ⟨by omega, by omega, by rw [h1]; exact h2⟩
    · obtain ⟨h1, h2, h3⟩ := mem_allE h
      exact ⟨by omega, by omega, h3⟩
theorem ents_cut (ts : Tb) {i : Nat} (hi : i < 4) : ents ts = allE ts 0 i ++ (tag i (ts i) ++ allE ts (i + 1) (3 - i)) := by
  unfold ents
  have e : 4 = i + ((3 - i) + 1) := by omega
  rw [e, allE_add, Nat.zero_add, allE]
theorem goE_ents {ts : Tb} {i : Nat} (hi : i < 4) (hu : Up (ts i)) (x : Ix) : goE ⟨i, x⟩ false (ents ts) = ents (ts.upd i (ins x (ts i))) := by
  obtain ⟨a, b, hab, _, h1, h2⟩ := place_cut hu x.k
  have hb : ∀ y ∈ b, x.k ≤ y.k := by
    rcases h2 with ⟨y, b', rfl, hy, h3⟩ | ⟨_, h3⟩
    · intro z hz
      rcases List.mem_cons.1 hz with rfl | hz
      · omega
      · have := h3 z hz; omega
    · intro z hz; have := h3 z hz; omega
  have hins : ins x (ts i) = a ++ x :: b.filter fun y => decide (x.k < y.k) := by
    unfold ins
    rw [hab, List.filter_append, List.filter_append, filter_all (l := a) fun y hy => decide_eq_true (h1 y hy), filter_none (l := b) fun y hy => decide_eq_false (by have := hb y hy; omega), filter_none (l := a) fun y hy => decide_eq_false (by have := h1 y hy; omega), List.append_nil, List.nil_append]
  rw [ents_cut _ hi, ents_cut (ts.upd i _) hi, Tb.upd_same, hins]
  have e1 : allE (ts.upd i (a ++ x :: b.filter fun y => decide (x.k < y.k))) 0 i = allE ts 0 i := allE_congr fun j _ hj => Tb.upd_other _ _ (by omega)
  have e2 : allE (ts.upd i (a ++ x :: b.filter fun y => decide (x.k < y.k))) (i + 1) (3 - i) = allE ts (i + 1) (3 - i) := allE_congr fun j hj _ => Tb.upd_other _ _ (by omega)
  rw [e1, e2, hab]
  have e3 : tag i (a ++ b) = tag i a ++ tag i b := List.map_append ..
  have e4 : tag i (a ++ x :: b.filter fun y => decide (x.k < y.k)) = tag i a ++ (⟨i, x⟩ :: tag i (b.filter fun y => decide (x.k < y.k))) := List.map_append ..
  rw [e3, e4, goE_lo _ fun e he => ?_, List.append_assoc, goE_lo _ fun e he => ?_, goE_hi fun e he => ?_]
  · rw [List.filter_append, List.append_assoc, List.cons_append]
    congr 3
    congr 1
    · unfold tag
      rw [List.filter_map]
      congr 1
      refine List.filter_congr fun y hy => ?_
      show (!sameE ⟨i, y⟩ ⟨i, x⟩) = decide (x.k < y.k)
      unfold sameE
      have := hb y hy
      by_cases h9 : y.k = x.k
      · simp [h9]
      · have h8 : x.k < y.k := by omega
        simp [h9, h8]
    · refine List.filter_eq_self.2 fun e he => ?_
      obtain ⟨h8, _, _⟩ := mem_allE he
      have : e.t ≠ i := by omega
      simp [sameE, this]
  · rw [List.mem_append] at he
    rcases he with he | he
    · obtain ⟨h8, h9⟩ := mem_tag he
      have := hb _ h9
      unfold lessE lessK
      simp [h8]
      omega
    · obtain ⟨h8, _, _⟩ := mem_allE he
      unfold lessE lessK
      have a1 : ¬ (e.t : Int) < (i : Int) := by omega
      have a2 : ¬ (e.t : Int) = (i : Int) := by omega
      simp [a1, a2]
  · obtain ⟨h8, h9⟩ := mem_tag he
    have := h1 _ h9
    unfold lessE lessK
    simp [h8, this]
  · obtain ⟨_, h8, _⟩ := mem_allE he
    unfold lessE lessK
    have a1 : (e.t : Int) < (i : Int) := by omega
    simp [a1]
theorem cellE_append (t k : Int) (a b : List En) : cellE t k (a ++ b) = (cellE t k a).or (cellE t k b) := by
  unfold cellE
  rw [List.find?_append]
  cases a.find? (fun e => decide ((e.t : Int) = t ∧ e.x.k = k)) <;> rfl
theorem cellE_none {t k : Int} {l : List En} (h : ∀ e ∈ l, (e.t : Int) ≠ t) : cellE t k l = none := by
  unfold cellE
  rw [List.find?_eq_none.2 fun e he => by simp [h e he]]
  rfl
theorem cellE_tag (i : Nat) (k : Int) : ∀ l : List Ix, cellE (i : Int) k (tag i l) = getC k l
  | [] => rfl
  | x :: l => by
    have ih := cellE_tag i k l
    show cellE (i : Int) k (⟨i, x⟩ :: tag i l) = _
    rw [getC_cons]
    by_cases h : x.k = k
    · rw [if_pos h]
      exact cellE_hit (e := ⟨i, x⟩) ⟨rfl, h⟩
    · rw [if_neg h, ← ih]
      exact cellE_miss (e := ⟨i, x⟩) fun e => h e.2
theorem cellE_ents (ts : Tb) (t k : Int) : cellE t k (ents ts) = cellAt ts t k := by
  unfold cellAt
  by_cases h : 0 ≤ t ∧ t < 4
  · rw [if_pos h]
    obtain ⟨i, rfl⟩ : ∃ i : Nat, t = (i : Int) := ⟨t.toNat, by omega⟩
    have hi : i < 4 := by omega
    rw [ents_cut ts hi, cellE_append, cellE_append, cellE_tag, cellE_none fun e he => ?_, cellE_none fun e he => ?_, Int.toNat_natCast]
    · simp
    · obtain ⟨h8, _, _⟩ := mem_allE he; omega
    · obtain ⟨_, h8, _⟩ := mem_allE he; omega
  · rw [if_neg h]
    exact cellE_none fun e he => by
      obtain ⟨_, h8, _⟩ := mem_allE he
      omega
/-- The document's put, as a whole. -/
def putE (q : Int) (l : List En) (x : Wr) : List En := if stay q (cellE x.t x.k l) then l else goE ⟨x.t.toNat, ⟨x.k, x.cl q⟩⟩ false l
theorem putE_ents {q : Int} {ts : Tb} {x : Wr} (hu : ∀ i, i < 4 → Up (ts i)) (hx : InT x.t) : putE q (ents ts) x = ents (putW q ts x) := by
  unfold putE putW
  rw [cellE_ents]
  split
  · rfl
  · unfold InT at hx
    exact goE_ents (by omega) (hu _ (by omega)) _
theorem foldE_ents {q : Int} : ∀ (ws : List Wr) {ts : Tb}, (∀ i, i < 4 → Up (ts i)) → (∀ x ∈ ws, InT x.t) → ws.foldl (putE q) (ents ts) = ents (forceT q ts ws)
  | [], _, _, _ => rfl
  | x :: ws, ts, hu, hx => by
    show ws.foldl (putE q) (putE q (ents ts) x) = ents (forceT q (putW q ts x) ws)
    rw [putE_ents hu (hx x (by simp)), foldE_ents ws (up_putW hu) fun y hy => hx y (by simp [hy])]
end Go.Proofs.Ytejpjbmbcdgomaa

/- takes: a transaction's number and its tables. -/
namespace Go.Proofs.Ytejpjbmbcdgomaa
set_option maxRecDepth 100000
open Go.RowKit

def Wr.vals (x : Wr) : List Value := [.int .i64 x.t, .int .i64 x.k, .int .i64 x.v, .bool x.dead]
theorem Wr.vlen (x : Wr) : x.vals.length = 4 := rfl
abbrev Wrs (w : World) (A : Option Addr) (l : List Wr) : Prop := RowAt Wr.vals 4 w A l.length l
theorem Wrs.cell {w : World} {A : Option Addr} {l : List Wr} (h : Wrs w A l) (hn : 0 < l.length) : ∃ b off, A = some ⟨b, off, none⟩ ∧ ∀ q (hq : q < l.length), w.cell? ⟨b, off + q * 4, none⟩ = some (.int .i64 l[q].t) ∧ w.cell? ⟨b, off + q * 4 + 1, none⟩ = some (.int .i64 l[q].k) ∧ w.cell? ⟨b, off + q * 4 + 2, none⟩ = some (.int .i64 l[q].v) ∧ w.cell? ⟨b, off + q * 4 + 3, none⟩ = some (.bool l[q].dead) := by
  obtain ⟨b, off, e, hc⟩ := RowAt.cells h Wr.vlen hn
  exact ⟨b, off, e, fun q hq => ⟨hc q hq 0 _ (by omega) rfl, hc q hq 1 _ (by omega) rfl, hc q hq 2 _ (by omega) rfl, hc q hq 3 _ (by omega) rfl⟩⟩
/-- Are a transaction and its tables some? -/
def takB (q : Int) (ws : List Wr) : Bool := decide (1 ≤ q) && ws.all fun x => decide (0 ≤ x.t ∧ x.t < 4)
theorem takB_in {q : Int} {ws : List Wr} (h : takB q ws = true) : 1 ≤ q ∧ ∀ x ∈ ws, InT x.t := by
  unfold takB at h
  simp only [Bool.and_eq_true, decide_eq_true_eq, List.all_eq_true] at h
  exact h
theorem takB_low {q : Int} {ws : List Wr} (h : q < 1) : takB q ws = false := by
  unfold takB
  rw [decide_eq_false (by omega), Bool.false_and]
theorem takB_bad {q : Int} {ws : List Wr} {x : Wr} (hx : x ∈ ws) (h : ¬ InT x.t) : takB q ws = false := by
  cases e : takB q ws
  · rfl
  · exact absurd ((takB_in e).2 x hx) h
theorem takB_good {q : Int} {ws : List Wr} (hq : 1 ≤ q) (h : ∀ (j : Nat) (hj : j < ws.length), InT ws[j].t) : takB q ws = true := by
  unfold takB
  simp only [Bool.and_eq_true, decide_eq_true_eq, List.all_eq_true]
  refine ⟨hq, fun x hx => ?_⟩
  obtain ⟨j, hj, rfl⟩ := List.getElem_of_mem hx
  exact h j hj
set_option maxHeartbeats 4000000 in
theorem takes_any {w : World} {sb : Nat} {A : Option Addr} {c : Nat} {ws : List Wr} (q : Int) (h : Wrs w A ws) (hl : ws.length ≤ 100000) : Calls Try.prog 54 #[.pointer (some ⟨sb, 0, none⟩), .int .i64 q, .slice A ws.length c] w fun e w' => e = .returned (.bool (takB q ws)) ∧ Below w.heap.size w w' := by
  obtain ⟨n, hn⟩ : ∃ n, n = ws.length := ⟨_, rfl⟩
  have HN := Lib.hid hn
  have H := Lib.hid h
  rw [← hn] at hl ⊢
  obtain ⟨r, hr⟩ : ∃ r, r = takB q ws := ⟨_, rfl⟩
  have HR := Lib.hid hr
  rw [← hr]
  clear hn h hr
  by_cases h1 : q < 1
  · have d1 : decide (q < 1) = true := decide_eq_true h1
    obtain rfl : r = false := by rw [HR.out]; exact takB_low h1
    clear h1
    go_enter Try.func54, Try.ntmps54
    go_wp2_with fail
    go_ret
    exact ⟨rfl, Below.refl _ _⟩
  · have d1 : decide (q < 1) = false := decide_eq_false h1
    have HQ : Hid (1 ≤ q) := Lib.hid (by omega)
    clear h1
    go_enter Try.func54, Try.ntmps54
    go_wp2_with fail
    go_loopw [8, 17, 18, 19, 20, 21, 22, 23, 24, 25, 26, 27, 28, 29, 30, 31] (fun _ ix _ _ _ _ _ _ _ _ _ _ _ _ _ _ wr => ∃ z : Nat, ix = .int .i64 (z : Int) ∧ z ≤ n ∧ (∀ (j : Nat) (hj : j < ws.length), j < z → InT ws[j].t) ∧ Below w.heap.size w wr) (fun _ ix _ _ _ _ _ _ _ _ _ _ _ _ _ _ wr => n - (intOf ix).toNat)
    case atStart => exact ⟨0, rfl, by omega, fun j _ hj => by omega, Below.refl _ _⟩
    case round =>
      obtain ⟨z, rfl, hz, hall, hb⟩ := hrel
      have HB := Lib.hid (And.intro hall hb)
      clear hall hb
      by_cases hlt : z < n
      · have hzl : z < ws.length := by rw [← HN.out]; exact hlt
        obtain ⟨b, off, rfl, hcl⟩ := Wrs.cell (RowAt.below H.out HB.out.2) (by omega)
        obtain ⟨x0, x1, x2, x3⟩ := hcl z hzl
        obtain ⟨x, hx⟩ : ∃ x, x = ws[z] := ⟨_, rfl⟩
        rw [← hx] at x0 x1 x2 x3
        have HX := Lib.hid hx
        have HAL := Lib.hid (HB.out.2.trans (((Below.refl _ wr).alloc (Nat.le_refl _) (.cells #[.int .i64 x.t, .int .i64 x.k, .int .i64 x.v, .bool x.dead] 51)).mono HB.out.2.size))
        clear hcl hx
        by_cases hin : InT x.t
        · have d2 : decide (x.t < 0) = false := decide_eq_false (by have := hin.1; omega)
          have d3 : decide ((4 : Int) ≤ x.t) = false := decide_eq_false (by have := hin.2; omega)
          have HI := Lib.hid hin
          clear hin
          go_wp2_with fail
          go_roundw
          case rel => exact ⟨z + 1, by go_num, by omega, fun j hj hjz => by
            rcases Nat.lt_or_ge j z with e | e
            · exact HB.out.1 j hj e
            · obtain rfl : j = z := by omega
              rw [← HX.out]; exact HI.out, HAL.out⟩
          case measure => simp [intOf]; omega
        · obtain rfl : r = false := by rw [HR.out]; exact takB_bad (by rw [HX.out]; exact List.getElem_mem hzl) hin
          by_cases h0 : x.t < 0
          · have d2 : decide (x.t < 0) = true := decide_eq_true h0
            clear hin h0
            go_wp2_with fail
            go_ret
            exact ⟨rfl, HAL.out⟩
          · have d2 : decide (x.t < 0) = false := decide_eq_false h0
            have d3 : decide ((4 : Int) ≤ x.t) = true := decide_eq_true (by unfold InT at hin; omega)
            clear hin h0
            go_wp2_with fail
            go_ret
            exact ⟨rfl, HAL.out⟩
      · obtain rfl : z = n := by omega
        obtain rfl : r = true := by rw [HR.out]; exact takB_good HQ.out fun j hj => HB.out.1 j hj (by rw [HN.out]; exact hj)
        go_wp2_with fail
        go_ret
        exact ⟨rfl, HB.out.2⟩
end Go.Proofs.Ytejpjbmbcdgomaa

/- Maps keyed by api.Key, as functions of two numbers; ranges over them. -/
namespace Go.Proofs.Ytejpjbmbcdgomaa
set_option maxRecDepth 100000
open Go.RowKit

def WfK (i : Int) : Prop := (Lit.int .i64 i).wf = true
theorem wfK {i : Int} (h : -9223372036854775808 ≤ i ∧ i ≤ 9223372036854775807) : WfK i := WalkArith.wf_i64 h
def keyV (t k : Int) : Value := .agg #[.int .i64 t, .int .i64 k]
def keyL (t k : Int) : Lit := .string (keyBytes [.int .i64 t, .int .i64 k])
theorem laidK : laidOutB Try.prog = true := by kernel_rfl
theorem wideK : (match Try.prog.underlying 42 with | some (.array _ _) | some (.struct _) => true | _ => false) = true := by kernel_rfl
theorem keyedK : Go.Maps.Keyed Try.prog 42 := Go.Maps.Keyed.of_law (deep_law_laid laidK (m := 2) (by omega) (of_decide_eq_true (by kernel_rfl)) (by kernel_rfl) wideK)
theorem keyTypeK : Try.prog.keyType 42 = true := by kernel_rfl
theorem cellsK : Try.prog.cellsOf 42 = 2 := by kernel_rfl
theorem cellsI : Try.prog.cellsOf 3 = 1 := by kernel_rfl
theorem typesK : ∃ N, Try.prog.types.size + 1 = N + 1 + 1 := ⟨Try.prog.types.size - 1, by have h : 0 < Try.prog.types.size := of_decide_eq_true (by kernel_rfl); omega⟩
theorem litsK (N : Nat) {t k : Int} (ht : WfK t) (hk : WfK k) : Try.prog.keyLits (N + 1 + 1) 42 [.int .i64 t, .int .i64 k] = some [.int .i64 t, .int .i64 k] := by
  unfold WfK at ht hk
  simp [Program.keyLits, Try.underlying42, Try.underlying3, cellsK, cellsI, ht, hk]
theorem keyOf_mk {t k : Int} (ht : WfK t) (hk : WfK k) : keyOf Try.prog 42 (keyV t k) = some (keyL t k) := by
  obtain ⟨N, hN⟩ := typesK
  have hf : (keyV t k).formed Try.prog 42 = true := by simp [Value.formed, keyV, Try.underlying42, cellsK]
  have hl : Try.prog.keyLits (Try.prog.types.size + 1) 42 (keyV t k).cells.toList = some [.int .i64 t, .int .i64 k] := by rw [hN]; exact litsK N ht hk
  unfold keyOf
  rw [Try.underlying42]
  simp only [keyTypeK, hf, hl, Bool.and_self, if_true, Option.map_some]
  rfl
theorem lit_int {N : Nat} {a : Value} {L : List Lit} (h : Try.prog.keyLits (N + 1) 3 [a] = some L) : ∃ n, a = .int .i64 n ∧ L = [.int .i64 n] ∧ WfK n := by
  unfold Program.keyLits at h
  rw [Try.underlying3] at h
  cases a <;> simp at h
  rename_i q n
  obtain ⟨⟨rfl, hw⟩, rfl⟩ := h
  exact ⟨n, rfl, rfl, hw⟩
theorem key_inv {v : Value} {l : Lit} (h : keyOf Try.prog 42 v = some l) : ∃ t k, v = keyV t k ∧ l = keyL t k ∧ WfK t ∧ WfK k := by
  obtain ⟨xs, L, rfl, h1, rfl⟩ := keyOf_top wideK h
  obtain ⟨N, hN⟩ := typesK
  rw [hN] at h1
  obtain ⟨l⟩ := xs
  unfold Program.keyLits at h1
  rw [Try.underlying42] at h1
  simp only [cellsK] at h1
  split at h1
  · rename_i hc
    match l, hc.1 with
    | [a, b], _ =>
      simp [cellsI] at h1
      cases h2 : Try.prog.keyLits (N + 1) 3 [a] with
      | none => simp [h2] at h1
      | some la =>
        cases h3 : Try.prog.keyLits (N + 1) 3 [b] with
        | none => simp [h2, h3] at h1
        | some lb =>
          obtain ⟨t, rfl, rfl, ht⟩ := lit_int h2
          obtain ⟨k, rfl, rfl, hk⟩ := lit_int h3
          simp [h2, h3] at h1
          exact ⟨t, k, rfl, by rw [← h1]; rfl, ht, hk⟩
  · cases h1
theorem keyL_inj {t k t' k' : Int} (ht : WfK t) (hk : WfK k) (ht' : WfK t') (hk' : WfK k') (h : keyL t k = keyL t' k') : t = t' ∧ k = k' := by
  have := keyedK.inj (keyOf_mk ht hk) (by rw [h]; exact keyOf_mk ht' hk')
  unfold keyV at this
  injection this with this
  simpa using this
/-- What reads as whatever it is. -/
def RVK (v : Value) : Option (DataW Value × List MemPlace) := some (.held v, [])
section
variable {α : Type} {enc : α → Value}
/-- What a map reads as. -/
structure Vw (enc : α → Value) (D : DataW Value) (g : Int → Int → Option α) : Prop where
  has : ∀ t k, WfK t → WfK k → Maps.has D (keyL t k) = (g t k).isSome
  at_ : ∀ t k x, WfK t → WfK k → g t k = some x → ∀ z, D.atKey (keyL t k) z = .held (enc x)
def KM (enc : α → Value) (w : World) (b n : Nat) (g : Int → Int → Option α) : Prop := ∃ D, w.ownsMap Try.prog 42 RVK b n D ∧ Vw enc D g
theorem KM.made (w : World) : KM enc (w.alloc (.map #[] 0)) w.heap.size 0 fun _ _ => none :=
  ⟨.map [], World.ownsMap_made w _ _ _, fun _ _ _ _ => rfl, fun _ _ _ _ _ h => by cases h⟩
theorem KM.lt {w : World} {b n : Nat} {g : Int → Int → Option α} (h : KM enc w b n g) : b < w.heap.size := by
  obtain ⟨D, h, _⟩ := h
  exact h.lt
theorem KM.keep {w w' : World} {b n : Nat} {g : Int → Int → Option α} (h : KM enc w b n g) (hb : w'.heap[b]? = w.heap[b]?) : KM enc w' b n g := by
  obtain ⟨D, ⟨es, clock, h1, h2⟩, hf⟩ := h
  exact ⟨D, ⟨es, clock, hb.trans h1, h2⟩, hf⟩
theorem KM.below {w w' : World} {b n : Nat} {g : Int → Int → Option α} (h : KM enc w b n g) (hb : Below w.heap.size w w') : KM enc w' b n g := h.keep (hb.block _ h.lt)
theorem KM.look {w : World} {b n : Nat} {g : Int → Int → Option α} {mt et : TypeId} (h : KM enc w b n g) (hm : Try.prog.underlying mt = some (.map 42 et)) {z : Value} (hz : (zeroValue et).run Try.prog w = .ok z w) {t k : Int} (ht : WfK t) (hk : WfK k) :
    (Instr.lookup mt (.map (some b)) (keyV t k) true).run Try.prog w = .ok (.tuple #[(match g t k with | some x => enc x | none => z), .bool (g t k).isSome]) w := by
  obtain ⟨D, ho, hv⟩ := h
  obtain ⟨v, ps, hrun, hr⟩ := ho.look_ok keyedK hm hz (zd := .held z) (zp := []) rfl (keyOf_mk ht hk)
  rw [hv.has t k ht hk] at hrun
  rw [hrun]
  unfold RVK at hr
  injection hr with hr
  injection hr with hr _
  cases hg : g t k with
  | some x =>
    rw [hv.at_ t k x ht hk hg] at hr
    injection hr with hr
    rw [hr]
  | none =>
    have hh := hv.has t k ht hk
    rw [hg] at hh
    rw [Go.Maps.atKey_of_not_has hh] at hr
    injection hr with hr
    rw [hr]
def updK (g : Int → Int → Option α) (t k : Int) (x : α) : Int → Int → Option α := fun u j => if u = t ∧ j = k then some x else g u j
theorem KM.store {w : World} {b n : Nat} {g : Int → Int → Option α} {mt et : TypeId} (h : KM enc w b n g) (hm : Try.prog.underlying mt = some (.map 42 et)) {t k : Int} (ht : WfK t) (hk : WfK k) (x : α) (hn : n < maxLen) :
    ∃ w', (Instr.mapUpdate mt (.map (some b)) (keyV t k) (enc x)).run Try.prog w = .ok () w' ∧ KM enc w' b (n + 1) (updK g t k x) ∧ w.grownBy w' (some b) := by
  obtain ⟨D, ho, hv⟩ := h
  obtain ⟨w', hrun, h1, h2⟩ := ho.update (d := .held (enc x)) (ps := []) keyedK hm hn (keyOf_mk ht hk) rfl
  refine ⟨w', hrun, ⟨_, h1, fun u j hu hj => ?_, fun u j y hu hj hy z => ?_⟩, h2⟩
  · unfold updK
    by_cases e : u = t ∧ j = k
    · obtain ⟨rfl, rfl⟩ := e
      rw [if_pos ⟨rfl, rfl⟩]
      exact Go.Maps.has_put_same ho.isMap (keyedK.key (keyOf_mk ht hk)) _
    · rw [if_neg e, Go.Maps.has_put_other (fun c => e (keyL_inj hu hj ht hk c))]
      exact hv.has u j hu hj
  · unfold updK at hy
    by_cases e : u = t ∧ j = k
    · obtain ⟨rfl, rfl⟩ := e
      rw [if_pos ⟨rfl, rfl⟩] at hy
      cases hy
      exact Go.Maps.atKey_put_same ho.isMap (keyedK.key (keyOf_mk ht hk)) _ _
    · rw [if_neg e] at hy
      rw [Go.Maps.atKey_put_other (fun c => e (keyL_inj hu hj ht hk c))]
      exact hv.at_ u j y hu hj hy z
/-- A range under way: what is still to come. -/
def KR (enc : α → Value) (w : World) (b r n : Nat) (g : Int → Int → Option α) (left : Int → Int → Bool) (cnt : Nat) : Prop :=
  ∃ D lf, w.ranges Try.prog 42 RVK b r n D lf cnt ∧ Vw enc D g ∧ ∀ t k, left t k = true ↔ (WfK t ∧ WfK k ∧ lf (keyL t k) = true)
theorem KM.range {w : World} {b n : Nat} {g : Int → Int → Option α} {mt et : TypeId} (h : KM enc w b n g) (hm : Try.prog.underlying mt = some (.map 42 et)) :
    ∃ w' left cnt, (Instr.range mt (.map (some b))).run Try.prog w = .ok (.pointer (some ⟨w.heap.size, 0, none⟩)) w' ∧ KR enc w' b w.heap.size n g left cnt ∧ cnt ≤ n ∧ (∀ t k, WfK t → WfK k → left t k = (g t k).isSome) ∧ w.grownBy w' none ∧ w'.heap.size = w.heap.size + 1 := by
  classical
  obtain ⟨D, ho, hv⟩ := h
  obtain ⟨w', h1, h2, h3, h4⟩ := ho.range keyedK hm
  refine ⟨w', fun t k => decide (WfK t ∧ WfK k ∧ Maps.has D (keyL t k) = true), Maps.size D, h1, ⟨D, Maps.has D, h2, hv, fun t k => by simp⟩, ho.size_le, fun t k ht hk => ?_, h3, h4⟩
  simp only [hv.has t k ht hk]
  cases (g t k).isSome <;> simp [ht, hk]
theorem KR.next {w : World} {b r n : Nat} {g : Int → Int → Option α} {left : Int → Int → Bool} {cnt : Nat} (_henc : ∀ x y, enc x = enc y → x = y) (h : KR enc w b r n g left cnt) (ty : TypeId) :
    (cnt = 0 ∧ (∀ t k, left t k = false) ∧ (Instr.next (.pointer (some ⟨r, 0, none⟩)) false ty).run Try.prog w = .ok (.tuple #[.bool false]) w) ∨
    ∃ t k x w' cnt', WfK t ∧ WfK k ∧ left t k = true ∧ g t k = some x ∧ (Instr.next (.pointer (some ⟨r, 0, none⟩)) false ty).run Try.prog w = .ok (.tuple #[.bool true, keyV t k, enc x]) w' ∧
      KR enc w' b r n g (fun u j => left u j && !(decide (u = t ∧ j = k))) cnt' ∧ cnt' < cnt ∧ w.grownBy w' (some r) ∧ w'.heap.size = w.heap.size ∧ (Instr.entry (.pointer (some ⟨r, 0, none⟩))).run Try.prog w' = .ok (.tuple #[keyV t k, enc x]) w' := by
  obtain ⟨D, lf, hr, hv, hl⟩ := h
  rcases hr.next keyedK ty with ⟨h0, h1, h2⟩ | ⟨key, v, kl, y, w', cnt', h1, h2, h3, h4, h5, h6, h7, h8, h9, h10⟩
  · refine .inl ⟨h0, fun t k => ?_, h2⟩
    cases e : left t k
    · rfl
    · have := (hl t k).1 e
      rw [h1] at this
      cases this.2.2
  · obtain ⟨t, k, rfl, rfl, ht, hk⟩ := key_inv h1
    have hh := Go.Maps.has_true_of_atKey h4
    rw [hv.has t k ht hk] at hh
    obtain ⟨x, hx⟩ := Option.isSome_iff_exists.1 hh
    have hvx : v = enc x := by
      have e1 := h4 .nil
      rw [hv.at_ t k x ht hk hx] at e1
      unfold RVK at h3
      injection h3 with h3
      rw [← h3] at e1
      injection e1 with e1
      exact e1.symm
    subst hvx
    refine .inr ⟨t, k, x, w', cnt', ht, hk, (hl t k).2 ⟨ht, hk, h2⟩, hx, h5, ⟨D, _, h6, hv, fun u j => ?_⟩, h7, h8, h9, h10⟩
    constructor
    · intro e
      simp only [Bool.and_eq_true, Bool.not_eq_true', decide_eq_false_iff_not] at e
      obtain ⟨e1, e2⟩ := e
      obtain ⟨hu, hj, e3⟩ := (hl u j).1 e1
      refine ⟨hu, hj, ?_⟩
      simp only [Bool.and_eq_true, Bool.not_eq_true']
      exact ⟨e3, Go.Maps.sameKey_ne fun c => e2 (keyL_inj hu hj ht hk c)⟩
    · rintro ⟨hu, hj, e⟩
      simp only [Bool.and_eq_true, Bool.not_eq_true'] at e
      simp only [Bool.and_eq_true, Bool.not_eq_true', decide_eq_false_iff_not]
      refine ⟨(hl u j).2 ⟨hu, hj, e.1⟩, ?_⟩
      rintro ⟨rfl, rfl⟩
      rw [WideAt.sameKey_self (keyedK.key (keyOf_mk hu hj))] at e
      cases e.2
theorem KR.kept {w w' : World} {b r n : Nat} {g : Int → Int → Option α} {left : Int → Int → Bool} {cnt : Nat} (h : KR enc w b r n g left cnt) (hb : w'.heap[b]? = w.heap[b]?) (hr : w'.heap[r]? = w.heap[r]?) : KR enc w' b r n g left cnt := by
  obtain ⟨D, lf, ⟨es, clock, since, seen, c0, h1, h2, h3, h4, h5, h6⟩, hv⟩ := h
  exact ⟨D, lf, ⟨es, clock, since, seen, c0, hb.trans h1, h2, h3, h4, hr.trans h5, h6⟩, hv⟩
theorem KR.lt {w : World} {b r n : Nat} {g : Int → Int → Option α} {left : Int → Int → Bool} {cnt : Nat} (h : KR enc w b r n g left cnt) : b < w.heap.size ∧ r < w.heap.size := by
  obtain ⟨D, lf, h, _⟩ := h
  exact ⟨h.owns.lt, h.lt⟩
theorem KR.types {w : World} {b r n : Nat} {g : Int → Int → Option α} {left : Int → Int → Bool} {cnt : Nat} (h : KR enc w b r n g left cnt) : (∃ es c, w.heap[b]? = some (.map es c)) ∧ ∃ a s c d, w.heap[r]? = some (.mapIter a s c d) := by
  obtain ⟨D, lf, ⟨es, clock, since, seen, c0, h1, h2, h3, h4, h5, h6⟩, hv⟩ := h
  exact ⟨⟨_, _, h1⟩, _, _, _, _, h5⟩
end
end Go.Proofs.Ytejpjbmbcdgomaa
