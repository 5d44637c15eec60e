/- TFind, SP: put together. -/
import Derived.Test.YtejpjbmbcdgomaaPt00
import Derived.Test.YtejpjbmbcdgomaaPt01
import Derived.WalkArith
import Derived.Deep.CutRange
import Derived.Deep.CutBlock
/- Items in memory; the binary search. -/
namespace Go.Proofs.Ytejpjbmbcdgomaa
set_option maxRecDepth 100000
open Go.RowKit

/-- A cell. -/
structure Cl where
  v : Int
  s : Int
  dead : Bool
abbrev Ix := It Cl
def Ix.vals (x : Ix) : List Value := [.int .i64 x.c.v, .int .i64 x.c.s, .bool x.c.dead, .int .i64 x.k]
theorem Ix.vlen (x : Ix) : x.vals.length = 4 := rfl
def cmpM (a b : Int) : Int := if a < b then -1 else if b < a then 1 else 0
set_option maxHeartbeats 1000000 in
theorem nan_any (a : Int) (w : World) : Calls Try.prog 126 #[.int .i64 a] w fun e w' => e = .returned (.bool false) ∧ w = w' := by
  have e0 : (a != a) = false := by simp
  go_enter Try.func126, Try.ntmps126
  go_wp2_with fail
  go_ret
  exact ⟨rfl, rfl⟩
set_option maxHeartbeats 1000000 in
theorem cmp_any (a b : Int) (w : World) : Calls Try.prog 115 #[.int .i64 a, .int .i64 b] w fun e w' => e = .returned (.int .i64 (cmpM a b)) ∧ w = w' := by
  have HN := Lib.hid fun (c : Int) => nan_any c w
  go_enter Try.func115, Try.ntmps115
  go_wp2_with fail
  refine Calls.mono (HN.out a) ?_
  rintro e w1 ⟨rfl, rfl⟩
  go_wp2_with fail
  refine Calls.mono (HN.out b) ?_
  rintro e w1 ⟨rfl, rfl⟩
  by_cases h1 : a < b
  · have HV := Lib.hid (show cmpM a b = -1 from by unfold cmpM; rw [if_pos h1])
    have d1 : decide (a < b) = true := decide_eq_true h1
    go_wp2_with fail
    go_ret
    exact ⟨by rw [HV.out]; rfl, rfl⟩
  · have d1 : decide (a < b) = false := decide_eq_false h1
    by_cases h2 : b < a
    · have HV := Lib.hid (show cmpM a b = 1 from by unfold cmpM; rw [if_neg h1, if_pos h2])
      have d2 : decide (b < a) = true := decide_eq_true h2
      go_wp2_with fail
      go_ret
      exact ⟨by rw [HV.out]; rfl, rfl⟩
    · have HV := Lib.hid (show cmpM a b = 0 from by unfold cmpM; rw [if_neg h1, if_neg h2])
      have d2 : decide (b < a) = false := decide_eq_false h2
      go_wp2_with fail
      go_ret
      exact ⟨by rw [HV.out]; rfl, rfl⟩
set_option maxHeartbeats 1000000 in
theorem find1_any (x : Ix) (k : Int) (w : World) : Calls Try.prog 122 #[.agg #[.int .i64 x.c.v, .int .i64 x.c.s, .bool x.c.dead, .int .i64 x.k], .int .i64 k] w fun e w' => e = .returned (.int .i64 (cmpM x.k k)) ∧ Below w.heap.size w w' := by
  have HB := Lib.hid (show Below w.heap.size w (w.alloc (.cells #[.int .i64 x.c.v, .int .i64 x.c.s, .bool x.c.dead, .int .i64 x.k] 166)) from (Below.refl _ _).alloc (Nat.le_refl _) _)
  go_enter Try.func122, Try.ntmps122
  go_wp2_with fail
  refine Calls.mono (cmp_any _ _ _) ?_
  rintro e w1 ⟨rfl, rfl⟩
  go_wp2_with fail
  go_ret
  exact ⟨rfl, HB.out⟩
theorem place_iff {α : Type} {l : List (It α)} (h : Up l) (k : Int) (j : Nat) (hj : j < l.length) : l[j].k < k ↔ j < place l k := by
  obtain ⟨h1, h2⟩ := place_take l k h
  constructor
  · intro e
    rcases Nat.lt_or_ge j (place l k) with h3 | h3
    · exact h3
    · have hm : l[j] ∈ l.drop (place l k) := by
        rw [List.mem_iff_getElem]
        refine ⟨j - place l k, by rw [List.length_drop]; omega, ?_⟩
        rw [List.getElem_drop]
        congr 1
        omega
      have := h2 _ hm
      omega
  · intro e
    refine h1 _ ?_
    rw [List.mem_iff_getElem]
    exact ⟨j, by rw [List.length_take]; omega, by rw [List.getElem_take]⟩
def foundB {α : Type} (l : List (It α)) (k : Int) : Bool := (foundAt l k).isSome
theorem cmpM_neg (a b : Int) : decide (cmpM a b < 0) = decide (a < b) := by
  unfold cmpM
  split
  · rename_i h; rw [decide_eq_true h]; rfl
  · rename_i h
    rw [decide_eq_false h]
    split <;> rfl
theorem cmpM_eq (a b : Int) : (cmpM a b == 0) = decide (a = b) := by
  unfold cmpM
  split
  · rw [decide_eq_false (by omega)]; rfl
  · split
    · rw [decide_eq_false (by omega)]; rfl
    · rw [decide_eq_true (by omega)]; rfl
abbrev Ixs (w : World) (A : Option Addr) (l : List Ix) : Prop := RowAt Ix.vals 4 w A l.length l
theorem Ixs.cell {w : World} {A : Option Addr} {l : List Ix} (h : Ixs w A l) (hn : 0 < l.length) : ∃ b off, A = some ⟨b, off, none⟩ ∧ ∀ q (hq : q < l.length), w.cell? ⟨b, off + q * 4, none⟩ = some (.int .i64 l[q].c.v) ∧ w.cell? ⟨b, off + q * 4 + 1, none⟩ = some (.int .i64 l[q].c.s) ∧ w.cell? ⟨b, off + q * 4 + 2, none⟩ = some (.bool l[q].c.dead) ∧ w.cell? ⟨b, off + q * 4 + 3, none⟩ = some (.int .i64 l[q].k) := by
  obtain ⟨b, off, e, hc⟩ := RowAt.cells h Ix.vlen hn
  exact ⟨b, off, e, fun q hq => ⟨hc q hq 0 _ (by omega) rfl, hc q hq 1 _ (by omega) rfl, hc q hq 2 _ (by omega) rfl, hc q hq 3 _ (by omega) rfl⟩⟩
set_option maxHeartbeats 4000000 in
theorem search_any (A : Option Addr) (c : Nat) (l : List Ix) (k : Int) (w : World) (h : Ixs w A l) (hl : l.length ≤ 1000000) (hu : Up l) :
    Calls Try.prog 121 #[.slice A l.length c, .int .i64 k, .func (.func 122) #[] #[]] w fun e w' => e = .returned (.tuple #[.int .i64 (place l k : Int), .bool (foundB l k)]) ∧ Below w.heap.size w w' := by
  have HH := Lib.hid h
  have HU := Lib.hid hu
  obtain ⟨n, hn⟩ : ∃ n, n = l.length := ⟨_, rfl⟩
  have HN := Lib.hid hn
  obtain ⟨p, hp⟩ : ∃ p, p = place l k := ⟨_, rfl⟩
  have HP := Lib.hid hp
  have hpn : p ≤ n := by rw [hp, hn]; exact place_le l k
  rw [← hn] at hl ⊢
  rw [← hp]
  clear h hu hn hp
  go_enter Try.func121, Try.ntmps121
  go_wp2_with fail
  go_loopw [9, 10] (fun i j wr => ∃ a b : Nat, i = .int .i64 (a : Int) ∧ j = .int .i64 (b : Int) ∧ a ≤ p ∧ p ≤ b ∧ b ≤ n ∧ Below w.heap.size w wr) (fun i j _ => (intOf j).toNat - (intOf i).toNat)
  case atStart => exact ⟨0, n, rfl, rfl, by omega, hpn, by omega, Below.refl _ _⟩
  case round =>
    obtain ⟨a, b, rfl, rfl, ha, hb, hbn, hbel⟩ := hrel
    have HB := Lib.hid hbel
    clear hbel
    by_cases hlt : a < b
    · obtain ⟨m, hm⟩ : ∃ m, m = (a + b) / 2 := ⟨_, rfl⟩
      have hmm : ((a : Int) + (b : Int)) / 2 = (m : Int) := by omega
      have hmn : m < n := by omega
      have hml : m < l.length := by rw [← HN.out]; exact hmn
      obtain ⟨bk, off, rfl, hc⟩ := Ixs.cell (RowAt.below HH.out HB.out) (by omega)
      obtain ⟨c0, c1, c2, c3⟩ := hc m hml
      have hpi := place_iff HU.out k m hml
      rw [← HP.out] at hpi
      obtain ⟨y, hy⟩ : ∃ y, y = l[m] := ⟨_, rfl⟩
      rw [← hy] at c0 c1 c2 c3 hpi
      have HPI := Lib.hid hpi
      have HMM := Lib.hid hmm
      have HM := Lib.hid hm
      clear hc hpi hy hmm hm
      go_upto_region 5 with fail
      rw [HMM.out]
      go_wp2_with fail
      refine Calls.mono (find1_any y k wr) ?_
      rintro e w1 ⟨rfl, b1⟩
      have HB1 := Lib.hid (HB.out.trans (b1.mono HB.out.size))
      have hcn := cmpM_neg y.k k
      obtain ⟨z, hz⟩ : ∃ z, z = cmpM y.k k := ⟨_, rfl⟩
      rw [← hz] at hcn ⊢
      clear hz b1 HB c0 c1 c2 c3
      by_cases hmp : m < p
      · have g : decide (z < 0) = true := by rw [hcn]; exact decide_eq_true (HPI.out.2 hmp)
        clear hcn
        go_wp2_with fail
        go_roundw
        case rel => exact ⟨m + 1, b, by go_num, rfl, by omega, hb, hbn, HB1.out⟩
        case measure => have := HM.out; simp [intOf]; omega
      · have g : decide (z < 0) = false := by rw [hcn]; exact decide_eq_false (fun e => hmp (HPI.out.1 e))
        clear hcn
        go_wp2_with fail
        go_roundw
        case rel => exact ⟨a, m, rfl, rfl, ha, by omega, by omega, HB1.out⟩
        case measure => have := HM.out; simp [intOf]; omega
    · obtain rfl : a = p := by omega
      by_cases hpl : a < n
      · have hal : a < l.length := by rw [← HN.out]; exact hpl
        obtain ⟨bk, off, rfl, hc⟩ := Ixs.cell (RowAt.below HH.out HB.out) (by omega)
        obtain ⟨c0, c1, c2, c3⟩ := hc a hal
        obtain ⟨y, hy⟩ : ∃ y, y = l[a] := ⟨_, rfl⟩
        have HF := Lib.hid (show foundB l k = decide (y.k = k) from by
          unfold foundB foundAt
          rw [← HP.out, List.getElem?_eq_getElem hal, ← hy]
          by_cases e : y.k = k
          · simp [e]
          · simp [e])
        rw [← hy] at c0 c1 c2 c3
        clear hc hy
        go_wp2_with fail
        refine Calls.mono (find1_any y k wr) ?_
        rintro e w1 ⟨rfl, b1⟩
        have HB1 := Lib.hid (HB.out.trans (b1.mono HB.out.size))
        have hce := cmpM_eq y.k k
        obtain ⟨z, hz⟩ : ∃ z, z = cmpM y.k k := ⟨_, rfl⟩
        rw [← hz] at hce ⊢
        rw [← HF.out] at hce
        clear hz b1 HB c0 c1 c2 c3
        go_wp2_with fail
        go_ret2
        exact ⟨rfl, HB1.out⟩
      · have HF := Lib.hid (show foundB l k = false from by
          unfold foundB foundAt
          rw [← HP.out, List.getElem?_eq_none (by rw [← HN.out]; omega)]
          rfl)
        go_wp2_with fail
        go_ret2
        exact ⟨by rw [HF.out]; rfl, HB.out⟩
end Go.Proofs.Ytejpjbmbcdgomaa

/- A store's pure side: four rising lists, what a transaction's writes make of them, in whatever order. -/
namespace Go.Proofs.Ytejpjbmbcdgomaa
set_option maxRecDepth 100000
open Go.RowKit

/-- A write. -/
structure Wr where
  t : Int
  k : Int
  v : Int
  dead : Bool
/-- The cell that a write makes. -/
def Wr.cl (q : Int) (x : Wr) : Cl := ⟨if x.dead then 0 else x.v, q, x.dead⟩
/-- A table there is. -/
def InT (t : Int) : Prop := 0 ≤ t ∧ t < 4
abbrev Tb := Nat → List Ix
def Tb.upd (ts : Tb) (i : Nat) (l : List Ix) : Tb := fun j => if j = i then l else ts j
theorem Tb.upd_same (ts : Tb) (i : Nat) (l : List Ix) : ts.upd i l i = l := by simp [Tb.upd]
theorem Tb.upd_other (ts : Tb) {i j : Nat} (l : List Ix) (h : j ≠ i) : ts.upd i l j = ts j := by simp [Tb.upd, h]
def cellAt (ts : Tb) (t k : Int) : Option Cl := if 0 ≤ t ∧ t < 4 then getC k (ts t.toNat) else none
theorem cellAt_in {ts : Tb} {t k : Int} (h : InT t) : cellAt ts t k = getC k (ts t.toNat) := if_pos h
theorem getC_cons (x : Ix) (l : List Ix) (k : Int) : getC k (x :: l) = if x.k = k then some x.c else getC k l := by
  unfold getC
  by_cases h : x.k = k
  · simp [h]
  · simp [h]
theorem getC_append (a b : List Ix) (k : Int) : getC k (a ++ b) = (getC k a).or (getC k b) := by
  induction a with
  | nil => simp [getC]
  | cons x a ih =>
    rw [List.cons_append, getC_cons, getC_cons, ih]
    split <;> simp
theorem getC_filter (p : Ix → Bool) (k : Int) (hp : ∀ x : Ix, x.k = k → p x = true) : ∀ l : List Ix, getC k (l.filter p) = getC k l
  | [] => rfl
  | x :: l => by
    rw [List.filter_cons, getC_cons]
    by_cases h : x.k = k
    · rw [if_pos (hp x h), if_pos h, getC_cons, if_pos h]
    · rw [if_neg h]
      split
      · rw [getC_cons, if_neg h, getC_filter p k hp l]
      · exact getC_filter p k hp l
theorem getC_ins (x : Ix) (l : List Ix) (k : Int) : getC k (ins x l) = if x.k = k then some x.c else getC k l := by
  unfold ins
  rw [getC_append, getC_cons]
  rcases Int.lt_trichotomy k x.k with h | h | h
  · have e1 : getC k (l.filter fun y => decide (x.k < y.k)) = none := getC_none k _ (fun y hy => by
      have := (List.mem_filter.1 hy).2
      simp at this
      omega)
    rw [if_neg (by omega), if_neg (by omega), getC_filter _ k (fun y e => by simp; omega) l, e1, Option.or_none]
  · subst h
    have e1 : getC x.k (l.filter fun y => decide (y.k < x.k)) = none := getC_none x.k _ (fun y hy => by
      have := (List.mem_filter.1 hy).2
      simp at this
      omega)
    rw [e1, if_pos rfl, if_pos rfl, Option.none_or]
  · have e1 : getC k (l.filter fun y => decide (y.k < x.k)) = none := getC_none k _ (fun y hy => by
      have := (List.mem_filter.1 hy).2
      simp at this
      omega)
    rw [e1, if_neg (by omega), if_neg (by omega), getC_filter _ k (fun y e => by simp; omega) l, Option.none_or]
theorem getC_lt {l : List Ix} (_h : Up l) {x : Ix} (hx : ∀ y ∈ l, x.k < y.k) {k : Int} (hk : k ≤ x.k) : getC k l = none := getC_none _ _ fun y hy => by have := hx y hy; omega
/-- Rising lists are told by what stands at each number. -/
theorem up_ext : ∀ {l m : List Ix}, Up l → Up m → (∀ k, getC k l = getC k m) → l = m
  | [], [], _, _, _ => rfl
  | [], y :: m, _, _, h => by have := h y.k; rw [getC_cons, if_pos rfl] at this; cases this
  | x :: l, [], _, _, h => by have := h x.k; rw [getC_cons, if_pos rfl] at this; cases this
  | x :: l, y :: m, hl, hm, h => by
    obtain ⟨l1, l2⟩ := List.pairwise_cons.1 hl
    obtain ⟨m1, m2⟩ := List.pairwise_cons.1 hm
    have hk : x.k = y.k := by
      have e1 := h x.k
      have e2 := h y.k
      rw [getC_cons, if_pos rfl, getC_cons] at e1
      rw [getC_cons, getC_cons, if_pos rfl] at e2
      rcases Int.lt_trichotomy x.k y.k with c | c | c
      · rw [if_neg (by omega), getC_lt m2 m1 (by omega)] at e1
        cases e1
      · exact c
      · rw [if_neg (by omega), getC_lt l2 l1 (by omega)] at e2
        cases e2
    have hc : x.c = y.c := by
      have e1 := h x.k
      rw [getC_cons, if_pos rfl, getC_cons, if_pos hk.symm] at e1
      exact Option.some.inj e1
    have hx : x = y := by cases x; cases y; simp at hk hc; rw [hk, hc]
    subst hx
    congr 1
    refine up_ext l2 m2 fun k => ?_
    have := h k
    rw [getC_cons, getC_cons] at this
    by_cases e : x.k = k
    · rw [getC_lt l2 l1 (by omega), getC_lt m2 m1 (by omega)]
    · rwa [if_neg e, if_neg e] at this
/-- How many are live. -/
def liveL (l : List Ix) : Nat := l.countP fun x => !x.c.dead
def liveT (ts : Tb) : Nat := liveL (ts 0) + liveL (ts 1) + liveL (ts 2) + liveL (ts 3)
def one (o : Option Cl) : Nat := match o with | some c => if c.dead then 0 else 1 | none => 0
theorem live_mid (a b : List Ix) (x : Ix) : liveL (a ++ x :: b) = liveL a + one (some x.c) + liveL b := by
  unfold liveL one
  rw [List.countP_append, List.countP_cons]
  cases h : x.c.dead
  · simp [h]; omega
  · simp [h]
theorem live_ins {l : List Ix} (h : Up l) (x : Ix) : liveL (ins x l) + one (getC x.k l) = liveL l + one (some x.c) := by
  obtain ⟨a, b, hl, _, h1, h2⟩ := place_cut h x.k
  rcases h2 with ⟨y, b', rfl, hy, h3⟩ | ⟨_, h4⟩
  · subst hl
    rw [ins_at x y a b' hy h1 h3, getC_at y a b' x.k hy (fun z hz => by have := h1 z hz; omega), live_mid, live_mid]
    omega
  · subst hl
    rw [ins_new x a b h1 h4, getC_none x.k _ (fun z hz => by
      rcases List.mem_append.1 hz with e | e
      · have := h1 z e; omega
      · have := h4 z e; omega), live_mid]
    have e : liveL (a ++ b) = liveL a + liveL b := by unfold liveL; rw [List.countP_append]
    have e0 : one none = 0 := rfl
    omega
theorem live_upd (ts : Tb) {i : Nat} (hi : i < 4) (l : List Ix) : liveT (ts.upd i l) + liveL (ts i) = liveT ts + liveL l := by
  unfold liveT
  have : i = 0 ∨ i = 1 ∨ i = 2 ∨ i = 3 := by omega
  rcases this with rfl | rfl | rfl | rfl <;> simp only [Tb.upd] <;> simp <;> omega
theorem liveL_le (l : List Ix) : liveL l ≤ l.length := List.countP_le_length
/-- Does a write of a transaction leave what stands? -/
def stay (q : Int) (o : Option Cl) : Bool := match o with | some c => decide (q ≤ c.s) | none => false
def putW (q : Int) (ts : Tb) (x : Wr) : Tb := if stay q (cellAt ts x.t x.k) then ts else ts.upd x.t.toNat (ins ⟨x.k, x.cl q⟩ (ts x.t.toNat))
def forceT (q : Int) (ts : Tb) (ws : List Wr) : Tb := ws.foldl (putW q) ts
/-- What of a transaction's writes comes to stand at a key. -/
def gat (q : Int) (ts : Tb) (ws : List Wr) (t k : Int) : Option Wr := if stay q (cellAt ts t k) then none else ws.find? fun x => decide (x.t = t ∧ x.k = k)
theorem cellAt_upd {ts : Tb} {t k : Int} {x : Ix} {u : Int} (hu : InT u) (ht : InT t) : cellAt (ts.upd u.toNat (ins x (ts u.toNat))) t k = if u = t ∧ x.k = k then some x.c else cellAt ts t k := by
  rw [cellAt_in ht, cellAt_in ht]
  unfold InT at hu ht
  by_cases e : u = t
  · subst e
    rw [Tb.upd_same, getC_ins]
    simp
  · rw [Tb.upd_other _ _ (by omega), if_neg (fun h => e h.1)]
theorem putW_at {q : Int} {ts : Tb} {x : Wr} (hx : InT x.t) {t k : Int} (ht : InT t) : cellAt (putW q ts x) t k = if x.t = t ∧ x.k = k ∧ stay q (cellAt ts t k) = false then some (x.cl q) else cellAt ts t k := by
  unfold putW
  by_cases hs : stay q (cellAt ts x.t x.k) = true
  · rw [if_pos hs, if_neg]
    rintro ⟨rfl, rfl, h⟩
    rw [h] at hs
    cases hs
  · rw [if_neg hs, cellAt_upd hx ht]
    by_cases e : x.t = t ∧ x.k = k
    · obtain ⟨rfl, rfl⟩ := e
      rw [if_pos ⟨rfl, rfl⟩, if_pos ⟨rfl, rfl, by simpa using hs⟩]
    · rw [if_neg e, if_neg (fun h => e ⟨h.1, h.2.1⟩)]
theorem stay_cl (q : Int) (x : Wr) : stay q (some (x.cl q)) = true := by simp [stay, Wr.cl]
theorem force_at {q : Int} {t k : Int} (ht : InT t) : ∀ (ws : List Wr) (ts : Tb), (∀ x ∈ ws, InT x.t) → cellAt (forceT q ts ws) t k = match gat q ts ws t k with | some x => some (x.cl q) | none => cellAt ts t k
  | [], ts, _ => by
    unfold gat forceT
    simp
  | x :: ws, ts, h => by
    have hx : InT x.t := h x (by simp)
    have ih := force_at (q := q) (k := k) ht ws (putW q ts x) fun y hy => h y (by simp [hy])
    have e : forceT q ts (x :: ws) = forceT q (putW q ts x) ws := rfl
    rw [e, ih]
    unfold gat
    have hp := putW_at (q := q) (ts := ts) (x := x) hx (t := t) (k := k) ht
    by_cases hs : stay q (cellAt ts t k) = true
    · rw [if_neg (fun h => by rw [h.2.2] at hs; cases hs)] at hp
      rw [hp, if_pos hs, if_pos hs]
    · have hs' : stay q (cellAt ts t k) = false := by simpa using hs
      by_cases e : x.t = t ∧ x.k = k
      · rw [if_pos ⟨e.1, e.2, hs'⟩] at hp
        rw [hp, if_pos (stay_cl q x), if_neg hs, List.find?_cons, decide_eq_true e]
      · rw [if_neg (fun h => e ⟨h.1, h.2.1⟩)] at hp
        rw [hp, if_neg hs, if_neg hs, List.find?_cons, decide_eq_false e]
theorem up_putW {q : Int} {ts : Tb} {x : Wr} (h : ∀ i, i < 4 → Up (ts i)) : ∀ i, i < 4 → Up (putW q ts x i) := fun i hi => by
  unfold putW
  split
  · exact h i hi
  · unfold Tb.upd
    split
    · rename_i e; subst e; exact (h _ hi).ins _
    · exact h i hi
theorem up_force {q : Int} : ∀ (ws : List Wr) {ts : Tb}, (∀ i, i < 4 → Up (ts i)) → ∀ i, i < 4 → Up (forceT q ts ws i)
  | [], _, h => h
  | _x :: ws, _, h => up_force ws (up_putW h)
theorem ins_le (x : Ix) (l : List Ix) : (ins x l).length ≤ l.length + 1 := by
  unfold ins
  rw [List.length_append, List.length_cons]
  have key : ∀ l : List Ix, (l.filter fun y => decide (y.k < x.k)).length + (l.filter fun y => decide (x.k < y.k)).length ≤ l.length := by
    intro l
    induction l with
    | nil => simp
    | cons y l ih =>
      simp only [List.filter_cons, List.length_cons]
      by_cases h1 : y.k < x.k
      · have h2 : ¬ x.k < y.k := by omega
        simp [h1, h2]; omega
      · by_cases h2 : x.k < y.k
        · simp [h1, h2]; omega
        · simp [h1, h2]; omega
  exact Nat.succ_le_succ (key l)
theorem putW_le {q : Int} {ts : Tb} {x : Wr} {n : Nat} (h : ∀ i, i < 4 → (ts i).length ≤ n) : ∀ i, i < 4 → (putW q ts x i).length ≤ n + 1 := fun i hi => by
  have hi1 := h i hi
  unfold putW
  split
  · omega
  · unfold Tb.upd
    split
    · rename_i e
      subst e
      have := ins_le (⟨x.k, x.cl q⟩ : Ix) (ts x.t.toNat)
      omega
    · omega
theorem force_le {q : Int} : ∀ (ws : List Wr) {ts : Tb} {n : Nat}, (∀ i, i < 4 → (ts i).length ≤ n) → ∀ i, i < 4 → (forceT q ts ws i).length ≤ n + ws.length
  | [], _, _, h => fun i hi => by have := h i hi; simpa [forceT] using this
  | x :: ws, ts, n, h => fun i hi => by
    have := force_le (q := q) ws (putW_le (q := q) (x := x) h) i hi
    have e : forceT q ts (x :: ws) i = forceT q (putW q ts x) ws i := rfl
    rw [e, List.length_cons]
    omega
theorem gat_mem {q : Int} {ts : Tb} {ws : List Wr} {t k : Int} {x : Wr} (h : gat q ts ws t k = some x) : x ∈ ws ∧ x.t = t ∧ x.k = k ∧ stay q (cellAt ts t k) = false := by
  unfold gat at h
  split at h
  · cases h
  · rename_i hs
    have h1 := List.mem_of_find?_eq_some h
    have h2 := List.find?_some h
    simp at h2
    exact ⟨h1, h2.1, h2.2, by simpa using hs⟩
/-- Some of what comes to stand stands. -/
structure Part (q : Int) (ts : Tb) (ws : List Wr) (left : Int → Int → Bool) (ts' : Tb) : Prop where
  up : ∀ i, i < 4 → Up (ts' i)
  at_ : ∀ t k, InT t → cellAt ts' t k = match gat q ts ws t k with | some x => if left t k then cellAt ts t k else some (x.cl q) | none => cellAt ts t k
theorem Part.start {q : Int} {ts : Tb} {ws : List Wr} {left : Int → Int → Bool} (h : ∀ i, i < 4 → Up (ts i)) (hl : ∀ t k x, gat q ts ws t k = some x → left t k = true) : Part q ts ws left ts :=
  ⟨h, fun t k _ => by
    cases hg : gat q ts ws t k with
    | none => rfl
    | some x => simp [hl t k x hg]⟩
theorem Part.step {q : Int} {ts : Tb} {ws : List Wr} {left left' : Int → Int → Bool} {ts' : Tb} (h : Part q ts ws left ts') {t k : Int} {x : Wr} (hg : gat q ts ws t k = some x) (ht : InT t) (hl : left t k = true)
    (hl' : ∀ u j, left' u j = (left u j && !(decide (u = t ∧ j = k)))) : Part q ts ws left' (ts'.upd t.toNat (ins ⟨k, x.cl q⟩ (ts' t.toNat))) ∧ cellAt ts' t k = cellAt ts t k := by
  refine ⟨⟨fun i hi => ?_, fun u j hu => ?_⟩, ?_⟩
  · unfold Tb.upd
    split
    · rename_i e; subst e; exact (h.up _ hi).ins _
    · exact h.up i hi
  · rw [cellAt_upd ht hu, h.at_ u j hu]
    by_cases e : t = u ∧ k = j
    · obtain ⟨rfl, rfl⟩ := e
      rw [if_pos ⟨rfl, rfl⟩, hg]
      simp [hl']
    · rw [if_neg e]
      have e2 : ¬ (u = t ∧ j = k) := fun c => e ⟨c.1.symm, c.2.symm⟩
      rw [hl', decide_eq_false e2]
      simp
  · rw [h.at_ t k ht, hg]
    simp [hl]
theorem Part.done {q : Int} {ts : Tb} {ws : List Wr} {left : Int → Int → Bool} {ts' : Tb} (h : Part q ts ws left ts') (hu : ∀ i, i < 4 → Up (ts i)) (hw : ∀ x ∈ ws, InT x.t) (hl : ∀ t k, left t k = false) : ∀ i, i < 4 → ts' i = forceT q ts ws i := fun i hi => by
  refine up_ext (h.up i hi) (up_force ws hu i hi) fun k => ?_
  have hin : InT (i : Int) := ⟨by omega, by omega⟩
  have h1 := h.at_ i k hin
  have h2 := force_at (q := q) (k := k) hin ws ts hw
  rw [cellAt_in hin] at h1 h2
  have e : ((i : Int)).toNat = i := by omega
  rw [e] at h1 h2
  rw [h1, h2]
  cases gat q ts ws i k with
  | none => rfl
  | some x => simp [hl]
theorem liveT_congr {ts ts' : Tb} (h : ∀ i, i < 4 → ts' i = ts i) : liveT ts' = liveT ts := by
  unfold liveT
  rw [h 0 (by omega), h 1 (by omega), h 2 (by omega), h 3 (by omega)]
/-- How the count of live ones turns. -/
theorem Part.live {ts' : Tb} (h : ∀ i, i < 4 → Up (ts' i)) {t k : Int} (ht : InT t) (c : Cl) : (liveT (ts'.upd t.toNat (ins ⟨k, c⟩ (ts' t.toNat))) : Int) = (liveT ts' : Int) - (one (cellAt ts' t k) : Int) + (one (some c) : Int) := by
  have hi : t.toNat < 4 := by unfold InT at ht; omega
  have h1 := live_upd ts' hi (ins ⟨k, c⟩ (ts' t.toNat))
  have h2 := live_ins (h _ hi) ⟨k, c⟩
  rw [cellAt_in ht]
  simp only at h2
  omega
end Go.Proofs.Ytejpjbmbcdgomaa
