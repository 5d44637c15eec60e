/- RS4, RS5, RS6: put together. -/
import Derived.Test.YtejpjbmbcdgomaaPt28
/- The document's store: Apply. -/
namespace Go.Proofs.Ytejpjbmbcdgomaa
set_option maxRecDepth 100000
open Go.RowKit

/-- What the document's Apply comes to: the entries, the last number, an error's number. -/
def apL (q : Int) (l : List En) (ws : List Wr) : List En := if takB q ws then (if (liveE (ws.foldl (putE q) l)).length ≤ 4096 then ws.foldl (putE q) l else l) else l
def apR (q : Int) (l : List En) (ws : List Wr) : Nat := if takB q ws then (if (liveE (ws.foldl (putE q) l)).length ≤ 4096 then 0 else 4) else 1
def apQ (q : Int) (l : List En) (last : Int) (ws : List Wr) : Int := if apR q l ws = 0 then max last q else last
def ApOutE (w : World) (A : Option Addr) (l RES : List En) (last : Int) (r : Nat) (e : Ending) (w' : World) : Prop := ∃ A' c', e = .returned (.tuple #[.agg #[.slice A' RES.length c', .int .i64 last], .int .i64 (r : Int)]) ∧ Ens w' A' RES ∧ Below w.heap.size w w' ∧ Near w A A' l RES
theorem ApOutE.of {w w' : World} {l RES : List En} {last : Int} {m c' r : Nat} {A A' : Option Addr} {rv : Int} (hr : rv = (r : Int)) (hm : m = RES.length) (h1 : Ens w' A' RES) (h2 : Below w.heap.size w w') (h3 : Near w A A' l RES) : ApOutE w A l RES last r (.returned (.tuple #[.agg #[.slice A' m c', .int .i64 last], .int .i64 rv])) w' := by
  subst hm hr
  exact ⟨A', c', rfl, h1, h2, h3⟩
theorem goE_le (f : En) : ∀ (l : List En) (d : Bool), (goE f d l).length ≤ l.length + (bif d then 0 else 1)
  | [], d => by cases d <;> simp [goE]
  | e :: l, d => by
    have h1 := goE_le f l true
    have h2 := goE_le f l false
    simp only [cond_true, cond_false] at h1 h2
    rw [goE, List.length_append, List.length_append, List.length_cons]
    cases d <;> cases lessE e f <;> cases sameE e f <;> simp <;> omega
theorem putE_le (q : Int) (l : List En) (x : Wr) : (putE q l x).length ≤ l.length + 1 := by
  unfold putE
  split
  · omega
  · exact goE_le _ l false
theorem foldE_le (q : Int) : ∀ (ws : List Wr) (l : List En), (ws.foldl (putE q) l).length ≤ l.length + ws.length
  | [], l => Nat.le_refl _
  | x :: ws, l => by
    have h1 := foldE_le q ws (putE q l x)
    have h2 := putE_le q l x
    simp only [List.foldl_cons, List.length_cons]
    omega
/-- Two boxes: the store, the result. -/
structure B2 (w wr : World) (p0 p1 : Nat) (A : Option Addr) (n c : Nat) (last : Int) : Prop where
  b0 : wr.heap[p0]? = some (.cells #[.slice A n c, .int .i64 last] 31 (0, 0))
  b1 : wr.heap[p1]? = some (.cells #[.slice none 0 0, .int .i64 0] 31 (0, 0))
  lo : w.heap.size ≤ p1
  bel : Below w.heap.size w wr
theorem B2.below {w wr w1 : World} {p0 p1 n c : Nat} {A : Option Addr} {last : Int} (h : B2 w wr p0 p1 A n c last) (hb : Below wr.heap.size wr w1) : B2 w w1 p0 p1 A n c last :=
  ⟨(hb.block _ (Array.getElem?_eq_some_iff.1 h.b0).1).trans h.b0, (hb.block _ (Array.getElem?_eq_some_iff.1 h.b1).1).trans h.b1, h.lo, h.bel.trans (hb.mono h.bel.size)⟩
theorem B2.fin {w wr : World} {p0 p1 n c : Nat} {A : Option Addr} {last : Int} (h : B2 w wr p0 p1 A n c last) (a b : Value) : Below w.heap.size w ((wr.setCell ⟨p1, 0, none⟩ a).setCell ⟨p1, 1, none⟩ b) ∧ ((wr.setCell ⟨p1, 0, none⟩ a).setCell ⟨p1, 1, none⟩ b).cell? ⟨p1, 0, none⟩ = some a ∧ ((wr.setCell ⟨p1, 0, none⟩ a).setCell ⟨p1, 1, none⟩ b).cell? ⟨p1, 1, none⟩ = some b := by
  have hb := (h.bel.setCell (p := ⟨p1, 0, none⟩) h.lo a).setCell (p := ⟨p1, 1, none⟩) h.lo b
  have h2 := heap_set _ p1 1 b (heap_set wr p1 0 a h.b1)
  exact ⟨hb, cell_of_row _ _ 0 _ _ _ h2, cell_of_row _ _ 1 _ _ _ h2⟩
theorem Ens.away {w : World} {A : Option Addr} {l : List En} (h : Ens w A l) {p : Nat} {a b : Value} {T : TypeId} (hp : w.heap[p]? = some (.cells #[a, b] T (0, 0))) (hl : 0 < l.length) : ∀ b o, A = some ⟨b, o, none⟩ → b ≠ p := by
  obtain ⟨b0, off, e, hc⟩ := Ens.cell h hl
  intro b1 o1 e1 e2
  rw [e] at e1
  injection e1 with e1
  injection e1 with e1 _ _
  have h4 := (hc 0 hl).2.2.2.2
  rw [e1, e2, cell_of_row _ _ _ _ _ _ hp, Nat.zero_mul] at h4
  have : (#[a, b] : Array Value)[off + 0 + 4]? = none := Array.getElem?_eq_none (by simp)
  rw [this] at h4
  cases h4
theorem Ens.same {w w1 : World} {A : Option Addr} {l : List En} (h : Ens w A l) (hk : 0 < l.length → ∀ b o, A = some ⟨b, o, none⟩ → w1.heap[b]? = w.heap[b]?) : Ens w1 A l := by
  rcases Nat.eq_zero_or_pos l.length with h0 | h0
  · exact ⟨rfl, h.2.1, fun hn => absurd hn (by omega)⟩
  · exact ⟨rfl, Rdv.same h.2 (hk h0)⟩
/-- The box 'next' beside them. -/
structure B3 (w wr : World) (p0 p1 p9 : Nat) (A : Option Addr) (n c : Nat) (last : Int) (v : Value) (lv : Int) : Prop where
  b : B2 w wr p0 p1 A n c last
  b9 : wr.heap[p9]? = some (.cells #[v, .int .i64 lv] 31 (0, 0))
  ne : p0 ≠ p9 ∧ p1 ≠ p9 ∧ w.heap.size ≤ p9
theorem B3.below {w wr w1 : World} {p0 p1 p9 n c : Nat} {A : Option Addr} {last lv : Int} {v : Value} (h : B3 w wr p0 p1 p9 A n c last v lv) (hb : Below wr.heap.size wr w1) : B3 w w1 p0 p1 p9 A n c last v lv :=
  ⟨h.b.below hb, (hb.block _ (Array.getElem?_eq_some_iff.1 h.b9).1).trans h.b9, h.ne⟩
theorem B3.set0 {w wr : World} {p0 p1 p9 n c : Nat} {A : Option Addr} {last lv : Int} {v : Value} (h : B3 w wr p0 p1 p9 A n c last v lv) (u : Value) : B3 w (wr.setCell ⟨p9, 0, none⟩ u) p0 p1 p9 A n c last u lv :=
  ⟨⟨(heap_ne _ _ _ _ h.ne.1).trans h.b.b0, (heap_ne _ _ _ _ h.ne.2.1).trans h.b.b1, h.b.lo, h.b.bel.setCell (p := ⟨p9, 0, none⟩) h.ne.2.2 u⟩, (heap_set wr p9 0 u h.b9).trans rfl, h.ne⟩
theorem B3.set1 {w wr : World} {p0 p1 p9 n c : Nat} {A : Option Addr} {last lv : Int} {v : Value} (h : B3 w wr p0 p1 p9 A n c last v lv) (u : Int) : B3 w (wr.setCell ⟨p9, 1, none⟩ (.int .i64 u)) p0 p1 p9 A n c last v u :=
  ⟨⟨(heap_ne _ _ _ _ h.ne.1).trans h.b.b0, (heap_ne _ _ _ _ h.ne.2.1).trans h.b.b1, h.b.lo, h.b.bel.setCell (p := ⟨p9, 1, none⟩) h.ne.2.2 _⟩, (heap_set wr p9 1 _ h.b9).trans rfl, h.ne⟩
theorem B3.ens {w wr : World} {p0 p1 p9 n c j : Nat} {A A' : Option Addr} {last lv : Int} {v u : Value} {l : List En} (h : B3 w wr p0 p1 p9 A n c last v lv) (he : Ens wr A' l) : Ens (wr.setCell ⟨p9, j, none⟩ u) A' l :=
  he.same fun hl b o e => heap_ne _ _ _ _ (he.away h.b9 hl b o e)
set_option maxHeartbeats 16000000 in
theorem r9apply_any {w : World} {A B : Option Addr} {c d : Nat} {l : List En} {last : Int} {ws : List Wr} (h : Ens w A l) (hl : l.length ≤ 50000) (hw : Wrs w B ws) (hwl : ws.length ≤ 50000) (q : Int) : Calls Try.prog 36 #[.agg #[.slice A l.length c, .int .i64 last], .int .i64 q, .slice B ws.length d] w fun e w' => ApOutE w A l (apL q l ws) (apQ q l last ws) (apR q l ws) e w' := by
  obtain ⟨n, hn⟩ : ∃ n, n = l.length := ⟨_, rfl⟩
  obtain ⟨W1, hW1⟩ : ∃ W1, W1 = ((w.alloc (.cells #[.slice A n c, .int .i64 last] 31)).alloc (.cells #[.slice none 0 0, .int .i64 0] 31)) := ⟨_, rfl⟩
  have h3 := blocks2 w (.cells #[.slice A n c, .int .i64 last] 31) (.cells #[.slice none 0 0, .int .i64 0] 31)
  rw [← hW1] at h3
  have HW := Lib.hid hW1
  obtain ⟨p0, hp0⟩ : ∃ p0, p0 = w.heap.size := ⟨_, rfl⟩
  obtain ⟨p1, hp1⟩ : ∃ p1, p1 = p0 + 1 := ⟨_, rfl⟩
  rw [← hp0, ← hp1] at h3
  have HB : Hid (B2 w W1 p0 p1 A n c last) := Lib.hid ⟨h3.1, h3.2.1, by omega, by rw [← hp0]; rw [hp0] at h3; rw [hp0]; exact h3.2.2.2⟩
  have HP := Lib.hid (And.intro hp0 hp1)
  obtain ⟨RL, hRL⟩ : ∃ RL, RL = apL q l ws := ⟨_, rfl⟩
  obtain ⟨RQ, hRQ⟩ : ∃ RQ, RQ = apQ q l last ws := ⟨_, rfl⟩
  obtain ⟨RR, hRR⟩ : ∃ RR, RR = apR q l ws := ⟨_, rfl⟩
  have HRES := Lib.hid (And.intro hRL (And.intro hRQ hRR))
  rw [← hRL, ← hRQ, ← hRR, ← hn]
  have HBAD : Hid (takB q ws = false → RL = l ∧ RQ = last ∧ RR = 1) := Lib.hid fun ht => by
    have h9 : apR q l ws = 1 := by unfold apR; rw [ht]; rfl
    exact ⟨by rw [hRL]; unfold apL; rw [ht]; rfl, by rw [hRQ]; unfold apQ; rw [h9]; rfl, by rw [hRR, h9]⟩
  obtain ⟨m, hm⟩ : ∃ m, m = ws.length := ⟨_, rfl⟩
  have HM := Lib.hid (And.intro hm hwl)
  have HN := Lib.hid (And.intro hn hl)
  have HH := Lib.hid h
  have HWS := Lib.hid hw
  rw [← hm]
  clear hW1 h3 hp0 hp1 hRL hRQ hRR hn hm h hl hw hwl
  go_enter Try.func36, Try.ntmps36
  go_upto_region 1 with fail
  rw [← HW.out, ← HP.out.1, ← HP.out.2]
  have f0 : W1.cell? ⟨p0, 0, none⟩ = some (.slice A n c) := by rw [cell_of_row _ _ 0 _ _ _ HB.out.b0]; rfl
  have f1 : W1.cell? ⟨p0, 1, none⟩ = some (.int .i64 last) := by rw [cell_of_row _ _ 1 _ _ _ HB.out.b0]; rfl
  have f2 : W1.cell? ⟨p1, 0, none⟩ = some (.slice none 0 0) := by rw [cell_of_row _ _ 0 _ _ _ HB.out.b1]; rfl
  have f3 : W1.cell? ⟨p1, 1, none⟩ = some (.int .i64 0) := by rw [cell_of_row _ _ 1 _ _ _ HB.out.b1]; rfl
  have f4 := frozen_of HB.out.b1
  have HFI := Lib.hid (HB.out.fin (.slice A n c) (.int .i64 last))
  by_cases hq : q < 1
  · have HQ := Lib.hid (HBAD.out (takB_low hq))
    go_wp2_with fail
    refine bodyPost_ret (v := .tuple #[.agg #[.slice A n c, .int .i64 last], .int .i64 1]) (by simp [results, Try.results36, go_sem, HFI.out.2.1, HFI.out.2.2]) rfl ?_
    rw [HQ.out.1, HQ.out.2.1, HQ.out.2.2]
    exact ApOutE.of rfl HN.out.1 (RowAt.below HH.out HFI.out.1) HFI.out.1 (Near.refl _ _ _)
  · have dq : decide (q < 1) = false := by simpa using hq
    clear dq
    go_wp2_with fail
    go_loopw [8, 14, 15, 16, 17, 18, 19, 20, 21, 22, 23, 24, 25, 26, 27, 28, 29, 30, 31, 32, 33, 34, 35, 36] (fun ix _ _ _ _ _ _ _ _ _ _ _ _ _ _ _ _ _ _ _ _ _ _ _ wr => ∃ z : Nat, ix = .int .i64 (z : Int) ∧ z ≤ m ∧ (∀ (j : Nat) (hj : j < ws.length), j < z → InT ws[j].t) ∧ wr = W1) (fun ix _ _ _ _ _ _ _ _ _ _ _ _ _ _ _ _ _ _ _ _ _ _ _ wr => m - (intOf ix).toNat)
    case atStart => exact ⟨0, rfl, Nat.zero_le _, fun j hj h => by omega, rfl⟩
    case round =>
      obtain ⟨z, rfl, hz, he, rfl⟩ := hrel
      have HE := Lib.hid he
      clear he
      by_cases hlt : z < m
      · have hzl : z < ws.length := by rw [← HM.out.1]; exact hlt
        obtain ⟨b, off, rfl, hcl⟩ := Wrs.cell (RowAt.below HWS.out HB.out.bel) (by omega)
        obtain ⟨x0, x1, x2, x3⟩ := hcl z hzl
        obtain ⟨x, hx⟩ : ∃ x, x = ws[z] := ⟨_, rfl⟩
        rw [← hx] at x0 x1 x2 x3
        have HX : Hid (x ∈ ws) := Lib.hid (by rw [hx]; exact List.getElem_mem hzl)
        have HXZ : Hid (∀ (hj : z < ws.length), ws[z].t = x.t) := Lib.hid fun _ => by rw [hx]
        have hmb : m ≤ 50000 := by rw [HM.out.1]; exact HM.out.2
        clear hcl hx hzl
        by_cases ha : x.t < 0
        · have HQ := Lib.hid (HBAD.out (takB_bad HX.out (fun h => by unfold InT at h; omega)))
          go_wp2_with fail
          refine bodyPost_ret (v := .tuple #[.agg #[.slice A n c, .int .i64 last], .int .i64 1]) (by simp [results, Try.results36, go_sem, HFI.out.2.1, HFI.out.2.2]) rfl ?_
          rw [HQ.out.1, HQ.out.2.1, HQ.out.2.2]
          exact ApOutE.of rfl HN.out.1 (RowAt.below HH.out HFI.out.1) HFI.out.1 (Near.refl _ _ _)
        · by_cases hb : 3 < x.t
          · have HQ := Lib.hid (HBAD.out (takB_bad HX.out (fun h => by unfold InT at h; omega)))
            go_wp2_with fail
            refine bodyPost_ret (v := .tuple #[.agg #[.slice A n c, .int .i64 last], .int .i64 1]) (by simp [results, Try.results36, go_sem, HFI.out.2.1, HFI.out.2.2]) rfl ?_
            rw [HQ.out.1, HQ.out.2.1, HQ.out.2.2]
            exact ApOutE.of rfl HN.out.1 (RowAt.below HH.out HFI.out.1) HFI.out.1 (Near.refl _ _ _)
          · have HT : Hid (InT x.t) := Lib.hid (by unfold InT; omega)
            have HNX : Hid (∀ (j : Nat) (hj : j < ws.length), j < z + 1 → InT ws[j].t) := Lib.hid (by
              intro j hj h
              rcases Nat.lt_or_ge j z with e | e
              · exact HE.out j hj e
              · obtain rfl : j = z := by omega
                rw [HXZ.out]
                exact HT.out)
            go_wp2_with fail
            go_roundw
            case rel => exact ⟨z + 1, by go_num, by omega, HNX.out, trivial⟩
            case measure => simp [intOf]; omega
      · obtain rfl : z = m := by omega
        have HTK : Hid (takB q ws = true) := Lib.hid (takB_good (by omega) fun j hj => HE.out j hj (by rw [HM.out.1]; exact hj))
        have HIN : Hid (∀ (j : Nat) (hj : j < ws.length), InT ws[j].t) := Lib.hid fun j hj => HE.out j hj (by rw [HM.out.1]; exact hj)
        clear HE HBAD
        obtain ⟨p9, hp9⟩ : ∃ p9, p9 = wr.heap.size := ⟨_, rfl⟩
        obtain ⟨W2, hW2⟩ : ∃ W2, W2 = wr.alloc (.cells #[.slice A n c, .int .i64 last] 31) := ⟨_, rfl⟩
        have HB3 : Hid (B3 w W2 p0 p1 p9 A n c last (.slice A n c) last ∧ Ens W2 A l) := Lib.hid (by
          have hbb := (Below.refl wr.heap.size wr).alloc (Nat.le_refl _) (.cells #[.slice A n c, .int .i64 last] 31)
          have hb := HB.out.below hbb
          rw [hW2, hp9]
          exact ⟨⟨hb, heap_alloc_new wr _, by have := (Array.getElem?_eq_some_iff.1 HB.out.b0).1; omega, by have := (Array.getElem?_eq_some_iff.1 HB.out.b1).1; omega, HB.out.bel.size⟩, RowAt.below HH.out hb.bel⟩)
        have HW2 := Lib.hid hW2
        have HP9 := Lib.hid hp9
        clear hW2 hp9
        go_upto_region 9 with fail
        rw [← HW2.out, ← HP9.out]
        clear f0 f1 f2 f3 f4 HFI
        rename World => w1
        go_wp2_with fail
        go_loopw [10, 38, 39, 40, 41, 42, 43, 44, 45, 46, 47, 48, 49, 50] (fun ix _ _ _ _ _ _ _ _ _ _ _ _ _ wr => ∃ (i : Nat) (Az : Option Addr) (cz : Nat), ix = .int .i64 (i : Int) ∧ i ≤ z ∧ B3 w wr p0 p1 p9 A n c last (.slice Az ((ws.take i).foldl (putE q) l).length cz) last ∧ Ens wr Az ((ws.take i).foldl (putE q) l) ∧ Near w A Az l ((ws.take i).foldl (putE q) l)) (fun ix _ _ _ _ _ _ _ _ _ _ _ _ _ wr => z - (intOf ix).toNat)
        case atStart => exact ⟨0, A, c, rfl, Nat.zero_le _, by have h9 := HB3.out.1; show B3 w w1 p0 p1 p9 A n c last (.slice A l.length c) last; rw [← HN.out.1]; exact h9, HB3.out.2, Near.refl _ _ _⟩
        case round =>
          obtain ⟨i, Az, cz, rfl, hi, h3, hens, hnr⟩ := hrel
          obtain ⟨lz, hlz⟩ : ∃ lz, lz = (ws.take i).foldl (putE q) l := ⟨_, rfl⟩
          rw [← hlz] at h3 hens hnr
          have HNR := Lib.hid hnr
          clear hnr
          have H3 := Lib.hid (And.intro h3 hens)
          have HLZ := Lib.hid hlz
          have hll : lz.length ≤ 100000 := by
            have h9 := foldE_le q (ws.take i) l
            have h8 := HN.out.2
            have h7 := HM.out.2
            have h6 : (ws.take i).length ≤ ws.length := List.length_take_le' _ _
            rw [hlz]; omega
          have HLL := Lib.hid hll
          obtain ⟨nz, hnz⟩ : ∃ nz, nz = lz.length := ⟨_, rfl⟩
          have HNZ := Lib.hid hnz
          clear hll hlz
          by_cases hil : i < z
          · have hzl : i < ws.length := by rw [← HM.out.1]; exact hil
            obtain ⟨b, off, rfl, hcl⟩ := Wrs.cell (RowAt.below HWS.out h3.b.bel) (by omega)
            obtain ⟨x0, x1, x2, x3⟩ := hcl i hzl
            obtain ⟨x, hx⟩ : ∃ x, x = ws[i] := ⟨_, rfl⟩
            have HTA : Hid ((ws.take (i + 1)).foldl (putE q) l = putE q lz x) := Lib.hid (by rw [List.take_succ_eq_append_getElem hzl, List.foldl_append, ← HLZ.out, hx]; rfl)
            have HIX : Hid (InT x.t) := Lib.hid (by rw [hx]; exact HIN.out i hzl)
            rw [← hx] at x0 x1 x2 x3
            have hmb : z ≤ 50000 := by rw [HM.out.1]; exact HM.out.2
            have y0 : wr.cell? ⟨p9, 0, none⟩ = some (.slice Az nz cz) := by rw [cell_of_row _ _ 0 _ _ _ h3.b9, hnz]; rfl
            have y1 : wr.cell? ⟨p9, 1, none⟩ = some (.int .i64 last) := by rw [cell_of_row _ _ 1 _ _ _ h3.b9]; rfl
            have HPU : Hid (∀ w2, Below wr.heap.size wr w2 → Calls Try.prog 78 #[.agg #[.slice Az nz cz, .int .i64 last], .int .i64 q, .agg #[.int .i64 x.t, .int .i64 x.k, .int .i64 x.v, .bool x.dead]] w2 fun e w' => PutOut w2 Az lz (putE q lz x) last e w') := Lib.hid (by rw [hnz]; exact fun w2 hb => r9put_any (RowAt.below H3.out.2 hb) HLL.out q x HIX.out)
            clear hcl hx hzl h3 hens hnz
            go_upto_region 12 with fail
            go_region_law (go_simp; go_at_call 78; refine Calls.mono (HPU.out _ (Below.refl _ _).drew) ?_; rintro e1 w3 ⟨A8, c8, rfl, g1, g2, g3⟩; have HN8 := Lib.hid (HNR.out.trans g3 H3.out.1.b.bel.size); have hb3 := undrewB g2; have h33 := H3.out.1.below hb3; have v0 : w3.cell? ⟨p9, 0, none⟩ = some (.slice Az nz cz) := (by rw [cell_of_row _ _ 0 _ _ _ h33.b9, HNZ.out]; rfl); have v1 : w3.cell? ⟨p9, 1, none⟩ = some (.int .i64 last) := (by rw [cell_of_row _ _ 1 _ _ _ h33.b9]; rfl); have vf := frozen_of h33.b9; have HNX := Lib.hid (And.intro ((h33.set0 (.slice A8 (putE q lz x).length c8)).set1 last) ((h33.set0 (.slice A8 (putE q lz x).length c8)).ens (j := 1) (u := .int .i64 last) (h33.ens (j := 0) (u := .slice A8 (putE q lz x).length c8) g1))); clear g1 g2 g3 hb3 h33)
            all_goals
              go_wp2_with fail
              go_roundw
              case rel => exact ⟨i + 1, A8, c8, by go_num, by omega, by rw [HTA.out]; exact HNX.out.1, by rw [HTA.out]; exact HNX.out.2, by rw [HTA.out]; exact HN8.out⟩
              case measure => simp [intOf]; omega
          · obtain rfl : i = z := by omega
            have HLW : Hid (lz = ws.foldl (putE q) l) := Lib.hid (by rw [HLZ.out, List.take_of_length_le (by rw [HM.out.1]; exact Nat.le_refl _)])
            have y0 : wr.cell? ⟨p9, 0, none⟩ = some (.slice Az nz cz) := by rw [cell_of_row _ _ 0 _ _ _ h3.b9, hnz]; rfl
            have y1 : wr.cell? ⟨p9, 1, none⟩ = some (.int .i64 last) := by rw [cell_of_row _ _ 1 _ _ _ h3.b9]; rfl
            have HLV := Lib.hid (r9live_any (c := cz) (last := last) hens HLL.out)
            rw [← hnz] at HLV
            obtain ⟨lv, hlv⟩ : ∃ lv, lv = (liveE lz).length := ⟨_, rfl⟩
            have HLI := Lib.hid hlv
            rw [← hlv] at HLV
            clear h3 hens hnz hlv
            go_wp2_with fail
            refine Calls.mono HLV.out ?_
            rintro e w3 ⟨rfl, hb3⟩
            have h33 := H3.out.1.below hb3
            have HE3 := Lib.hid (RowAt.below H3.out.2 hb3)
            have H33 := Lib.hid h33
            clear hb3 y0 y1
            have f0 : w3.cell? ⟨p0, 0, none⟩ = some (.slice A n c) := by rw [cell_of_row _ _ 0 _ _ _ h33.b.b0]; rfl
            have f1 : w3.cell? ⟨p0, 1, none⟩ = some (.int .i64 last) := by rw [cell_of_row _ _ 1 _ _ _ h33.b.b0]; rfl
            have f2 : w3.cell? ⟨p1, 0, none⟩ = some (.slice none 0 0) := by rw [cell_of_row _ _ 0 _ _ _ h33.b.b1]; rfl
            have f3 : w3.cell? ⟨p1, 1, none⟩ = some (.int .i64 0) := by rw [cell_of_row _ _ 1 _ _ _ h33.b.b1]; rfl
            have f4 := frozen_of h33.b.b1
            have y0 : w3.cell? ⟨p9, 0, none⟩ = some (.slice Az nz cz) := by rw [cell_of_row _ _ 0 _ _ _ h33.b9, HNZ.out]; rfl
            have y1 : w3.cell? ⟨p9, 1, none⟩ = some (.int .i64 last) := by rw [cell_of_row _ _ 1 _ _ _ h33.b9]; rfl
            have y2 := frozen_of h33.b9
            clear h33
            by_cases hfull : 4096 < lv
            · have hfi : (4096 : Int) < (lv : Int) := by omega
              have HFI := Lib.hid (H33.out.b.fin (.slice A n c) (.int .i64 last))
              have HR9 : Hid (RR = 4) := Lib.hid (by rw [HRES.out.2.2]; unfold apR; rw [HTK.out, ← HLW.out, ← HLI.out, if_pos rfl, if_neg (by omega)])
              have HR8 : Hid (RL = l ∧ RQ = last) := Lib.hid ⟨by rw [HRES.out.1]; unfold apL; rw [HTK.out, ← HLW.out, ← HLI.out, if_pos rfl, if_neg (by omega)], by rw [HRES.out.2.1]; unfold apQ; rw [← HRES.out.2.2, HR9.out]; rfl⟩
              go_wp2_with fail
              refine bodyPost_ret (v := .tuple #[.agg #[.slice A n c, .int .i64 last], .int .i64 4]) (by simp [results, Try.results36, go_sem, HFI.out.2.1, HFI.out.2.2]) rfl ?_
              rw [HR8.out.1, HR8.out.2, HR9.out]
              exact ApOutE.of rfl HN.out.1 (RowAt.below HH.out HFI.out.1) HFI.out.1 (Near.refl _ _ _)
            · have hfi : ¬ (4096 : Int) < (lv : Int) := by omega
              have HR9 : Hid (RR = 0) := Lib.hid (by rw [HRES.out.2.2]; unfold apR; rw [HTK.out, ← HLW.out, ← HLI.out, if_pos rfl, if_pos (by omega)])
              have HR8 : Hid (RL = lz ∧ RQ = max last q) := Lib.hid ⟨by rw [HRES.out.1]; unfold apL; rw [HTK.out, ← HLW.out, ← HLI.out, if_pos rfl, if_pos (by omega)], by rw [HRES.out.2.1]; unfold apQ; rw [← HRES.out.2.2, HR9.out]; rfl⟩
              by_cases hlq : last < q
              · have H44 := Lib.hid (And.intro (H33.out.set1 q) (H33.out.ens (j := 1) (u := .int .i64 q) HE3.out))
                obtain ⟨w5, hw5⟩ : ∃ w5, w5 = w3.setCell ⟨p9, 1, none⟩ (.int .i64 q) := ⟨_, rfl⟩
                rw [← hw5] at H44
                have HW5 := Lib.hid hw5
                clear hw5
                go_upto_region 17 with fail
                rw [← HW5.out]
                clear f0 f1 f2 f3 f4 y0 y1 y2
                have f2 : w5.cell? ⟨p1, 0, none⟩ = some (.slice none 0 0) := by rw [cell_of_row _ _ 0 _ _ _ H44.out.1.b.b1]; rfl
                have f3 : w5.cell? ⟨p1, 1, none⟩ = some (.int .i64 0) := by rw [cell_of_row _ _ 1 _ _ _ H44.out.1.b.b1]; rfl
                have f4 := frozen_of H44.out.1.b.b1
                have y0 : w5.cell? ⟨p9, 0, none⟩ = some (.slice Az nz cz) := by rw [cell_of_row _ _ 0 _ _ _ H44.out.1.b9, HNZ.out]; rfl
                have y1 : w5.cell? ⟨p9, 1, none⟩ = some (.int .i64 q) := by rw [cell_of_row _ _ 1 _ _ _ H44.out.1.b9]; rfl
                have HFI := Lib.hid (H44.out.1.b.fin (.slice Az nz cz) (.int .i64 q))
                have HEF := Lib.hid (Ens.same (w1 := (w5.setCell ⟨p1, 0, none⟩ (.slice Az nz cz)).setCell ⟨p1, 1, none⟩ (.int .i64 q)) H44.out.2 fun hl b o e => by
                  have hn := Ens.away H44.out.2 H44.out.1.b.b1 hl b o e
                  rw [heap_ne _ _ _ _ hn, heap_ne _ _ _ _ hn])
                go_wp2_with fail
                refine bodyPost_ret (v := .tuple #[.agg #[.slice Az nz cz, .int .i64 q], .int .i64 0]) (by simp [results, Try.results36, go_sem, HFI.out.2.1, HFI.out.2.2]) rfl ?_
                rw [HR8.out.1, HR8.out.2, HR9.out, show max last q = q by omega]
                exact ApOutE.of rfl HNZ.out HEF.out HFI.out.1 HNR.out
              · have HFI := Lib.hid (H33.out.b.fin (.slice Az nz cz) (.int .i64 last))
                have HEF := Lib.hid (Ens.same (w1 := (w3.setCell ⟨p1, 0, none⟩ (.slice Az nz cz)).setCell ⟨p1, 1, none⟩ (.int .i64 last)) HE3.out fun hl b o e => by
                  have hn := Ens.away HE3.out H33.out.b.b1 hl b o e
                  rw [heap_ne _ _ _ _ hn, heap_ne _ _ _ _ hn])
                go_wp2_with fail
                refine bodyPost_ret (v := .tuple #[.agg #[.slice Az nz cz, .int .i64 last], .int .i64 0]) (by simp [results, Try.results36, go_sem, HFI.out.2.1, HFI.out.2.2]) rfl ?_
                rw [HR8.out.1, HR8.out.2, HR9.out, show max last q = last by omega]
                exact ApOutE.of rfl HNZ.out HEF.out HFI.out.1 HNR.out
end Go.Proofs.Ytejpjbmbcdgomaa

/- The document's store: Range. Written by gen_rs5.py. -/
namespace Go.Proofs.Ytejpjbmbcdgomaa
set_option maxRecDepth 100000
open Go.RowKit

def inE (t lo hi : Int) (e : En) : Bool := decide ((e.t : Int) = t) && (decide (lo ≤ e.x.k) && (decide (e.x.k ≤ hi) && !e.x.c.dead))
def rangeE (t lo hi : Int) (l : List En) : List En := l.filter (inE t lo hi)
abbrev Eno (w : World) (B : Nat) (v : Value) (l : List En) : Prop := w.ownsRow B 46 5 v l.length (rowV En.vals l)
theorem Eno.below {w w' : World} {B : Nat} {v : Value} {l : List En} (h : Eno w B v l) (hb : Below w.heap.size w w') : Eno w' B v l := own_same h fun q hq => by
  obtain ⟨_, e⟩ := own_at h hq
  exact hb.block q (Array.getElem?_eq_some_iff.1 e).1
theorem own_down {w : World} {B B' e size n : Nat} {v : Value} {xs : List Value} (h : w.ownsRow B e size v n xs) (hB : B' ≤ B) : w.ownsRow B' e size v n xs := by
  refine ⟨h.1, ?_⟩
  rcases h.2 with h0 | ⟨g, c, cur, e, h1, h2⟩
  · exact .inl h0
  · exact .inr ⟨g, c, cur, e, Nat.le_trans hB h1, h2⟩
end Go.Proofs.Ytejpjbmbcdgomaa

/- The document's Apply on a store's entries. -/
namespace Go.Proofs.Ytejpjbmbcdgomaa
set_option maxRecDepth 100000
open Go.RowKit

theorem apR_ents {q : Int} {ts : Tb} {ws : List Wr} (hu : ∀ i, i < 4 → Up (ts i)) : apR q (ents ts) ws = apN q ts ws := by
  unfold apR apN
  cases ht : takB q ws with
  | false => rfl
  | true =>
    rw [if_pos rfl, if_pos rfl, foldE_ents ws hu (takB_in ht).2, liveE_ents]
theorem apL_ents {q : Int} {ts : Tb} {ws : List Wr} (hu : ∀ i, i < 4 → Up (ts i)) : apL q (ents ts) ws = ents (if apN q ts ws = 0 then forceT q ts ws else ts) := by
  unfold apL apN
  cases ht : takB q ws with
  | false => rfl
  | true =>
    rw [if_pos rfl, if_pos rfl, foldE_ents ws hu (takB_in ht).2, liveE_ents]
    by_cases h : liveT (forceT q ts ws) ≤ 4096
    · rw [if_pos h, if_pos h, if_pos rfl]
    · rw [if_neg h, if_neg h, if_neg (by decide)]
/-- The store's Apply and the document's come to the same. -/
theorem ApOut.same {q : Int} {ts ts' : Tb} {ws : List Wr} {last last' : Int} (h : ApOut q ts ws (apN q ts ws) last ts' last') (hu : ∀ i, i < 4 → Up (ts i)) : apL q (ents ts) ws = ents ts' ∧ apQ q (ents ts) last ws = last' ∧ apR q (ents ts) ws = apN q ts ws := by
  rw [apL_ents hu]
  unfold apQ
  rw [apR_ents hu]
  rcases h.out with ⟨h1, rfl, rfl⟩ | ⟨h1, rfl, rfl⟩
  · rw [if_pos h1, if_pos h1]; exact ⟨rfl, rfl, rfl⟩
  · rw [if_neg h1, if_neg h1]; exact ⟨rfl, rfl, rfl⟩
end Go.Proofs.Ytejpjbmbcdgomaa
