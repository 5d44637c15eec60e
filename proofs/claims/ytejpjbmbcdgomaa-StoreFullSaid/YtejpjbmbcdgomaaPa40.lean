/- SApply, SNew: put together. -/
import Derived.Test.YtejpjbmbcdgomaaPa39
/- Apply: a transaction's writes are put, or refused; Live, Last. -/
namespace Go.Proofs.Ytejpjbmbcdgomaa
set_option maxRecDepth 100000
open Go.RowKit

/-- What Apply answers: 0: nil, 1: ErrRange, 4: ErrFull. -/
def apN (q : Int) (ts : Tb) (ws : List Wr) : Nat := if takB q ws then (if liveT (forceT q ts ws) ≤ 4096 then 0 else 4) else 1
structure ApOut (q : Int) (ts : Tb) (ws : List Wr) (r : Nat) (last : Int) (ts' : Tb) (last' : Int) : Prop where
  out : (r = 0 ∧ ts' = forceT q ts ws ∧ last' = max last q) ∨ (r ≠ 0 ∧ ts' = ts ∧ last' = last)
def errV (n : Nat) : Value := if n = 0 then .nilIface else .iface 64 (.int .i64 (n : Int))
set_option maxHeartbeats 4000000 in
theorem apply_any {w : World} {G : Nat → Prop} {sb : Nat} {ts : Tb} {last : Int} {A : Option Addr} {c : Nat} {ws : List Wr} (q : Int) (hM : SM w G sb ts (liveT ts : Int) last) (h : Wrs w A ws) (hK : NumW ws) (hl : ws.length ≤ 50000) (hN : ∀ i, i < 4 → (ts i).length ≤ 50000) :
    Calls Try.prog 16 #[.pointer (some ⟨sb, 0, none⟩), .int .i64 q, .slice A ws.length c] w fun e w' => e = .returned (errV (apN q ts ws)) ∧ ∃ G' ts' last', SM w' G' sb ts' (liveT ts' : Int) last' ∧ Cg w w' G G' ∧
      ApOut q ts ws (apN q ts ws) last ts' last' := by
  have HT := Lib.hid (takes_any (sb := sb) (c := c) q h (by omega))
  have HM := Lib.hid hM
  obtain ⟨n, hn⟩ : ∃ n, n = ws.length := ⟨_, rfl⟩
  have HFT := Lib.hid (fun (w1 : World) (hb : Below w.heap.size w w1) => fits_any (c := c) q (hM.below hb) (RowAt.below h hb) hK hl hN)
  have HFO := Lib.hid (fun (w1 : World) (hb : Below w.heap.size w w1) (ht : takB q ws = true) => force_any (c := c) q (hM.below hb) (RowAt.below h hb) hK hl hN ht)
  obtain ⟨r, hr⟩ : ∃ r, r = apN q ts ws := ⟨_, rfl⟩
  have HR := Lib.hid hr
  rw [← hr]
  rw [← hn] at HT HFT HFO ⊢
  obtain ⟨tk, htk⟩ : ∃ tk, tk = takB q ws := ⟨_, rfl⟩
  obtain ⟨fi, hfi⟩ : ∃ fi, fi = decide (liveT (forceT q ts ws) ≤ 4096) := ⟨_, rfl⟩
  have HTK := Lib.hid htk
  have HFI := Lib.hid hfi
  rw [← htk] at HT
  rw [← htk, ← hfi] at HFT
  clear hM h hK hl hN hn hr htk hfi
  obtain ⟨rv, hrv⟩ : ∃ rv, rv = errV r := ⟨_, rfl⟩
  have HRV := Lib.hid hrv
  rw [← hrv]
  clear hrv
  go_enter Try.func16, Try.ntmps16
  go_wp2_with fail
  refine Calls.mono HT.out ?_
  rintro e w1 ⟨rfl, hb1⟩
  have HB1 := Lib.hid hb1
  clear hb1
  cases tk with
  | false =>
    obtain rfl : r = 1 := by rw [HR.out]; unfold apN; rw [← HTK.out]; rfl
    obtain rfl : rv = .iface 64 (.int .i64 1) := HRV.out
    go_wp2_with fail
    go_ret
    exact ⟨rfl, G, ts, last, HM.out.below HB1.out, Cg.of_below HB1.out G, ⟨.inr ⟨by decide, rfl, rfl⟩⟩⟩
  | true =>
    go_wp2_with fail
    refine Calls.mono (HFT.out _ HB1.out) ?_
    rintro e w2 ⟨rfl, hb2⟩
    have HB2 := Lib.hid (HB1.out.trans (hb2.mono HB1.out.size))
    clear hb2
    cases fi with
    | false =>
      obtain rfl : r = 4 := by
        rw [HR.out]; unfold apN; rw [← HTK.out]
        have := of_decide_eq_false HFI.out.symm
        simp [this]
      obtain rfl : rv = .iface 64 (.int .i64 4) := HRV.out
      go_wp2_with fail
      go_ret
      exact ⟨rfl, G, ts, last, HM.out.below HB2.out, Cg.of_below HB2.out G, ⟨.inr ⟨by decide, rfl, rfl⟩⟩⟩
    | true =>
      obtain rfl : r = 0 := by
        rw [HR.out]; unfold apN; rw [← HTK.out]
        have := of_decide_eq_true HFI.out.symm
        simp [this]
      obtain rfl : rv = .nilIface := HRV.out
      go_wp2_with fail
      refine Calls.mono (HFO.out _ HB2.out HTK.out.symm) ?_
      rintro e w3 ⟨rfl, G', h1, h2⟩
      have HE := Lib.hid (And.intro h1 h2)
      clear h1 h2
      go_wp2_with fail
      go_ret
      exact ⟨rfl, G', _, _, HE.out.1, (Cg.of_below HB2.out G).trans HE.out.2, ⟨.inl ⟨rfl, rfl, rfl⟩⟩⟩
theorem slive_any {w : World} {G : Nat → Prop} {sb : Nat} {ts : Tb} {live last : Int} (hM : SM w G sb ts live last) : Calls Try.prog 29 #[.pointer (some ⟨sb, 0, none⟩)] w fun e w' => e = .returned (.int .i64 live) ∧ w = w' := by
  have c4 := hM.live4
  clear hM
  go_enter Try.func29, Try.ntmps29
  go_wp2_with fail
  go_ret
  exact ⟨rfl, rfl⟩
theorem slast_any {w : World} {G : Nat → Prop} {sb : Nat} {ts : Tb} {live last : Int} (hM : SM w G sb ts live last) : Calls Try.prog 30 #[.pointer (some ⟨sb, 0, none⟩)] w fun e w' => e = .returned (.int .i64 last) ∧ w = w' := by
  have c5 := hM.last5
  clear hM
  go_enter Try.func30, Try.ntmps30
  go_wp2_with fail
  go_ret
  exact ⟨rfl, rfl⟩
end Go.Proofs.Ytejpjbmbcdgomaa

/- New: a store without cells. -/
namespace Go.Proofs.Ytejpjbmbcdgomaa
set_option maxRecDepth 100000
open Go.RowKit

def pvN (tb : Nat → Nat) (i j : Nat) : Value := if j < i then .pointer (some ⟨tb j, 0, none⟩) else .pointer none
def stN (tb : Nat → Nat) (i : Nat) : Array Value := #[pvN tb i 0, pvN tb i 1, pvN tb i 2, pvN tb i 3, .int .i64 0, .int .i64 0]
theorem pvN_ne {tb : Nat → Nat} {i b j : Nat} (h : j ≠ i) : pvN (fun q => if q = i then b else tb q) (i + 1) j = pvN tb i j := by
  unfold pvN
  by_cases e : j < i
  · rw [if_pos e, if_pos (by omega)]
    show Value.pointer (some ⟨if j = i then b else tb j, 0, none⟩) = _
    rw [if_neg h]
  · rw [if_neg e, if_neg (by omega)]
theorem pvN_eq {tb : Nat → Nat} {i b : Nat} : pvN (fun q => if q = i then b else tb q) (i + 1) i = .pointer (some ⟨b, 0, none⟩) := by
  unfold pvN
  rw [if_pos (by omega)]
  show Value.pointer (some ⟨if i = i then b else tb i, 0, none⟩) = _
  rw [if_pos rfl]
theorem stN_set (tb : Nat → Nat) {i : Nat} (hi : i < 4) (b : Nat) : (stN tb i).setIfInBounds i (.pointer (some ⟨b, 0, none⟩)) = stN (fun j => if j = i then b else tb j) (i + 1) := by
  have : i = 0 ∨ i = 1 ∨ i = 2 ∨ i = 3 := by omega
  rcases this with rfl | rfl | rfl | rfl
  · show #[_, _, _, _, _, _] = stN _ _
    unfold stN
    rw [pvN_eq, pvN_ne (by decide), pvN_ne (by decide), pvN_ne (by decide)]
  · show #[_, _, _, _, _, _] = stN _ _
    unfold stN
    rw [pvN_eq, pvN_ne (by decide), pvN_ne (by decide), pvN_ne (by decide)]
  · show #[_, _, _, _, _, _] = stN _ _
    unfold stN
    rw [pvN_eq, pvN_ne (by decide), pvN_ne (by decide), pvN_ne (by decide)]
  · show #[_, _, _, _, _, _] = stN _ _
    unfold stN
    rw [pvN_eq, pvN_ne (by decide), pvN_ne (by decide), pvN_ne (by decide)]
/-- The first i trees are laid. -/
structure NI (w wr : World) (i : Nat) (tb : Nat → Nat) (F : Nat → Nat → Prop) : Prop where
  block : wr.heap[w.heap.size]? = some (.cells (stN tb i) 101 (0, 0))
  tree : ∀ j, j < i → TL wr (F j) (tb j) [] 0
  new : ∀ j, j < i → ∀ q, F j q → w.heap.size < q
  apart : ∀ a b, a < i → b < i → a ≠ b → ∀ q, F a q → ¬ F b q
  b : Below w.heap.size w wr
theorem NI.next {w wr w1 : World} {i b : Nat} {tb : Nat → Nat} {F : Nat → Nat → Prop} {F1 : Nat → Prop} (h : NI w wr i tb F) (hi : i < 4) (hT : TL w1 F1 b [] 0) (hF : ∀ k, F1 k → wr.heap.size ≤ k) (hb : Below wr.heap.size wr w1) :
    NI w (w1.setCell ⟨w.heap.size, i, none⟩ (.pointer (some ⟨b, 0, none⟩))) (i + 1) (fun j => if j = i then b else tb j) (fun j => if j = i then F1 else F j) := by
  have hsb := (Array.getElem?_eq_some_iff.1 h.block).1
  have h1 := (hb.block _ hsb).trans h.block
  have hk : ∀ q, q ≠ w.heap.size → (w1.setCell ⟨w.heap.size, i, none⟩ (.pointer (some ⟨b, 0, none⟩))).heap[q]? = w1.heap[q]? := fun q e => heap_ne _ _ _ _ e
  refine ⟨(heap_set w1 _ i _ h1).trans (by rw [stN_set tb hi]), fun j hj => ?_, fun j hj q e => ?_, fun x y hx hy hxy q e1 e2 => ?_, ⟨h.b.os ▸ hb.os, h.b.tape ▸ hb.tape, h.b.output ▸ hb.output, by rw [World.size_setCell]; exact Nat.le_trans h.b.size hb.size, fun k hkl => ?_⟩⟩
  · by_cases e : j = i
    · rw [if_pos e, if_pos e]
      exact hT.keep fun q hq => hk q (by have := hF q hq; omega)
    · rw [if_neg e, if_neg e]
      have hj2 : j < i := by omega
      exact ((h.tree j hj2).below hb).keep fun q hq => hk q (by have := h.new j hj2 q hq; omega)
  · by_cases e3 : j = i
    · rw [if_pos e3] at e
      have := hF q e
      omega
    · rw [if_neg e3] at e
      exact h.new j (by omega) q e
  · by_cases ex : x = i
    · have ey : y ≠ i := fun c => hxy (ex.trans c.symm)
      rw [if_pos ex] at e1
      rw [if_neg ey] at e2
      have a1 := hF q e1
      have a2 := (h.tree y (by omega)).lt e2
      omega
    · rw [if_neg ex] at e1
      by_cases ey : y = i
      · rw [if_pos ey] at e2
        have a1 := hF q e2
        have a2 := (h.tree x (by omega)).lt e1
        omega
      · rw [if_neg ey] at e2
        exact h.apart x y (by omega) (by omega) hxy q e1 e2
  · rw [hk k (by omega), hb.block k (by have := h.b.size; omega)]
    exact h.b.block k hkl
theorem NI.store {w wr : World} {tb : Nat → Nat} {F : Nat → Nat → Prop} (h : NI w wr 4 tb F) : ∃ G, SM wr G w.heap.size (fun _ => []) (liveT (fun _ => []) : Int) 0 ∧ ∀ q, G q → w.heap.size ≤ q :=
  ⟨fun q => q = w.heap.size ∨ ∃ i, i < 4 ∧ F i q, ⟨tb, F, fun _ => 0, h.block, fun i hi => h.tree i hi, fun i j hi hj => h.apart i j hi hj, fun i hi e => by have := h.new i hi _ e; omega, fun _ => Iff.rfl⟩, fun q e => by
    rcases e with e | ⟨i, hi, e⟩
    · omega
    · have := h.new i hi q e; omega⟩
set_option maxHeartbeats 4000000 in
theorem snew_any (w : World) : Calls Try.prog 12 #[] w fun e w' => e = .returned (.pointer (some ⟨w.heap.size, 0, none⟩)) ∧ (∃ G, SM w' G w.heap.size (fun _ => []) (liveT (fun _ => []) : Int) 0 ∧ ∀ q, G q → w.heap.size ≤ q) ∧ Below w.heap.size w w' := by
  have HN := Lib.hid fun w1 => new_any w1
  have HS0 : Hid (NI w (w.alloc (.cells #[.pointer none, .pointer none, .pointer none, .pointer none, .int .i64 0, .int .i64 0] 101)) 0 (fun _ => 0) (fun _ _ => False)) := Lib.hid ⟨heap_alloc_new w _, fun j hj => by omega, fun j hj => by omega, fun a b ha => by omega, (Below.refl _ _).alloc (Nat.le_refl _) _⟩
  obtain ⟨s, hs⟩ : ∃ s, s = w.heap.size := ⟨_, rfl⟩
  have HS := Lib.hid hs
  go_enter Try.func12, Try.ntmps12
  go_wp2_with fail
  rw [← hs]
  clear hs
  go_loopw [2, 5, 6, 7, 8, 9, 10, 11, 12, 13, 14] (fun _ ix _ _ _ _ _ _ _ _ _ wr => ∃ (i : Nat) (tb : Nat → Nat) (F : Nat → Nat → Prop), ix = .int .i64 (i : Int) ∧ i ≤ 4 ∧ NI w wr i tb F) (fun _ ix _ _ _ _ _ _ _ _ _ wr => 4 - (intOf ix).toNat)
  case atStart => exact ⟨0, _, _, rfl, by omega, HS0.out⟩
  case round =>
    obtain ⟨i, tb, F, rfl, hi, hI⟩ := hrel
    have HI := Lib.hid hI
    by_cases hlt : i < 4
    · have hi4 : (i : Int) < 4 := by omega
      have HCF : Hid (∀ w1, Below wr.heap.size wr w1 → (∃ v, w1.cell? ⟨s, i, none⟩ = some v) ∧ w1.frozen? ⟨s, i, none⟩ = false) := Lib.hid fun w1 hb => by
        rw [HS.out]
        have h1 := (hb.block _ (Array.getElem?_eq_some_iff.1 HI.out.block).1).trans HI.out.block
        refine ⟨⟨(stN tb i)[i]'(by show i < 6; omega), ?_⟩, frozen_of h1 i⟩
        rw [cell_of_row _ _ i _ _ _ h1]
        exact Array.getElem?_eq_getElem _
      clear hI
      go_upto_region 5 with fail
      go_region_law (go_simp; go_at_call 47; refine Calls.mono (HN.out _) ?_; rintro e1 w1 ⟨F1, b, rfl, h1, h2, h3⟩; have hb1 := undrewB h3; obtain ⟨⟨v, hv⟩, hf⟩ := HCF.out w1 hb1; have HNX := Lib.hid (HI.out.next hlt h1 h2 hb1); clear h1 h2 h3 hb1)
      all_goals
        go_wp2_with fail
        go_roundw
        case rel => exact ⟨i + 1, _, _, by go_num, by omega, by rw [HS.out]; exact HNX.out⟩
        case measure => simp [intOf]; omega
    · obtain rfl : i = 4 := by omega
      have HST := Lib.hid hI.store
      clear hI
      go_wp2_with fail
      go_ret
      exact ⟨by rw [HS.out]; rfl, HST.out, HI.out.b⟩
end Go.Proofs.Ytejpjbmbcdgomaa
