/- SFn3, SFits: put together. -/
import Derived.Test.YtejpjbmbcdgomaaPt17
import Derived.Test.YtejpjbmbcdgomaaPt16
/- gather: what of a transaction's writes comes to stand. -/
namespace Go.Proofs.Ytejpjbmbcdgomaa
set_option maxRecDepth 100000
open Go.RowKit

def Wr.val (x : Wr) : Value := .agg #[.int .i64 x.t, .int .i64 x.k, .int .i64 x.v, .bool x.dead]
theorem Wr.val_inj (x y : Wr) (h : x.val = y.val) : x = y := by
  unfold Wr.val at h
  injection h with h
  cases x
  cases y
  simp at h
  simp [h]
theorem gat_stay {q : Int} {ts : Tb} {ws : List Wr} {x : Wr} (h : stay q (cellAt ts x.t x.k) = true) : gat q ts (ws ++ [x]) = gat q ts ws := by
  funext t k
  unfold gat
  split
  · rfl
  · rename_i hs
    rw [List.find?_append]
    have : ¬ (x.t = t ∧ x.k = k) := by
      rintro ⟨rfl, rfl⟩
      exact hs h
    simp [this]
theorem gat_had {q : Int} {ts : Tb} {ws : List Wr} {x y : Wr} (h : gat q ts ws x.t x.k = some y) : gat q ts (ws ++ [x]) = gat q ts ws := by
  funext t k
  unfold gat
  split
  · rfl
  · rw [List.find?_append]
    by_cases e : x.t = t ∧ x.k = k
    · obtain ⟨rfl, rfl⟩ := e
      unfold gat at h
      split at h
      · cases h
      · rw [h]; rfl
    · simp [e]
theorem gat_new {q : Int} {ts : Tb} {ws : List Wr} {x : Wr} (h : gat q ts ws x.t x.k = none) (hs : stay q (cellAt ts x.t x.k) = false) : gat q ts (ws ++ [x]) = updK (gat q ts ws) x.t x.k x := by
  funext t k
  unfold updK
  by_cases e : t = x.t ∧ k = x.k
  · obtain ⟨rfl, rfl⟩ := e
    rw [if_pos ⟨rfl, rfl⟩]
    unfold gat at h ⊢
    rw [hs] at h ⊢
    simp only [Bool.false_eq_true, if_false] at h ⊢
    rw [List.find?_append, h]
    simp
  · rw [if_neg e]
    unfold gat
    split
    · rfl
    · rw [List.find?_append]
      have : ¬ (x.t = t ∧ x.k = k) := fun c => e ⟨c.1.symm, c.2.symm⟩
      simp [this]
theorem gat_nil (q : Int) (ts : Tb) : gat q ts [] = fun _ _ => none := by
  funext t k
  unfold gat
  split <;> rfl
theorem stay_eq (q : Int) (o : Option Cl) : stay q o = (o.isSome && decide (q ≤ (cv o).s)) := by cases o <;> rfl
def NumW (ws : List Wr) : Prop := ∀ x ∈ ws, -9223372036854775808 ≤ x.k ∧ x.k ≤ 9223372036854775807
theorem inT_wf {t : Int} (h : InT t) : WfK t := wfK (by unfold InT at h; omega)
theorem zeroWr (w : World) : (zeroValue 51).run Try.prog w = .ok (.agg #[.int .i64 0, .int .i64 0, .int .i64 0, .bool false]) w := by
  have h := Try.zeroValue51 (w := w)
  exact h
set_option maxHeartbeats 8000000 in
theorem gather_any {w : World} {G : Nat → Prop} {sb : Nat} {ts : Tb} {live last : Int} {A : Option Addr} {c : Nat} {ws : List Wr} (q : Int) (hM : SM w G sb ts live last) (h : Wrs w A ws) (hT : ∀ x ∈ ws, InT x.t) (hK : NumW ws) (hl : ws.length ≤ 100000) :
    Calls Try.prog 77 #[.pointer (some ⟨sb, 0, none⟩), .int .i64 q, .slice A ws.length c] w fun e w' => e = .returned (.map (some w.heap.size)) ∧ (∃ n, n ≤ ws.length ∧ KM Wr.val w' w.heap.size n (gat q ts ws)) ∧ Below w.heap.size w w' := by
  obtain ⟨n, hn⟩ : ∃ n, n = ws.length := ⟨_, rfl⟩
  have HN := Lib.hid hn
  have H := Lib.hid h
  have HM := Lib.hid hM
  have HT := Lib.hid hT
  have HK := Lib.hid hK
  have HL := Lib.hid hl
  rw [← hn] at HL ⊢
  have hnl : n ≤ 100000 := HL.out
  have hmm := @run_makeMap Try.prog
  have HB0 := Lib.hid (show Below w.heap.size w (w.alloc (.map #[] 0)) from (Below.refl _ _).alloc (Nat.le_refl _) _)
  have HK0 := Lib.hid (KM.made (enc := Wr.val) w)
  obtain ⟨B, hB⟩ : ∃ B, B = w.heap.size := ⟨_, rfl⟩
  have HBB := Lib.hid hB
  clear hn h hM hT hK hl
  go_enter Try.func77, Try.ntmps77
  go_wp2_with fail
  rw [← hB] at HK0 ⊢
  clear hB
  go_loopw [9, 10, 11, 12, 13, 17, 18, 19, 20, 21, 22, 23, 24, 25, 26, 27, 28, 29, 30, 31, 32, 33, 34, 35, 36, 37, 38, 39, 40, 41, 42, 43, 44, 45, 46, 47, 48] (fun _ _ _ _ _ ix _ _ _ _ _ _ _ _ _ _ _ _ _ _ _ _ _ _ _ _ _ _ _ _ _ _ _ _ _ _ _ wr => ∃ z m : Nat, ix = .int .i64 (z : Int) ∧ z ≤ n ∧ m ≤ z ∧ KM Wr.val wr B m (gat q ts (ws.take z)) ∧ Below w.heap.size w wr) (fun _ _ _ _ _ ix _ _ _ _ _ _ _ _ _ _ _ _ _ _ _ _ _ _ _ _ _ _ _ _ _ _ _ _ _ _ _ wr => n - (intOf ix).toNat)
  case atStart => exact ⟨0, 0, rfl, by omega, by omega, by rw [List.take_zero, gat_nil]; exact HK0.out, HB0.out⟩
  case round =>
    obtain ⟨z, m, rfl, hz, hm, hKM, hb⟩ := hrel
    by_cases hlt : z < n
    · have hzl : z < ws.length := by rw [← HN.out]; exact hlt
      obtain ⟨b, off, rfl, hcl⟩ := Wrs.cell (RowAt.below H.out hb) (by omega)
      obtain ⟨x0, x1, x2, x3⟩ := hcl z hzl
      obtain ⟨x, hx⟩ : ∃ x, x = ws[z] := ⟨_, rfl⟩
      rw [← hx] at x0 x1 x2 x3
      have htk : ws.take (z + 1) = ws.take z ++ [x] := by rw [hx]; exact (List.take_append_getElem hzl).symm
      have hxin : x ∈ ws := by rw [hx]; exact List.getElem_mem hzl
      have HTK := Lib.hid htk
      have HX := Lib.hid (And.intro (HT.out x hxin) (HK.out x hxin))
      have HI := Lib.hid (And.intro hKM (And.intro hb hm))
      have hb1 : Below wr.heap.size wr (wr.alloc (.cells #[.int .i64 x.t, .int .i64 x.k, .int .i64 x.v, .bool x.dead] 51)) := (Below.refl _ wr).alloc (Nat.le_refl _) _
      have HB1 := Lib.hid hb1
      have HC := Lib.hid (cell_any (HM.out.below ((hb.trans (hb1.mono hb.size)))) x.t x.k)
      have HW1 := Lib.hid (heap_alloc_new wr (.cells #[.int .i64 x.t, .int .i64 x.k, .int .i64 x.v, .bool x.dead] 51))
      obtain ⟨g, hg⟩ : ∃ g, g = gat q ts (ws.take z) := ⟨_, rfl⟩
      rw [← hg] at HI
      have HG := Lib.hid hg
      obtain ⟨o, ho⟩ : ∃ o, o = cellAt ts x.t x.k := ⟨_, rfl⟩
      rw [← ho] at HC
      have HO := Lib.hid ho
      clear hcl hx htk hxin hKM hb hm hb1 hg ho
      unfold ansC at HC
      go_wp2_with fail
      refine Calls.mono HC.out ?_
      rintro e w2 ⟨rfl, hb2⟩
      have hbox := (hb2.block _ (Array.getElem?_eq_some_iff.1 HW1.out).1).trans HW1.out
      obtain ⟨s9, hs9⟩ : ∃ s9, s9 = wr.heap.size := ⟨_, rfl⟩
      rw [← hs9] at hbox
      obtain ⟨ok, hok⟩ : ∃ ok, ok = o.isSome := ⟨_, rfl⟩
      obtain ⟨cl, hcl⟩ : ∃ cl, cl = cv o := ⟨_, rfl⟩
      rw [← hok, ← hcl, ← hs9]
      obtain ⟨bl, hbl⟩ : ∃ bl, bl = decide (q ≤ cl.s) := ⟨_, rfl⟩
      have HST := Lib.hid (show stay q o = (ok && bl) from by rw [stay_eq, hok, hbl, hcl])
      obtain ⟨W2, hW2⟩ : ∃ W2, W2 = w2.alloc (.cells #[.int .i64 cl.v, .int .i64 cl.s, .bool cl.dead] 44) := ⟨_, rfl⟩
      have hb22 : Below w2.heap.size w2 W2 := by rw [hW2]; exact (Below.refl _ _).alloc (Nat.le_refl _) _
      have hbr : Below wr.heap.size wr W2 := HB1.out.trans ((hb2.trans (hb22.mono hb2.size)).mono HB1.out.size)
      have hbox2 := (hb22.block _ (Array.getElem?_eq_some_iff.1 hbox).1).trans hbox
      have hcb : W2.heap[w2.heap.size]? = some (.cells #[.int .i64 cl.v, .int .i64 cl.s, .bool cl.dead] 44 (0, 0)) := by rw [hW2]; exact heap_alloc_new w2 _
      obtain ⟨s10, hs10⟩ : ∃ s10, s10 = w2.heap.size := ⟨_, rfl⟩
      rw [← hs10] at hcb
      have y0 : W2.cell? ⟨s9, 0, none⟩ = some (.int .i64 x.t) := by rw [cell_of_row _ _ 0 _ _ _ hbox2]; rfl
      have y1 : W2.cell? ⟨s9, 1, none⟩ = some (.int .i64 x.k) := by rw [cell_of_row _ _ 1 _ _ _ hbox2]; rfl
      have y2 : W2.cell? ⟨s9, 2, none⟩ = some (.int .i64 x.v) := by rw [cell_of_row _ _ 2 _ _ _ hbox2]; rfl
      have y3 : W2.cell? ⟨s9, 3, none⟩ = some (.bool x.dead) := by rw [cell_of_row _ _ 3 _ _ _ hbox2]; rfl
      have z1 : W2.cell? ⟨s10, 1, none⟩ = some (.int .i64 cl.s) := by rw [cell_of_row _ _ 1 _ _ _ hcb]; rfl
      have HI2 : Hid (KM Wr.val W2 B m g ∧ Below w.heap.size w W2) := Lib.hid ⟨HI.out.1.below hbr, HI.out.2.1.trans (hbr.mono HI.out.2.1.size)⟩
      have HBX := Lib.hid hbox2
      have hmw : m < maxLen := by have := HI.out.2.2; have := HL.out; unfold maxLen; omega
      have HMW := Lib.hid hmw
      have HW2 := Lib.hid hW2
      have HS10 := Lib.hid hs10
      clear hbox hs9 hok hcl hb22 hbr hbox2 hcb hs10 hW2 hmw hb2
      cases ok with
      | true =>
        cases bl with
        | true =>
          have d1 : decide (q ≤ cl.s) = true := hbl.symm
          clear hbl
          go_upto_region 6 with fail
          rw [← HS10.out, ← HW2.out]
          go_wp2_with fail
          go_roundw
          case rel => exact ⟨z + 1, m, by go_num, by omega, by have := HI.out.2.2; omega, by rw [HTK.out, gat_stay (by rw [← HO.out, HST.out]; rfl), ← HG.out]; exact HI2.out.1, HI2.out.2⟩
          case measure => simp [intOf]; omega
        | false =>
          have d1 : decide (q ≤ cl.s) = false := hbl.symm
          clear hbl
          go_upto_region 6 with fail
          rw [← HS10.out, ← HW2.out]
          cases hgx : g x.t x.k with
          | some y =>
            have hlook := HI2.out.1.look (mt := 138) Try.underlying138 (zeroWr W2) (inT_wf HX.out.1) (wfK HX.out.2)
            rw [hgx] at hlook
            simp only [Wr.val, keyV, Option.isSome_some] at hlook
            have HE : Hid (KM Wr.val (W2.alloc (.cells #[.int .i64 y.t, .int .i64 y.k, .int .i64 y.v, .bool y.dead] 51)) B m g ∧ Below w.heap.size w (W2.alloc (.cells #[.int .i64 y.t, .int .i64 y.k, .int .i64 y.v, .bool y.dead] 51))) := Lib.hid ⟨HI2.out.1.below ((Below.refl _ _).alloc (Nat.le_refl _) _), HI2.out.2.alloc HI2.out.2.size _⟩
            have HGX := Lib.hid hgx
            clear hgx
            go_wp2_with fail
            go_roundw
            case rel => exact ⟨z + 1, m, by go_num, by omega, by have := HI.out.2.2; omega, by rw [HTK.out, gat_had (by rw [← HG.out]; exact HGX.out), ← HG.out]; exact HE.out.1, HE.out.2⟩
            case measure => simp [intOf]; omega
          | none =>
            have hlook := HI2.out.1.look (mt := 138) Try.underlying138 (zeroWr W2) (inT_wf HX.out.1) (wfK HX.out.2)
            rw [hgx] at hlook
            simp only [keyV, Option.isSome_none] at hlook
            have hb3 : Below W2.heap.size W2 (W2.alloc (.cells #[.int .i64 0, .int .i64 0, .int .i64 0, .bool false] 51)) := (Below.refl _ _).alloc (Nat.le_refl _) _
            have hk3 := HI2.out.1.below hb3
            obtain ⟨w4, hst, hK4, hg4⟩ := hk3.store (mt := 138) Try.underlying138 (inT_wf HX.out.1) (wfK HX.out.2) x HMW.out
            simp only [Wr.val, keyV] at hst
            have HE : Hid (KM Wr.val w4 B (m + 1) (updK g x.t x.k x) ∧ Below w.heap.size w w4) := Lib.hid ⟨hK4, (HI2.out.2.alloc HI2.out.2.size _).grown hg4 (HI2.out.2.alloc HI2.out.2.size _).size (fun j e => by cases e; rw [HBB.out]; exact Nat.le_refl _)⟩
            have HGX := Lib.hid hgx
            clear hgx hK4 hg4 hk3
            have u0 := (hb3.cell (World.block_lt_of_cell? _ _ y0)).trans y0
            have u1 := (hb3.cell (World.block_lt_of_cell? _ _ y1)).trans y1
            have u2 := (hb3.cell (World.block_lt_of_cell? _ _ y2)).trans y2
            have u3 := (hb3.cell (World.block_lt_of_cell? _ _ y3)).trans y3
            clear hb3
            go_wp2_with fail
            go_roundw
            case rel => exact ⟨z + 1, m + 1, by go_num, by omega, by have := HI.out.2.2; omega, by rw [HTK.out, gat_new (by rw [← HG.out]; exact HGX.out) (by rw [← HO.out, HST.out]; rfl), ← HG.out]; exact HE.out.1, HE.out.2⟩
            case measure => simp [intOf]; omega
      | false =>
        clear hbl
        go_upto_region 6 with fail
        rw [← HS10.out, ← HW2.out]
        cases hgx : g x.t x.k with
        | some y =>
          have hlook := HI2.out.1.look (mt := 138) Try.underlying138 (zeroWr W2) (inT_wf HX.out.1) (wfK HX.out.2)
          rw [hgx] at hlook
          simp only [Wr.val, keyV, Option.isSome_some] at hlook
          have HE : Hid (KM Wr.val (W2.alloc (.cells #[.int .i64 y.t, .int .i64 y.k, .int .i64 y.v, .bool y.dead] 51)) B m g ∧ Below w.heap.size w (W2.alloc (.cells #[.int .i64 y.t, .int .i64 y.k, .int .i64 y.v, .bool y.dead] 51))) := Lib.hid ⟨HI2.out.1.below ((Below.refl _ _).alloc (Nat.le_refl _) _), HI2.out.2.alloc HI2.out.2.size _⟩
          have HGX := Lib.hid hgx
          clear hgx
          go_wp2_with fail
          go_roundw
          case rel => exact ⟨z + 1, m, by go_num, by omega, by have := HI.out.2.2; omega, by rw [HTK.out, gat_had (by rw [← HG.out]; exact HGX.out), ← HG.out]; exact HE.out.1, HE.out.2⟩
          case measure => simp [intOf]; omega
        | none =>
          have hlook := HI2.out.1.look (mt := 138) Try.underlying138 (zeroWr W2) (inT_wf HX.out.1) (wfK HX.out.2)
          rw [hgx] at hlook
          simp only [keyV, Option.isSome_none] at hlook
          have hb3 : Below W2.heap.size W2 (W2.alloc (.cells #[.int .i64 0, .int .i64 0, .int .i64 0, .bool false] 51)) := (Below.refl _ _).alloc (Nat.le_refl _) _
          have hk3 := HI2.out.1.below hb3
          obtain ⟨w4, hst, hK4, hg4⟩ := hk3.store (mt := 138) Try.underlying138 (inT_wf HX.out.1) (wfK HX.out.2) x HMW.out
          simp only [Wr.val, keyV] at hst
          have HE : Hid (KM Wr.val w4 B (m + 1) (updK g x.t x.k x) ∧ Below w.heap.size w w4) := Lib.hid ⟨hK4, (HI2.out.2.alloc HI2.out.2.size _).grown hg4 (HI2.out.2.alloc HI2.out.2.size _).size (fun j e => by cases e; rw [HBB.out]; exact Nat.le_refl _)⟩
          have HGX := Lib.hid hgx
          clear hgx hK4 hg4 hk3
          have u0 := (hb3.cell (World.block_lt_of_cell? _ _ y0)).trans y0
          have u1 := (hb3.cell (World.block_lt_of_cell? _ _ y1)).trans y1
          have u2 := (hb3.cell (World.block_lt_of_cell? _ _ y2)).trans y2
          have u3 := (hb3.cell (World.block_lt_of_cell? _ _ y3)).trans y3
          clear hb3
          go_wp2_with fail
          go_roundw
          case rel => exact ⟨z + 1, m + 1, by go_num, by omega, by have := HI.out.2.2; omega, by rw [HTK.out, gat_new (by rw [← HG.out]; exact HGX.out) (by rw [← HO.out, HST.out]; rfl), ← HG.out]; exact HE.out.1, HE.out.2⟩
          case measure => simp [intOf]; omega
    · obtain rfl : z = n := by omega
      have HKZ : Hid (KM Wr.val wr B m (gat q ts ws)) := Lib.hid (by rw [HN.out, List.take_length] at hKM; exact hKM)
      have HBZ := Lib.hid (And.intro hb hm)
      clear hKM hb hm hlt hz
      go_wp2_with fail
      go_ret
      exact ⟨by first | rfl | (rw [HBB.out]; rfl), ⟨m, HBZ.out.2, by rw [← HBB.out]; exact HKZ.out⟩, HBZ.out.1⟩
end Go.Proofs.Ytejpjbmbcdgomaa

/- Fits: how many would be live. -/
namespace Go.Proofs.Ytejpjbmbcdgomaa
set_option maxRecDepth 100000
open Go.RowKit

theorem KR.left_eq {α : Type} {enc : α → Value} {w : World} {b r n : Nat} {g : Int → Int → Option α} {left : Int → Int → Bool} {cnt : Nat} (h : KR enc w b r n g left cnt) : w.rangeLeft b r = cnt := by
  obtain ⟨D, lf, h, _⟩ := h
  exact h.left_eq
theorem liveT_le {ts : Tb} {n : Nat} (h : ∀ i, i < 4 → (ts i).length ≤ n) : liveT ts ≤ 4 * n := by
  have h0 := Nat.le_trans (liveL_le (ts 0)) (h 0 (by omega))
  have h1 := Nat.le_trans (liveL_le (ts 1)) (h 1 (by omega))
  have h2 := Nat.le_trans (liveL_le (ts 2)) (h 2 (by omega))
  have h3 := Nat.le_trans (liveL_le (ts 3)) (h 3 (by omega))
  unfold liveT
  omega
/-- A range over gathered writes under way. -/
structure FI (w wr : World) (B r n : Nat) (q : Int) (ts : Tb) (ws : List Wr) (left : Int → Int → Bool) (cnt : Nat) (ts' : Tb) (N : Nat) : Prop where
  rg : KR Wr.val wr B r n (gat q ts ws) left cnt
  part : Part q ts ws left ts'
  len : ∀ i, i < 4 → (ts' i).length + cnt ≤ N
  b : Below w.heap.size w wr
  low : w.heap.size ≤ B ∧ w.heap.size ≤ r
set_option maxHeartbeats 8000000 in
theorem fits_any {w : World} {G : Nat → Prop} {sb : Nat} {ts : Tb} {last : Int} {A : Option Addr} {c : Nat} {ws : List Wr} (q : Int) (hM : SM w G sb ts (liveT ts : Int) last) (h : Wrs w A ws) (hK : NumW ws) (hl : ws.length ≤ 50000) (hN : ∀ i, i < 4 → (ts i).length ≤ 50000) :
    Calls Try.prog 32 #[.pointer (some ⟨sb, 0, none⟩), .int .i64 q, .slice A ws.length c] w fun e w' => e = .returned (.bool (takB q ws && decide (liveT (forceT q ts ws) ≤ 4096))) ∧ Below w.heap.size w w' := by
  have HT := Lib.hid (takes_any (sb := sb) (c := c) q h (by omega))
  have HM := Lib.hid hM
  have H := Lib.hid h
  have HK := Lib.hid hK
  have HN := Lib.hid hN
  have HL := Lib.hid hl
  have HU := Lib.hid hM.up
  obtain ⟨n, hn⟩ : ∃ n, n = ws.length := ⟨_, rfl⟩
  have HLN := Lib.hid hn
  have HG := Lib.hid (fun (w1 : World) (hb : Below w.heap.size w w1) (hin : ∀ x ∈ ws, InT x.t) => gather_any (c := c) q (hM.below hb) (RowAt.below h hb) hin hK (by omega))
  rw [← hn] at HT HG ⊢
  obtain ⟨tk, htk⟩ : ∃ tk, tk = takB q ws := ⟨_, rfl⟩
  have HTK := Lib.hid htk
  rw [← htk] at HT ⊢
  clear hM h hK hl hN hn htk
  go_enter Try.func32, Try.ntmps32
  go_wp2_with fail
  refine Calls.mono HT.out ?_
  rintro e w1 ⟨rfl, hb1⟩
  have HB1 := Lib.hid hb1
  clear hb1
  cases tk with
  | false =>
    go_wp2_with fail
    go_ret
    exact ⟨rfl, HB1.out⟩
  | true =>
    have HIN := Lib.hid (takB_in HTK.out.symm).2
    have c4 := (HM.out.below HB1.out).live4
    go_wp2_with fail
    refine Calls.mono (HG.out _ HB1.out HIN.out) ?_
    rintro e w2 ⟨rfl, ⟨m, hm, hKM⟩, hb2⟩
    obtain ⟨w3, left, cnt, hrun, hKR, hcnt, hleft, hg3, hs3⟩ := hKM.range (mt := 138) Try.underlying138
    have hbw2 := HB1.out.trans (hb2.mono HB1.out.size)
    have HF0 : Hid (FI w w3 w1.heap.size w2.heap.size m q ts ws left cnt ts 100000) := Lib.hid ⟨hKR, Part.start HU.out (fun t k x hx => by
        have hm2 := gat_mem hx
        rw [hleft t k (by rw [← hm2.2.1]; exact inT_wf (HIN.out x hm2.1)) (by rw [← hm2.2.2.1]; exact wfK (HK.out x hm2.1)), hx]; rfl), fun i hi => by have := HN.out i hi; have := HL.out; have := HLN.out; omega,
      hbw2.grown hg3 hbw2.size (fun j e => by cases e), ⟨HB1.out.size, hbw2.size⟩⟩
    clear hKR hcnt hleft hg3 hs3 hKM hb2 hm hbw2
    obtain ⟨B, hB⟩ : ∃ B, B = w1.heap.size := ⟨_, rfl⟩
    obtain ⟨r, hr⟩ : ∃ r, r = w2.heap.size := ⟨_, rfl⟩
    rw [← hB, ← hr] at HF0
    go_wp2_with fail
    rw [← hr]
    clear hrun hB hr c4
    go_loopw [7, 8, 9, 10, 11, 26, 27, 28, 29, 30, 31, 32, 33, 34, 35, 36, 37, 38, 39, 40, 41, 42, 43, 44] (fun lv _ _ _ _ _ _ _ _ _ _ _ _ _ _ _ _ _ _ _ _ _ _ _ wr => ∃ left cnt ts', lv = .int .i64 (liveT ts' : Int) ∧ FI w wr B r m q ts ws left cnt ts' 100000) (fun lv _ _ _ _ _ _ _ _ _ _ _ _ _ _ _ _ _ _ _ _ _ _ _ wr => wr.rangeLeft B r)
    case atStart => exact ⟨left, cnt, ts, rfl, HF0.out⟩
    case round =>
      clear HF0
      obtain ⟨left, cnt, ts', rfl, hF⟩ := hrel
      have HF := Lib.hid hF
      have hlv : liveT ts' ≤ 400000 := liveT_le (n := 100000) fun i hi => by have := HF.out.len i hi; omega
      obtain ⟨lv, hlvn⟩ : ∃ lv, lv = liveT ts' := ⟨_, rfl⟩
      have HLV := Lib.hid (And.intro hlvn (show lv ≤ 400000 by rw [hlvn]; exact hlv))
      rw [← hlvn]
      clear hlv hlvn
      rcases hF.rg.next Wr.val_inj 0 with ⟨_, hl0, hnx⟩ | ⟨t, k, x, w4, cnt4, ht, hk, hlk, hgx, hnx, hKR4, hlt4, hg4, hs4, hen⟩
      · have HD : Hid (decide (liveT (forceT q ts ws) ≤ 4096) = decide ((lv : Int) ≤ 4096)) := Lib.hid (by
          rw [← liveT_congr (hF.part.done HU.out HIN.out hl0), ← HLV.out.1]
          exact decide_eq_decide.2 (by omega))
        have HBB := Lib.hid hF.b
        clear hF
        go_wp2_with fail
        go_ret
        exact ⟨by rw [HD.out]; rfl, HBB.out⟩
      · have hm2 := gat_mem hgx
        obtain ⟨hxw, rfl, rfl, hst⟩ := hm2
        have htin : InT x.t := HIN.out x hxw
        obtain ⟨hP, hsame⟩ := HF.out.part.step (left' := fun u j => left u j && !(decide (u = x.t ∧ j = x.k))) hgx htin hlk (fun _ _ => rfl)
        obtain ⟨ts2, hts2⟩ : ∃ ts2, ts2 = ts'.upd x.t.toNat (ins ⟨x.k, x.cl q⟩ (ts' x.t.toNat)) := ⟨_, rfl⟩
        have hlive := Part.live (k := x.k) HF.out.part.up htin (x.cl q)
        rw [hsame] at hlive
        rw [← hts2] at hP hlive
        have hlen2 : ∀ i, i < 4 → (ts2 i).length + cnt4 ≤ 100000 := fun i hi => by
          have h1 := HF.out.len i hi
          have h2 : (ts2 i).length ≤ (ts' i).length + 1 := by
            rw [hts2]
            unfold Tb.upd
            split
            · rename_i e; rw [e]; exact ins_le _ _
            · omega
          omega
        have hbr4 : Below w.heap.size w w4 := HF.out.b.grown hg4 HF.out.b.size (fun j e => by cases e; exact HF.out.low.2)
        obtain ⟨W5, hW5⟩ : ∃ W5, W5 = (w4.alloc (.cells #[.int .i64 x.t, .int .i64 x.k] 42)).alloc (.cells #[.int .i64 x.t, .int .i64 x.k, .int .i64 x.v, .bool x.dead] 51) := ⟨_, rfl⟩
        have hb45 : Below w4.heap.size w4 W5 := by rw [hW5]; exact ((Below.refl _ _).alloc (Nat.le_refl _) _).alloc (by simp) _
        have hk5 : W5.heap[w4.heap.size]? = some (.cells #[.int .i64 x.t, .int .i64 x.k] 42 (0, 0)) := by
          rw [hW5, ((Below.refl _ (w4.alloc (.cells #[.int .i64 x.t, .int .i64 x.k] 42))).alloc (Nat.le_refl _) _).block _ (by simp)]
          exact heap_alloc_new w4 _
        have hw5 : W5.heap[w4.heap.size + 1]? = some (.cells #[.int .i64 x.t, .int .i64 x.k, .int .i64 x.v, .bool x.dead] 51 (0, 0)) := by
          have := heap_alloc_new (w4.alloc (.cells #[.int .i64 x.t, .int .i64 x.k] 42)) (.cells #[.int .i64 x.t, .int .i64 x.k, .int .i64 x.v, .bool x.dead] 51)
          have e : (w4.alloc (.cells #[.int .i64 x.t, .int .i64 x.k] 42)).heap.size = w4.heap.size + 1 := by simp
          rw [e, ← hW5] at this
          exact this
        obtain ⟨s4, hs4'⟩ : ∃ s4, s4 = w4.heap.size := ⟨_, rfl⟩
        rw [← hs4'] at hk5 hw5
        have y0 : W5.cell? ⟨s4, 0, none⟩ = some (.int .i64 x.t) := by rw [cell_of_row _ _ 0 _ _ _ hk5]; rfl
        have y1 : W5.cell? ⟨s4, 1, none⟩ = some (.int .i64 x.k) := by rw [cell_of_row _ _ 1 _ _ _ hk5]; rfl
        have HGT := Lib.hid (sget_any (HM.out.below (hbr4.trans (hb45.mono hbr4.size))) x.t x.k)
        obtain ⟨o, ho⟩ : ∃ o, o = cellAt ts x.t x.k := ⟨_, rfl⟩
        rw [← ho] at HGT hlive
        have hlo := one_gok o
        obtain ⟨bo, hbo⟩ : ∃ bo, bo = gok o := ⟨_, rfl⟩
        rw [← hbo] at HGT hlo
        have HW5 := Lib.hid hW5
        have HS4 := Lib.hid hs4'
        have HX := Lib.hid (And.intro hP (And.intro hlive (And.intro hlen2 (And.intro hbr4 (And.intro hb45 (And.intro hw5 (And.intro hKR4 hlo)))))))
        have HLT := Lib.hid (And.intro hlt4 (hF.rg.left_eq))
        simp only [keyV, Wr.val] at hnx hen
        clear hF hxw hst htin hP hsame hts2 hlive hlen2 hbr4 hW5 hb45 hk5 hw5 hs4' ho hbo hlo hKR4 hlt4 hg4 hs4 hgx hlk ht hk
        go_upto_region 7 with fail
        rw [← HS4.out, ← HW5.out]
        go_wp2_with fail
        refine Calls.mono HGT.out ?_
        rintro e w6 ⟨rfl, hb6⟩
        have hx6 := (hb6.block _ (Array.getElem?_eq_some_iff.1 HX.out.2.2.2.2.2.1).1).trans HX.out.2.2.2.2.2.1
        have x3 : w6.cell? ⟨s4 + 1, 3, none⟩ = some (.bool x.dead) := by rw [cell_of_row _ _ 3 _ _ _ hx6]; rfl
        have HB6 : Hid (Below w4.heap.size w4 w6) := Lib.hid (HX.out.2.2.2.2.1.trans (hb6.mono HX.out.2.2.2.2.1.size))
        have HKR6 : Hid (KR Wr.val w6 B r m (gat q ts ws) (fun u j => left u j && !(decide (u = x.t ∧ j = x.k))) cnt4) := Lib.hid (HX.out.2.2.2.2.2.2.1.kept (HB6.out.block _ HX.out.2.2.2.2.2.2.1.lt.1) (HB6.out.block _ HX.out.2.2.2.2.2.2.1.lt.2))
        obtain ⟨l1, hl1⟩ : ∃ l1 : Int, l1 = (lv : Int) - (one o : Int) := ⟨_, rfl⟩
        have HL1 := Lib.hid hl1
        have HLO : Hid ((one o : Int) = if bo then 1 else 0) := Lib.hid (by rw [HX.out.2.2.2.2.2.2.2]; cases bo <;> rfl)
        have f6 : IntKind.i64.wrap ((lv : Int) - 1) = (lv : Int) - 1 := by have := HLV.out.2; rw [IntKind.wrap_i64]; omega
        obtain ⟨dx, hdx⟩ : ∃ dx, dx = x.dead := ⟨_, rfl⟩
        rw [← hdx] at x3
        have HNW : Hid ((liveT ts2 : Int) = l1 + if dx then 0 else 1) := Lib.hid (by
          have e : (one (some (x.cl q)) : Int) = if dx then 0 else 1 := by
            show ((if x.dead then 0 else 1 : Nat) : Int) = _
            rw [hdx]
            cases x.dead <;> rfl
          rw [HX.out.2.1, hl1, HLV.out.1, e])
        clear hb6 hx6 hl1 hdx hnx hen y0 y1
        go_upto_if 37 with fail
        go_cut [7] from 38 to 39 (fun v wx => v = .int .i64 l1 ∧ w6 = wx)
        case first =>
          cases bo with
          | true =>
            have HE : Hid (l1 = (lv : Int) - 1) := Lib.hid (by rw [HL1.out, HLO.out]; simp)
            go_wp2_with fail
            go_meet
            exact ⟨by rw [HE.out], rfl⟩
          | false =>
            have HE : Hid (l1 = (lv : Int)) := Lib.hid (by rw [HL1.out, HLO.out]; simp)
            go_wp2_with fail
            go_meet
            exact ⟨by rw [HE.out], rfl⟩
        case rest =>
          obtain ⟨rfl, rfl⟩ := hcut
          have f7 : IntKind.i64.wrap (l1 + 1) = l1 + 1 := by
            have := HLV.out.2
            have h1 := HL1.out
            have h2 := HLO.out
            rw [IntKind.wrap_i64]
            split at h2 <;> omega
          have HFN : Hid (FI w w6 B r m q ts ws (fun u j => left u j && !(decide (u = x.t ∧ j = x.k))) cnt4 ts2 100000) := Lib.hid ⟨HKR6.out, HX.out.1, HX.out.2.2.1, HX.out.2.2.2.1.trans (HB6.out.mono HX.out.2.2.2.1.size), HF.out.low⟩
          cases dx with
          | true =>
            have HE : Hid (l1 = (liveT ts2 : Int)) := Lib.hid (by rw [HNW.out]; simp)
            go_wp2_with fail
            go_roundw
            case rel => exact ⟨_, _, ts2, by rw [HE.out], HFN.out⟩
            case measure => rw [HFN.out.rg.left_eq, HLT.out.2]; exact HLT.out.1
          | false =>
            have HE : Hid (l1 + 1 = (liveT ts2 : Int)) := Lib.hid (by rw [HNW.out]; simp)
            go_wp2_with fail
            go_roundw
            case rel => exact ⟨_, _, ts2, by rw [HE.out], HFN.out⟩
            case measure => rw [HFN.out.rg.left_eq, HLT.out.2]; exact HLT.out.1
end Go.Proofs.Ytejpjbmbcdgomaa
