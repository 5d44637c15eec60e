/- SFn3: put together. -/
import Derived.Test.YtejpjbmbcdgomaaPa33
import Derived.Test.YtejpjbmbcdgomaaPa34
/- gather: what of a transaction's writes comes to stand. -/
namespace Go.Proofs.Ytejpjbmbcdgomaa
set_option maxRecDepth 100000
open Go.RowKit

def Wr.val (x : Wr) : Value := .agg #[.int .i64 x.t, .int .i64 x.k, .int .i64 x.v, .bool x.dead]
theorem Wr.val_inj (x y : Wr) (h : x.val = y.val) : x = y := by
  unfold Wr.val at h
  injection h with h
  cases x
  cases y
  simp at h
  simp [h]
theorem gat_stay {q : Int} {ts : Tb} {ws : List Wr} {x : Wr} (h : stay q (cellAt ts x.t x.k) = true) : gat q ts (ws ++ [x]) = gat q ts ws := by
  funext t k
  unfold gat
  split
  · rfl
  · rename_i hs
    rw [List.find?_append]
    have : ¬ (x.t = t ∧ x.k = k) := by
      rintro ⟨rfl, rfl⟩
      exact hs h
    simp [this]
theorem gat_had {q : Int} {ts : Tb} {ws : List Wr} {x y : Wr} (h : gat q ts ws x.t x.k = some y) : gat q ts (ws ++ [x]) = gat q ts ws := by
  funext t k
  unfold gat
  split
  · rfl
  · rw [List.find?_append]
    by_cases e : x.t = t ∧ x.k = k
    · obtain ⟨rfl, rfl⟩ := e
      unfold gat at h
      split at h
      · cases h
      · rw [h]; rfl
    · simp [e]
theorem gat_new {q : Int} {ts : Tb} {ws : List Wr} {x : Wr} (h : gat q ts ws x.t x.k = none) (hs : stay q (cellAt ts x.t x.k) = false) : gat q ts (ws ++ [x]) = updK (gat q ts ws) x.t x.k x := by
  funext t k
  unfold updK
  by_cases e : t = x.t ∧ k = x.k
  · obtain ⟨rfl, rfl⟩ := e
    rw [if_pos ⟨rfl, rfl⟩]
    unfold gat at h ⊢
    rw [hs] at h ⊢
    simp only [Bool.false_eq_true, if_false] at h ⊢
    rw [List.find?_append, h]
    simp
  · rw [if_neg e]
    unfold gat
    split
    · rfl
    · rw [List.find?_append]
      have : ¬ (x.t = t ∧ x.k = k) := fun c => e ⟨c.1.symm, c.2.symm⟩
      simp [this]
theorem gat_nil (q : Int) (ts : Tb) : gat q ts [] = fun _ _ => none := by
  funext t k
  unfold gat
  split <;> rfl
theorem stay_eq (q : Int) (o : Option Cl) : stay q o = (o.isSome && decide (q ≤ (cv o).s)) := by cases o <;> rfl
def NumW (ws : List Wr) : Prop := ∀ x ∈ ws, -9223372036854775808 ≤ x.k ∧ x.k ≤ 9223372036854775807
theorem inT_wf {t : Int} (h : InT t) : WfK t := wfK (by unfold InT at h; omega)
theorem zeroWr (w : World) : (zeroValue 51).run Try.prog w = .ok (.agg #[.int .i64 0, .int .i64 0, .int .i64 0, .bool false]) w := by
  have h := Try.zeroValue51 (w := w)
  exact h
set_option maxHeartbeats 8000000 in
theorem gather_any {w : World} {G : Nat → Prop} {sb : Nat} {ts : Tb} {live last : Int} {A : Option Addr} {c : Nat} {ws : List Wr} (q : Int) (hM : SM w G sb ts live last) (h : Wrs w A ws) (hT : ∀ x ∈ ws, InT x.t) (hK : NumW ws) (hl : ws.length ≤ 100000) :
    Calls Try.prog 77 #[.pointer (some ⟨sb, 0, none⟩), .int .i64 q, .slice A ws.length c] w fun e w' => e = .returned (.map (some w.heap.size)) ∧ (∃ n, n ≤ ws.length ∧ KM Wr.val w' w.heap.size n (gat q ts ws)) ∧ Below w.heap.size w w' := by
  obtain ⟨n, hn⟩ : ∃ n, n = ws.length := ⟨_, rfl⟩
  have HN := Lib.hid hn
  have H := Lib.hid h
  have HM := Lib.hid hM
  have HT := Lib.hid hT
  have HK := Lib.hid hK
  have HL := Lib.hid hl
  rw [← hn] at HL ⊢
  have hnl : n ≤ 100000 := HL.out
  have hmm := @run_makeMap Try.prog
  have HB0 := Lib.hid (show Below w.heap.size w (w.alloc (.map #[] 0)) from (Below.refl _ _).alloc (Nat.le_refl _) _)
  have HK0 := Lib.hid (KM.made (enc := Wr.val) w)
  obtain ⟨B, hB⟩ : ∃ B, B = w.heap.size := ⟨_, rfl⟩
  have HBB := Lib.hid hB
  clear hn h hM hT hK hl
  go_enter Try.func77, Try.ntmps77
  go_wp2_with fail
  rw [← hB] at HK0 ⊢
  clear hB
  go_loopw [9, 10, 11, 12, 13, 17, 18, 19, 20, 21, 22, 23, 24, 25, 26, 27, 28, 29, 30, 31, 32, 33, 34, 35, 36, 37, 38, 39, 40, 41, 42, 43, 44, 45, 46, 47, 48] (fun _ _ _ _ _ ix _ _ _ _ _ _ _ _ _ _ _ _ _ _ _ _ _ _ _ _ _ _ _ _ _ _ _ _ _ _ _ wr => ∃ z m : Nat, ix = .int .i64 (z : Int) ∧ z ≤ n ∧ m ≤ z ∧ KM Wr.val wr B m (gat q ts (ws.take z)) ∧ Below w.heap.size w wr) (fun _ _ _ _ _ ix _ _ _ _ _ _ _ _ _ _ _ _ _ _ _ _ _ _ _ _ _ _ _ _ _ _ _ _ _ _ _ _ => n - (intOf ix).toNat)
  case atStart => exact ⟨0, 0, rfl, by omega, by omega, by rw [List.take_zero, gat_nil]; exact HK0.out, HB0.out⟩
  case round =>
    obtain ⟨z, m, rfl, hz, hm, hKM, hb⟩ := hrel
    by_cases hlt : z < n
    · have hzl : z < ws.length := by rw [← HN.out]; exact hlt
      obtain ⟨b, off, rfl, hcl⟩ := Wrs.cell (RowAt.below H.out hb) (by omega)
      obtain ⟨x0, x1, x2, x3⟩ := hcl z hzl
      obtain ⟨x, hx⟩ : ∃ x, x = ws[z] := ⟨_, rfl⟩
      rw [← hx] at x0 x1 x2 x3
      have htk : ws.take (z + 1) = ws.take z ++ [x] := by rw [hx]; exact (List.take_append_getElem hzl).symm
      have hxin : x ∈ ws := by rw [hx]; exact List.getElem_mem hzl
      have HTK := Lib.hid htk
      have HX := Lib.hid (And.intro (HT.out x hxin) (HK.out x hxin))
      have HI := Lib.hid (And.intro hKM (And.intro hb hm))
      have hb1 : Below wr.heap.size wr (wr.alloc (.cells #[.int .i64 x.t, .int .i64 x.k, .int .i64 x.v, .bool x.dead] 51)) := (Below.refl _ wr).alloc (Nat.le_refl _) _
      have HB1 := Lib.hid hb1
      have HC := Lib.hid (cell_any (HM.out.below ((hb.trans (hb1.mono hb.size)))) x.t x.k)
      have HW1 := Lib.hid (heap_alloc_new wr (.cells #[.int .i64 x.t, .int .i64 x.k, .int .i64 x.v, .bool x.dead] 51))
      obtain ⟨g, hg⟩ : ∃ g, g = gat q ts (ws.take z) := ⟨_, rfl⟩
      rw [← hg] at HI
      have HG := Lib.hid hg
      obtain ⟨o, ho⟩ : ∃ o, o = cellAt ts x.t x.k := ⟨_, rfl⟩
      rw [← ho] at HC
      have HO := Lib.hid ho
      clear hcl hx htk hxin hKM hb hm hb1 hg ho
      unfold ansC at HC
      go_wp2_with fail
      refine Calls.mono HC.out ?_
      rintro e w2 ⟨rfl, hb2⟩
      have hbox := (hb2.block _ (Array.getElem?_eq_some_iff.1 HW1.out).1).trans HW1.out
      obtain ⟨s9, hs9⟩ : ∃ s9, s9 = wr.heap.size := ⟨_, rfl⟩
      rw [← hs9] at hbox
      obtain ⟨ok, hok⟩ : ∃ ok, ok = o.isSome := ⟨_, rfl⟩
      obtain ⟨cl, hcl⟩ : ∃ cl, cl = cv o := ⟨_, rfl⟩
      rw [← hok, ← hcl, ← hs9]
      obtain ⟨bl, hbl⟩ : ∃ bl, bl = decide (q ≤ cl.s) := ⟨_, rfl⟩
      have HST := Lib.hid (show stay q o = (ok && bl) from by rw [stay_eq, hok, hbl, hcl])
      obtain ⟨W2, hW2⟩ : ∃ W2, W2 = w2.alloc (.cells #[.int .i64 cl.v, .int .i64 cl.s, .bool cl.dead] 44) := ⟨_, rfl⟩
      have hb22 : Below w2.heap.size w2 W2 := by rw [hW2]; exact (Below.refl _ _).alloc (Nat.le_refl _) _
      have hbr : Below wr.heap.size wr W2 := HB1.out.trans ((hb2.trans (hb22.mono hb2.size)).mono HB1.out.size)
      have hbox2 := (hb22.block _ (Array.getElem?_eq_some_iff.1 hbox).1).trans hbox
      have hcb : W2.heap[w2.heap.size]? = some (.cells #[.int .i64 cl.v, .int .i64 cl.s, .bool cl.dead] 44 (0, 0)) := by rw [hW2]; exact heap_alloc_new w2 _
      obtain ⟨s10, hs10⟩ : ∃ s10, s10 = w2.heap.size := ⟨_, rfl⟩
      rw [← hs10] at hcb
      have y0 : W2.cell? ⟨s9, 0, none⟩ = some (.int .i64 x.t) := by rw [cell_of_row _ _ 0 _ _ _ hbox2]; rfl
      have y1 : W2.cell? ⟨s9, 1, none⟩ = some (.int .i64 x.k) := by rw [cell_of_row _ _ 1 _ _ _ hbox2]; rfl
      have y2 : W2.cell? ⟨s9, 2, none⟩ = some (.int .i64 x.v) := by rw [cell_of_row _ _ 2 _ _ _ hbox2]; rfl
      have y3 : W2.cell? ⟨s9, 3, none⟩ = some (.bool x.dead) := by rw [cell_of_row _ _ 3 _ _ _ hbox2]; rfl
      have z1 : W2.cell? ⟨s10, 1, none⟩ = some (.int .i64 cl.s) := by rw [cell_of_row _ _ 1 _ _ _ hcb]; rfl
      have HI2 : Hid (KM Wr.val W2 B m g ∧ Below w.heap.size w W2) := Lib.hid ⟨HI.out.1.below hbr, HI.out.2.1.trans (hbr.mono HI.out.2.1.size)⟩
      have HBX := Lib.hid hbox2
      have hmw : m < maxLen := by have := HI.out.2.2; have := HL.out; unfold maxLen; omega
      have HMW := Lib.hid hmw
      have HW2 := Lib.hid hW2
      have HS10 := Lib.hid hs10
      clear hbox hs9 hok hcl hb22 hbr hbox2 hcb hs10 hW2 hmw hb2
      cases ok with
      | true =>
        cases bl with
        | true =>
          have d1 : decide (q ≤ cl.s) = true := hbl.symm
          clear hbl
          go_upto_region 6 with fail
          rw [← HS10.out, ← HW2.out]
          go_wp2_with fail
          go_roundw
          case rel => exact ⟨z + 1, m, by go_num, by omega, by have := HI.out.2.2; omega, by rw [HTK.out, gat_stay (by rw [← HO.out, HST.out]; rfl), ← HG.out]; exact HI2.out.1, HI2.out.2⟩
          case measure => simp [intOf]; omega
        | false =>
          have d1 : decide (q ≤ cl.s) = false := hbl.symm
          clear hbl
          go_upto_region 6 with fail
          rw [← HS10.out, ← HW2.out]
          cases hgx : g x.t x.k with
          | some y =>
            have hlook := HI2.out.1.look (mt := 138) Try.underlying138 (zeroWr W2) (inT_wf HX.out.1) (wfK HX.out.2)
            rw [hgx] at hlook
            simp only [Wr.val, keyV, Option.isSome_some] at hlook
            have HE : Hid (KM Wr.val (W2.alloc (.cells #[.int .i64 y.t, .int .i64 y.k, .int .i64 y.v, .bool y.dead] 51)) B m g ∧ Below w.heap.size w (W2.alloc (.cells #[.int .i64 y.t, .int .i64 y.k, .int .i64 y.v, .bool y.dead] 51))) := Lib.hid ⟨HI2.out.1.below ((Below.refl _ _).alloc (Nat.le_refl _) _), HI2.out.2.alloc HI2.out.2.size _⟩
            have HGX := Lib.hid hgx
            clear hgx
            go_wp2_with fail
            go_roundw
            case rel => exact ⟨z + 1, m, by go_num, by omega, by have := HI.out.2.2; omega, by rw [HTK.out, gat_had (by rw [← HG.out]; exact HGX.out), ← HG.out]; exact HE.out.1, HE.out.2⟩
            case measure => simp [intOf]; omega
          | none =>
            have hlook := HI2.out.1.look (mt := 138) Try.underlying138 (zeroWr W2) (inT_wf HX.out.1) (wfK HX.out.2)
            rw [hgx] at hlook
            simp only [keyV, Option.isSome_none] at hlook
            have hb3 : Below W2.heap.size W2 (W2.alloc (.cells #[.int .i64 0, .int .i64 0, .int .i64 0, .bool false] 51)) := (Below.refl _ _).alloc (Nat.le_refl _) _
            have hk3 := HI2.out.1.below hb3
            obtain ⟨w4, hst, hK4, hg4⟩ := hk3.store (mt := 138) Try.underlying138 (inT_wf HX.out.1) (wfK HX.out.2) x HMW.out
            simp only [Wr.val, keyV] at hst
            have HE : Hid (KM Wr.val w4 B (m + 1) (updK g x.t x.k x) ∧ Below w.heap.size w w4) := Lib.hid ⟨hK4, (HI2.out.2.alloc HI2.out.2.size _).grown hg4 (HI2.out.2.alloc HI2.out.2.size _).size (fun j e => by cases e; rw [HBB.out]; exact Nat.le_refl _)⟩
            have HGX := Lib.hid hgx
            clear hgx hK4 hg4 hk3
            have u0 := (hb3.cell (World.block_lt_of_cell? _ _ y0)).trans y0
            have u1 := (hb3.cell (World.block_lt_of_cell? _ _ y1)).trans y1
            have u2 := (hb3.cell (World.block_lt_of_cell? _ _ y2)).trans y2
            have u3 := (hb3.cell (World.block_lt_of_cell? _ _ y3)).trans y3
            clear hb3
            go_wp2_with fail
            go_roundw
            case rel => exact ⟨z + 1, m + 1, by go_num, by omega, by have := HI.out.2.2; omega, by rw [HTK.out, gat_new (by rw [← HG.out]; exact HGX.out) (by rw [← HO.out, HST.out]; rfl), ← HG.out]; exact HE.out.1, HE.out.2⟩
            case measure => simp [intOf]; omega
      | false =>
        clear hbl
        go_upto_region 6 with fail
        rw [← HS10.out, ← HW2.out]
        cases hgx : g x.t x.k with
        | some y =>
          have hlook := HI2.out.1.look (mt := 138) Try.underlying138 (zeroWr W2) (inT_wf HX.out.1) (wfK HX.out.2)
          rw [hgx] at hlook
          simp only [Wr.val, keyV, Option.isSome_some] at hlook
          have HE : Hid (KM Wr.val (W2.alloc (.cells #[.int .i64 y.t, .int .i64 y.k, .int .i64 y.v, .bool y.dead] 51)) B m g ∧ Below w.heap.size w (W2.alloc (.cells #[.int .i64 y.t, .int .i64 y.k, .int .i64 y.v, .bool y.dead] 51))) := Lib.hid ⟨HI2.out.1.below ((Below.refl _ _).alloc (Nat.le_refl _) _), HI2.out.2.alloc HI2.out.2.size _⟩
          have HGX := Lib.hid hgx
          clear hgx
          go_wp2_with fail
          go_roundw
          case rel => exact ⟨z + 1, m, by go_num, by omega, by have := HI.out.2.2; omega, by rw [HTK.out, gat_had (by rw [← HG.out]; exact HGX.out), ← HG.out]; exact HE.out.1, HE.out.2⟩
          case measure => simp [intOf]; omega
        | none =>
          have hlook := HI2.out.1.look (mt := 138) Try.underlying138 (zeroWr W2) (inT_wf HX.out.1) (wfK HX.out.2)
          rw [hgx] at hlook
          simp only [keyV, Option.isSome_none] at hlook
          have hb3 : Below W2.heap.size W2 (W2.alloc (.cells #[.int .i64 0, .int .i64 0, .int .i64 0, .bool false] 51)) := (Below.refl _ _).alloc (Nat.le_refl _) _
          have hk3 := HI2.out.1.below hb3
          obtain ⟨w4, hst, hK4, hg4⟩ := hk3.store (mt := 138) Try.underlying138 (inT_wf HX.out.1) (wfK HX.out.2) x HMW.out
          simp only [Wr.val, keyV] at hst
          have HE : Hid (KM Wr.val w4 B (m + 1) (updK g x.t x.k x) ∧ Below w.heap.size w w4) := Lib.hid ⟨hK4, (HI2.out.2.alloc HI2.out.2.size _).grown hg4 (HI2.out.2.alloc HI2.out.2.size _).size (fun j e => by cases e; rw [HBB.out]; exact Nat.le_refl _)⟩
          have HGX := Lib.hid hgx
          clear hgx hK4 hg4 hk3
          have u0 := (hb3.cell (World.block_lt_of_cell? _ _ y0)).trans y0
          have u1 := (hb3.cell (World.block_lt_of_cell? _ _ y1)).trans y1
          have u2 := (hb3.cell (World.block_lt_of_cell? _ _ y2)).trans y2
          have u3 := (hb3.cell (World.block_lt_of_cell? _ _ y3)).trans y3
          clear hb3
          go_wp2_with fail
          go_roundw
          case rel => exact ⟨z + 1, m + 1, by go_num, by omega, by have := HI.out.2.2; omega, by rw [HTK.out, gat_new (by rw [← HG.out]; exact HGX.out) (by rw [← HO.out, HST.out]; rfl), ← HG.out]; exact HE.out.1, HE.out.2⟩
          case measure => simp [intOf]; omega
    · obtain rfl : z = n := by omega
      have HKZ : Hid (KM Wr.val wr B m (gat q ts ws)) := Lib.hid (by rw [HN.out, List.take_length] at hKM; exact hKM)
      have HBZ := Lib.hid (And.intro hb hm)
      clear hKM hb hm hlt hz
      go_wp2_with fail
      go_ret
      exact ⟨by first | rfl | (rw [HBB.out]; rfl), ⟨m, HBZ.out.2, by rw [← HBB.out]; exact HKZ.out⟩, HBZ.out.1⟩
end Go.Proofs.Ytejpjbmbcdgomaa
