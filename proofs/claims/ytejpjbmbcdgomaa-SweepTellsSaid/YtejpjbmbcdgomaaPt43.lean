/- VAlive, WChunk, WRefW: put together. -/
import Derived.Test.YtejpjbmbcdgomaaPt42
import Derived.Test.YtejpjbmbcdgomaaPt20
import Derived.Test.YtejpjbmbcdgomaaPt26
/- The fixed fact of layer 18. -/
namespace Go.Proofs.Ytejpjbmbcdgomaa
set_option maxRecDepth 100000
open Go.RowKit

def tsP : Tb := forceT 1 (fun _ => []) [⟨1, 5, 7, false⟩]
def tsQ : Tb := forceT 2 tsP [⟨1, 5, 0, true⟩]
def eP : En := ⟨1, ⟨5, ⟨7, 1, false⟩⟩⟩
theorem vfA : apN 1 (fun _ => []) [⟨1, 5, 7, false⟩] = 0 := by kernel_rfl
theorem vfB : apN 2 tsP [⟨1, 5, 0, true⟩] = 0 := by kernel_rfl
theorem vfC : befS (cellAt tsP) 0 (-9223372036854775808) [] [⟨1, 5, 0, true⟩] = [⟨eP, true⟩] := by kernel_rfl
theorem vfD : stepS 1 ((liveE (fromE 0 (-9223372036854775808) tsQ)).take 1) [⟨eP, true⟩] [] 0 (-9223372036854775808) = ([], [eP], 1, 6, false) := by kernel_rfl
theorem vfE : stepS 1 ((liveE (fromE 1 6 tsQ)).take 1) [] [eP] 1 6 = ([], [eP], 1, 6, true) := by kernel_rfl
theorem vfF : putB (fT [eP]) = putB tsP := by kernel_rfl
theorem vfG : (putB tsP).length = 6 := by kernel_rfl
theorem vfH : liveT tsQ = 0 := by kernel_rfl
theorem okP : WrOk ⟨1, 5, 7, false⟩ := ⟨⟨by decide, by decide⟩, by decide, by decide⟩
theorem okQ : WrOk ⟨1, 5, 0, true⟩ := ⟨⟨by decide, by decide⟩, by decide, by decide⟩
theorem numP : NumT tsP := NumT.force _ NumT.none (fun x hx => by rw [List.mem_singleton.1 hx]; exact okP) (by decide) (by decide)
theorem numQ : NumT tsQ := NumT.force _ numP (fun x hx => by rw [List.mem_singleton.1 hx]; exact okQ) (by decide) (by decide)
theorem lenP : ∀ i, i < 4 → (tsP i).length ≤ 1 := fun i hi => force_le (n := 0) [⟨1, 5, 7, false⟩] (fun _ _ => Nat.le_refl _) i hi
theorem lenQ : ∀ i, i < 4 → (tsQ i).length ≤ 2 := fun i hi => force_le (n := 1) [⟨1, 5, 0, true⟩] lenP i hi
theorem numWP : NumW [⟨1, 5, 7, false⟩] := fun x hx => by rw [List.mem_singleton.1 hx]; exact okP.1
theorem numWQ : NumW [⟨1, 5, 0, true⟩] := fun x hx => by rw [List.mem_singleton.1 hx]; exact okQ.1
set_option maxHeartbeats 8000000 in
theorem alive18_any (w : World) : Calls Try.prog 34 #[] w fun e w' => e = .returned (.bool true) ∧ Below w.heap.size w w' := by
  have HN := Lib.hid (snew_any w)
  go_enter Try.func34, Try.ntmps34
  go_wp2_with fail
  refine Calls.mono HN.out ?_
  rintro e w1 ⟨rfl, ⟨G, hM, hG⟩, hb1⟩
  obtain ⟨sb, hsb⟩ : ∃ sb, sb = w.heap.size := ⟨_, rfl⟩
  rw [← hsb] at hM
  have HSB := Lib.hid hsb
  obtain ⟨W3, hW3⟩ : ∃ W3, W3 = (w1.alloc (.cells #[.int .i64 1, .int .i64 5] 42)).alloc (.cells #[.int .i64 1, .int .i64 5, .int .i64 7, .bool false] 51) := ⟨_, rfl⟩
  have hb3 : Below w1.heap.size w1 W3 := by rw [hW3]; exact ((Below.refl _ _).alloc (Nat.le_refl _) _).alloc (by simp) _
  have hs3 : W3.heap.size = w1.heap.size + 2 := by rw [hW3]; simp
  have hk3 : W3.heap[w1.heap.size]? = some (.cells #[.int .i64 1, .int .i64 5] 42 (0, 0)) := by
    rw [hW3, ((Below.refl _ (w1.alloc (.cells #[.int .i64 1, .int .i64 5] 42))).alloc (Nat.le_refl _) _).block _ (by simp)]
    exact heap_alloc_new w1 _
  have hx3 : W3.heap[w1.heap.size + 1]? = some (.cells #[.int .i64 1, .int .i64 5, .int .i64 7, .bool false] 51 (0, 0)) := by
    have := heap_alloc_new (w1.alloc (.cells #[.int .i64 1, .int .i64 5] 42)) (.cells #[.int .i64 1, .int .i64 5, .int .i64 7, .bool false] 51)
    have e : (w1.alloc (.cells #[.int .i64 1, .int .i64 5] 42)).heap.size = w1.heap.size + 1 := by simp
    rw [e, ← hW3] at this
    exact this
  obtain ⟨s1, hs1⟩ : ∃ s1, s1 = w1.heap.size := ⟨_, rfl⟩
  rw [← hs1] at hk3 hx3 hs3
  have HA := Lib.hid (apply_any (c := 1) 1 (hM.below hb3) (wrs_one (x := ⟨1, 5, 7, false⟩) hx3) numWP (by decide) (fun _ _ => by decide))
  rw [vfA, show errV 0 = .nilIface from rfl] at HA
  have HG := Lib.hid (And.intro hG (And.intro hb1 (And.intro hb3 (And.intro hk3 (And.intro hs3 hs1)))))
  have HW3 := Lib.hid hW3
  have HM := Lib.hid hM
  clear hM hG hb1 hW3 hb3 hs3 hk3 hx3
  rw [← hsb]
  clear hsb
  go_wp2_with fail
  rw [← HW3.out, ← HG.out.2.2.2.2.2]
  refine Calls.mono HA.out ?_
  rintro e w4 ⟨rfl, G1, ts1, last1, hM1, hC1, ⟨⟨_, rfl, rfl⟩ | ⟨h0, _⟩⟩⟩
  rotate_left
  · exact absurd rfl h0
  change SM w4 G1 sb tsP (liveT tsP : Int) 1 at hM1
  have hnG : ¬ G s1 := fun e => by have := HM.out.lt e; have := HG.out.2.2.2.2.2; omega
  have hk4 : w4.heap[s1]? = some (.cells #[.int .i64 1, .int .i64 5] 42 (0, 0)) := (hC1.ch.block _ (Array.getElem?_eq_some_iff.1 HG.out.2.2.2.1).1 hnG).trans HG.out.2.2.2.1
  have hnG1 : ¬ G1 s1 := fun e => by
    rcases hC1.fr _ e with e | e
    · exact hnG e
    · have := HG.out.2.2.2.2.1; omega
  have hb4 := ((Cg.of_below HG.out.2.2.1 G).trans hC1).low HG.out.2.1.size HG.out.1
  have HB4 : Hid (Below w.heap.size w w4 ∧ (∀ q, G1 q → w.heap.size ≤ q) ∧ SM w4 G1 sb tsP (liveT tsP : Int) 1) := Lib.hid ⟨HG.out.2.1.trans hb4.1, hb4.2, hM1⟩
  have HK4 := Lib.hid (And.intro hk4 hnG1)
  have HP := Lib.hid (sput_any hM1 (fun i hi => Nat.le_trans (lenP i hi) (by decide)) numP)
  obtain ⟨PB, hPB⟩ : ∃ PB, PB = putB tsP := ⟨_, rfl⟩
  have HPB := Lib.hid hPB
  rw [← hPB] at HP
  clear hM1 hC1 hnG hk4 hnG1 hb4 hPB
  go_wp2_with fail
  refine Calls.mono HP.out ?_
  rintro e w5 ⟨A5, c5, rfl, hr5, hn5, hb5⟩
  have HN5 := Lib.hid hn5
  have HR5 := Lib.hid (And.intro hr5 hb5)
  have HBG := Lib.hid (SwI.begin (HB4.out.1.trans (hb5.mono HB4.out.1.size)) (HB4.out.2.2.below hb5) HB4.out.2.1)
  clear hr5 hb5 hn5
  go_wp2_with fail
  refine Calls.mono HBG.out ?_
  rintro e w6 ⟨rfl, hI6, hb6⟩
  obtain ⟨xb, hxb⟩ : ∃ xb, xb = w5.heap.size := ⟨_, rfl⟩
  rw [← hxb] at hI6 ⊢
  have hks5 : w5.heap[s1]? = some (.cells #[.int .i64 1, .int .i64 5] 42 (0, 0)) := (HR5.out.2.block s1 (Array.getElem?_eq_some_iff.1 HK4.out.1).1).trans HK4.out.1
  have hXs : s1 < xb ∧ ¬ G1 s1 := ⟨by rw [hxb]; exact (Array.getElem?_eq_some_iff.1 hks5).1, HK4.out.2⟩
  have kk6 := (hb6.block s1 (Array.getElem?_eq_some_iff.1 hks5).1).trans hks5
  have hX5 : ∀ b o, A5 = some ⟨b, o, none⟩ → b < xb ∧ ¬ G1 b := fun b o e => by
    have hr := HR5.out.1
    have h6 : 0 < PB.length := by rw [HPB.out, vfG]; decide
    rw [e] at hr
    have h7 := Rdv.blockLt hr h6 (by decide)
    exact ⟨by omega, fun e2 => by have := HB4.out.2.2.lt e2; have := HN5.out b o e; omega⟩
  have hr6 := Rdv.ext HR5.out.1 fun p hp => hb6.cell hp
  obtain ⟨W7, hW7⟩ : ∃ W7, W7 = w6.alloc (.cells #[.int .i64 1, .int .i64 5, .int .i64 0, .bool true] 51) := ⟨_, rfl⟩
  obtain ⟨b7, hb7⟩ : ∃ b7, b7 = w6.heap.size := ⟨_, rfl⟩
  have hB7 : Below w6.heap.size w6 W7 := by rw [hW7]; exact (Below.refl _ _).alloc (Nat.le_refl _) _
  have hS7 : b7 < W7.heap.size := by rw [hW7, hb7, World.size_alloc]; omega
  have g7 : W7.heap[b7]? = some (.cells #[.int .i64 1, .int .i64 5, .int .i64 0, .bool true] 51 (0, 0)) := by rw [hW7, hb7]; exact heap_alloc_new w6 _
  obtain ⟨hI7, hsp7⟩ := hI6.later hB7
  have hI7b := hI7.mono (X' := fun q => q = b7 ∨ q = s1 ∨ (q < xb ∧ ¬ G1 q)) fun q e => by
    rcases e with e | e | e
    · subst e; exact .inr ⟨by omega, hS7⟩
    · subst e; exact .inl hXs
    · exact .inl e
  have HBF := Lib.hid (hI7b.before (c := 1) (ws := [⟨1, 5, 0, true⟩]) (by decide) (wrs_one (x := ⟨1, 5, 0, true⟩) g7) fun _ b o e => by
    injection e with e
    injection e with e _ _
    exact .inl e.symm)
  rw [vfC] at HBF
  have k7 := (hsp7 s1 hXs).trans kk6
  have hr7 := rdv_spare hr6 hsp7 fun b o e => hX5 b o e
  have HK7 := Lib.hid (And.intro k7 (And.intro hr7 (And.intro hXs hX5)))
  have c0 : w6.cell? ⟨s1, 0, none⟩ = some (.int .i64 1) := by rw [cell_of_row _ _ 0 _ _ _ kk6]; rfl
  have c1 : w6.cell? ⟨s1, 1, none⟩ = some (.int .i64 5) := by rw [cell_of_row _ _ 1 _ _ _ kk6]; rfl
  have HW7 := Lib.hid (And.intro hW7 hb7)
  clear hI6 hb6 kk6 hW7 hb7 hB7 hS7 g7 hI7 hI7b hsp7 k7 hr6 hr7 hXs hX5 hks5 hxb
  rw [HG.out.2.2.2.2.2] at c0 c1
  go_wp2_with fail
  rw [← HW7.out.1, ← HW7.out.2]
  refine Calls.mono HBF.out ?_
  rintro e w8 ⟨rfl, hI8, hsp8⟩
  have k8 := (hsp8 s1 (.inr (.inl rfl))).trans HK7.out.1
  have hr8 := rdv_spare HK7.out.2.1 hsp8 fun b o e => .inr (.inr (HK7.out.2.2.2 b o e))
  have HI8 := Lib.hid (And.intro hI8 (And.intro k8 hr8))
  clear hI8 hsp8 k8 hr8 c0 c1
  have c0 : w8.cell? ⟨s1, 0, none⟩ = some (.int .i64 1) := by rw [cell_of_row _ _ 0 _ _ _ HI8.out.2.1]; rfl
  have c1 : w8.cell? ⟨s1, 1, none⟩ = some (.int .i64 5) := by rw [cell_of_row _ _ 1 _ _ _ HI8.out.2.1]; rfl
  rw [HG.out.2.2.2.2.2] at c0 c1
  obtain ⟨W9, hW9⟩ : ∃ W9, W9 = w8.alloc (.cells #[.int .i64 1, .int .i64 5, .int .i64 0, .bool true] 51) := ⟨_, rfl⟩
  have hB9 : Below w8.heap.size w8 W9 := by rw [hW9]; exact (Below.refl _ _).alloc (Nat.le_refl _) _
  have g9 : W9.heap[w8.heap.size]? = some (.cells #[.int .i64 1, .int .i64 5, .int .i64 0, .bool true] 51 (0, 0)) := by rw [hW9]; exact heap_alloc_new w8 _
  obtain ⟨hI9, hsp9⟩ := HI8.out.1.later hB9
  have hI9b := hI9.mono (X' := fun q => q < xb ∧ ¬ G1 q) fun q e => .inl (.inr (.inr e))
  have HA2 := Lib.hid (apply_any (c := 1) 2 hI9b.m (wrs_one (x := ⟨1, 5, 0, true⟩) g9) numWQ (by decide) (fun i hi => Nat.le_trans (lenP i hi) (by decide)))
  rw [vfB, show errV 0 = .nilIface from rfl] at HA2
  have HI9 := Lib.hid (And.intro hI9b (rdv_spare HI8.out.2.2 hsp9 fun b o e => .inr (.inr (HK7.out.2.2.2 b o e))))
  have HW9 := Lib.hid hW9
  clear hW9 hB9 g9 hI9 hsp9 hI9b
  go_wp2_with fail
  rw [← HW9.out]
  refine Calls.mono HA2.out ?_
  rintro e w10 ⟨rfl, G2, ts2, last2, hM2, hC2, ⟨⟨_, rfl, rfl⟩ | ⟨h0, _⟩⟩⟩
  rotate_left
  · exact absurd rfl h0
  change SM w10 G2 sb tsQ (liveT tsQ : Int) _ at hM2
  obtain ⟨hI10, hsp10⟩ := HI9.out.1.cg hM2 hC2
  have HI10 := Lib.hid (And.intro hI10 (rdv_spare HI9.out.2 hsp10 fun b o e => HK7.out.2.2.2 b o e))
  have HS1 := Lib.hid (hI10.step (fun i hi => Nat.le_trans (lenQ i hi) (by decide)) numQ 1 (by decide) (by decide) ⟨by decide, by decide, by decide, by decide⟩ (fun x hx => by rw [List.mem_singleton.1 hx]; exact ⟨by decide, by decide, by decide⟩))
  rw [show (1 : Int).toNat = 1 from rfl, vfD] at HS1
  clear hM2 hC2 hI10 hsp10 c0 c1
  go_wp2_with fail
  refine Calls.mono HS1.out ?_
  rintro e w11 ⟨R, rfl, rfl, hI11, hsp11, _⟩
  have hI11 := hI11 List.Pairwise.nil
  have HI11 := Lib.hid (And.intro hI11 (rdv_spare HI10.out.2 hsp11 fun b o e => HK7.out.2.2.2 b o e))
  have HS2 := Lib.hid (hI11.step (fun i hi => Nat.le_trans (lenQ i hi) (by decide)) numQ 1 (by decide) (by decide) ⟨by decide, by decide, by decide, by decide⟩ (fun x hx => by cases hx))
  rw [show (1 : Int).toNat = 1 from rfl, vfE] at HS2
  clear hI11 hsp11
  go_wp2_with fail
  refine Calls.mono HS2.out ?_
  rintro e w12 ⟨R, rfl, rfl, hI12, hsp12, _⟩
  have hI12 := hI12 List.Pairwise.nil
  have HTX := Lib.hid (hI12.text (by decide) fun e he => by rw [List.mem_singleton.1 he]; exact ⟨by decide, ⟨by decide, by decide⟩, ⟨by decide, by decide⟩, by decide, by decide⟩)
  have HI12 := Lib.hid (And.intro hI12 (rdv_spare HI11.out.2 hsp12 fun b o e => HK7.out.2.2.2 b o e))
  rw [show putB (fT [eP]) = PB by rw [vfF, HPB.out]] at HTX
  clear hI12 hsp12
  go_wp2_with fail
  refine Calls.mono HTX.out ?_
  rintro e w13 ⟨A13, c13, rfl, hr13, hb13⟩
  have HL13 := Lib.hid (slive_any (HI12.out.1.m.below hb13))
  rw [vfH] at HL13
  have HR13 := Lib.hid (And.intro hr13 (And.intro (Rdv.ext HI12.out.2 fun p hp => hb13.cell hp) (HI12.out.1.b.trans (hb13.mono HI12.out.1.b.size))))
  have HPL : Hid (PB.length = 6 ∧ ∀ x ∈ PB, x < 256) := Lib.hid (by rw [HPB.out]; exact ⟨vfG, putB_small numP⟩)
  clear hr13 hb13
  go_wp2_with fail
  refine Calls.mono (same_any A13 A5 PB.length c13 PB.length c5 PB PB w13 HR13.out.1 HR13.out.2.1 HPL.out.2 HPL.out.2) ?_
  rintro e w14 ⟨rfl, rfl⟩
  rw [decide_eq_true rfl, HPL.out.1]
  go_wp2_with fail
  refine Calls.mono HL13.out ?_
  rintro e w15 ⟨rfl, rfl⟩
  go_wp2_with fail
  go_ret
  exact ⟨rfl, HR13.out.2.2⟩
end Go.Proofs.Ytejpjbmbcdgomaa

/- The contracts of a writer's Bytes and Text. -/
namespace Go.Proofs.Ytejpjbmbcdgomaa
set_option maxRecDepth 100000
open Go.RowKit

theorem Wtr.ext {w w' : World} {B g : Nat} {v : Value} {xs : List Nat} (h : Wtr w B g v xs) (k : Below w.heap.size w w') : Wtr w' B g v xs :=
  ⟨h.low, (k.block g h.lt).trans h.block, row_stays h.own (fun j hj => k.block j (h.own.lt j hj).2)⟩
theorem Wrote.after {w w1 w' : World} {B g : Nat} {v v' : Value} {xs : List Nat} (k : Below w.heap.size w w1) (h : Wrote w1 w' B g v v' xs) : Wrote w w' B g v v' xs := by
  refine ⟨h.wtr, ⟨h.touch.os.trans k.os, h.touch.tape.trans k.tape, h.touch.output.trans k.output, Nat.le_trans k.size h.touch.size, fun j hj h1 h2 => (h.touch.block j (Nat.lt_of_lt_of_le hj k.size) h1 h2).trans (k.block j hj)⟩, ?_⟩
  rcases h.row with h1 | ⟨j, h1, h2⟩
  · exact .inl h1
  · exact .inr ⟨j, h1, Nat.le_trans k.size h2⟩
/-- A row of bytes that a writer's calls leave alone. -/
def AwayB (w : World) (g : Nat) (v : Value) (A : Option Addr) : Prop := ∀ ad, A = some ad → ad.block < w.heap.size → ad.block ≠ g ∧ v.ownBlock ≠ some ad.block
theorem Touch.rdv {w w' : World} {g n size : Nat} {v : Value} {A : Option Addr} {ys : List Value} (h : Touch w w' g v.ownBlock) (hr : Rdv w A n size ys) (ha : 0 < n → AwayB w g v A) : Rdv w' A n size ys := by
  refine ⟨hr.1, fun hn => ?_⟩
  obtain ⟨b, off, e, hc⟩ := hr.2 hn
  refine ⟨b, off, e, fun j u hj => ?_⟩
  have hlt := World.block_lt_of_cell? _ _ (hc j u hj)
  have := ha hn _ e hlt
  rw [← hc j u hj]
  exact World.cell?_of_block (h.block b hlt this.1 this.2)

end Go.Proofs.Ytejpjbmbcdgomaa

/- The contracts of the document's writer: Count, Num, Flag, Bytes. -/
namespace Go.Proofs.Ytejpjbmbcdgomaa
set_option maxRecDepth 100000
open Go.RowKit

theorem bitLen_spec : ∀ (n x : Nat), x < n → x ≠ 0 → x < 2 ^ 64 → 1 ≤ Lib.bitLen x ∧ 2 ^ (Lib.bitLen x - 1) ≤ x ∧ x < 2 ^ Lib.bitLen x
  | 0, x, h, _, _ => absurd h (by omega)
  | n + 1, x, h, h0, h64 => by
    rw [Lib.bitLen_half x h0 h64]
    by_cases h1 : x / 2 = 0
    · have hx : x = 1 := by omega
      subst hx
      decide
    · obtain ⟨i1, i2, i3⟩ := bitLen_spec n (x / 2) (by omega) h1 (by omega)
      obtain ⟨k, hk⟩ : ∃ k, Lib.bitLen (x / 2) = k + 1 := ⟨Lib.bitLen (x / 2) - 1, by omega⟩
      rw [hk] at i2 i3 ⊢
      refine ⟨by omega, ?_, ?_⟩
      · have e : 1 + (k + 1) - 1 = k + 1 := by omega
        rw [e, Nat.pow_succ]
        have e2 : k + 1 - 1 = k := by omega
        rw [e2] at i2
        omega
      · have e : 1 + (k + 1) = (k + 1) + 1 := by omega
        rw [e, Nat.pow_succ]
        omega
/-- A count's size: the least number of groups that hold it. -/
theorem size_spec (n : Nat) (h : n < 18446744073709551616) : 1 ≤ sizeN n ∧ sizeN n ≤ 10 ∧ n < 128 ^ sizeN n ∧ (2 ≤ sizeN n → 128 ^ (sizeN n - 1) ≤ n) := by
  have hl := Lib.bitLen_le n 64 (Nat.le_refl _) h
  have e : ∀ k, (128 : Nat) ^ k = 2 ^ (7 * k) := fun k => by rw [Nat.pow_mul]
  by_cases h0 : n = 0
  · subst h0; decide
  · obtain ⟨i1, i2, i3⟩ := bitLen_spec (n + 1) n (by omega) h0 h
    have hs : sizeN n = max 1 ((Lib.bitLen n + 6) / 7) := rfl
    refine ⟨by omega, by omega, ?_, fun h2 => ?_⟩
    · rw [e]
      exact Nat.lt_of_lt_of_le i3 (Nat.pow_le_pow_right (by omega) (by omega))
    · rw [e]
      exact Nat.le_trans (Nat.pow_le_pow_right (by omega) (by omega)) i2
theorem round_more (n k : Nat) (h : n < 18446744073709551616) (hk : k ≤ sizeN n - 1) : 128 ≤ n / 128 ^ k ↔ k < sizeN n - 1 := by
  obtain ⟨h1, h2, h3, h4⟩ := size_spec n h
  have hp : 0 < 128 ^ k := Nat.pow_pos (by omega)
  rw [Nat.le_div_iff_mul_le hp, Nat.mul_comm, ← Nat.pow_succ]
  constructor
  · intro h5
    rcases Nat.lt_or_ge k (sizeN n - 1) with h6 | h6
    · exact h6
    · have : 128 ^ sizeN n ≤ 128 ^ (k + 1) := Nat.pow_le_pow_right (by omega) (by omega)
      omega
  · intro h5
    exact Nat.le_trans (Nat.pow_le_pow_right (by omega) (by omega)) (h4 (by omega))
/-- A row of bytes of one's own. -/
def OwnB (w : World) (B : Nat) (v : Value) (xs : List Nat) : Prop := w.ownsRow B 5 1 v xs.length (valsB xs)
theorem ownB_of {w : World} {B n : Nat} {v : Value} {xs : List Nat} (h : w.ownsRow B 5 1 v n (valsB xs)) (hn : n = xs.length) : OwnB w B v xs := by subst hn; exact h
theorem OwnB.rdv {w : World} {B : Nat} {v : Value} {xs : List Nat} (h : OwnB w B v xs) : ∃ A c, v = .slice A xs.length c ∧ Rdv w A xs.length 1 (valsB xs) ∧ (A = none → c = 0) ∧ xs.length ≤ c := rdv_own h
theorem wpList_appB {w : World} {ops : Array Oper} {rest : List Oper} {o : Oper} {a : Act} {Q : Exit → Act → World → Prop} (hgd : o.guard = none) (s x : Operand)
    (ho : o.op = .call { callee := .builtin .append, args := #[s, x], argTypes := #[57, 57] })
    (B : Nat) (v : Value) (xs : List Nat) (hs : a.eval s = v) (hown : OwnB w B v xs)
    (A : Option Addr) (m c : Nat) (ys : List Nat) (hx : a.eval x = .slice A m c) (hr : Rdv w A m 1 (valsB ys)) (hnil : A = none → c = 0)
    (hmx : xs.length + m ≤ 17592186044416) (hbase : B ≤ w.heap.size)
    (h : ∀ v' w', OwnB w' B v' (xs ++ ys) → Below B w w' → Touch w w' w'.heap.size v.ownBlock → (v'.ownBlock = v.ownBlock ∨ v'.ownBlock = some w.heap.size) → wpList Try.prog ops Q rest (a.put o.dst v') w') : wpList Try.prog ops Q (o :: rest) a w := by
  refine wpList_append_rowv elemB hgd s x ho B v xs.length (valsB xs) hs hown A m c (valsB ys) hx hr (valsB_one _) hnil (by unfold maxLen; omega) (by omega) hbase fun v' w' h1 h2 h3 => h v' w' ?_ ?_ ?_ h3
  · have hl : ys.length = m := by have := hr.1; rw [valsB_length] at this; omega
    rw [← valsB_append] at h1
    exact ownB_of h1 (by rw [List.length_append, hl])
  · exact (Below.refl B w).grown h2 hbase (fun k hk => (hown.lt k hk).1)
  · exact ⟨h2.os, h2.tape, h2.output, h2.size, fun k hk _ hr => h2.block k hk (fun e => hr e.symm)⟩

set_option maxHeartbeats 1000000 in
theorem refCount_any (n : Nat) (hn : n < 18446744073709551616) (w : World) :
    Calls Try.prog 79 #[.int .u64 (n : Int)] w fun e w' => ∃ v, e = .returned v ∧ OwnB w' w.heap.size v (cntN n) ∧ Below w.heap.size w w' := by
  have hc : cntN n = preN n (sizeN n - 1) ++ [n / 128 ^ (sizeN n - 1) % 256] := rfl
  have hmore := round_more n
  have hs10 : sizeN n - 1 ≤ 9 := by have := (size_spec n hn).2.1; omega
  obtain ⟨s, hs⟩ : ∃ s, s = sizeN n - 1 := ⟨_, rfl⟩
  rw [← hs] at hc hs10
  have hmore : ∀ k, k ≤ s → (128 ≤ n / 128 ^ k ↔ k < s) := fun k hk => by have := hmore k hn (by omega); rw [← hs] at this; exact this
  rw [hc]
  obtain ⟨L, hL⟩ : ∃ L, L = n / 128 ^ s % 256 := ⟨_, rfl⟩
  rw [← hL]
  have HL := Lib.hid hL
  have HM := Lib.hid hmore
  clear hc hmore hs hL
  go_enter Try.func79, Try.ntmps79
  go_wp2_with fail
  go_loopw [0, 3] (fun x v wr => ∃ (k : Nat) (v' : Value), x = .int .u64 ((n / 128 ^ k : Nat) : Int) ∧ v = v' ∧ k ≤ s ∧ OwnB wr w.heap.size v' (preN n k) ∧ Below w.heap.size w wr) (fun x _ _ => (intOf x).toNat)
  case atStart => exact ⟨0, _, by simp, rfl, by omega, by rw [show preN n 0 = [] from rfl]; exact World.ownsRow_nil _ _ _ _, Below.refl _ _⟩
  case round =>
    obtain ⟨k, v, rfl, rfl, hk, hown, hb⟩ := hrel
    have hsz := hb.size
    have hpl : (preN n k).length = k := preN_length n k
    obtain ⟨N, hN⟩ : ∃ N, N = n / 128 ^ k := ⟨_, rfl⟩
    have hsucc := preN_succ n k
    have hdiv : n / 128 ^ (k + 1) = N / 128 := by rw [hN, Nat.pow_succ, Nat.div_div_eq_div_mul]
    have hmk := HM.out k hk
    rw [← hN] at hsucc hmk ⊢
    by_cases hlt : k < s
    · have hge : 128 ≤ N := hmk.2 hlt
      obtain ⟨X, hX⟩ : ∃ X, X = N % 128 + 128 := ⟨_, rfl⟩
      rw [← hX] at hsucc
      have e1 : (N : Int) % 128 + 128 = (X : Int) := by omega
      have hX255 : X ≤ 255 := by omega
      have e2 : (N : Int) / 128 = ((N / 128 : Nat) : Int) := rfl
      obtain ⟨M, hM⟩ : ∃ M, M = N / 128 := ⟨_, rfl⟩
      rw [← hM] at e2 hdiv
      have hMN : M < N := by omega
      have hN64 : N < 18446744073709551616 := by rw [hN]; exact Nat.lt_of_le_of_lt (Nat.div_le_self _ _) hn
      have HO := Lib.hid hown
      have HB := Lib.hid hb
      have HSU := Lib.hid hsucc
      have HDI := Lib.hid hdiv
      have HPL := Lib.hid hpl
      clear hown hb hsucc hdiv hpl hmk hX hM hN
      go_wp2_with (at_builtin; refine wpList_appB rfl (.tmp 6) (.tmp 11) rfl w.heap.size _ (preN n k) rfl (World.ownsRow.alloc HO.out _) _ 1 1 [X] rfl (rdv_one wr X) (fun h => by cases h) (by have := HPL.out; omega) (by rw [World.size_alloc]; omega) ?_; intro v3 w3 hown3 hb3 _ _; have HO3 := Lib.hid hown3; have HB3 := Lib.hid ((HB.out.alloc hsz _).trans hb3); clear hown3 hb3)
      go_roundw
      case rel => exact ⟨k + 1, v3, by rw [HDI.out], rfl, by omega, by rw [HSU.out]; exact HO3.out, HB3.out⟩
      case measure => simp [intOf]; omega
    · obtain rfl : k = s := by omega
      have hge : ¬ 128 ≤ N := fun h => hlt (hmk.1 h)
      have hX255 : N ≤ 255 := by omega
      have hLN : L = N := by rw [HL.out, ← hN]; omega
      have HLN := Lib.hid hLN
      have HO := Lib.hid hown
      have HB := Lib.hid hb
      have HPL := Lib.hid hpl
      clear hown hb hsucc hdiv hpl hmk hLN hN
      go_wp2_with (at_builtin; refine wpList_appB rfl (.tmp 15) (.tmp 18) rfl w.heap.size _ (preN n k) rfl (World.ownsRow.alloc HO.out _) _ 1 1 [N] rfl (rdv_one wr N) (fun h => by cases h) (by have := HPL.out; omega) (by rw [World.size_alloc]; omega) ?_; intro v3 w3 hown3 hb3 _ _; have HO3 := Lib.hid hown3; have HB3 := Lib.hid ((HB.out.alloc hsz _).trans hb3); clear hown3 hb3)
      go_ret
      exact ⟨_, rfl, by rw [HLN.out]; exact HO3.out, HB3.out⟩

set_option maxHeartbeats 400000 in
theorem folded_any (z : Int) (hz : Fits z) (w : World) :
    Calls Try.prog 101 #[.int .i64 z] w fun e w' => e = .returned (.int .u64 ((foldN z : Nat) : Int)) ∧ w = w' := by
  have hf : foldN z = if z < 0 then (2 * (-(z + 1)) + 1).toNat else (2 * z).toNat := rfl
  obtain ⟨F, hF⟩ : ∃ F, F = foldN z := ⟨_, rfl⟩
  rw [← hF] at hf ⊢
  unfold Fits at hz
  obtain ⟨h1, h2⟩ := hz
  by_cases h0 : z < 0
  · rw [if_pos h0] at hf
    have HF := Lib.hid (show (F : Int) = 2 * (-(z + 1)) + 1 by omega)
    clear hf hF
    go_enter Try.func101, Try.ntmps101
    go_wp2_with fail
    go_ret
    have := HF.out
    exact ⟨by rw [this]; go_num, rfl⟩
  · rw [if_neg h0] at hf
    have HF := Lib.hid (show (F : Int) = 2 * z by omega)
    clear hf hF
    go_enter Try.func101, Try.ntmps101
    go_wp2_with fail
    go_ret
    have := HF.out
    exact ⟨by rw [this]; go_num, rfl⟩
set_option maxHeartbeats 400000 in
theorem refNum_any (z : Int) (hz : Fits z) (w : World) :
    Calls Try.prog 80 #[.int .i64 z] w fun e w' => ∃ v, e = .returned v ∧ OwnB w' w.heap.size v (cntN (foldN z)) ∧ Below w.heap.size w w' := by
  have HF := Lib.hid (folded_any z hz w)
  have HC := Lib.hid (refCount_any (foldN z) (foldN_lt hz) w)
  clear hz
  go_enter Try.func80, Try.ntmps80
  go_wp2_with fail
  refine Calls.mono HF.out ?_
  rintro e w1 ⟨rfl, rfl⟩
  go_wp2_with fail
  refine Calls.mono HC.out ?_
  rintro e w1 ⟨v, rfl, h1, h2⟩
  have H1 := Lib.hid h1
  have H2 := Lib.hid h2
  clear h1 h2
  go_wp2_with fail
  go_ret
  exact ⟨_, rfl, H1.out, H2.out⟩
end Go.Proofs.Ytejpjbmbcdgomaa
