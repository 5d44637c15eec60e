/- VTells: put together. -/
import Derived.Test.YtejpjbmbcdgomaaPt52
/- SweepTells. Written by gen_vtells.py. -/
namespace Go.Proofs.Ytejpjbmbcdgomaa
set_option maxRecDepth 100000
open Go.RowKit

theorem ents_none : ents (fun _ => []) = [] := by rfl
/-- What stands between two rounds. -/
structure TlI (w wr : World) (xb sb p6 p9 : Nat) (AW : Option Addr) (ts0 : Tb) (z : Nat) (X G : Nat → Prop) (ts : Tb) (last ct ck : Int) (NS : List Nt) (T : List En) (d : Bool) (AE : Option Addr) (cE : Nat) (A : Option Addr) (c : Nat) (KS : List (Int × Int)) (yt yk : Int) (b : Bool) : Prop where
  m : TlM X w wr xb sb p6 p9 AW (putB ts0) G ts last ct ck NS T d AE cE (ents ts) last A c KS yt yk b d
  num : NumT ts
  len : ∀ i, i < 4 → (ts i).length ≤ 60 + 20 * z
  ks : KS.length ≤ 20 * z
  ns : NS.length ≤ 20 * z
  no : d = false → TellI (liveE (ents ts0)) (liveE (ents ts)) NS T ct ck ∧ DocI KS b yt yk NS ct ck
  yes : d = true → T = liveE (ents ts0)
theorem apN_tak {q : Int} {ts : Tb} {ws : List Wr} (h : apN q ts ws = 0) : takB q ws = true := by
  unfold apN at h
  cases ht : takB q ws with
  | true => rfl
  | false => rw [ht] at h; simp at h
theorem own_empty18 (w : World) : (w.alloc (.cells #[] 51)).ownsRow w.heap.size 51 4 (.slice (some ⟨w.heap.size, 0, none⟩) 0 0) 0 [] :=
  ⟨by simp, .inr ⟨w.heap.size, 0, #[], rfl, Nat.le_refl _, heap_alloc_new w _, Nat.le_refl _, by decide, by simp, by simp⟩⟩
section
variable {w wr w1 : World} {xb sb p6 p9 : Nat} {AW : Option Addr} {ts0 : Tb} {z : Nat} {X G : Nat → Prop} {ts : Tb} {last ct ck : Int} {NS : List Nt} {T : List En} {d : Bool} {AE : Option Addr} {cE : Nat} {A : Option Addr} {c : Nat} {KS : List (Int × Int)} {yt yk : Int} {b : Bool}
theorem TlI.later (h : TlI w wr xb sb p6 p9 AW ts0 z X G ts last ct ck NS T d AE cE A c KS yt yk b) (hb : Below wr.heap.size wr w1) : TlI w w1 xb sb p6 p9 AW ts0 z (fun q => X q ∨ (wr.heap.size ≤ q ∧ q < w1.heap.size)) G ts last ct ck NS T d AE cE A c KS yt yk b :=
  ⟨h.m.later hb, h.num, h.len, h.ks, h.ns, h.no, h.yes⟩
theorem TlI.more (h : TlI w wr xb sb p6 p9 AW ts0 z X G ts last ct ck NS T d AE cE A c KS yt yk b) {z' : Nat} (hz : z ≤ z') : TlI w wr xb sb p6 p9 AW ts0 z' X G ts last ct ck NS T d AE cE A c KS yt yk b :=
  ⟨h.m, h.num, fun i hi => by have := h.len i hi; omega, by have := h.ks; omega, by have := h.ns; omega, h.no, h.yes⟩
theorem TlI.elen (h : TlI w wr xb sb p6 p9 AW ts0 z X G ts last ct ck NS T d AE cE A c KS yt yk b) (hz : z ≤ 61) : (ents ts).length ≤ 5120 ∧ ∀ i, i < 4 → (ts i).length ≤ 1280 :=
  ⟨by have := ents_len (n := 1280) (fun i hi => (by have := h.len i hi; omega : (ts i).length ≤ 1280)); omega, fun i hi => by have := h.len i hi; omega⟩
end
set_option maxHeartbeats 64000000 in
theorem tells18_law {w : World} {A B : Option Addr} {c cb : Nat} {ws : List Wr} {os : List Oz} (h : Wrs w A ws) (hok : ∀ x ∈ ws, WrOk x) (ho : Ozs w B os) :
    Calls Try.prog 7 #[.slice A ws.length c, .slice B os.length cb] w fun e w' => e = .returned (.bool true) ∧ Below w.heap.size w w' := by
  have HIN := Lib.hid (And.intro h (And.intro hok ho))
  obtain ⟨m, hm⟩ : ∃ m, m = ws.length := ⟨_, rfl⟩
  obtain ⟨k, hk⟩ : ∃ k, k = os.length := ⟨_, rfl⟩
  have HMK := Lib.hid (And.intro hm hk)
  rw [← hm, ← hk]
  clear h hok ho hm hk
  go_enter Try.func7, Try.ntmps7
  go_wp2_with fail
  refine Calls.mono (alive18_any w) ?_
  rintro e w1 ⟨rfl, hb1⟩
  have HB1 := Lib.hid hb1
  clear hb1
  have HL := Lib.hid (long18_any (A := A) (n := m) (c := c) (cb := cb) (HIN.out.2.2.below HB1.out))
  rw [← HMK.out.2] at HL
  obtain ⟨lg, hlg⟩ : ∃ lg, lg = longS m os := ⟨_, rfl⟩
  rw [← hlg] at HL
  have HLG := Lib.hid hlg
  clear hlg
  go_wp2_with fail
  refine Calls.mono HL.out ?_
  rintro e w2 ⟨rfl, hb2⟩
  have HB2 := Lib.hid (HB1.out.trans (hb2.mono HB1.out.size))
  clear hb2
  cases lg with
  | true =>
    go_wp2_with fail
    go_ret
    exact ⟨rfl, HB2.out⟩
  | false =>
    have HLS := Lib.hid (longS_false HLG.out.symm)
    have hk61 : k ≤ 61 := by have := HLS.out.2.1; have := HMK.out.2; omega
    go_wp2_with fail
    refine Calls.mono (snew_any w2) ?_
    rintro e w3 ⟨rfl, ⟨G, hM, hG⟩, hb3⟩
    obtain ⟨sb, hsb⟩ : ∃ sb, sb = w2.heap.size := ⟨_, rfl⟩
    rw [← hsb] at hM ⊢
    obtain ⟨p6, hp6⟩ : ∃ p6, p6 = w3.heap.size := ⟨_, rfl⟩
    obtain ⟨W4, hW4⟩ : ∃ W4, W4 = w3.alloc (.cells #[.slice none 0 0, .int .i64 0] 31) := ⟨_, rfl⟩
    have hb4 : Below w3.heap.size w3 W4 := by rw [hW4]; exact (Below.refl _ _).alloc (Nat.le_refl _) _
    have g6 : W4.heap[p6]? = some (.cells #[.slice none 0 0, .int .i64 0] 31 (0, 0)) := by rw [hW4, hp6]; exact heap_alloc_new w3 _
    have hn6 : ¬ G p6 := fun e => by have := hM.lt e; omega
    have hbw : Below w.heap.size w W4 := HB2.out.trans ((hb3.trans (hb4.mono hb3.size)).mono HB2.out.size)
    have HAP := Lib.hid (apply_any (c := c) 3 (hM.below hb4) (RowAt.below HIN.out.1 hbw) (fun x hx => (HIN.out.2.1 x hx).1) (by have := HLS.out.1; have := HMK.out.1; omega) (fun _ _ => by decide))
    have H4 := Lib.hid (And.intro hbw (And.intro g6 (And.intro hn6 (And.intro hG (by have := HB2.out.size; have := hb3.size; omega : w.heap.size ≤ p6)))))
    have HW4 := Lib.hid (And.intro hW4 hp6)
    have HM4 := Lib.hid hM
    clear hsb hM hG hb3 hW4 hb4 g6 hn6 hbw hp6
    obtain ⟨r3, hr3⟩ : ∃ r, r = apN 3 (fun _ => []) ws := ⟨_, rfl⟩
    rw [← hr3, ← HMK.out.1] at HAP
    have HR3 := Lib.hid hr3
    clear hr3
    go_upto_region 6 with fail
    rw [← HW4.out.1, ← HW4.out.2]
    go_wp2_with fail
    refine Calls.mono HAP.out ?_
    rintro e w5 ⟨rfl, G', ts0, last0, hM5, hC5, hA5⟩
    rw [HR3.out] at hA5
    have hsame := ApOut.same hA5 (fun _ _ => List.Pairwise.nil)
    rw [ents_none] at hsame
    have hlo := hC5.low H4.out.1.size fun q e => Nat.le_trans HB2.out.size (H4.out.2.2.2.1 q e)
    have hn6' : ¬ G' p6 := fun e => by
      rcases hC5.fr _ e with e | e
      · exact H4.out.2.2.1 e
      · have := (Array.getElem?_eq_some_iff.1 H4.out.2.1).1; omega
    have g6 := (hC5.ch.block p6 (Array.getElem?_eq_some_iff.1 H4.out.2.1).1 H4.out.2.2.1).trans H4.out.2.1
    have hT0 : (∀ i, i < 4 → (ts0 i).length ≤ 60) ∧ NumT ts0 ∧ SeqT ts0 := by
      have hm60 := HLS.out.1
      have hml := HMK.out.1
      rcases hA5.out with ⟨_, rfl, rfl⟩ | ⟨_, rfl, rfl⟩
      · exact ⟨fun i hi => Nat.le_trans (force_le (n := 0) ws (fun _ _ => Nat.le_refl _) i hi) (by omega), NumT.force _ NumT.none HIN.out.2.1 (by decide) (by decide), SeqT.force _ SeqT.none (by decide)⟩
      · exact ⟨fun i hi => Nat.zero_le _, NumT.none, SeqT.none⟩
    have H5 := Lib.hid (And.intro hM5 (And.intro (H4.out.1.trans hlo.1) (And.intro hlo.2 (And.intro g6 (And.intro hn6' (And.intro hT0 hsame))))))
    have HRA := Lib.hid (r9apply_any (w := w5) (A := none) (c := 0) (l := []) (last := 0) (B := A) (d := c) (ws := ws) ⟨rfl, rfl, fun h => absurd h (by decide)⟩ (by decide) (RowAt.below HIN.out.1 (H4.out.1.trans hlo.1)) (by have := HLS.out.1; have := HMK.out.1; omega) 3)
    rw [hsame.1, hsame.2.1, ← HMK.out.1] at HRA
    have c60 : w5.cell? ⟨p6, 0, none⟩ = some (.slice none 0 0) := by rw [cell_of_row _ _ 0 _ _ _ g6]; rfl
    have c61 : w5.cell? ⟨p6, 1, none⟩ = some (.int .i64 0) := by rw [cell_of_row _ _ 1 _ _ _ g6]; rfl
    clear hM5 hC5 hA5 hsame hlo hn6' g6 hT0
    go_wp2_with fail
    refine Calls.mono HRA.out ?_
    rintro e w6 ⟨A6, c6, rfl, hE6, hb6, hN6⟩
    obtain ⟨n6, hn6⟩ : ∃ n6, n6 = (ents ts0).length := ⟨_, rfl⟩
    have HN6 := Lib.hid hn6
    have g6 := (hb6.block p6 (Array.getElem?_eq_some_iff.1 H5.out.2.2.2.1).1).trans H5.out.2.2.2.1
    have f6 := frozen_of g6
    have d60 : w6.cell? ⟨p6, 0, none⟩ = some (.slice none 0 0) := by rw [cell_of_row _ _ 0 _ _ _ g6]; rfl
    have d61 : w6.cell? ⟨p6, 1, none⟩ = some (.int .i64 0) := by rw [cell_of_row _ _ 1 _ _ _ g6]; rfl
    obtain ⟨W7, hW7⟩ : ∃ W7, W7 = (w6.setCell ⟨p6, 0, none⟩ (.slice A6 n6 c6)).setCell ⟨p6, 1, none⟩ (.int .i64 last0) := ⟨_, rfl⟩
    have hA6 : 0 < n6 → ∀ b o, A6 = some ⟨b, o, none⟩ → w5.heap.size ≤ b := fun h0 b o e => by
      rcases hN6 with ⟨e1, _⟩ | h1
      · rw [e1] at e; cases e
      · exact h1 b o e
    have g7 : W7.heap[p6]? = some (.cells #[.slice A6 n6 c6, .int .i64 last0] 31 (0, 0)) := by rw [hW7]; exact (heap_set _ p6 1 _ (heap_set w6 p6 0 _ g6)).trans rfl
    have hk7 : ∀ q, q ≠ p6 → W7.heap[q]? = w6.heap[q]? := fun q e => by rw [hW7]; exact (heap_ne _ _ _ _ e).trans (heap_ne _ _ _ _ e)
    have h65 : p6 < w5.heap.size := (Array.getElem?_eq_some_iff.1 H5.out.2.2.2.1).1
    have hE7 : Ens W7 A6 (ents ts0) := RowAt.same0 hE6 fun h0 b o e => hk7 b (by have := hA6 (by omega) b o e; omega)
    have hM7 : SM W7 G' sb ts0 (liveT ts0 : Int) last0 := (H5.out.1.below hb6).keep fun q e => hk7 q fun e2 => H5.out.2.2.2.2.1 (e2 ▸ e)
    have hw5 := H5.out.2.1
    have hbw7 : Below w.heap.size w W7 := by rw [hW7]; exact ((hw5.trans (hb6.mono hw5.size)).setCell (p := ⟨p6, 0, none⟩) H4.out.2.2.2.2 _).setCell (p := ⟨p6, 1, none⟩) H4.out.2.2.2.2 _
    have hs7 : W7.heap.size = w6.heap.size := by rw [hW7, World.size_setCell, World.size_setCell]
    have H7 := Lib.hid (And.intro g7 (And.intro hE7 (And.intro hM7 (And.intro hbw7 (And.intro hA6 (And.intro h65 (by rw [hs7]; exact hb6.size : w5.heap.size ≤ W7.heap.size)))))))
    have HW7 := Lib.hid hW7
    have HPT := Lib.hid (r9text_any (w := W7) (c := c6) (last := last0) hE7 (by have := ents_len (n := 60) H5.out.2.2.2.2.2.1.1; omega) (fun e he => NumT.ents H5.out.2.2.2.2.2.1.2.1 e he))
    rw [txtE_ents, ← HN6.out] at HPT
    rw [← hn6]
    clear hE6 hb6 hN6 hn6 g6 hW7 hA6 g7 hk7 h65 hE7 hM7 hw5 hbw7 hs7 c60 c61
    go_upto_region 8 with fail
    rw [← HW7.out]
    clear d60 d61 f6
    have c60 : W7.cell? ⟨p6, 0, none⟩ = some (.slice A6 n6 c6) := by rw [cell_of_row _ _ 0 _ _ _ H7.out.1]; rfl
    have c61 : W7.cell? ⟨p6, 1, none⟩ = some (.int .i64 last0) := by rw [cell_of_row _ _ 1 _ _ _ H7.out.1]; rfl
    go_wp2_with fail
    refine Calls.mono HPT.out ?_
    rintro e w8 ⟨v8, rfl, ho8, hb8⟩
    obtain ⟨AW, cW, rfl, hr8, _, _⟩ := rdv_own ho8
    have hbw8 := H7.out.2.2.2.1.trans (hb8.mono H7.out.2.2.2.1.size)
    have hAW : ∀ b o, AW = some ⟨b, o, none⟩ → W7.heap.size ≤ b ∧ b < w8.heap.size := fun b o e => by
      subst e
      exact ⟨own_ge ho8 rfl, Rdv.blockLt hr8 (putB_pos ts0) (by decide)⟩
    have HBG := Lib.hid (SwI.begin hbw8 (H7.out.2.2.1.below hb8) H5.out.2.2.1)
    have H8 := Lib.hid (And.intro hb8 (And.intro hr8 hAW))
    clear ho8 hb8 hr8 hbw8 hAW c60 c61
    go_wp2_with fail
    refine Calls.mono HBG.out ?_
    rintro e w9 ⟨rfl, hI9, hb9⟩
    obtain ⟨xb, hxb⟩ : ∃ xb, xb = w8.heap.size := ⟨_, rfl⟩
    rw [← hxb] at hI9 ⊢
    obtain ⟨p9, hp9⟩ : ∃ p9, p9 = w9.heap.size := ⟨_, rfl⟩
    obtain ⟨W10, hW10⟩ : ∃ W10, W10 = w9.alloc (.cells #[.slice none 0 0, .int .i64 0, .int .i64 0, .bool false, .bool false] 83) := ⟨_, rfl⟩
    have hb10 : Below w9.heap.size w9 W10 := by rw [hW10]; exact (Below.refl _ _).alloc (Nat.le_refl _) _
    have hs10 : W10.heap.size = w9.heap.size + 1 := by rw [hW10, World.size_alloc]
    have g10 : W10.heap[p9]? = some (.cells #[.slice none 0 0, .int .i64 0, .int .i64 0, .bool false, .bool false] 83 (0, 0)) := by rw [hW10, hp9]; exact heap_alloc_new w9 _
    have hb710 : Below W7.heap.size W7 W10 := H8.out.1.trans ((hb9.trans (hb10.mono hb9.size)).mono H8.out.1.size)
    have hb810 : Below w8.heap.size w8 W10 := hb9.trans (hb10.mono hb9.size)
    have HT0 : Hid (∃ X G ts last ct ck NS T d AE cE A' c' KS yt yk b, TlI w W10 xb sb p6 p9 AW ts0 0 X G ts last ct ck NS T d AE cE A' c' KS yt yk b) := Lib.hid (by
      obtain ⟨hI10, _⟩ := hI9.later hb10
      have q1 := H7.out.2.2.2.2.2.1
      have q2 := H7.out.2.2.2.2.2.2
      have q3 := H8.out.1.size
      have q4 := hb9.size
      have hG5 : ∀ q, G' q → q < w5.heap.size := fun q e => H5.out.1.lt e
      refine ⟨_, G', ts0, last0, 0, -9223372036854775808, [], [], false, A6, c6, none, 0, [], 0, 0, false, ⟨hI10, ?_, g10, RowAt.below H7.out.2.1 hb710, ⟨rfl, rfl, fun h => absurd h (by decide)⟩, Rdv.ext H8.out.2.1 (fun p hp => hb810.cell hp), fun _ => rfl, ⟨.inl ⟨by omega, H5.out.2.2.2.2.1⟩, H4.out.2.2.2.2⟩, ⟨.inr ⟨by omega, by omega⟩, by have := H4.out.2.2.2.2; omega, by omega⟩, fun h0 b o e => ?_, fun h0 => absurd h0 (by decide), fun b o e => ?_⟩, H5.out.2.2.2.2.2.1.2.1, fun i hi => by have := H5.out.2.2.2.2.2.1.1 i hi; omega, Nat.le_refl _, Nat.le_refl _, fun _ => ⟨TellI.start (okL_ents H5.out.1.up H5.out.2.2.2.2.2.1.2.1), DocI.start⟩, fun e => by cases e⟩
      · rw [← HN6.out]; exact (hb710.block p6 (Array.getElem?_eq_some_iff.1 H7.out.1).1).trans H7.out.1
      · have h1 := H7.out.2.2.2.2.1 (by rw [HN6.out]; exact h0) b o e
        have h2 := H7.out.2.1
        rw [e] at h2
        have h3 := Rdv.blockLt h2.row h0 (by decide)
        exact ⟨.inl ⟨by omega, fun c => by have := hG5 b c; omega⟩, by omega, by omega⟩
      · have h1 := H8.out.2.2 b o e
        exact ⟨.inl ⟨by have := h1.2; omega, fun c => by have := hG5 b c; omega⟩, by omega, by omega⟩)
    have HOK : Hid (OkL (liveE (ents ts0)) ∧ (liveE (ents ts0)).length ≤ 240 ∧ (∀ e ∈ liveE (ents ts0), tkE e) ∧ putB (fT (liveE (ents ts0))) = putB ts0 ∧ ∀ x ∈ putB ts0, x < 256) := Lib.hid (by
      have hT := H5.out.2.2.2.2.2.1
      refine ⟨okL_ents H5.out.1.up hT.2.1, ?_, fun e he => (live_tk hT.2.1 hT.2.2 e he).1, text_all H5.out.1.up hT.2.1 hT.2.2, putB_small hT.2.1⟩
      rw [liveE_ents]
      exact liveT_le (n := 60) hT.1)
    have HW10 := Lib.hid (And.intro hW10 hp9)
    obtain ⟨lw, hlw⟩ : ∃ lw, lw = (putB ts0).length := ⟨_, rfl⟩
    have HLW := Lib.hid hlw
    rw [← hlw]
    clear hI9 hb9 hxb hp9 hW10 hb10 hs10 g10 hb710 hb810 hlw
    go_upto_region 10 with fail
    rw [← HW10.out.1, ← HW10.out.2]
    go_wp2_with fail
    go_loopw [10, 11, 12, 13, 14, 15, 16, 17, 18, 44, 45, 46, 47, 48, 49, 50, 51, 52, 53, 54, 55, 56, 57, 58, 59, 60, 61, 62, 63, 64, 65, 66, 67, 68, 69, 70, 71, 72, 73, 74, 75, 76, 77, 78, 79, 80, 81, 82, 83, 84, 85, 86, 87, 88, 89, 90, 91, 92, 93, 94, 95, 96, 97, 98, 99, 100, 101, 102, 103, 104, 105, 106, 107, 108, 109, 110, 111, 112, 113, 114, 115, 116, 117, 118, 119, 120, 121, 122, 123, 124, 125, 126, 127, 128, 129, 130, 131, 132, 133, 134, 135, 136, 137, 138, 139, 140, 141, 142, 143, 144] (fun _ _ _ _ _ _ _ _ _ ix _ _ _ _ _ _ _ _ _ _ _ _ _ _ _ _ _ _ _ _ _ _ _ _ _ _ _ _ _ _ _ _ _ _ _ _ _ _ _ _ _ _ _ _ _ _ _ _ _ _ _ _ _ _ _ _ _ _ _ _ _ _ _ _ _ _ _ _ _ _ _ _ _ _ _ _ _ _ _ _ _ _ _ _ _ _ _ _ _ _ _ _ _ _ _ _ _ _ _ _ wr => ∃ (z : Nat) (X G : Nat → Prop) (ts : Tb) (last ct ck : Int) (NS : List Nt) (T : List En) (d : Bool) (AE : Option Addr) (cE : Nat) (A' : Option Addr) (c' : Nat) (KS : List (Int × Int)) (yt yk : Int) (b : Bool), ix = .int .i64 (z : Int) ∧ z ≤ k ∧ TlI w wr xb sb p6 p9 AW ts0 z X G ts last ct ck NS T d AE cE A' c' KS yt yk b) (fun _ _ _ _ _ _ _ _ _ ix _ _ _ _ _ _ _ _ _ _ _ _ _ _ _ _ _ _ _ _ _ _ _ _ _ _ _ _ _ _ _ _ _ _ _ _ _ _ _ _ _ _ _ _ _ _ _ _ _ _ _ _ _ _ _ _ _ _ _ _ _ _ _ _ _ _ _ _ _ _ _ _ _ _ _ _ _ _ _ _ _ _ _ _ _ _ _ _ _ _ _ _ _ _ _ _ _ _ _ _ wr => k - (intOf ix).toNat)
    case atStart =>
      obtain ⟨X, G, ts, last, ct, ck, NS, T, d, AE, cE, A', c', KS, yt, yk, b, hI⟩ := HT0.out
      exact ⟨0, X, G, ts, last, ct, ck, NS, T, d, AE, cE, A', c', KS, yt, yk, b, rfl, Nat.zero_le _, hI⟩
    case round =>
      obtain ⟨z, X, G, ts, last, ct, ck, NS, T, d, AE, cE, A1, c1, KS, yt, yk, b, rfl, hz, hI⟩ := hrel
      have HI := Lib.hid (And.intro hI hz)
      clear hI hz
      by_cases hlt : z < k
      · have hzl : z < os.length := by rw [← HMK.out.2]; exact hlt
        have hz61 : z ≤ 60 := by omega
        obtain ⟨bo, oo, hBo, hco⟩ := Ozs.cell (HIN.out.2.2.below HI.out.1.m.s.b) (by omega)
        subst hBo
        obtain ⟨y0, y1⟩ := hco z hzl
        obtain ⟨o, hoz⟩ : ∃ o, o = os[z] := ⟨_, rfl⟩
        have hom : o ∈ os := by rw [hoz]; exact List.getElem_mem hzl
        rw [← hoz] at y0 y1
        obtain ⟨no, hno⟩ : ∃ no, no = o.ws.length := ⟨_, rfl⟩
        obtain ⟨st, hst⟩ : ∃ st, st = o.st := ⟨_, rfl⟩
        rw [← hno] at y0
        rw [← hst] at y1
        have hob := HLS.out.2.2 o hom
        obtain ⟨p11, hp11⟩ : ∃ p11, p11 = wr.heap.size := ⟨_, rfl⟩
        obtain ⟨W11, hW11⟩ : ∃ W11, W11 = wr.alloc (.cells #[.slice o.A no o.c, .int .i64 st] 85) := ⟨_, rfl⟩
        have hb11 : Below wr.heap.size wr W11 := by rw [hW11]; exact (Below.refl _ _).alloc (Nat.le_refl _) _
        have g11 : W11.heap[p11]? = some (.cells #[.slice o.A no o.c, .int .i64 st] 85 (0, 0)) := by rw [hW11, hp11]; exact heap_alloc_new wr _
        obtain ⟨W12, hW12⟩ : ∃ W12, W12 = W11.alloc (.cells #[] 51) := ⟨_, rfl⟩
        have hb12 : Below W11.heap.size W11 W12 := by rw [hW12]; exact (Below.refl _ _).alloc (Nat.le_refl _) _
        have hoo11 : OzOk W11 o := ((HIN.out.2.2.below HI.out.1.m.s.b).ok o hom).below hb11
        have H12 : Hid (W12.ownsRow W11.heap.size 51 4 (.slice (some ⟨W11.heap.size, 0, none⟩) 0 0) 0 [] ∧ Rdv W12 o.A no 4 (rowV Wr.vals o.ws) ∧ Below W11.heap.size W11 W12) := Lib.hid ⟨by rw [hW12]; exact own_empty18 W11, by rw [hno]; exact (RowAt.below hoo11.row hb12).row, hb12⟩
        have HOC : Hid (∀ u ∈ rowV Wr.vals o.ws, u.oneCell' = true) := Lib.hid fun u hu => by
          unfold rowV at hu
          obtain ⟨x, _, hx⟩ := List.mem_flatMap.1 hu
          exact wr1 x u hx
        have HO := Lib.hid (And.intro hno (And.intro hst (And.intro hob (And.intro hoo11 (And.intro hb11 (And.intro g11 hom))))))
        have HW11 := Lib.hid (And.intro hW11 hp11)
        have HW12 := Lib.hid hW12
        have e11 : (W11.alloc (.cells #[] 51)).cell? ⟨p11, 0, none⟩ = some (.slice o.A no o.c) := by rw [← hW12, cell_of_row _ _ 0 _ _ _ ((hb12.block p11 (Array.getElem?_eq_some_iff.1 g11).1).trans g11)]; rfl
        clear hco hoz hom hno hst hob hp11 hW11 hb11 g11 hb12 hoo11 hW12
        go_upto_region 13 with fail
        rw [← HW11.out.1, ← HW11.out.2]
        clear y0 y1
        go_upto_region 14 with (at_builtin; rw [← HW12.out]; refine wpList_append_rowg elemWr rfl (.tmp 49) (.tmp 51) rfl W11.heap.size (.slice (some ⟨W11.heap.size, 0, none⟩) 0 0) 0 [] rfl H12.out.1 o.A no o.c (rowV Wr.vals o.ws) rfl H12.out.2.1 HOC.out HO.out.2.2.2.1.nil (by have := HO.out.1; have := HO.out.2.2.1.1; unfold maxLen; omega) (by have := HO.out.1; have := HO.out.2.2.1.1; omega) H12.out.2.2.size ?_; intro v3 W13 ho hg hq; rw [Nat.zero_add, List.nil_append] at ho; obtain ⟨A12, c12, rfl⟩ := own_form ho; have HO3 := Lib.hid (And.intro ho (And.intro hg hq)); clear ho hg hq)
        clear e11
        have H13 : Hid (Below wr.heap.size wr W13 ∧ W13.heap[p11]? = some (.cells #[.slice o.A no o.c, .int .i64 st] 85 (0, 0)) ∧ Wrs W13 A12 o.ws ∧ (∀ b f, A12 = some ⟨b, f, none⟩ → wr.heap.size ≤ b ∧ (0 < o.ws.length → b < W13.heap.size)) ∧ OzOk W13 o) := Lib.hid (by
          obtain ⟨ho, hg, hq⟩ := HO3.out
          have hb3 : Below W11.heap.size W11 W13 := by
            have h1 := H12.out.2.2
            exact ⟨hg.os.trans h1.os, hg.tape.trans h1.tape, hg.output.trans h1.output, Nat.le_trans h1.size hg.size, fun q hq => (hg.block q (Nat.lt_of_lt_of_le hq h1.size) (fun e => by simp [Value.ownBlock] at e; omega)).trans (h1.block q hq)⟩
          obtain ⟨A', c', e, hr, _⟩ := rdv_own ho
          injection e with e1 _ _
          subst e1
          rw [HO.out.1] at hr
          refine ⟨HO.out.2.2.2.2.1.trans (hb3.mono HO.out.2.2.2.2.1.size), (hb3.block p11 (Array.getElem?_eq_some_iff.1 HO.out.2.2.2.2.2.1).1).trans HO.out.2.2.2.2.2.1, ⟨rfl, hr⟩, fun b f e => ?_, HO.out.2.2.2.1.below hb3⟩
          subst e
          have h1 := own_ge ho (q := b) rfl
          have h2 := HO.out.2.2.2.2.1.size
          exact ⟨by omega, fun h0 => Rdv.blockLt hr h0 (by decide)⟩)
        have HI13 := Lib.hid (HI.out.1.later H13.out.1)
        have hel := HI.out.1.elen (by omega)
        obtain ⟨nE, hnE⟩ : ∃ nE, nE = (ents ts).length := ⟨_, rfl⟩
        obtain ⟨RES, hRES⟩ : ∃ R, R = apL (4 + (z : Int)) (ents ts) o.ws := ⟨_, rfl⟩
        obtain ⟨lastN, hlastN⟩ : ∃ R, R = apQ (4 + (z : Int)) (ents ts) last o.ws := ⟨_, rfl⟩
        obtain ⟨rr, hrr⟩ : ∃ R, R = apR (4 + (z : Int)) (ents ts) o.ws := ⟨_, rfl⟩
        have HRA := Lib.hid (r9apply_any (w := W13) (A := AE) (c := cE) (l := ents ts) (last := last) (B := o.A) (d := o.c) (ws := o.ws) HI13.out.m.rE (by omega) H13.out.2.2.2.2.row (by have := HO.out.2.2.1.1; omega) (4 + (z : Int)))
        rw [← hRES, ← hlastN, ← hrr, ← hnE, ← HO.out.1] at HRA
        have HRR := Lib.hid (And.intro hRES (And.intro hlastN (And.intro hrr (And.intro hnE hel))))
        obtain ⟨c60, c61⟩ := HI13.out.m.at6
        rw [← hnE] at c60
        have e11 : W13.cell? ⟨p11, 0, none⟩ = some (.slice o.A no o.c) := by rw [cell_of_row _ _ 0 _ _ _ H13.out.2.1]; rfl
        clear hel hnE hRES hlastN hrr
        go_wp2_with fail
        refine Calls.mono HRA.out ?_
        rintro e w14 ⟨A14, c14, rfl, hE14, hb14, hN14⟩
        obtain ⟨nR, hnR⟩ : ∃ nR, nR = RES.length := ⟨_, rfl⟩
        rw [← hnR]
        obtain ⟨p13, hp13⟩ : ∃ p13, p13 = w14.heap.size := ⟨_, rfl⟩
        obtain ⟨W15, hW15⟩ : ∃ W15, W15 = w14.alloc (.cells #[.slice A14 nR c14, .int .i64 lastN] 31) := ⟨_, rfl⟩
        have hb15 : Below w14.heap.size w14 W15 := by rw [hW15]; exact (Below.refl _ _).alloc (Nat.le_refl _) _
        have hs15 : W15.heap.size = w14.heap.size + 1 := by rw [hW15, World.size_alloc]
        have g13 : W15.heap[p13]? = some (.cells #[.slice A14 nR c14, .int .i64 lastN] 31 (0, 0)) := by rw [hW15, hp13]; exact heap_alloc_new w14 _
        have hbb : Below W13.heap.size W13 W15 := hb14.trans (hb15.mono hb14.size)
        have HI15 := Lib.hid (HI13.out.later hbb)
        have H15 : Hid (W15.heap[p11]? = some (.cells #[.slice o.A no o.c, .int .i64 st] 85 (0, 0)) ∧ W15.heap[p13]? = some (.cells #[.slice A14 nR c14, .int .i64 lastN] 31 (0, 0)) ∧ Wrs W15 A12 o.ws ∧ Ens W15 A14 RES ∧ Near W13 AE A14 (ents ts) RES ∧ (W13.heap.size ≤ p13 ∧ p13 < W15.heap.size) ∧ (wr.heap.size ≤ p11 ∧ p11 < W13.heap.size) ∧ W13.heap.size ≤ W15.heap.size ∧ nR = RES.length ∧ OzOk W15 o) := Lib.hid
          ⟨(hbb.block p11 (Array.getElem?_eq_some_iff.1 H13.out.2.1).1).trans H13.out.2.1, g13, RowAt.below H13.out.2.2.1 hbb, RowAt.below hE14 hb15, hN14, ⟨by have := hb14.size; omega, by omega⟩, ⟨by have := HW11.out.2; omega, (Array.getElem?_eq_some_iff.1 H13.out.2.1).1⟩, hbb.size, hnR, H13.out.2.2.2.2.below hbb⟩
        have HW15 := Lib.hid (And.intro hW15 hp13)
        clear hE14 hb14 hN14 hnR hp13 hW15 hb15 hs15 g13 hbb c60 c61 e11
        obtain ⟨X15, HX15⟩ : ∃ X15, Hid (TlI w W15 xb sb p6 p9 AW ts0 z X15 G ts last ct ck NS T d AE cE A1 c1 KS yt yk b ∧ (X15 p11 ∧ p11 ≠ p6 ∧ p11 ≠ p9) ∧ (X15 p13 ∧ p13 ≠ p6 ∧ p13 ≠ p9) ∧ (0 < o.ws.length → ∀ b f, A12 = some ⟨b, f, none⟩ → X15 b ∧ b ≠ p6 ∧ b ≠ p9) ∧ (0 < RES.length → ∀ b f, A14 = some ⟨b, f, none⟩ → X15 b ∧ b ≠ p6 ∧ b ≠ p9)) := by
          have l6 := (HI.out.1.m.s.x _ HI.out.1.m.x6.1).1
          have l9 := (HI.out.1.m.s.x _ HI.out.1.m.x9.1).1
          have q1 := H15.out.2.2.2.2.2
          have q2 := H13.out.1.size
          refine ⟨_, Lib.hid ⟨HI15.out, ⟨.inl (.inr q1.2.1), by omega, by omega⟩, ⟨.inr q1.1, by omega, by omega⟩, fun h0 b f e => ?_, fun h0 b f e => ?_⟩⟩
          · have h1 := H13.out.2.2.2.1 b f e
            exact ⟨.inl (.inr ⟨h1.1, h1.2 h0⟩), by omega, by omega⟩
          · have h2 := H15.out.2.2.2.1
            rw [e] at h2
            have h3 := Rdv.blockLt h2.row h0 (by decide)
            rcases q1.1 with _
            rcases H15.out.2.2.2.2.1 with ⟨e1, e2⟩ | h1
            · have h4 := HI15.out.m.xE (by rw [← e2]; exact h0) b f (by rw [← e1]; exact e)
              exact h4
            · have := h1 b f e
              exact ⟨.inr ⟨this, h3⟩, by omega, by omega⟩
        clear HI15
        go_upto_if 63 with fail
        rw [← HW15.out.1, ← HW15.out.2]
        go_cut [] from 62 to 84 (fun wx => ∃ (X' G' : Nat → Prop) (ts' : Tb) (last' : Int) (NS' : List Nt) (AE' : Option Addr) (cE' : Nat) (A' : Option Addr) (c' : Nat) (KS' : List (Int × Int)), TlI w wx xb sb p6 p9 AW ts0 (z + 1) X' G' ts' last' ct ck NS' T d AE' cE' A' c' KS' yt yk b ∧ wx.heap[p11]? = some (.cells #[.slice o.A no o.c, .int .i64 st] 85 (0, 0)) ∧ X' p11 ∧ p11 ≠ p6 ∧ p11 ≠ p9)
        case first =>
          by_cases hr0 : rr = 0
          · have d0 : ((rr : Int) == 0) = true := by rw [hr0]; rfl
            have hup := HX15.out.1.m.s.m.up
            have hN0 : apN (4 + (z : Int)) ts o.ws = 0 := by rw [← apR_ents hup, ← HRR.out.2.2.1]; exact hr0
            have HP : Hid (apN (4 + (z : Int)) ts o.ws = 0 ∧ (∀ x ∈ o.ws, InT x.t) ∧ RES = ents (forceT (4 + (z : Int)) ts o.ws) ∧ lastN = max last (4 + (z : Int))) := Lib.hid ⟨hN0, (takB_in (apN_tak hN0)).2, by rw [HRR.out.1, apL_ents hup, if_pos hN0], by rw [HRR.out.2.1]; unfold apQ; rw [if_pos (by rw [apR_ents hup]; exact hN0)]⟩
            clear hr0 hup hN0
            have HBF := Lib.hid (HX15.out.1.m.before (cB := c12) (ws := o.ws) (by have := HX15.out.1.ns; have := HO.out.2.2.1.1; omega) H15.out.2.2.1 (fun h0 b f e => (HX15.out.2.2.2.1 h0 b f e).1))
            rw [← HO.out.1] at HBF
            go_wp2_with fail
            refine Calls.mono HBF.out ?_
            rintro e w16 ⟨rfl, ⟨NS2, hT16, hnl2, hnd2⟩, hsp16⟩
            have hg11 := (hsp16 p11 HX15.out.2.1.1).trans H15.out.1
            have hoo16 := (HIN.out.2.2.below hT16.s.b).ok o HO.out.2.2.2.2.2.2
            have HRB := Lib.hid (hT16.refbefore (cB := o.c) (ws := o.ws) (by have := HX15.out.1.ks; have := HO.out.2.2.1.1; omega) hoo16.row)
            rw [← HO.out.1] at HRB
            obtain ⟨n0, hn0⟩ : ∃ n0, n0 = KS.length := ⟨_, rfl⟩
            obtain ⟨z0, z1, z2, z3, z4⟩ := hT16.at9
            rw [← hn0] at HRB z0
            have e11 : w16.cell? ⟨p11, 0, none⟩ = some (.slice o.A no o.c) := by rw [cell_of_row _ _ 0 _ _ _ hg11]; rfl
            have H16 := Lib.hid (And.intro hT16 (And.intro hsp16 (And.intro hnl2 (And.intro hnd2 (And.intro hn0 hg11)))))
            clear hsp16 hT16 hg11 hoo16 hn0 hnl2 hnd2
            go_wp2_with fail
            refine Calls.mono HRB.out ?_
            rintro e w17 ⟨A17, c17, K1, rfl, hK17, hc17, hb17, hx17, hkl, hkd⟩
            have hT17 := H16.out.1.later hb17
            obtain ⟨x0, x1, x2, x3, x4⟩ := hT17.at9
            have xf := frozen_of hT17.y9
            obtain ⟨n1, hn1⟩ : ∃ n1, n1 = K1.length := ⟨_, rfl⟩
            obtain ⟨W18, hW18⟩ : ∃ W, W = ((((w17.setCell ⟨p9, 0, none⟩ (.slice A17 n1 c17)).setCell ⟨p9, 1, none⟩ (.int .i64 yt)).setCell ⟨p9, 2, none⟩ (.int .i64 yk)).setCell ⟨p9, 3, none⟩ (.bool b)).setCell ⟨p9, 4, none⟩ (.bool d) := ⟨_, rfl⟩
            have hT18 := hT17.set9 (yt' := yt) (yk' := yk) (b' := b) (dY' := d) hK17 hc17 hx17
            rw [← hn1, ← hW18] at hT18
            have hk18 : ∀ q, X15 q → q ≠ p9 → W18.heap[q]? = W15.heap[q]? := fun q hq hn => by
              rw [hW18]
              exact (heap_ne _ _ _ _ hn).trans ((heap_ne _ _ _ _ hn).trans ((heap_ne _ _ _ _ hn).trans ((heap_ne _ _ _ _ hn).trans ((heap_ne _ _ _ _ hn).trans ((hb17.block q (H16.out.1.s.x q hq).1).trans (H16.out.2.1 q hq))))))
            obtain ⟨X18, H18⟩ : ∃ X18, Hid (TlM X18 w W18 xb sb p6 p9 AW (putB ts0) G ts last ct ck NS2 T d AE cE (ents ts) last A17 c17 K1 yt yk b d ∧ (∀ q, X15 q → q ≠ p9 → W18.heap[q]? = W15.heap[q]?) ∧ (∀ q, X15 q → X18 q) ∧ K1.length ≤ KS.length + o.ws.length ∧ (d = false → K1 = rbS b yt yk KS o.ws)) := ⟨_, Lib.hid ⟨hT18, hk18, fun q e => .inl e, by rw [← H16.out.2.2.2.2.1, ← HO.out.1]; exact hkl, hkd⟩⟩
            rw [← hn1]
            have HW18 := Lib.hid hW18
            have hw12 : Wrs W18 A12 o.ws := RowAt.same0 H15.out.2.2.1 fun h0 b f e => H18.out.2.1 b (HX15.out.2.2.2.1 h0 b f e).1 (HX15.out.2.2.2.1 h0 b f e).2.2
            have hoo18 := (HIN.out.2.2.below H18.out.1.s.b).ok o HO.out.2.2.2.2.2.2
            have HWR := Lib.hid (writes_any (c := c12) (c2 := o.c) hw12 hoo18.row (by have := HO.out.2.2.1.1; omega))
            rw [← HO.out.1] at HWR
            have e11' : W18.cell? ⟨p11, 0, none⟩ = some (.slice o.A no o.c) := by rw [cell_of_row _ _ 0 _ _ _ ((H18.out.2.1 p11 HX15.out.2.1.1 HX15.out.2.1.2.2).trans H15.out.1)]; rfl
            have HW12b := Lib.hid hw12
            clear hT17 hn1 hx17 hT18 hk18 hK17 hc17 hb17 hkl hkd hW18 hw12 hoo18
            go_upto_region 18 with fail
            rw [← HW18.out]
            clear z0 z1 z2 z3 z4 e11 x0 x1 x2 x3 x4 xf
            go_wp2_with fail
            refine Calls.mono HWR.out ?_
            rintro e w19 ⟨rfl, hb19⟩
            have H19 := Lib.hid (H18.out.1.later hb19)
            have HAP := Lib.hid (apply_any (c := c12) (4 + (z : Int)) H19.out.s.m (RowAt.below HW12b.out hb19) (fun x hx => (H15.out.2.2.2.2.2.2.2.2.2.nums x hx).1) (by have := HO.out.2.2.1.1; omega) (fun i hi => by have := HX15.out.1.len i hi; omega))
            have hv0 : errV 0 = .nilIface := rfl
            rw [← HO.out.1, HP.out.1, hv0] at HAP
            have HB19 := Lib.hid hb19
            clear hb19 e11'
            go_wp2_with fail
            refine Calls.mono HAP.out ?_
            rintro e w20 ⟨rfl, G', ts', last', hM20, hC20, hA20⟩
            obtain ⟨hI20, hsp20⟩ := H19.out.s.cg hM20 hC20
            have hT20 := H19.out.spare hI20 hsp20
            have hE : ts' = forceT (4 + (z : Int)) ts o.ws ∧ last' = max last (4 + (z : Int)) := by
              rcases hA20.out with ⟨_, h1, h2⟩ | ⟨h1, _⟩
              · exact ⟨h1, h2⟩
              · exact absurd rfl h1
            obtain ⟨rfl, rfl⟩ := hE
            have hk20 : ∀ q, X15 q → q ≠ p9 → w20.heap[q]? = W15.heap[q]? := fun q hq hn => (hsp20 q (.inl (H18.out.2.2.1 q hq))).trans ((HB19.out.block q (H18.out.1.s.x q (H18.out.2.2.1 q hq)).1).trans (H18.out.2.1 q hq hn))
            have hg13 := (hk20 p13 HX15.out.2.2.1.1 HX15.out.2.2.1.2.2).trans H15.out.2.1
            have c0 : w20.cell? ⟨p13, 0, none⟩ = some (.slice A14 nR c14) := by rw [cell_of_row _ _ 0 _ _ _ hg13]; rfl
            have c1 : w20.cell? ⟨p13, 1, none⟩ = some (.int .i64 lastN) := by rw [cell_of_row _ _ 1 _ _ _ hg13]; rfl
            obtain ⟨x0, x1⟩ := hT20.at6
            have xf := frozen_of hT20.m6
            have hE14 : Ens w20 A14 RES := RowAt.same0 H15.out.2.2.2.1 fun h0 b f e => hk20 b (HX15.out.2.2.2.2 h0 b f e).1 (HX15.out.2.2.2.2 h0 b f e).2.2
            have hT21 := hT20.set6 (cE' := c14) (lastM' := lastN) hE14 (fun h0 b f e => ⟨.inl (H18.out.2.2.1 b (HX15.out.2.2.2.2 h0 b f e).1), (HX15.out.2.2.2.2 h0 b f e).2⟩)
            rw [← H15.out.2.2.2.2.2.2.2.2.1, HP.out.2.2.1, HP.out.2.2.2] at hT21
            rw [HP.out.2.2.2] at c1
            have hg11 := (hk20 p11 HX15.out.2.1.1 HX15.out.2.1.2.2).trans H15.out.1
            have H21 := Lib.hid (And.intro hT21 (And.intro hg11 hM20.up))
            clear hT21 hg11 hE14 hT20 hI20 hsp20 hM20 hC20 hA20 hk20 hg13
            go_wp2_with fail
            go_meet
            have hnums := H15.out.2.2.2.2.2.2.2.2.2.nums
            have hzz : (0 : Int) ≤ 4 + (z : Int) ∧ 4 + (z : Int) ≤ 9223372036854775807 := ⟨by omega, by omega⟩
            have hnum2 := NumT.force (q := 4 + (z : Int)) o.ws HX15.out.1.num hnums hzz.1 hzz.2
            have hup0 := HX15.out.1.m.s.m.up
            have h20 := HO.out.2.2.1.1
            refine ⟨_, G', _, _, NS2, A14, c14, A17, c17, K1, ⟨H21.out.1, hnum2, fun i hi => ?_, ?_, ?_, fun e => ?_, HX15.out.1.yes⟩, (heap_ne _ _ _ _ HX15.out.2.1.2.1).trans ((heap_ne _ _ _ _ HX15.out.2.1.2.1).trans H21.out.2.1), .inl (H18.out.2.2.1 _ HX15.out.2.1.1), HX15.out.2.1.2⟩
            · have := force_le (q := 4 + (z : Int)) o.ws HX15.out.1.len i hi
              omega
            · have := H18.out.2.2.2.1
              have := HX15.out.1.ks
              omega
            · have := H16.out.2.2.1
              have := HX15.out.1.ns
              have := HO.out.1
              omega
            · obtain ⟨hT, hD⟩ := HX15.out.1.no e
              rw [H18.out.2.2.2.2 e, H16.out.2.2.2.1 e]
              exact ⟨hT.put HOK.out.1 hup0 HX15.out.1.num hnums HP.out.2.1 H21.out.2.2 hnum2, hD.notes (cellAt ts) o.ws hT.up hnums HP.out.2.1⟩
          · have d0 : ((rr : Int) == 0) = false := by rw [beq_eq_false_iff_ne]; omega
            go_wp2_with fail
            go_meet
            exact ⟨_, G, ts, last, NS, AE, cE, A1, c1, KS, HX15.out.1.more (by omega), H15.out.1, HX15.out.2.1⟩
        case rest =>
        rename World => wx
        obtain ⟨X', G', ts', last', NS', AE', cE', A', c', KS', hIx, g11, hX11⟩ := hcut
        have HPU := Lib.hid (sput_any hIx.m.s.m (fun i hi => by have := (hIx.elen (by omega)).2 i hi; omega) hIx.num)
        have HIx := Lib.hid (And.intro hIx (And.intro g11 hX11))
        obtain ⟨lp, hlp⟩ : ∃ lp, lp = (putB ts').length := ⟨_, rfl⟩
        rw [← hlp] at HPU
        have HLP := Lib.hid hlp
        clear hIx g11 hX11 hlp
        go_wp2_with fail
        refine Calls.mono HPU.out ?_
        rintro e w21 ⟨A21, c21, rfl, hr21, hA21, hb21⟩
        obtain ⟨X21, H21⟩ : ∃ X21, Hid (TlI w w21 xb sb p6 p9 AW ts0 (z + 1) X21 G' ts' last' ct ck NS' T d AE' cE' A' c' KS' yt yk b ∧ Rdv w21 A21 (putB ts').length 1 (valsB (putB ts')) ∧ (∀ r f, A21 = some ⟨r, f, none⟩ → X21 r ∧ r ≠ p6 ∧ r ≠ p9) ∧ w21.heap[p11]? = some (.cells #[.slice o.A no o.c, .int .i64 st] 85 (0, 0)) ∧ (X21 p11 ∧ p11 ≠ p6 ∧ p11 ≠ p9)) := by
          have l6 := (HIx.out.1.m.s.x _ HIx.out.1.m.x6.1).1
          have l9 := (HIx.out.1.m.s.x _ HIx.out.1.m.x9.1).1
          refine ⟨_, Lib.hid ⟨HIx.out.1.later hb21, by rw [← HLP.out]; exact hr21, fun r f e => ?_, (hb21.block p11 (HIx.out.1.m.s.x _ HIx.out.2.2.1).1).trans HIx.out.2.1, .inl HIx.out.2.2.1, HIx.out.2.2.2⟩⟩
          subst e
          have h1 := hA21 r f rfl
          have h2 := Rdv.blockLt hr21 (by rw [HLP.out]; exact putB_pos ts') (by decide)
          exact ⟨.inr ⟨h1, h2⟩, by omega, by omega⟩
        have hst200 : st ≤ 200 := by have := HO.out.2.2.1.2; have := HO.out.2.1; omega
        obtain ⟨NS2, T2, ct2, ck2, d2, b2, yt2, yk2, hST, hRS, hn2, hno2, hyes2⟩ := H21.out.1.m.step (n := st) HOK.out.1 (by have := HOK.out.2.1; omega) H21.out.1.num (fun i hi => by have := (H21.out.1.elen (by omega)).2 i hi; omega) (by have := H21.out.1.ns; omega) (by have := H21.out.1.ks; omega) H21.out.1.no H21.out.1.yes hst200
        have HST := Lib.hid hST
        have HRS := Lib.hid hRS
        have HN2 := Lib.hid (And.intro hn2 (And.intro hno2 hyes2))
        have e11 : w21.cell? ⟨p11, 1, none⟩ = some (.int .i64 st) := by rw [cell_of_row _ _ 1 _ _ _ H21.out.2.2.2.1]; rfl
        clear hr21 hA21 hb21 hst200 hST hRS hn2 hno2 hyes2
        go_wp2_with fail
        refine Calls.mono HST.out ?_
        rintro e w22 ⟨rfl, hT22, hsp22, hsz22⟩
        have hg11 := (hsp22 p11 H21.out.2.2.2.2.1).trans H21.out.2.2.2.1
        have e11' : w22.cell? ⟨p11, 1, none⟩ = some (.int .i64 st) := by rw [cell_of_row _ _ 1 _ _ _ hg11]; rfl
        have HR2 := Lib.hid (HRS.out w22 hT22.rK hT22.rE)
        obtain ⟨nK, hnK⟩ : ∃ n, n = KS'.length := ⟨_, rfl⟩
        obtain ⟨nE2, hnE2⟩ : ∃ n, n = (ents ts').length := ⟨_, rfl⟩
        obtain ⟨z0, z1, z2, z3, z4⟩ := hT22.at9
        obtain ⟨y0, y1⟩ := hT22.at6
        rw [← hnK] at HR2 z0
        rw [← hnE2] at HR2 y0
        have H22 := Lib.hid (And.intro hT22 (And.intro hsp22 (And.intro hg11 (And.intro hnK hnE2))))
        clear hT22 hsp22 hsz22 hg11 hnK hnE2 e11
        go_wp2_with fail
        refine Calls.mono HR2.out ?_
        rintro e w23 ⟨rfl, hb23⟩
        have hT23 := H22.out.1.later hb23
        obtain ⟨x0, x1, x2, x3, x4⟩ := hT23.at9
        have xf := frozen_of hT23.y9
        obtain ⟨W24, hW24⟩ : ∃ W, W = ((((w23.setCell ⟨p9, 0, none⟩ (.slice A' nK c')).setCell ⟨p9, 1, none⟩ (.int .i64 yt2)).setCell ⟨p9, 2, none⟩ (.int .i64 yk2)).setCell ⟨p9, 3, none⟩ (.bool b2)).setCell ⟨p9, 4, none⟩ (.bool d2) := ⟨_, rfl⟩
        have hT24 := hT23.set9 (yt' := yt2) (yk' := yk2) (b' := b2) (dY' := d2) hT23.rK hT23.cap hT23.xK
        rw [← H22.out.2.2.2.1, ← hW24] at hT24
        have hk24 : ∀ q, X21 q → q ≠ p9 → W24.heap[q]? = w21.heap[q]? := fun q hq hn => by
          rw [hW24]
          exact (heap_ne _ _ _ _ hn).trans ((heap_ne _ _ _ _ hn).trans ((heap_ne _ _ _ _ hn).trans ((heap_ne _ _ _ _ hn).trans ((heap_ne _ _ _ _ hn).trans ((hb23.block q (H22.out.1.s.x q hq).1).trans (H22.out.2.1 q hq))))))
        obtain ⟨X24, H24⟩ : ∃ X24, Hid (TlI w W24 xb sb p6 p9 AW ts0 (z + 1) X24 G' ts' last' ct2 ck2 NS2 T2 d2 AE' cE' A' c' KS' yt2 yk2 b2 ∧ Rdv W24 A21 (putB ts').length 1 (valsB (putB ts')) ∧ W24.heap[p11]? = some (.cells #[.slice o.A no o.c, .int .i64 st] 85 (0, 0)) ∧ nE2 = (ents ts').length) := by
          refine ⟨_, Lib.hid ⟨⟨hT24, H21.out.1.num, H21.out.1.len, H21.out.1.ks, by have := H21.out.1.ns; have := HN2.out.1; omega, HN2.out.2.1, HN2.out.2.2⟩, Rdv.same H21.out.2.1 fun r f e => hk24 r (H21.out.2.2.1 r f e).1 (H21.out.2.2.1 r f e).2.2, (hk24 p11 H21.out.2.2.2.2.1 H21.out.2.2.2.2.2.2).trans H21.out.2.2.2.1, H22.out.2.2.2.2⟩⟩
        have HW24 := Lib.hid hW24
        clear hT23 hT24 hk24 hW24 hb23
        go_upto_region 24 with fail
        rw [← HW24.out]
        clear x0 x1 x2 x3 x4 xf z0 z1 z2 z3 z4 y0 y1 e11'
        have hi24 := H24.out.1
        obtain ⟨PT, hPT⟩ : ∃ PT, PT = putB ts' := ⟨_, rfl⟩
        have HPT2 : Hid (∀ x ∈ PT, x < 256) := Lib.hid (by rw [hPT]; exact putB_small hi24.num)
        have HDR : Hid (∀ W2, Below W24.drew.heap.size W24.drew W2 → Below W24.heap.size W24 W2) := Lib.hid fun W2 hw => (Below.refl _ W24).drew.trans hw
        have HCE : Hid (∀ W2, Below W24.drew.heap.size W24.drew W2 → W2.cell? ⟨p9, 3, none⟩ = some (.bool b2) ∧ W2.cell? ⟨p9, 4, none⟩ = some (.bool d2) ∧ W2.cell? ⟨p6, 0, none⟩ = some (.slice AE' nE2 cE') ∧ W2.cell? ⟨p6, 1, none⟩ = some (.int .i64 last')) := Lib.hid fun W2 hw => by
          have h2 := H24.out.1.later (HDR.out W2 hw)
          obtain ⟨_, _, _, q3, q4⟩ := h2.m.at9
          obtain ⟨q5, q6⟩ := h2.m.at6
          rw [← H24.out.2.2.2] at q5
          exact ⟨q3, q4, q5, q6⟩
        have HDN : Hid (∀ W2, Below W24.drew.heap.size W24.drew W2 → Calls Try.prog 44 #[.pointer (some ⟨xb, 0, none⟩)] W2 fun e w' => e = .returned (.bool d2) ∧ W2 = w') := Lib.hid fun W2 hw => (H24.out.1.later (HDR.out W2 hw)).m.s.done
        have HRP : Hid (∀ W2, Below W24.drew.heap.size W24.drew W2 → Rdv W2 A21 lp 1 (valsB PT)) := Lib.hid fun W2 hw => by
          rw [HLP.out, hPT]; exact H24.out.2.1.ext fun _ hp => (HDR.out W2 hw).cell hp
        have HPV : Hid (∀ W2, Below W24.drew.heap.size W24.drew W2 → Calls Try.prog 28 #[.pointer (some ⟨sb, 0, none⟩)] W2 fun e w' => ∃ v, e = .returned v ∧ (∃ A9 c9, v = .slice A9 lp c9 ∧ Rdv w' A9 lp 1 (valsB PT)) ∧ Below W2.heap.size W2 w') := Lib.hid fun W2 hw => by
          refine Calls.mono (sput_any (H24.out.1.later (HDR.out W2 hw)).m.s.m (fun i hi => by have := (H24.out.1.elen (by omega)).2 i hi; omega) H24.out.1.num) ?_
          rintro e9 w9 ⟨A9, c9, rfl, r9, _, b9⟩
          rw [← hPT] at r9
          rw [HLP.out, ← hPT]
          exact ⟨_, rfl, ⟨A9, c9, rfl, r9⟩, b9⟩
        have HPW : Hid (∀ W2, Below W24.drew.heap.size W24.drew W2 → Calls Try.prog 37 #[.agg #[.slice AE' nE2 cE', .int .i64 last']] W2 fun e w' => ∃ v, e = .returned v ∧ (∃ A9 c9, v = .slice A9 lp c9 ∧ Rdv w' A9 lp 1 (valsB PT)) ∧ Below W2.heap.size W2 w') := Lib.hid fun W2 hw => by
          rw [H24.out.2.2.2]
          refine Calls.mono (r9text_any (c := cE') (last := last') (H24.out.1.later (HDR.out W2 hw)).m.rE (by have := (H24.out.1.elen (by omega)).1; omega) (fun e he => H24.out.1.num.ents e he)) ?_
          rintro e9 w9 ⟨v9, rfl, h9, b9⟩
          obtain ⟨A9, c9, rfl, r9, _, _⟩ := OwnB.rdv h9
          have e8 : txtE (ents ts') = PT := by rw [hPT, txtE_ents]
          rw [e8] at r9
          rw [e8]
          have e7 : PT.length = lp := by rw [hPT]; exact HLP.out.symm
          rw [e7] at r9
          rw [e7]
          exact ⟨_, rfl, ⟨A9, c9, rfl, r9⟩, b9⟩
        clear hi24 hPT
        cases d2 with
        | true =>
          refine wp_region_noPanic ?_
          refine wp_region_abs 24 162 [
            .is (.bool true),
            .is (.pointer (some ⟨p9, 4, none⟩)),
            .is (.bool true),
            .is (.bool false),
            .is (.bool false),
            .is (.pointer (some ⟨xb, 0, none⟩)),
            .is (.bool true),
            .is (.pointer (some ⟨p9, 4, none⟩)),
            .is (.bool true),
            .is (.bool false),
            .is (.bool false),
            .is (.bool false),
            .is (.slice A21 lp c21),
            .is (.pointer (some ⟨sb, 0, none⟩)),
            .tells (fun _ v _ wa => ∃ A9 c9, v = .slice A9 lp c9 ∧ Rdv wa A9 lp 1 (valsB PT)),
            .is (.bool true),
            .is (.bool false),
            .is (.bool false),
            .is (.bool false),
            .is (.slice A21 lp c21),
            .is (.agg #[.slice AE' nE2 cE', .int .i64 last']),
            .tells (fun _ v _ wa => ∃ A9 c9, v = .slice A9 lp c9 ∧ Rdv wa A9 lp 1 (valsB PT)),
            .is (.bool true),
            .is (.bool false)]
            [96, 97, 98, 99, 100, 101, 102, 103, 104, 105, 106, 107, 108, 109, 110, 111, 112, 113, 114, 115, 116, 117, 118, 119]
            [[], [], [1], [0, 2], [3], [4], [5, 4], [4], [7, 4], [6, 8, 4], [4, 9], [10], [11], [11], [13, 11], [12, 14, 11], [15, 11], [11, 16], [17], [18], [18], [20, 18], [19, 21, 18], [22, 18]] (by kernel_rfl) (by rfl) rfl rfl (by kernel_rfl) (fun _ _ _ _ h => h.elim) ?_ ?_
          · refine ⟨?_, ?_, ?_, ?_, ?_, ?_, ?_, ?_, ?_, ?_, ?_, ?_, ?_, ?_, ?_, ?_, ?_, ?_, ?_, ?_, ?_, ?_, ?_, ?_, trivial⟩
            · intro W2 hw K hK
              go_simp
              exact hK _ _ rfl (Below.refl _ _)
            · intro W2 hw K hK
              go_simp
              exact hK _ _ rfl (Below.refl _ _)
            · intro W2 hw K hK
              obtain ⟨s0, s1, s2, s3⟩ := HCE.out W2 hw
              go_simp
              exact hK _ _ rfl (Below.refl _ _)
            · intro W2 hw K hK
              go_simp
              exact hK _ _ rfl (Below.refl _ _)
            · intro W2 hw K hK
              go_simp
              exact hK _ _ rfl (Below.refl _ _)
            · intro W2 hw K hK
              go_simp
              exact hK _ _ rfl (Below.refl _ _)
            · intro W2 hw K hK
              go_simp
              refine Calls.mono (HDN.out W2 hw) ?_
              rintro e9 w9 ⟨rfl, rfl⟩
              exact hK _ _ rfl (Below.refl _ _)
            · intro W2 hw K hK
              go_simp
              exact hK _ _ rfl (Below.refl _ _)
            · intro W2 hw K hK
              obtain ⟨s0, s1, s2, s3⟩ := HCE.out W2 hw
              go_simp
              exact hK _ _ rfl (Below.refl _ _)
            · intro W2 hw K hK
              go_simp
              exact hK _ _ rfl (Below.refl _ _)
            · intro W2 hw K hK
              go_simp
              exact hK _ _ rfl (Below.refl _ _)
            · intro W2 hw K hK
              go_simp
              exact hK _ _ rfl (Below.refl _ _)
            · intro W2 hw K hK
              go_simp
              exact hK _ _ rfl (Below.refl _ _)
            · intro W2 hw K hK
              go_simp
              exact hK _ _ rfl (Below.refl _ _)
            · intro W2 hw K hK
              go_simp
              refine Calls.mono (HPV.out W2 hw) ?_
              rintro e9 w9 ⟨v9, rfl, h9, hb9⟩
              exact hK _ _ h9 hb9
            · intro W2 hw v14 wb14 wa14 hF14 hx14 K hK
              obtain ⟨A14x, c14x, rfl, r14⟩ := hF14.choose_spec
              have s14 := r14.ext fun _ hp => hx14.cell hp
              go_simp
              refine Calls.mono (same_any A21 A14x lp c21 lp c14x PT PT W2 (HRP.out W2 hw) s14 HPT2.out HPT2.out) ?_
              rintro e9 w9 ⟨rfl, rfl⟩
              rw [decide_eq_true (rfl : PT = PT)]
              exact hK _ _ rfl (Below.refl _ _)
            · intro W2 hw K hK
              go_simp
              exact hK _ _ rfl (Below.refl _ _)
            · intro W2 hw K hK
              go_simp
              exact hK _ _ rfl (Below.refl _ _)
            · intro W2 hw K hK
              go_simp
              exact hK _ _ rfl (Below.refl _ _)
            · intro W2 hw K hK
              go_simp
              exact hK _ _ rfl (Below.refl _ _)
            · intro W2 hw K hK
              obtain ⟨s0, s1, s2, s3⟩ := HCE.out W2 hw
              go_simp
              exact hK _ _ rfl (Below.refl _ _)
            · intro W2 hw K hK
              go_simp
              refine Calls.mono (HPW.out W2 hw) ?_
              rintro e9 w9 ⟨v9, rfl, h9, hb9⟩
              exact hK _ _ h9 hb9
            · intro W2 hw v14 wb14 wa14 hF14 hx14 K hK
              obtain ⟨A14x, c14x, rfl, r14⟩ := hF14.choose_spec
              have s14 := r14.ext fun _ hp => hx14.cell hp
              go_simp
              refine Calls.mono (same_any A21 A14x lp c21 lp c14x PT PT W2 (HRP.out W2 hw) s14 HPT2.out HPT2.out) ?_
              rintro e9 w9 ⟨rfl, rfl⟩
              rw [decide_eq_true (rfl : PT = PT)]
              exact hK _ _ rfl (Below.refl _ _)
            · intro W2 hw K hK
              go_simp
              exact hK _ _ rfl (Below.refl _ _)
          · intro W2 hw2
            simp only [Behind]
            intro v14 wb14 wa14 _ _ _ _ v21 wb21 wa21 _ _ _ _
            have HB2 := Lib.hid (HDR.out W2 hw2)
            clear hw2
            simp only [List.drop, Act.put, List.setIfInBounds_toArray, List.set_cons_zero, List.set_cons_succ]
            go_wp2_with fail
            refine NoPanic.normal ?_
            have HT26 := Lib.hid (H24.out.1.later HB2.out)
            have e1 : T2 = liveE (ents ts0) := HT26.out.yes rfl
            have hTX := HT26.out.m.s.text (by rw [e1]; have := HOK.out.2.1; omega) (by rw [e1]; exact HOK.out.2.2.1)
            rw [e1, HOK.out.2.2.2.1, ← HLW.out] at hTX
            have HTX := Lib.hid hTX
            clear e1 hTX
            go_wp2_with fail
            refine Calls.mono HTX.out ?_
            rintro e w26 ⟨A26, c26, rfl, hr26, hb26⟩
            have HT27 := Lib.hid (HT26.out.later hb26)
            obtain ⟨_, _, _, _, q4⟩ := HT27.out.m.at9
            have hSB := same_any A26 AW lw c26 lw cW (putB ts0) (putB ts0) w26 hr26 (by rw [HLW.out]; exact HT27.out.m.rW) HOK.out.2.2.2.2 HOK.out.2.2.2.2
            rw [decide_eq_true (rfl : putB ts0 = putB ts0)] at hSB
            have HSB := Lib.hid hSB
            clear hr26 hb26 hSB
            go_wp2_with fail
            refine Calls.mono HSB.out ?_
            rintro e w28 ⟨rfl, rfl⟩
            go_wp2_with fail
            go_roundw
            case rel => exact ⟨z + 1, _, G', ts', last', ct2, ck2, NS2, T2, true, AE', cE', A', c', KS', yt2, yk2, b2, by go_num, by omega, HT27.out⟩
            case measure => simp [intOf]; omega
        | false =>
          refine wp_region_noPanic ?_
          refine wp_region_abs 24 162 [
            .is (.bool false),
            .is (.pointer (some ⟨p9, 4, none⟩)),
            .is (.bool false),
            .is (.bool false),
            .is (.bool false),
            .is (.pointer (some ⟨xb, 0, none⟩)),
            .is (.bool false),
            .is (.pointer (some ⟨p9, 4, none⟩)),
            .is (.bool false),
            .is (.bool false),
            .is (.bool false),
            .is (.bool false),
            .is (.slice A21 lp c21),
            .is (.pointer (some ⟨sb, 0, none⟩)),
            .tells (fun _ v _ wa => ∃ A9 c9, v = .slice A9 lp c9 ∧ Rdv wa A9 lp 1 (valsB PT)),
            .is (.bool true),
            .is (.bool false),
            .is (.bool false),
            .is (.bool false),
            .is (.slice A21 lp c21),
            .is (.agg #[.slice AE' nE2 cE', .int .i64 last']),
            .tells (fun _ v _ wa => ∃ A9 c9, v = .slice A9 lp c9 ∧ Rdv wa A9 lp 1 (valsB PT)),
            .is (.bool true),
            .is (.bool false)]
            [96, 97, 98, 99, 100, 101, 102, 103, 104, 105, 106, 107, 108, 109, 110, 111, 112, 113, 114, 115, 116, 117, 118, 119]
            [[], [], [1], [0, 2], [3], [4], [5, 4], [4], [7, 4], [6, 8, 4], [4, 9], [10], [11], [11], [13, 11], [12, 14, 11], [15, 11], [11, 16], [17], [18], [18], [20, 18], [19, 21, 18], [22, 18]] (by kernel_rfl) (by rfl) rfl rfl (by kernel_rfl) (fun _ _ _ _ h => h.elim) ?_ ?_
          · refine ⟨?_, ?_, ?_, ?_, ?_, ?_, ?_, ?_, ?_, ?_, ?_, ?_, ?_, ?_, ?_, ?_, ?_, ?_, ?_, ?_, ?_, ?_, ?_, ?_, trivial⟩
            · intro W2 hw K hK
              go_simp
              exact hK _ _ rfl (Below.refl _ _)
            · intro W2 hw K hK
              go_simp
              exact hK _ _ rfl (Below.refl _ _)
            · intro W2 hw K hK
              obtain ⟨s0, s1, s2, s3⟩ := HCE.out W2 hw
              go_simp
              exact hK _ _ rfl (Below.refl _ _)
            · intro W2 hw K hK
              go_simp
              exact hK _ _ rfl (Below.refl _ _)
            · intro W2 hw K hK
              go_simp
              exact hK _ _ rfl (Below.refl _ _)
            · intro W2 hw K hK
              go_simp
              exact hK _ _ rfl (Below.refl _ _)
            · intro W2 hw K hK
              go_simp
              refine Calls.mono (HDN.out W2 hw) ?_
              rintro e9 w9 ⟨rfl, rfl⟩
              exact hK _ _ rfl (Below.refl _ _)
            · intro W2 hw K hK
              go_simp
              exact hK _ _ rfl (Below.refl _ _)
            · intro W2 hw K hK
              obtain ⟨s0, s1, s2, s3⟩ := HCE.out W2 hw
              go_simp
              exact hK _ _ rfl (Below.refl _ _)
            · intro W2 hw K hK
              go_simp
              exact hK _ _ rfl (Below.refl _ _)
            · intro W2 hw K hK
              go_simp
              exact hK _ _ rfl (Below.refl _ _)
            · intro W2 hw K hK
              go_simp
              exact hK _ _ rfl (Below.refl _ _)
            · intro W2 hw K hK
              go_simp
              exact hK _ _ rfl (Below.refl _ _)
            · intro W2 hw K hK
              go_simp
              exact hK _ _ rfl (Below.refl _ _)
            · intro W2 hw K hK
              go_simp
              refine Calls.mono (HPV.out W2 hw) ?_
              rintro e9 w9 ⟨v9, rfl, h9, hb9⟩
              exact hK _ _ h9 hb9
            · intro W2 hw v14 wb14 wa14 hF14 hx14 K hK
              obtain ⟨A14x, c14x, rfl, r14⟩ := hF14.choose_spec
              have s14 := r14.ext fun _ hp => hx14.cell hp
              go_simp
              refine Calls.mono (same_any A21 A14x lp c21 lp c14x PT PT W2 (HRP.out W2 hw) s14 HPT2.out HPT2.out) ?_
              rintro e9 w9 ⟨rfl, rfl⟩
              rw [decide_eq_true (rfl : PT = PT)]
              exact hK _ _ rfl (Below.refl _ _)
            · intro W2 hw K hK
              go_simp
              exact hK _ _ rfl (Below.refl _ _)
            · intro W2 hw K hK
              go_simp
              exact hK _ _ rfl (Below.refl _ _)
            · intro W2 hw K hK
              go_simp
              exact hK _ _ rfl (Below.refl _ _)
            · intro W2 hw K hK
              go_simp
              exact hK _ _ rfl (Below.refl _ _)
            · intro W2 hw K hK
              obtain ⟨s0, s1, s2, s3⟩ := HCE.out W2 hw
              go_simp
              exact hK _ _ rfl (Below.refl _ _)
            · intro W2 hw K hK
              go_simp
              refine Calls.mono (HPW.out W2 hw) ?_
              rintro e9 w9 ⟨v9, rfl, h9, hb9⟩
              exact hK _ _ h9 hb9
            · intro W2 hw v14 wb14 wa14 hF14 hx14 K hK
              obtain ⟨A14x, c14x, rfl, r14⟩ := hF14.choose_spec
              have s14 := r14.ext fun _ hp => hx14.cell hp
              go_simp
              refine Calls.mono (same_any A21 A14x lp c21 lp c14x PT PT W2 (HRP.out W2 hw) s14 HPT2.out HPT2.out) ?_
              rintro e9 w9 ⟨rfl, rfl⟩
              rw [decide_eq_true (rfl : PT = PT)]
              exact hK _ _ rfl (Below.refl _ _)
            · intro W2 hw K hK
              go_simp
              exact hK _ _ rfl (Below.refl _ _)
          · intro W2 hw2
            simp only [Behind]
            intro v14 wb14 wa14 _ _ _ _ v21 wb21 wa21 _ _ _ _
            have HB2 := Lib.hid (HDR.out W2 hw2)
            clear hw2
            simp only [List.drop, Act.put, List.setIfInBounds_toArray, List.set_cons_zero, List.set_cons_succ]
            go_wp2_with fail
            refine NoPanic.normal ?_
            have HT26 := Lib.hid (H24.out.1.later HB2.out)
            have hTX := HT26.out.m.s.text_not
            have hIS := is_errV 11 11 (by decide) W2
            obtain ⟨ev, hev⟩ : ∃ v, v = errV 11 := ⟨_, rfl⟩
            rw [← hev] at hTX hIS
            rw [decide_eq_true (rfl : 11 = 11)] at hIS
            have HTX := Lib.hid hTX
            have HIS := Lib.hid hIS
            clear hTX hIS hev
            obtain ⟨_, _, _, _, q4⟩ := HT26.out.m.at9
            go_wp2_with fail
            refine Calls.mono HTX.out ?_
            rintro e w26 ⟨rfl, rfl⟩
            go_wp2_with fail
            refine Calls.mono HIS.out ?_
            rintro e w28 ⟨rfl, rfl⟩
            go_wp2_with fail
            go_roundw
            case rel => exact ⟨z + 1, _, G', ts', last', ct2, ck2, NS2, T2, false, AE', cE', A', c', KS', yt2, yk2, b2, by go_num, by omega, HT26.out⟩
            case measure => simp [intOf]; omega
      · have HF : Hid (∀ W (X2 : Nat → Prop) (ct2 ck2 : Int) (NS2 : List Nt) (T2 : List En) (d2 : Bool) (j : Nat), TlM X2 w W xb sb p6 p9 AW (putB ts0) G ts last ct2 ck2 NS2 T2 d2 AE cE (ents ts) last A1 c1 KS yt yk b d → NS2.length ≤ 1300 → (d2 = false → TellI (liveE (ents ts0)) (liveE (ents ts)) NS2 T2 ct2 ck2 ∧ leftN (liveE (ents ts)) NS2 ct2 ck2 + 7 * j ≤ 6500) → (d2 = true → j = 0 ∧ T2 = liveE (ents ts0)) →
            ∃ (NS' : List Nt) (T' : List En) (ct' ck' : Int) (d' : Bool), Calls Try.prog 42 #[.pointer (some ⟨xb, 0, none⟩), .int .i64 7] W (fun e w' => e = .returned (.bool d') ∧ TlM X2 w w' xb sb p6 p9 AW (putB ts0) G ts last ct' ck' NS' T' d' AE cE (ents ts) last A1 c1 KS yt yk b d) ∧ NS'.length ≤ 1300 ∧ (d' = false → TellI (liveE (ents ts0)) (liveE (ents ts)) NS' T' ct' ck' ∧ leftN (liveE (ents ts)) NS' ct' ck' + 7 * (j + 1) ≤ 6500) ∧ (d' = true → T' = liveE (ents ts0))) := Lib.hid (by
          intro W X2 ct2 ck2 NS2 T2 d2 j hM hl hn hy
          have hlen := (HI.out.1.elen (by have := HI.out.2; omega)).2
          obtain ⟨NS', T', ct', ck', d', h1, h2, h3, h4⟩ := hM.stepL (n := 7) HOK.out.1 (by have := HOK.out.2.1; omega) HI.out.1.num (fun i hi => by have := hlen i hi; omega) (by omega) (fun e => (hn e).1) (fun e => (hy e).2) (by decide)
          refine ⟨NS', T', ct', ck', d', h1, by omega, fun e => ?_, h4⟩
          obtain ⟨e1, h5, h6⟩ := h3 e
          have h7 := (hn e1).2
          have h8 : (7 : Int).toNat = 7 := rfl
          rw [h8] at h6
          exact ⟨h5, by omega⟩)
        have HS0 : Hid (∃ (X2 : Nat → Prop) (ct2 ck2 : Int) (NS2 : List Nt) (T2 : List En) (d2 : Bool), TlM X2 w wr xb sb p6 p9 AW (putB ts0) G ts last ct2 ck2 NS2 T2 d2 AE cE (ents ts) last A1 c1 KS yt yk b d ∧ NS2.length ≤ 1300 ∧ (d2 = false → TellI (liveE (ents ts0)) (liveE (ents ts)) NS2 T2 ct2 ck2 ∧ leftN (liveE (ents ts)) NS2 ct2 ck2 + 7 * 0 ≤ 6500) ∧ (d2 = true → 0 = 0 ∧ T2 = liveE (ents ts0))) := Lib.hid (by
          have hlen := (HI.out.1.elen (by have := HI.out.2; omega)).2
          have h1 := HI.out.1.ns
          have h0 := HI.out.2
          have h2 := leftN_le hlen NS ct ck
          exact ⟨X, ct, ck, NS, T, d, HI.out.1.m, by omega, fun e => ⟨(HI.out.1.no e).1, by omega⟩, fun e => ⟨rfl, HI.out.1.yes e⟩⟩)
        clear HI
        go_wp2_with fail
        go_loopw [145, 146, 147, 148, 149] (fun jx _ _ _ _ wr => ∃ (j : Nat) (X2 : Nat → Prop) (ct2 ck2 : Int) (NS2 : List Nt) (T2 : List En) (d2 : Bool), jx = .int .i64 (j : Int) ∧ j ≤ 3000 ∧ TlM X2 w wr xb sb p6 p9 AW (putB ts0) G ts last ct2 ck2 NS2 T2 d2 AE cE (ents ts) last A1 c1 KS yt yk b d ∧ NS2.length ≤ 1300 ∧ (d2 = false → TellI (liveE (ents ts0)) (liveE (ents ts)) NS2 T2 ct2 ck2 ∧ leftN (liveE (ents ts)) NS2 ct2 ck2 + 7 * j ≤ 6500) ∧ (d2 = true → j = 0 ∧ T2 = liveE (ents ts0))) (fun jx _ _ _ _ wr => 3000 - (intOf jx).toNat)
        case atStart =>
          obtain ⟨X2, ct2, ck2, NS2, T2, d2, h1, h2, h3, h4⟩ := HS0.out
          exact ⟨0, X2, ct2, ck2, NS2, T2, d2, rfl, Nat.zero_le _, h1, h2, h3, fun e => ⟨rfl, (h4 e).2⟩⟩
        case round =>
          obtain ⟨j, X2, ct2, ck2, NS2, T2, d2, rfl, hj, h1, h2, h3, h4⟩ := hrel
          have HJ := Lib.hid (And.intro hj (And.intro h1 (And.intro h2 (And.intro h3 h4))))
          clear hj h1 h2 h3 h4
          by_cases hlt2 : j < 3000
          · obtain ⟨NS', T', ct', ck', d', g1, g2, g3, g4⟩ := HF.out wr X2 ct2 ck2 NS2 T2 d2 j HJ.out.2.1 HJ.out.2.2.1 HJ.out.2.2.2.1 HJ.out.2.2.2.2
            have HST := Lib.hid g1
            have HG := Lib.hid (And.intro g2 (And.intro g3 g4))
            clear g1 g2 g3 g4
            go_wp2_with fail
            refine Calls.mono HST.out ?_
            rintro e w22 ⟨rfl, hT22⟩
            have HT22 := Lib.hid hT22
            clear hT22
            cases d' with
            | true =>
              have e1 : T' = liveE (ents ts0) := HG.out.2.2 rfl
              have hTX := HT22.out.s.text (by rw [e1]; have := HOK.out.2.1; omega) (by rw [e1]; exact HOK.out.2.2.1)
              rw [e1, HOK.out.2.2.2.1, ← HLW.out] at hTX
              have HTX := Lib.hid hTX
              clear e1 hTX
              go_wp2_with fail
              refine Calls.mono HTX.out ?_
              rintro e w26 ⟨A26, c26, rfl, hr26, hb26⟩
              have HT27 := Lib.hid (HT22.out.later hb26)
              have hSB := same_any A26 AW lw c26 lw cW (putB ts0) (putB ts0) w26 hr26 (by rw [HLW.out]; exact HT27.out.rW) HOK.out.2.2.2.2 HOK.out.2.2.2.2
              rw [decide_eq_true (rfl : putB ts0 = putB ts0)] at hSB
              have HSB := Lib.hid hSB
              clear hr26 hb26 hSB
              go_wp2_with fail
              refine Calls.mono HSB.out ?_
              rintro e w28 ⟨rfl, rfl⟩
              go_wp2_with fail
              go_ret
              exact ⟨rfl, HT27.out.s.b⟩
            | false =>
              go_wp2_with fail
              go_roundw
              case rel => exact ⟨j + 1, X2, ct', ck', NS', T', false, by go_num, by omega, HT22.out, HG.out.1, fun _ => HG.out.2.1 (by trivial), fun e => by cases e⟩
              case measure => simp [intOf]; omega
          · exfalso
            have h1 := HJ.out.1
            cases d2 with
            | true => have := (HJ.out.2.2.2.2 rfl).1; omega
            | false => have := (HJ.out.2.2.2.1 rfl).2; omega
end Go.Proofs.Ytejpjbmbcdgomaa
