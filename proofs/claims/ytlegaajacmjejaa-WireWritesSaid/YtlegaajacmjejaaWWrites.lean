/- WireWrites answers true of whatever values. -/
import Derived.Test.YtlegaajacmjejaaPrefix
import Derived.Test.YtlegaajacmjejaaCopy
import Derived.Test.YtlegaajacmjejaaWBack
import Derived.Deep.RegionWith
import Derived.Deep.CutRange
namespace Go.Proofs.Ytlegaajacmjejaa
set_option maxRecDepth 100000
open Go.RowKit

/-- The writer and the bytes that are wanted of it, apart from one another. -/
structure WS (w : World) (B g : Nat) (v want : Value) (xs : List Nat) : Prop where
  wtr : Wtr w B g v xs
  own : OwnB w B want xs
  apart : ∀ j, v.ownBlock = some j → want.ownBlock ≠ some j
  gw : want.ownBlock ≠ some g
theorem OwnB.stays {w w' : World} {B : Nat} {v : Value} {xs : List Nat} (h : OwnB w B v xs) (hk : ∀ k, v.ownBlock = some k → w'.heap[k]? = w.heap[k]?) : OwnB w' B v xs := row_stays h hk
theorem WS.moved {w w' : World} {B g : Nat} {v want : Value} {xs : List Nat} (h : WS w B g v want xs) (hb : ∀ k, k < w.heap.size → k = g ∨ v.ownBlock = some k ∨ want.ownBlock = some k → w'.heap[k]? = w.heap[k]?) : WS w' B g v want xs :=
  ⟨⟨h.wtr.low, (hb g h.wtr.lt (.inl rfl)).trans h.wtr.block, row_stays h.wtr.own (fun k hk => hb k (h.wtr.own.lt k hk).2 (.inr (.inl hk)))⟩, h.own.stays (fun k hk => hb k (World.ownsRow.lt h.own k hk).2 (.inr (.inr hk))), h.apart, h.gw⟩
theorem WS.ext {w w' : World} {B g : Nat} {v want : Value} {xs : List Nat} (h : WS w B g v want xs) (hb : Below w.heap.size w w') : WS w' B g v want xs := h.moved (fun k hk _ => hb.block k hk)
theorem WS.over {w w' : World} {B g q : Nat} {v want : Value} {xs : List Nat} (h : WS w B g v want xs) (ho : OnlyG w w' q) (h1 : q ≠ g) (h2 : v.ownBlock ≠ some q) (h3 : want.ownBlock ≠ some q) : WS w' B g v want xs :=
  h.moved (fun k hk hc => OnlyG.at ho hk (by rintro rfl; rcases hc with hc | hc | hc; exact h1 hc; exact h2 hc; exact h3 hc))
/-- Behind a write the bytes that are wanted stand. -/
theorem WS.write {w w1 : World} {B g : Nat} {v v' want : Value} {xs ys : List Nat} (h : WS w B g v want xs) (k : Wrote w w1 B g v v' ys) : OwnB w1 B want xs ∧ (∀ j, v'.ownBlock = some j → want.ownBlock ≠ some j) := by
  refine ⟨h.own.stays (fun j hj => k.touch.block j (World.ownsRow.lt h.own j hj).2 (fun he => h.gw (he ▸ hj)) (fun he => h.apart j he hj)), fun j hj => ?_⟩
  rcases k.row with h1 | ⟨i, h1, h2⟩
  · exact h.apart j (h1 ▸ hj)
  · intro he
    have := (World.ownsRow.lt h.own j he).2
    rw [h1] at hj
    injection hj with hj
    omega
/-- Behind an append the writer stands. -/
theorem WS.append {w1 w2 : World} {B g : Nat} {v' want want' : Value} {zs : List Nat} (hw : Wtr w1 B g v' zs) (ha : ∀ j, v'.ownBlock = some j → want.ownBlock ≠ some j) (hg : want.ownBlock ≠ some g)
    (h1 : OwnB w2 B want' zs) (ht : Touch w1 w2 w2.heap.size want.ownBlock) (hv : want'.ownBlock = want.ownBlock ∨ want'.ownBlock = some w1.heap.size) : WS w2 B g v' want' zs := by
  have hs := ht.size
  refine ⟨⟨hw.low, (ht.block g hw.lt (by have := hw.lt; omega) hg).trans hw.block, row_stays hw.own (fun j hj => ht.block j (hw.own.lt j hj).2 (by have := (hw.own.lt j hj).2; omega) (fun he => ha j hj he))⟩, h1, fun j hj => ?_, ?_⟩
  · rcases hv with h | h
    · rw [h]; exact ha j hj
    · rw [h]; intro he; injection he with he; have := (hw.own.lt j hj).2; omega
  · rcases hv with h | h
    · rw [h]; exact hg
    · rw [h]; intro he; injection he with he; have := hw.lt; omega

theorem OnlyG.below {w w' : World} {q M : Nat} (h : OnlyG w w' q) (hq : M ≤ q) (hM : M ≤ w.heap.size) : Below M w w' :=
  ⟨h.os, h.tape, h.output, h.size, fun j hj => OnlyG.at h (by omega) (by omega)⟩
set_option maxHeartbeats 8000000 in
theorem wireWrites_any (A : Option Addr) (n c : Nat) (vs : List VV) (w : World) (h : Vals w A n vs) (hn : n ≤ 9223372036854775807) :
    Calls Try.prog 3 #[.slice A n c] w fun e w' => e = .returned (.bool true) ∧ Below w.heap.size w w' := by
  have HVS := Lib.hid (fun w1 (k : Below w.heap.size w w1) => h.ext (stays_b k))
  have HLN := Lib.hid h.len
  have HA := Lib.hid (alive_any w)
  clear h
  go_enter Try.func3, Try.ntmps3
  go_wp2_with fail
  refine Calls.mono HA.out ?_
  rintro e w1 ⟨rfl, hb1⟩
  have HB1 := Lib.hid hb1
  have HL := Lib.hid (large_any A n c vs w1 (HVS.out w1 hb1) hn)
  clear hb1
  go_wp2_with fail
  refine Calls.mono HL.out ?_
  rintro e w2 ⟨⟨b, rfl, hbf⟩, hb2⟩
  have HB2 := Lib.hid (HB1.out.trans (hb2.mono HB1.out.size))
  have HBF := Lib.hid hbf
  clear hb2 hbf HL HA
  cases b with
  | true =>
    go_wp2_with fail
    go_ret
    exact ⟨rfl, HB2.out⟩
  | false =>
    have hn41 : n ≤ 41 := (HBF.out rfl).1
    have hsz : ∀ k (hk : k < vs.length), Sized vs[k] := fun k hk => by
      have hv := (HVS.out w2 HB2.out).all _ (List.getElem_mem hk)
      have hm := (HBF.out rfl).2 _ (List.getElem_mem hk)
      exact ⟨by rw [hv.blen]; exact hm, hv.u64, hv.fits⟩
    have HSZ := Lib.hid hsz
    clear hsz
    have ht : Below w2.heap.size w2 ((w2.alloc (.cells #[.slice none 0 0] 28)).alloc (.cells #[] 5)) := ((Below.refl w2.heap.size w2).alloc (Nat.le_refl _) _).alloc (by rw [World.size_alloc]; exact Nat.le_succ _) _
    have hws : WS ((w2.alloc (.cells #[.slice none 0 0] 28)).alloc (.cells #[] 5)) w2.heap.size w2.heap.size (.slice none 0 0) (.slice (some ⟨w2.heap.size + 1, 0, none⟩) 0 0) [] := by
      have h1 := (wtr_new w2).alloc (.cells #[] 5)
      have h2 := own_empty (w2.alloc (.cells #[.slice none 0 0] 28)) w2.heap.size 5 1 5 rfl (by rw [World.size_alloc]; exact Nat.le_succ _)
      rw [World.size_alloc] at h2
      exact ⟨h1, h2, (fun j hj => by cases hj), (by show some (w2.heap.size + 1) ≠ some w2.heap.size; intro he; injection he with he; omega)⟩
    have HW0 := Lib.hid hws
    have HB3 := Lib.hid (HB2.out.trans (ht.mono HB2.out.size))
    clear ht hws
    go_wp2_with fail
    go_loopw [4, 18] (fun wv i wr => ∃ (k : Nat) (v' : Value) (Aw : Option Addr) (cw : Nat), wv = .slice Aw (encs (vs.take k)).length cw ∧ i = .int .i64 (k : Int) ∧ k ≤ n ∧ WS wr w2.heap.size w2.heap.size v' (.slice Aw (encs (vs.take k)).length cw) (encs (vs.take k)) ∧ Below w.heap.size w wr) (fun _ i _ => n - (intOf i).toNat)
    case atStart => exact ⟨0, _, _, _, rfl, rfl, by omega, HW0.out, HB3.out⟩
    case round =>
      obtain ⟨k, v', Aw, cw, rfl, rfl, hk, hws, hb⟩ := hrel
      have HB := Lib.hid hb
      have HWS := Lib.hid hws
      clear hws hb
      by_cases hlt : k < n
      · obtain ⟨hv, b, off, rfl, h0, h1, h2, h3, hok⟩ := (HVS.out wr HB.out).at k hlt
        have hs := HSZ.out k hv
        have htk := encs_take vs k hv
        have hlen : (encs (vs.take k)).length ≤ 310 * 41 := by
          have := (encs_len (vs.take k) (fun v hv' => by
            obtain ⟨j, hj, rfl⟩ := List.getElem_of_mem hv'
            simp only [List.getElem_take]
            exact HSZ.out j (by simp at hj; omega))).2
          rw [List.length_take] at this
          omega
        have hvw := fun w1 (k : Below w.heap.size w w1) => (HVS.out w1 k).all _ (List.getElem_mem hv)
        obtain ⟨v, hvv⟩ : ∃ v, v = vs[k] := ⟨_, rfl⟩
        rw [← hvv] at h0 h1 h2 h3 hok hs htk hvw
        obtain ⟨xs, hxs⟩ : ∃ xs, xs = encs (vs.take k) := ⟨_, rfl⟩
        rw [← hxs] at htk hlen
        have hws := HWS.out
        rw [← hxs] at hws ⊢
        have hm300 : v.m ≤ 300 := by have := hs.1; have := hok.blen; omega
        have henc := enc_len v hs.1 hs.2.1 hs.2.2
        obtain ⟨o, ho⟩ : ∃ o, o = Obj.cells #[.int .i64 v.k, .int .i64 v.n, .int .u64 (v.u : Int), .slice v.A v.m v.c] 31 (0, 0) := ⟨_, rfl⟩
        have hal : Below wr.heap.size wr ((wr.alloc o).alloc o) := ((Below.refl _ wr).alloc (Nat.le_refl _) _).alloc (by rw [World.size_alloc]; exact Nat.le_succ _) _
        have hb6 : ((wr.alloc o).alloc o).heap[wr.heap.size]? = some o := (Below.heap_alloc (wr.alloc o) o wr.heap.size (by rw [World.size_alloc]; exact Nat.lt_succ_self _)).trans (heap_alloc_new wr o)
        have hb7 : ((wr.alloc o).alloc o).heap[wr.heap.size + 1]? = some o := by have := heap_alloc_new (wr.alloc o) o; rw [World.size_alloc] at this; exact this
        have hsz2 : ((wr.alloc o).alloc o).heap.size = wr.heap.size + 2 := by rw [World.size_alloc, World.size_alloc]
        have HCP := Lib.hid (copy_any v.A v.m v.c v.ys ((wr.alloc o).alloc o) ((hvw _ (HB.out.trans (hal.mono HB.out.size))).row) hok.nil (by omega))
        have HB6 := Lib.hid hb6
        have HB7 := Lib.hid hb7
        have HSZ2 := Lib.hid hsz2
        have HAL := Lib.hid hal
        have HVW := Lib.hid hvw
        have HOK := Lib.hid hok
        have HTK := Lib.hid htk
        have HXS := Lib.hid hws
        have HS := Lib.hid hs
        have HENC := Lib.hid henc
        have HO := Lib.hid ho
        subst ho
        clear hal hb6 hb7 hsz2 hvw hok htk hws hs henc hvv hxs HO HWS
        go_wp2_with fail
        refine Calls.mono HCP.out ?_
        rintro e w3 ⟨q, cap, rfl, hmk, hq, hb3⟩
        have hq2 : wr.heap.size + 2 ≤ q := by rw [← HSZ2.out]; exact hq
        have hs3 : wr.heap.size + 2 ≤ w3.heap.size := by rw [← HSZ2.out]; exact hb3.size
        have hb37 := (hb3.block (wr.heap.size + 1) (by rw [HSZ2.out]; omega)).trans HB7.out
        have hb36 := (hb3.block wr.heap.size (by rw [HSZ2.out]; omega)).trans HB6.out
        have k70 : w3.cell? ⟨wr.heap.size + 1, 0, none⟩ = some (.int .i64 v.k) := cell_of_row _ _ 0 _ 31 (0, 0) hb37
        have k71 : w3.cell? ⟨wr.heap.size + 1, 1, none⟩ = some (.int .i64 v.n) := cell_of_row _ _ 1 _ 31 (0, 0) hb37
        have k72 : w3.cell? ⟨wr.heap.size + 1, 2, none⟩ = some (.int .u64 (v.u : Int)) := cell_of_row _ _ 2 _ 31 (0, 0) hb37
        have k73 : w3.cell? ⟨wr.heap.size + 1, 3, none⟩ = some (.slice v.A v.m v.c) := cell_of_row _ _ 3 _ 31 (0, 0) hb37
        have f73 : w3.frozen? ⟨wr.heap.size + 1, 3, none⟩ = false := by simp [World.frozen?, hb37]
        have HBW3 := Lib.hid (HB.out.trans ((HAL.out.trans (hb3.mono HAL.out.size)).mono HB.out.size))
        have HMK := Lib.hid hmk
        have HB36 := Lib.hid hb36
        have HB37 := Lib.hid hb37
        have hws3 := HXS.out.ext (HAL.out.trans (hb3.mono HAL.out.size))
        have HW3 := Lib.hid hws3
        have hset : OnlyG w3 (w3.setCell ⟨wr.heap.size + 1, 3, none⟩ (.slice (some ⟨q, 0, none⟩) v.m cap)) (wr.heap.size + 1) := Only.set _ _ _ _
        have hlg := HXS.out.wtr.lt
        have hlv := fun j hj => (HXS.out.wtr.own.lt j hj).2
        have hlw := fun j hj => (World.ownsRow.lt HXS.out.own j hj).2
        have hws4 := hws3.over hset (by omega) (fun he => by have := hlv _ he; omega) (fun he => by have := hlw _ he; omega)
        have hmk4 := hmk.at (OnlyG.at hset (k := q) hmk.lt (by omega))
        have hsz4 : (w3.setCell ⟨wr.heap.size + 1, 3, none⟩ (.slice (some ⟨q, 0, none⟩) v.m cap)).heap.size = w3.heap.size := World.size_setCell _ _ _
        have h74 : (w3.setCell ⟨wr.heap.size + 1, 3, none⟩ (.slice (some ⟨q, 0, none⟩) v.m cap)).heap[wr.heap.size + 1]? = some (.cells #[.int .i64 v.k, .int .i64 v.n, .int .u64 (v.u : Int), .slice (some ⟨q, 0, none⟩) v.m cap] 31 (0, 0)) := by
          have := HB37.out
          simp [World.setCell, Array.getElem?_modify, this]
        have h64 := (OnlyG.at hset (k := wr.heap.size) (by omega) (by omega)).trans HB36.out
        have HWR := Lib.hid (write_any w2.heap.size w2.heap.size v' xs v.k v.n v.u (some ⟨q, 0, none⟩) v.m cap v.ys _ hws4.wtr hmk4.row (fun h => by cases h) (fun _ ad he _ => by cases he; exact ⟨by show q ≠ _; omega, fun he => by have := hlv _ he; simp only at this; omega⟩) HOK.out.fits HOK.out.u64 HOK.out.small (by omega) (by omega))
        have HW4 := Lib.hid hws4
        have HMK4 := Lib.hid hmk4
        have H74 := Lib.hid h74
        have H64 := Lib.hid h64
        have HSET := Lib.hid hset
        have HLV := Lib.hid hlv
        have HLW := Lib.hid hlw
        have HSZ4 := Lib.hid hsz4
        clear hmk hq hb3 hb37 hb36 hws3 HCP hset hlv hlw hws4 hmk4 hsz4 h74 h64
        go_wp2_with fail
        refine Calls.mono HWR.out ?_
        rintro e w4 ⟨r, rfl, v4, hbo⟩
        have hwro := hbo.wrote
        rw [show Ytlegaajacmjejaa.enc v.k v.n v.u v.ys = v.enc from rfl] at hwro
        have hown := hbo.own
        rw [show Ytlegaajacmjejaa.enc v.k v.n v.u v.ys = v.enc from rfl] at hown
        obtain ⟨how, hap⟩ := HW4.out.write hwro
        obtain ⟨A5, c5, rfl, hr5, hnil5, _⟩ := OwnB.rdv hown
        have hq4 : q < w3.heap.size := by have := HMK.out.lt; exact this
        have hT := hwro.touch
        have hk4 : ∀ j, wr.heap.size ≤ j → j < w3.heap.size → w4.heap[j]? = (w3.setCell ⟨wr.heap.size + 1, 3, none⟩ (.slice (some ⟨q, 0, none⟩) v.m cap)).heap[j]? := fun j hj hj2 => hT.block j (by rw [HSZ4.out]; exact hj2) (by omega) (fun he => by have := HLV.out _ he; omega)
        have hs4 : w3.heap.size ≤ w4.heap.size := by have := hT.size; rw [HSZ4.out] at this; exact this
        have HQ4 := Lib.hid (show v4.ownBlock ≠ some q from fun he => by
          rcases hwro.row with h | ⟨j, h, hj⟩
          · rw [h] at he; have := HLV.out _ he; omega
          · rw [h] at he; injection he with he; rw [HSZ4.out] at hj; omega)
        have HOW := Lib.hid how
        have HAP := Lib.hid hap
        have HWT4 := Lib.hid hwro.wtr
        have HR5 := Lib.hid hr5
        have HK4 := Lib.hid hk4
        have HBW4 := Lib.hid ((HBW3.out.trans (OnlyG.below HSET.out (by have := HB.out.size; omega) HBW3.out.size)).trans ((hwro.below (fun j hj => (HXS.out.wtr.own.lt j hj).1) (by rw [HSZ4.out]; have := HXS.out.wtr.low; omega)).mono HB2.out.size))
        clear hbo hwro hown how hap hr5 hT hk4 HWR
        go_upto_region 13 with (at_builtin; refine wpList_appB rfl (.tmp 27) (.tmp 30) rfl w2.heap.size (.slice Aw xs.length cw) xs rfl HOW.out A5 v.enc.length c5 v.enc rfl HR5.out hnil5 (by have := HENC.out.2; omega) (by have := HXS.out.wtr.low; omega) ?_; intro v5 w5 hown5 hb5 ht5 hv5; obtain ⟨A9, c9, rfl, _, _, _⟩ := OwnB.rdv hown5; have HOWN5 := Lib.hid hown5; have HB5 := Lib.hid hb5; have HT5 := Lib.hid ht5; have HV5 := Lib.hid hv5; clear hown5 hb5 ht5 hv5)
        have hws5 := WS.append HWT4.out HAP.out HXS.out.gw HOWN5.out HT5.out HV5.out
        have hk5 : ∀ j, wr.heap.size ≤ j → j < w3.heap.size → w5.heap[j]? = (w3.setCell ⟨wr.heap.size + 1, 3, none⟩ (.slice (some ⟨q, 0, none⟩) v.m cap)).heap[j]? := fun j hj hj2 => (HT5.out.block j (by omega) (by have := HT5.out.size; omega) (fun he => by have := HLW.out _ he; omega)).trans (HK4.out j hj hj2)
        have hb57 := (hk5 (wr.heap.size + 1) (by omega) (by omega)).trans H74.out
        have hb56 := (hk5 wr.heap.size (by omega) (by omega)).trans H64.out
        have hmk5 := HMK4.out.at (hk5 q (by omega) hq4)
        have HBW5 := Lib.hid (HBW4.out.trans (HB5.out.mono HB2.out.size))
        have HW5 := Lib.hid hws5
        have HMK5 := Lib.hid hmk5
        have HB57 := Lib.hid hb57
        have m73 : w5.cell? ⟨wr.heap.size + 1, 3, none⟩ = some (.slice (some ⟨q, 0, none⟩) v.m cap) := cell_of_row _ _ 3 _ 31 (0, 0) hb57
        have m63 : w5.cell? ⟨wr.heap.size, 3, none⟩ = some (.slice v.A v.m v.c) := cell_of_row _ _ 3 _ 31 (0, 0) hb56
        have m62 : w5.cell? ⟨wr.heap.size, 2, none⟩ = some (.int .u64 (v.u : Int)) := cell_of_row _ _ 2 _ 31 (0, 0) hb56
        have hs5 : w4.heap.size ≤ w5.heap.size := HT5.out.size
        have HKP := Lib.hid (kept_any q v.m cap v.ys v.A v.c w5.drew (hmk5.at rfl) ((HVW.out _ HBW5.out).row.ext (fun _ _ => rfl)) (by omega))
        have HSI := Lib.hid (size_any v.u HOK.out.u64 w5.drew)
        have HRC := Lib.hid (refCount_any v.u HOK.out.u64 w5.drew)
        have hsl := (cntN_length v.u HOK.out.u64).1
        have HSL := Lib.hid hsl
        clear hws5 hk5 hb57 hb56 hmk5 k70 k71 k72 k73 f73 hsl
        go_cut [47] from 32 to 46 (fun t wx => t = .bool false ∧ Below w5.heap.size w5 wx)
        case first =>
          have hne : (((sizeN v.u : Nat) : Int) != ((cntN v.u).length : Int)) = false := by rw [HSL.out]; simp
          go_region_law (first | (go_simp; go_at_call 17; refine Calls.mono HKP.out ?_; rintro e w6 ⟨rfl, rfl⟩) | (go_simp; go_at_call 18; refine Calls.mono HSI.out ?_; rintro e w7 ⟨rfl, rfl⟩) | (go_simp; go_at_call 19; refine Calls.mono HRC.out ?_; rintro e w8 ⟨_, rfl, h6, h7⟩; obtain ⟨A6, c6, rfl, _, _, _⟩ := OwnB.rdv h6))
          all_goals
            go_wp2_with fail
            go_meet
            case rel => exact ⟨rfl, (Below.refl _ w5).drew.trans h7⟩
        case rest =>
          obtain ⟨rfl, hb8⟩ := hcut
          obtain ⟨w8, hw8⟩ : ∃ x, x = wc := ⟨_, rfl⟩
          subst hw8
          have n73 : w8.cell? ⟨wr.heap.size + 1, 3, none⟩ = some (.slice (some ⟨q, 0, none⟩) v.m cap) := cell_of_row _ _ 3 _ 31 (0, 0) ((hb8.block _ (by omega)).trans HB57.out)
          have hmk8 := HMK5.out.at (hb8.block q (by omega))
          have HW8 := Lib.hid (HW5.out.ext hb8)
          have HBW8 := Lib.hid (HBW5.out.trans (hb8.mono HBW5.out.size))
          have HOV := Lib.hid (over_any (some ⟨q, 0, none⟩) q 0 v.m cap w8 (fun _ => ⟨rfl, hmk8.bt HOK.out.small⟩) (by omega))
          have hs8 : w5.heap.size ≤ w8.heap.size := hb8.size
          clear hb8 hmk8 m73 m63 m62 HKP HSI HRC
          go_wp2_with fail
          refine Calls.mono HOV.out ?_
          rintro e w9 ⟨rfl, ho9⟩
          have hs9 := ho9.size
          have hws9 := HW8.out.over ho9 (by omega) HQ4.out (fun he => by
            rcases HV5.out with h | h
            · rw [h] at he; have := HLW.out _ he; omega
            · rw [h] at he; injection he with he; omega)
          have HBW9 := Lib.hid (HBW8.out.trans (OnlyG.below ho9 (by have := HB.out.size; omega) HBW8.out.size))
          have HW9 := Lib.hid hws9
          have HOUT := Lib.hid (out_any _ _ _ _ w9 hws9.wtr (by rw [List.length_append]; have := HENC.out.2; omega))
          clear ho9 hws9 n73
          go_wp2_with fail
          refine Calls.mono HOUT.out ?_
          rintro e w10 ⟨_, rfl, A10, c10, rfl, h11, h12, h13⟩
          have HW10 := Lib.hid (HW9.out.ext h13)
          have HBW10 := Lib.hid (HBW9.out.trans (h13.mono HBW9.out.size))
          have hr9 := (OwnB.rdv HW10.out.own)
          have hr9 : Rdv w10 A9 (xs ++ v.enc).length 1 (valsB (xs ++ v.enc)) := by
            obtain ⟨a, b, e, h, _, _⟩ := hr9
            injection e with e1 e2 e3
            rw [e1]
            exact h
          have hsm : ∀ x ∈ xs ++ v.enc, x < 256 := fun x hx => by
            rw [← HTK.out] at hx
            exact encs_small _ (fun v hv => ((HVS.out w2 HB2.out).all v (List.mem_of_mem_take hv)).small) x hx
          have hsame := same_any A10 A9 (xs ++ v.enc).length c10 (xs ++ v.enc).length c9 (xs ++ v.enc) (xs ++ v.enc) w10 h11 hr9 hsm hsm
          rw [decide_eq_true rfl] at hsame
          obtain ⟨q2, off2, hq2', hov2⟩ : ∃ q2 off2, w9.heap.size ≤ q2 ∧ (0 < (xs ++ v.enc).length → A10 = some ⟨q2, off2, none⟩ ∧ Bt w10 q2 off2 (xs ++ v.enc).length) := by
            rcases h12 with ⟨_, h0, _⟩ | ⟨q2, e2, hq, _, _, hcs⟩
            · exact ⟨w9.heap.size, 0, Nat.le_refl _, fun h => absurd h (by omega)⟩
            · refine ⟨q2, 0, hq, fun hp => ⟨e2, ?_⟩⟩
              obtain ⟨cs, hcs⟩ := hcs hp
              exact Bt.of h11 hsm e2 hcs
          have hoo := over_any A10 q2 off2 (xs ++ v.enc).length c10 w10 hov2 (by rw [List.length_append]; have := HENC.out.2; omega)
          rw [List.length_append] at hsame hoo
          have HSA := Lib.hid hsame
          have HOV2 := Lib.hid hoo
          clear hoo
          clear h11 h12 h13 hr9 hsm hsame hov2 HOUT HOV
          go_wp2_with fail
          refine Calls.mono HSA.out ?_
          rintro e w11 ⟨rfl, rfl⟩
          go_wp2_with fail
          refine Calls.mono HOV2.out ?_
          rintro e w12 ⟨rfl, ho12⟩
          have hws12 := HW10.out.over ho12 (fun he => by have := HW9.out.wtr.lt; omega) (fun he => by have := (HW9.out.wtr.own.lt _ he).2; omega) (fun he => by have := (World.ownsRow.lt HW9.out.own _ he).2; omega)
          have HW12 := Lib.hid hws12
          have HBW12 := Lib.hid (HBW10.out.trans (OnlyG.below ho12 (by have := HBW9.out.size; omega) HBW10.out.size))
          clear ho12 hws12 HOV2 HSA
          go_wp2_with fail
          go_roundw
          case rel => exact ⟨k + 1, v4, A9, c9, by rw [HTK.out, List.length_append], by go_num, by omega, by rw [HTK.out]; exact HW12.out, HBW12.out⟩
          case measure => simp [intOf]; omega
      · have hall : encs (vs.take k) = encs vs := by rw [List.take_of_length_le (by have := HLN.out; omega)]
        have hlen := (encs_len vs (fun v hv => by obtain ⟨j, hj, rfl⟩ := List.getElem_of_mem hv; exact HSZ.out j hj)).2
        rw [HLN.out] at hlen
        have hsm := encs_small vs (fun v hv => ((HVS.out w2 HB2.out).all v hv).small)
        have hws := HWS.out
        rw [hall] at hws ⊢
        obtain ⟨xs, hxs⟩ : ∃ xs, xs = encs vs := ⟨_, rfl⟩
        rw [← hxs] at hws hlen hsm ⊢
        have HOUT := Lib.hid (out_any _ _ _ _ wr hws.wtr (by omega))
        have HW := Lib.hid hws
        have HSM := Lib.hid hsm
        clear hall hws hxs hsm HWS
        go_wp2_with fail
        refine Calls.mono HOUT.out ?_
        rintro e w10 ⟨_, rfl, A10, c10, rfl, h11, h12, h13⟩
        have HBW10 := Lib.hid (HB.out.trans (h13.mono HB.out.size))
        have hr9 : Rdv w10 Aw xs.length 1 (valsB xs) := by
          obtain ⟨a, b, e, h, _, _⟩ := OwnB.rdv (HW.out.ext h13).own
          injection e with e1 e2 e3
          rw [e1]
          exact h
        have hsame := same_any A10 Aw xs.length c10 xs.length cw xs xs w10 h11 hr9 HSM.out HSM.out
        rw [decide_eq_true rfl] at hsame
        have HSA := Lib.hid hsame
        clear h11 h12 h13 hr9 hsame HOUT
        go_wp2_with fail
        refine Calls.mono HSA.out ?_
        rintro e w11 ⟨rfl, rfl⟩
        go_wp2_with fail
        go_ret
        exact ⟨rfl, HBW10.out⟩
end Go.Proofs.Ytlegaajacmjejaa
