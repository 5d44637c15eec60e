/- RS7, RS8, RS9, RS10, VBeh: put together. -/
import Derived.Test.YtejpjbmbcdgomaaPe30
import Derived.Test.YtejpjbmbcdgomaaPe24
/- num.Writes: the same writes. -/
namespace Go.Proofs.Ytejpjbmbcdgomaa
set_option maxRecDepth 100000
open Go.RowKit

set_option maxHeartbeats 4000000 in
theorem writes_any {w : World} {A A2 : Option Addr} {c c2 : Nat} {ws : List Wr} (h : Wrs w A ws) (h2 : Wrs w A2 ws) (hl : ws.length ≤ 100000) : Calls Try.prog 41 #[.slice A ws.length c, .slice A2 ws.length c2] w fun e w' => e = .returned (.bool true) ∧ Below w.heap.size w w' := by
  have HH := Lib.hid h
  have HH2 := Lib.hid h2
  obtain ⟨n, hn⟩ : ∃ n, n = ws.length := ⟨_, rfl⟩
  have HN := Lib.hid hn
  rw [← hn]
  rw [← hn] at hl
  have HL := Lib.hid hl
  clear h h2 hn hl
  have d0 : ((n : Int) != (n : Int)) = false := by simp
  go_enter Try.func41, Try.ntmps41
  go_wp2_with fail
  clear d0
  go_loopw [5, 13, 14, 15, 16, 17, 18, 19, 20, 21, 22, 23, 24, 25] (fun _ ix _ _ _ _ _ _ _ _ _ _ _ _ wr => ∃ z : Nat, ix = .int .i64 (z : Int) ∧ z ≤ n ∧ Below w.heap.size w wr) (fun _ ix _ _ _ _ _ _ _ _ _ _ _ _ wr => n - (intOf ix).toNat)
  case atStart => exact ⟨0, rfl, Nat.zero_le _, Below.refl _ _⟩
  case round =>
    obtain ⟨z, rfl, hz, hb⟩ := hrel
    have HB := Lib.hid hb
    by_cases hlt : z < n
    · have hzl : z < ws.length := by rw [← HN.out]; exact hlt
      obtain ⟨b, off, rfl, hcl⟩ := Wrs.cell (RowAt.below HH.out hb) (by omega)
      obtain ⟨x0, x1, x2, x3⟩ := hcl z hzl
      obtain ⟨b', off', rfl, hcl'⟩ := Wrs.cell (RowAt.below HH2.out hb) (by omega)
      obtain ⟨y0, y1, y2, y3⟩ := hcl' z hzl
      obtain ⟨x, hx⟩ : ∃ x, x = ws[z] := ⟨_, rfl⟩
      rw [← hx] at x0 x1 x2 x3 y0 y1 y2 y3
      have hnb : n ≤ 100000 := HL.out
      clear hcl hcl' hx hzl hb
      go_wp2_with fail
      go_quiet (fail)
      go_wp2_with fail
      go_roundw
      case rel => exact ⟨z + 1, by go_num, by omega, below_dN HB.out⟩
      case measure => simp [intOf]; omega
    · obtain rfl : z = n := by omega
      go_wp2_with fail
      go_ret
      exact ⟨rfl, HB.out⟩
end Go.Proofs.Ytejpjbmbcdgomaa

/- The document's From, pure: entries from a key on. -/
namespace Go.Proofs.Ytejpjbmbcdgomaa
set_option maxRecDepth 100000
open Go.RowKit

theorem allE_filter (p : En → Bool) (ps : Nat → List Ix) : ∀ (n i : Nat), (allE ps i n).filter p = allE (fun j => (ps j).filter fun x => p ⟨j, x⟩) i n
  | 0, _ => rfl
  | n + 1, i => by
    rw [allE, allE, List.filter_append, allE_filter p ps n (i + 1)]
    congr 1
    unfold tag
    rw [List.filter_map]
    rfl
theorem from_ents {ts : Tb} (h : ∀ i, i < 4 → NumL (ts i)) (t k : Int) : (ents ts).filter (fun e => !lessK (e.t : Int) e.x.k t k) = fromE t k ts := by
  have hi0 : i0F t ≤ 4 := by unfold i0F; omega
  have e4 : allE ts 0 4 = allE ts 0 (i0F t) ++ allE ts (i0F t) (4 - i0F t) := by
    have e : i0F t + (4 - i0F t) = 4 := by omega
    have h9 := allE_add ts (i0F t) 0 (4 - i0F t)
    rw [e, Nat.zero_add] at h9
    exact h9
  unfold ents fromE
  rw [e4, List.filter_append, List.filter_eq_nil_iff.2 fun e he => ?_, List.nil_append, allE_filter]
  · refine allE_congr fun j hj1 hj2 => ?_
    have hj4 : j < 4 := by omega
    have hjt : t ≤ (j : Int) := by unfold i0F at hj1; omega
    unfold partF rng
    refine List.filter_congr fun x hx => ?_
    have hn := h j hj4 x hx
    unfold lessK loI hiI
    by_cases e : (j : Int) = t
    · have a1 : ¬ (j : Int) < t := by omega
      by_cases a2 : x.k < k
      · have a3 : ¬ k ≤ x.k := by omega
        simp [e, a2, a3]
      · have a3 : k ≤ x.k := by omega
        simp [e, a2, a3, hn.2]
    · have a1 : ¬ (j : Int) < t := by omega
      simp [e, a1, hn.1, hn.2]
  · obtain ⟨_, h8, _⟩ := mem_allE he
    have a1 : (e.t : Int) < t := by unfold i0F at h8; omega
    simp [lessK, a1]
end Go.Proofs.Ytejpjbmbcdgomaa

/- The document's Range, pure. -/
namespace Go.Proofs.Ytejpjbmbcdgomaa
set_option maxRecDepth 100000
open Go.RowKit

theorem rangeE_out {ts : Tb} {t lo hi : Int} (h : ¬ InT t) : rangeE t lo hi (ents ts) = [] := by
  unfold rangeE
  rw [List.filter_eq_nil_iff]
  intro e he
  obtain ⟨_, h8, _⟩ := mem_allE he
  have : (e.t : Int) ≠ t := fun e9 => h (by unfold InT; omega)
  simp [inE, this]
theorem allE_only {ps : Nat → List Ix} {i : Nat} : ∀ (n a : Nat), a ≤ i → i < a + n → (∀ j, j ≠ i → ps j = []) → allE ps a n = tag i (ps i)
  | 0, _, h1, h2, _ => by omega
  | n + 1, a, h1, h2, h => by
    rw [allE]
    by_cases e : a = i
    · subst e
      have : allE ps (a + 1) n = [] := by
        have h9 : allE ps (a + 1) n = allE (fun _ => []) (a + 1) n := allE_congr fun j hj _ => h j (by omega)
        rw [h9]
        clear h9 h h1 h2
        induction n generalizing a with
        | zero => rfl
        | succ n ih => rw [allE, ih (a + 1)]; rfl
      rw [this, List.append_nil]
    · rw [h a e, allE_only n (a + 1) (by omega) (by omega) h]
      rfl
theorem rangeE_ents {ts : Tb} {i : Nat} (hi : i < 4) (lo hi' : Int) : rangeE (i : Int) lo hi' (ents ts) = tag i ((rng lo hi' (ts i)).filter fun x => !x.c.dead) := by
  unfold rangeE ents
  rw [allE_filter, allE_only (i := i) 4 0 (by omega) (by omega) fun j hj => ?_]
  · congr 1
    unfold rng
    rw [List.filter_filter]
    refine List.filter_congr fun x _ => ?_
    unfold inE
    cases x.c.dead <;> simp
  · rw [List.filter_eq_nil_iff]
    intro x _
    have : ((j : Nat) : Int) ≠ (i : Int) := by omega
    simp [inE, this]
end Go.Proofs.Ytejpjbmbcdgomaa

/- The document's store: From. Written by gen_rs10.py. -/
namespace Go.Proofs.Ytejpjbmbcdgomaa
set_option maxRecDepth 100000
open Go.RowKit

def keepE (t k : Int) (e : En) : Bool := !lessK (e.t : Int) e.x.k t k && !e.x.c.dead
def takeE (t k n : Int) (l : List En) : List En := (l.filter (keepE t k)).take n.toNat
set_option maxHeartbeats 16000000 in
theorem r9from_any {w : World} {A : Option Addr} {c : Nat} {l : List En} {last : Int} (h : Ens w A l) (hl : l.length ≤ 100000) (t k m : Int) : Calls Try.prog 19 #[.agg #[.slice A l.length c, .int .i64 last], .agg #[.int .i64 t, .int .i64 k], .int .i64 m] w fun e w' => ∃ v, e = .returned v ∧ Eno w' w.heap.size v (takeE t k m l) ∧ Below w.heap.size w w' := by
  obtain ⟨n, hn⟩ : ∃ n, n = l.length := ⟨_, rfl⟩
  obtain ⟨W1, hW1⟩ : ∃ W1, W1 = ((w.alloc (.cells #[.slice A n c, .int .i64 last] 31)).alloc (.cells #[.int .i64 t, .int .i64 k] 42)) := ⟨_, rfl⟩
  have h3 := blocks2 w (.cells #[.slice A n c, .int .i64 last] 31) (.cells #[.int .i64 t, .int .i64 k] 42)
  rw [← hW1] at h3
  have HW := Lib.hid hW1
  obtain ⟨p0, hp0⟩ : ∃ p0, p0 = w.heap.size := ⟨_, rfl⟩
  obtain ⟨p1, hp1⟩ : ∃ p1, p1 = p0 + 1 := ⟨_, rfl⟩
  rw [← hp0, ← hp1] at h3
  have HP := Lib.hid (And.intro hp0 hp1)
  have hbw : Below w.heap.size w W1 := by rw [hp0] at h3; exact h3.2.2.2
  have HBW := Lib.hid (And.intro hbw (RowAt.below h hbw))
  have HC : Hid (∀ wr, Below W1.heap.size W1 wr → wr.cell? ⟨p0, 0, none⟩ = some (.slice A n c) ∧ wr.cell? ⟨p1, 0, none⟩ = some (.int .i64 t) ∧ wr.cell? ⟨p1, 1, none⟩ = some (.int .i64 k)) := Lib.hid fun wr hb => by
    have e0 := (hb.block p0 (Array.getElem?_eq_some_iff.1 h3.1).1).trans h3.1
    have e1 := (hb.block p1 (Array.getElem?_eq_some_iff.1 h3.2.1).1).trans h3.2.1
    exact ⟨by rw [cell_of_row _ _ 0 _ _ _ e0]; rfl, by rw [cell_of_row _ _ 0 _ _ _ e1]; rfl, by rw [cell_of_row _ _ 1 _ _ _ e1]; rfl⟩
  obtain ⟨RES, hres⟩ : ∃ RES, RES = takeE t k m l := ⟨_, rfl⟩
  obtain ⟨N, hN⟩ : ∃ N, N = m.toNat := ⟨_, rfl⟩
  have HG : Hid (([] : List En) ++ ((l.drop 0).filter (keepE t k)).take (N - 0) = RES) := Lib.hid (by rw [hres, hN]; rfl)
  have HNN := Lib.hid hN
  rw [← hres, ← hn]
  have HN := Lib.hid (And.intro hn hl)
  clear hW1 h3 hp0 hp1 hbw hres hn h hl hN
  go_enter Try.func19, Try.ntmps19
  go_upto_region 1 with fail
  rw [← HW.out, ← HP.out.1, ← HP.out.2]
  go_wp2_with fail
  go_loopw [7, 8, 9, 10, 11, 12, 13, 14, 15, 16, 17, 18, 19, 20, 21, 22, 23, 24, 25, 26, 27, 28, 29, 30, 31, 32, 33, 34, 35, 36, 37, 38, 39, 40, 41, 42, 43, 44, 45, 46, 47, 48] (fun lv ix _ _ _ _ _ _ _ _ _ _ _ _ _ _ _ _ _ _ _ _ _ _ _ _ _ _ _ _ _ _ _ _ _ _ _ _ _ _ _ _ wr => ∃ (z : Nat) (O : List En), ix = .int .i64 (z : Int) ∧ z ≤ n ∧ O ++ ((l.drop z).filter (keepE t k)).take (N - O.length) = RES ∧ O.length ≤ N ∧ O.length ≤ z ∧ Eno wr W1.heap.size lv O ∧ Below W1.heap.size W1 wr) (fun lv ix _ _ _ _ _ _ _ _ _ _ _ _ _ _ _ _ _ _ _ _ _ _ _ _ _ _ _ _ _ _ _ _ _ _ _ _ _ _ _ _ wr => n - (intOf ix).toNat)
  case atStart => exact ⟨0, [], rfl, Nat.zero_le _, HG.out, Nat.zero_le _, Nat.zero_le _, World.ownsRow_nil _ _ _ _, Below.refl _ _⟩
  case round =>
    obtain ⟨z, O, rfl, hz, he, hO, hO2, ho, hb⟩ := hrel
    obtain ⟨A9, c9, rfl⟩ := own_form ho
    have HE := Lib.hid (And.intro he (And.intro hO hO2))
    have HO := Lib.hid (And.intro ho hb)
    obtain ⟨s0, k0, k1⟩ := HC.out wr hb
    obtain ⟨n9, hn9⟩ : ∃ n9, n9 = O.length := ⟨_, rfl⟩
    have HN9 := Lib.hid hn9
    rw [← hn9]
    clear he hO hO2 hn9
    by_cases hlt : z < n
    · by_cases hm : (n9 : Int) < m
      · have hzl : z < l.length := by rw [← HN.out.1]; exact hlt
        obtain ⟨b, off, rfl, hcl⟩ := Ens.cell (RowAt.below HBW.out.2 hb) (by omega)
        have hx := hcl z hzl
        obtain ⟨e, hx0⟩ : ∃ e, e = l[z] := ⟨_, rfl⟩
        have hda : l.drop z = e :: l.drop (z + 1) := drop_at (by rw [hx0]; exact List.getElem?_eq_getElem hzl)
        rw [← hx0] at hx
        have HDA := Lib.hid hda
        have hnb : n ≤ 100000 := by rw [HN.out.1]; exact HN.out.2
        have HNB : Hid (n9 ≤ 100000) := Lib.hid (by rw [HN9.out]; have := HE.out.2.2; omega)
        have HLT : Hid (O.length < N) := Lib.hid (by rw [HNN.out, ← HN9.out]; omega)
        obtain ⟨vd, hvd⟩ : ∃ vd, vd = e.x.c.dead := ⟨_, rfl⟩
        have HVD := Lib.hid hvd
        rw [← hvd] at hx
        have HCE : Hid (∀ W2, Below wr.drew.heap.size wr.drew W2 → W2.cell? ⟨p0, 0, none⟩ = some (.slice (some ⟨b, off, none⟩) n c) ∧ W2.cell? ⟨p1, 0, none⟩ = some (.int .i64 t) ∧ W2.cell? ⟨p1, 1, none⟩ = some (.int .i64 k) ∧ W2.cell? ⟨b, off + z * 5, none⟩ = some (.int .i64 (e.t : Int)) ∧ W2.cell? ⟨b, off + z * 5 + 1, none⟩ = some (.int .i64 e.x.k) ∧ W2.cell? ⟨b, off + z * 5 + 2, none⟩ = some (.int .i64 e.x.c.v) ∧ W2.cell? ⟨b, off + z * 5 + 3, none⟩ = some (.int .i64 e.x.c.s) ∧ W2.cell? ⟨b, off + z * 5 + 4, none⟩ = some (.bool vd)) := Lib.hid fun W2 hw => by
          have hw3 : Below wr.heap.size wr W2 := (Below.refl _ _).drew.trans hw
          obtain ⟨a1, a2, a3⟩ := HC.out W2 (hb.trans (hw3.mono hb.size))
          obtain ⟨y0, y1, y2, y3, y4⟩ := hx
          exact ⟨a1, a2, a3, (hw3.cell (World.block_lt_of_cell? _ _ y0)).trans y0, (hw3.cell (World.block_lt_of_cell? _ _ y1)).trans y1, (hw3.cell (World.block_lt_of_cell? _ _ y2)).trans y2, (hw3.cell (World.block_lt_of_cell? _ _ y3)).trans y3, (hw3.cell (World.block_lt_of_cell? _ _ y4)).trans y4⟩
        obtain ⟨ls, hls⟩ : ∃ ls, ls = lessK (e.t : Int) e.x.k t k := ⟨_, rfl⟩
        have HLS := Lib.hid (fun (W2 : World) => refLess_any W2 (e.t : Int) e.x.k t k)
        rw [← hls] at HLS
        have HKE : Hid (keepE t k e = (!ls && !vd)) := Lib.hid (by unfold keepE; rw [← hls, ← hvd])
        clear hcl hx hx0 hzl hda hvd hls ho hb
        cases ls with
        | true =>
          have HI : Hid (keepE t k e = false) := Lib.hid (by rw [HKE.out]; rfl)
          go_upto_region 5 with fail
          clear s0 k0 k1
          refine wp_region_noPanic ?_
          refine wp_region_abs 18 50 [
            .is (.pointer (some ⟨p0, 0, none⟩)),
            .is (.slice (some ⟨b, off, none⟩) n c),
            .is (.int .i64 (z : Int)),
            .is (.pointer (some ⟨b, off + z * 5, none⟩)),
            .is (.pointer (some ⟨b, off + z * 5, none⟩)),
            .is (.agg #[.int .i64 (e.t : Int), .int .i64 e.x.k]),
            .is (.agg #[.int .i64 t, .int .i64 k]),
            .is (.bool true),
            .is (.bool false),
            .is (.bool false),
            .is undef,
            .is undef,
            .is undef,
            .is undef,
            .is undef,
            .is undef,
            .is undef,
            .is undef]
            [22, 23, 24, 25, 26, 27, 28, 29, 30, 31, 32, 33, 34, 35, 36, 37, 38, 39]
            [[], [0], [], [1, 2], [3], [4], [], [5, 6], [7], [8], [9], [10, 9], [9], [11, 12, 9], [13, 9], [14, 9], [15, 9], [16, 9]] (by kernel_rfl) (by rfl) rfl rfl (by kernel_rfl) (fun _ _ _ _ h => h.elim) ?_ ?_
          · refine ⟨?_, ?_, ?_, ?_, ?_, ?_, ?_, ?_, ?_, ?_, ?_, ?_, ?_, ?_, ?_, ?_, ?_, ?_, trivial⟩
            · intro W2 hw K hK
              go_simp
              exact hK _ _ rfl (Below.refl _ _)
            · intro W2 hw K hK
              obtain ⟨s0, k0, k1, x0, x1, x2, x3, x4⟩ := HCE.out W2 hw
              go_simp
              exact hK _ _ rfl (Below.refl _ _)
            · intro W2 hw K hK
              go_simp
              exact hK _ _ rfl (Below.refl _ _)
            · intro W2 hw K hK
              obtain ⟨s0, k0, k1, x0, x1, x2, x3, x4⟩ := HCE.out W2 hw
              go_simp
              exact hK _ _ rfl (Below.refl _ _)
            · intro W2 hw K hK
              go_simp
              exact hK _ _ rfl (Below.refl _ _)
            · intro W2 hw K hK
              obtain ⟨s0, k0, k1, x0, x1, x2, x3, x4⟩ := HCE.out W2 hw
              go_simp
              exact hK _ _ rfl (Below.refl _ _)
            · intro W2 hw K hK
              obtain ⟨s0, k0, k1, x0, x1, x2, x3, x4⟩ := HCE.out W2 hw
              go_simp
              exact hK _ _ rfl (Below.refl _ _)
            · intro W2 hw K hK
              go_simp
              refine Calls.mono (HLS.out W2) ?_
              rintro e9 w9 ⟨rfl, hb9⟩
              exact hK _ _ rfl hb9
            · intro W2 hw K hK
              go_simp
              exact hK _ _ rfl (Below.refl _ _)
            · intro W2 hw K hK
              go_simp
              exact hK _ _ rfl (Below.refl _ _)
            · intro W2 hw K hK
              go_simp
              exact hK _ _ rfl (Below.refl _ _)
            · intro W2 hw K hK
              obtain ⟨s0, k0, k1, x0, x1, x2, x3, x4⟩ := HCE.out W2 hw
              go_simp
              exact hK _ _ rfl (Below.refl _ _)
            · intro W2 hw K hK
              go_simp
              exact hK _ _ rfl (Below.refl _ _)
            · intro W2 hw K hK
              obtain ⟨s0, k0, k1, x0, x1, x2, x3, x4⟩ := HCE.out W2 hw
              go_simp
              exact hK _ _ rfl (Below.refl _ _)
            · intro W2 hw K hK
              go_simp
              exact hK _ _ rfl (Below.refl _ _)
            · intro W2 hw K hK
              go_simp
              exact hK _ _ rfl (Below.refl _ _)
            · intro W2 hw K hK
              obtain ⟨s0, k0, k1, x0, x1, x2, x3, x4⟩ := HCE.out W2 hw
              go_simp
              exact hK _ _ rfl (Below.refl _ _)
            · intro W2 hw K hK
              go_simp
              exact hK _ _ rfl (Below.refl _ _)
          · intro W2 hw2
            simp only [Behind]
            have HB6 := Lib.hid ((Below.refl _ wr).drew.trans hw2)
            have HB6d := Lib.hid hw2
            clear hw2
            simp only [List.drop, Act.put, List.setIfInBounds_toArray, List.set_cons_zero, List.set_cons_succ]
            go_wp2_with fail
            refine NoPanic.normal ?_
            go_wp2_with fail
            go_roundw
            case rel => exact ⟨z + 1, O, by go_num, by omega, by rw [← HE.out.1, HDA.out, List.filter_cons_of_neg (by rw [HI.out]; decide)], HE.out.2.1, by have := HE.out.2.2; omega, by have h9 := Eno.below HO.out.1 HB6.out; rw [← HN9.out] at h9; exact h9, HO.out.2.trans (HB6.out.mono HO.out.2.size)⟩
            case measure => simp [intOf]; omega
        | false =>
          cases vd with
          | true =>
            have HI : Hid (keepE t k e = false) := Lib.hid (by rw [HKE.out]; rfl)
            go_upto_region 5 with fail
            clear s0 k0 k1
            refine wp_region_noPanic ?_
            refine wp_region_abs 18 50 [
              .is (.pointer (some ⟨p0, 0, none⟩)),
              .is (.slice (some ⟨b, off, none⟩) n c),
              .is (.int .i64 (z : Int)),
              .is (.pointer (some ⟨b, off + z * 5, none⟩)),
              .is (.pointer (some ⟨b, off + z * 5, none⟩)),
              .is (.agg #[.int .i64 (e.t : Int), .int .i64 e.x.k]),
              .is (.agg #[.int .i64 t, .int .i64 k]),
              .is (.bool false),
              .is (.bool true),
              .is (.bool true),
              .is (.pointer (some ⟨p0, 0, none⟩)),
              .is (.slice (some ⟨b, off, none⟩) n c),
              .is (.int .i64 (z : Int)),
              .is (.pointer (some ⟨b, off + z * 5, none⟩)),
              .is (.pointer (some ⟨b, off + z * 5 + 2, none⟩)),
              .is (.pointer (some ⟨b, off + z * 5 + 4, none⟩)),
              .is (.bool true),
              .is (.bool false)]
              [22, 23, 24, 25, 26, 27, 28, 29, 30, 31, 32, 33, 34, 35, 36, 37, 38, 39]
              [[], [0], [], [1, 2], [3], [4], [], [5, 6], [7], [8], [9], [10, 9], [9], [11, 12, 9], [13, 9], [14, 9], [15, 9], [16, 9]] (by kernel_rfl) (by rfl) rfl rfl (by kernel_rfl) (fun _ _ _ _ h => h.elim) ?_ ?_
            · refine ⟨?_, ?_, ?_, ?_, ?_, ?_, ?_, ?_, ?_, ?_, ?_, ?_, ?_, ?_, ?_, ?_, ?_, ?_, trivial⟩
              · intro W2 hw K hK
                go_simp
                exact hK _ _ rfl (Below.refl _ _)
              · intro W2 hw K hK
                obtain ⟨s0, k0, k1, x0, x1, x2, x3, x4⟩ := HCE.out W2 hw
                go_simp
                exact hK _ _ rfl (Below.refl _ _)
              · intro W2 hw K hK
                go_simp
                exact hK _ _ rfl (Below.refl _ _)
              · intro W2 hw K hK
                obtain ⟨s0, k0, k1, x0, x1, x2, x3, x4⟩ := HCE.out W2 hw
                go_simp
                exact hK _ _ rfl (Below.refl _ _)
              · intro W2 hw K hK
                go_simp
                exact hK _ _ rfl (Below.refl _ _)
              · intro W2 hw K hK
                obtain ⟨s0, k0, k1, x0, x1, x2, x3, x4⟩ := HCE.out W2 hw
                go_simp
                exact hK _ _ rfl (Below.refl _ _)
              · intro W2 hw K hK
                obtain ⟨s0, k0, k1, x0, x1, x2, x3, x4⟩ := HCE.out W2 hw
                go_simp
                exact hK _ _ rfl (Below.refl _ _)
              · intro W2 hw K hK
                go_simp
                refine Calls.mono (HLS.out W2) ?_
                rintro e9 w9 ⟨rfl, hb9⟩
                exact hK _ _ rfl hb9
              · intro W2 hw K hK
                go_simp
                exact hK _ _ rfl (Below.refl _ _)
              · intro W2 hw K hK
                go_simp
                exact hK _ _ rfl (Below.refl _ _)
              · intro W2 hw K hK
                go_simp
                exact hK _ _ rfl (Below.refl _ _)
              · intro W2 hw K hK
                obtain ⟨s0, k0, k1, x0, x1, x2, x3, x4⟩ := HCE.out W2 hw
                go_simp
                exact hK _ _ rfl (Below.refl _ _)
              · intro W2 hw K hK
                go_simp
                exact hK _ _ rfl (Below.refl _ _)
              · intro W2 hw K hK
                obtain ⟨s0, k0, k1, x0, x1, x2, x3, x4⟩ := HCE.out W2 hw
                go_simp
                exact hK _ _ rfl (Below.refl _ _)
              · intro W2 hw K hK
                go_simp
                exact hK _ _ rfl (Below.refl _ _)
              · intro W2 hw K hK
                go_simp
                exact hK _ _ rfl (Below.refl _ _)
              · intro W2 hw K hK
                obtain ⟨s0, k0, k1, x0, x1, x2, x3, x4⟩ := HCE.out W2 hw
                go_simp
                exact hK _ _ rfl (Below.refl _ _)
              · intro W2 hw K hK
                go_simp
                exact hK _ _ rfl (Below.refl _ _)
            · intro W2 hw2
              simp only [Behind]
              have HB6 := Lib.hid ((Below.refl _ wr).drew.trans hw2)
              have HB6d := Lib.hid hw2
              clear hw2
              simp only [List.drop, Act.put, List.setIfInBounds_toArray, List.set_cons_zero, List.set_cons_succ]
              go_wp2_with fail
              refine NoPanic.normal ?_
              go_wp2_with fail
              go_roundw
              case rel => exact ⟨z + 1, O, by go_num, by omega, by rw [← HE.out.1, HDA.out, List.filter_cons_of_neg (by rw [HI.out]; decide)], HE.out.2.1, by have := HE.out.2.2; omega, by have h9 := Eno.below HO.out.1 HB6.out; rw [← HN9.out] at h9; exact h9, HO.out.2.trans (HB6.out.mono HO.out.2.size)⟩
              case measure => simp [intOf]; omega
          | false =>
            have HI : Hid (keepE t k e = true) := Lib.hid (by rw [HKE.out]; rfl)
            go_upto_region 5 with fail
            clear s0 k0 k1
            refine wp_region_noPanic ?_
            refine wp_region_abs 18 50 [
              .is (.pointer (some ⟨p0, 0, none⟩)),
              .is (.slice (some ⟨b, off, none⟩) n c),
              .is (.int .i64 (z : Int)),
              .is (.pointer (some ⟨b, off + z * 5, none⟩)),
              .is (.pointer (some ⟨b, off + z * 5, none⟩)),
              .is (.agg #[.int .i64 (e.t : Int), .int .i64 e.x.k]),
              .is (.agg #[.int .i64 t, .int .i64 k]),
              .is (.bool false),
              .is (.bool true),
              .is (.bool true),
              .is (.pointer (some ⟨p0, 0, none⟩)),
              .is (.slice (some ⟨b, off, none⟩) n c),
              .is (.int .i64 (z : Int)),
              .is (.pointer (some ⟨b, off + z * 5, none⟩)),
              .is (.pointer (some ⟨b, off + z * 5 + 2, none⟩)),
              .is (.pointer (some ⟨b, off + z * 5 + 4, none⟩)),
              .is (.bool false),
              .is (.bool true)]
              [22, 23, 24, 25, 26, 27, 28, 29, 30, 31, 32, 33, 34, 35, 36, 37, 38, 39]
              [[], [0], [], [1, 2], [3], [4], [], [5, 6], [7], [8], [9], [10, 9], [9], [11, 12, 9], [13, 9], [14, 9], [15, 9], [16, 9]] (by kernel_rfl) (by rfl) rfl rfl (by kernel_rfl) (fun _ _ _ _ h => h.elim) ?_ ?_
            · refine ⟨?_, ?_, ?_, ?_, ?_, ?_, ?_, ?_, ?_, ?_, ?_, ?_, ?_, ?_, ?_, ?_, ?_, ?_, trivial⟩
              · intro W2 hw K hK
                go_simp
                exact hK _ _ rfl (Below.refl _ _)
              · intro W2 hw K hK
                obtain ⟨s0, k0, k1, x0, x1, x2, x3, x4⟩ := HCE.out W2 hw
                go_simp
                exact hK _ _ rfl (Below.refl _ _)
              · intro W2 hw K hK
                go_simp
                exact hK _ _ rfl (Below.refl _ _)
              · intro W2 hw K hK
                obtain ⟨s0, k0, k1, x0, x1, x2, x3, x4⟩ := HCE.out W2 hw
                go_simp
                exact hK _ _ rfl (Below.refl _ _)
              · intro W2 hw K hK
                go_simp
                exact hK _ _ rfl (Below.refl _ _)
              · intro W2 hw K hK
                obtain ⟨s0, k0, k1, x0, x1, x2, x3, x4⟩ := HCE.out W2 hw
                go_simp
                exact hK _ _ rfl (Below.refl _ _)
              · intro W2 hw K hK
                obtain ⟨s0, k0, k1, x0, x1, x2, x3, x4⟩ := HCE.out W2 hw
                go_simp
                exact hK _ _ rfl (Below.refl _ _)
              · intro W2 hw K hK
                go_simp
                refine Calls.mono (HLS.out W2) ?_
                rintro e9 w9 ⟨rfl, hb9⟩
                exact hK _ _ rfl hb9
              · intro W2 hw K hK
                go_simp
                exact hK _ _ rfl (Below.refl _ _)
              · intro W2 hw K hK
                go_simp
                exact hK _ _ rfl (Below.refl _ _)
              · intro W2 hw K hK
                go_simp
                exact hK _ _ rfl (Below.refl _ _)
              · intro W2 hw K hK
                obtain ⟨s0, k0, k1, x0, x1, x2, x3, x4⟩ := HCE.out W2 hw
                go_simp
                exact hK _ _ rfl (Below.refl _ _)
              · intro W2 hw K hK
                go_simp
                exact hK _ _ rfl (Below.refl _ _)
              · intro W2 hw K hK
                obtain ⟨s0, k0, k1, x0, x1, x2, x3, x4⟩ := HCE.out W2 hw
                go_simp
                exact hK _ _ rfl (Below.refl _ _)
              · intro W2 hw K hK
                go_simp
                exact hK _ _ rfl (Below.refl _ _)
              · intro W2 hw K hK
                go_simp
                exact hK _ _ rfl (Below.refl _ _)
              · intro W2 hw K hK
                obtain ⟨s0, k0, k1, x0, x1, x2, x3, x4⟩ := HCE.out W2 hw
                go_simp
                exact hK _ _ rfl (Below.refl _ _)
              · intro W2 hw K hK
                go_simp
                exact hK _ _ rfl (Below.refl _ _)
            · intro W2 hw2
              simp only [Behind]
              have HB6 := Lib.hid ((Below.refl _ wr).drew.trans hw2)
              have HB6d := Lib.hid hw2
              clear hw2
              simp only [List.drop, Act.put, List.setIfInBounds_toArray, List.set_cons_zero, List.set_cons_succ]
              go_wp2_with fail
              refine NoPanic.normal ?_
              have HX6 := Lib.hid (HCE.out W2 HB6d.out)
              obtain ⟨s0, k0, k1, x0, x1, x2, x3, x4⟩ := HX6.out
              have HOW : Hid (∀ o, (W2.alloc o).ownsRow W1.heap.size 46 5 (.slice A9 n9 c9) n9 (rowV En.vals O)) := Lib.hid fun o => by have h9 := (HO.out.1.below HB6.out).below ((Below.refl _ W2).alloc (Nat.le_refl _) o); unfold Eno at h9; rw [← HN9.out] at h9; exact h9
              have HB7 := Lib.hid (HO.out.2.trans (HB6.out.mono HO.out.2.size))
              have HBB : Hid (∀ o, W1.heap.size ≤ (W2.alloc o).heap.size) := Lib.hid fun o => Nat.le_trans HB7.out.size ((Below.refl _ W2).alloc (Nat.le_refl _) o).size
              have HRV : Hid (∀ T, Rdv (W2.alloc (.cells #[.int .i64 (e.t : Int), .int .i64 e.x.k, .int .i64 e.x.c.v, .int .i64 e.x.c.s, .bool false] T)) (some ⟨W2.heap.size, 0, none⟩) 1 5 e.vals) := Lib.hid fun T => by have h9 := rdv_freshE W2 e T; rw [← HVD.out] at h9; exact h9
              go_wp2_with (at_builtin; refine wpList_append_rowg elemEn rfl (.tmp 41) (.tmp 47) rfl W1.heap.size (.slice A9 n9 c9) n9 (rowV En.vals O) rfl (HOW.out _) (some ⟨W2.heap.size, 0, none⟩) 1 1 (En.vals e) rfl (HRV.out _) (en1 _) (fun h => by cases h) (by have := HNB.out; unfold maxLen; omega) (by have := HNB.out; omega) (HBB.out _) ?_; intro v' w' ho hg hq; obtain ⟨A8, c8, rfl⟩ := own_form ho; have HO8 := Lib.hid ho; have HB8 := Lib.hid (below_appW HB7.out (HO.out.1.below HB6.out) (by rw [← HN9.out]; exact hg)); clear ho hg hq)
              go_roundw
              case rel =>
                refine ⟨z + 1, O ++ [e], by go_num, by omega, ?_, ?_, ?_, ?_, HB8.out⟩
                · rw [← HE.out.1, HDA.out, List.filter_cons_of_pos HI.out]
                  obtain ⟨y, hy⟩ : ∃ y, N - O.length = y + 1 := ⟨N - O.length - 1, by have := HLT.out; omega⟩
                  have hy2 : N - (O ++ [e]).length = y := by simp; omega
                  rw [hy, hy2, List.take_succ_cons]
                  simp
                · have := HLT.out; simp; omega
                · have := HE.out.2.2; simp; omega
                · show World.ownsRow _ _ _ _ _ (O ++ [e]).length _
                  rw [List.length_append, ← HN9.out, rowV_append]
                  simpa [rowV] using HO8.out
              case measure => simp [intOf]; omega
      · have HRR : Hid (O = RES) := Lib.hid (by
          have h9 := HE.out.1
          have h8 : N - O.length = 0 := by rw [HNN.out, ← HN9.out]; omega
          rw [h8] at h9
          simpa using h9)
        clear ho hb
        go_wp2_with fail
        go_ret
        refine ⟨_, rfl, ?_, HBW.out.1.trans (HO.out.2.mono HBW.out.1.size)⟩
        rw [← HRR.out]
        have h9 := HO.out.1
        unfold Eno at h9
        rw [← HN9.out] at h9
        unfold Eno
        rw [← HN9.out]
        exact own_down h9 HBW.out.1.size
    · obtain rfl : z = n := by omega
      have HRR : Hid (O = RES) := Lib.hid (by
        have h9 := HE.out.1
        rw [List.drop_of_length_le (by rw [← HN.out.1]; exact Nat.le_refl _)] at h9
        simpa using h9)
      clear ho hb
      go_wp2_with fail
      go_ret
      refine ⟨_, rfl, ?_, HBW.out.1.trans (HO.out.2.mono HBW.out.1.size)⟩
      rw [← HRR.out]
      have h9 := HO.out.1
      unfold Eno at h9
      rw [← HN9.out] at h9
      unfold Eno
      rw [← HN9.out]
      exact own_down h9 HBW.out.1.size
end Go.Proofs.Ytejpjbmbcdgomaa

/- The key behind another one. -/
namespace Go.Proofs.Ytejpjbmbcdgomaa
set_option maxRecDepth 100000
open Go.RowKit

/-- The key behind another one. -/
def bhT (t k : Int) : Int := if k = 9223372036854775807 then t + 1 else t
def bhK (k : Int) : Int := if k = 9223372036854775807 then -9223372036854775808 else k + 1
theorem behind_any (w : World) (t k : Int) (ht : 0 ≤ t ∧ t ≤ 4) (hk : Fits k) : Calls Try.prog 106 #[.agg #[.int .i64 t, .int .i64 k]] w fun e w' => e = .returned (.agg #[.int .i64 (bhT t k), .int .i64 (bhK k)]) ∧ Below w.heap.size w w' := by
  obtain ⟨p1, hp1⟩ : ∃ p1, p1 = w.heap.size := ⟨_, rfl⟩
  obtain ⟨p2, hp2⟩ : ∃ p2, p2 = p1 + 1 := ⟨_, rfl⟩
  obtain ⟨W1, hW1⟩ : ∃ W1, W1 = (w.alloc (.cells #[.int .i64 t, .int .i64 k] 42)).alloc (.cells #[.int .i64 0, .int .i64 0] 42) := ⟨_, rfl⟩
  have h3 := blocks2 w (.cells #[.int .i64 t, .int .i64 k] 42) (.cells #[.int .i64 0, .int .i64 0] 42)
  rw [← hW1, ← hp1, ← hp2] at h3
  obtain ⟨g1, g2, gs, gb⟩ := h3
  rw [hp1] at gb
  have x0 : W1.cell? ⟨p1, 0, none⟩ = some (.int .i64 t) := by rw [cell_of_row _ _ 0 _ _ _ g1]; rfl
  have x1 : W1.cell? ⟨p1, 1, none⟩ = some (.int .i64 k) := by rw [cell_of_row _ _ 1 _ _ _ g1]; rfl
  have y0 : W1.cell? ⟨p2, 0, none⟩ = some (.int .i64 0) := by rw [cell_of_row _ _ 0 _ _ _ g2]; rfl
  have y1 : W1.cell? ⟨p2, 1, none⟩ = some (.int .i64 0) := by rw [cell_of_row _ _ 1 _ _ _ g2]; rfl
  have yf := frozen_of g2
  have hlo : w.heap.size ≤ p2 := by omega
  have HFI : Hid (∀ a b, ((W1.setCell ⟨p2, 0, none⟩ a).setCell ⟨p2, 1, none⟩ b).cell? ⟨p2, 0, none⟩ = some a ∧ ((W1.setCell ⟨p2, 0, none⟩ a).setCell ⟨p2, 1, none⟩ b).cell? ⟨p2, 1, none⟩ = some b ∧ Below w.heap.size w ((W1.setCell ⟨p2, 0, none⟩ a).setCell ⟨p2, 1, none⟩ b)) := Lib.hid fun a b => by
    have k1 := heap_set W1 p2 0 a g2
    have k2 := heap_set _ p2 1 b k1
    exact ⟨by rw [cell_of_row _ _ 0 _ _ _ k2]; rfl, by rw [cell_of_row _ _ 1 _ _ _ k2]; rfl, (gb.setCell (p := ⟨p2, 0, none⟩) hlo _).setCell (p := ⟨p2, 1, none⟩) hlo _⟩
  have HW := Lib.hid (And.intro hW1 (And.intro hp1 hp2))
  clear hW1 hp1 hp2 g1 g2 gs gb hlo
  unfold bhT bhK
  unfold Fits at hk
  by_cases hm : k = 9223372036854775807
  · subst hm
    rw [if_pos rfl, if_pos rfl]
    go_enter Try.func106, Try.ntmps106
    go_upto_region 1 with fail
    rw [← HW.out.1, ← HW.out.2.1, ← HW.out.2.2]
    go_wp2_with fail
    exact bodyPost_ret (v := .agg #[.int .i64 (t + 1), .int .i64 (-9223372036854775808)]) (by simp [results, Try.results106, go_sem, (HFI.out _ _).1, (HFI.out _ _).2.1]) rfl ⟨rfl, (HFI.out _ _).2.2⟩
  · have d1 : (k == 9223372036854775807) = false := by simpa using hm
    rw [if_neg hm, if_neg hm]
    go_enter Try.func106, Try.ntmps106
    go_upto_region 1 with fail
    rw [← HW.out.1, ← HW.out.2.1, ← HW.out.2.2]
    go_wp2_with fail
    exact bodyPost_ret (v := .agg #[.int .i64 t, .int .i64 (k + 1)]) (by simp [results, Try.results106, go_sem, (HFI.out _ _).1, (HFI.out _ _).2.1]) rfl ⟨rfl, (HFI.out _ _).2.2⟩
end Go.Proofs.Ytejpjbmbcdgomaa
