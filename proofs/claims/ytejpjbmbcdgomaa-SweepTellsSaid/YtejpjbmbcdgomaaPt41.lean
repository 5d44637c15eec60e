/- VBef, VStepD: put together. -/
import Derived.Test.YtejpjbmbcdgomaaPt40
import Derived.Test.YtejpjbmbcdgomaaPt31
/- A sweep is told of writes. Written by gen_vbef.py. -/
namespace Go.Proofs.Ytejpjbmbcdgomaa
set_option maxRecDepth 100000
open Go.RowKit

theorem Touch.refl (w : World) (g : Nat) (r : Option Nat) : Touch w w g r := ⟨rfl, rfl, rfl, Nat.le_refl _, fun _ _ _ _ => rfl⟩
theorem Touch.trans {w w1 w2 : World} {g : Nat} {r r1 : Option Nat} (h : Touch w w1 g r) (h2 : Touch w1 w2 g r1) (hr : ∀ q, r1 = some q → r = some q ∨ w.heap.size ≤ q) : Touch w w2 g r :=
  ⟨h2.os.trans h.os, h2.tape.trans h.tape, h2.output.trans h.output, Nat.le_trans h.size h2.size, fun k hk h3 h4 => (h2.block k (Nat.lt_of_lt_of_le hk h.size) h3 fun e => by
    rcases hr k e with e | e
    · exact h4 e
    · omega).trans (h.block k hk h3 h4)⟩
/-- What Cell answers as long as certain blocks stand. -/
structure CelI (w : World) (so : Option Addr) (G : Nat → Prop) (cel : Int → Int → Option Cl) : Prop where
  lt : ∀ q, G q → q < w.heap.size
  ans : ∀ W, (∀ q, G q → W.heap[q]? = w.heap[q]?) → ∀ t k, Calls Try.prog 68 #[.pointer so, .agg #[.int .i64 t, .int .i64 k]] W fun e w' => e = .returned (ansC (cel t k)) ∧ Below W.heap.size W w'
theorem CelI.keep {w w1 : World} {so : Option Addr} {G : Nat → Prop} {cel : Int → Int → Option Cl} (h : CelI w so G cel) (hs : w.heap.size ≤ w1.heap.size) (hk : ∀ q, G q → w1.heap[q]? = w.heap[q]?) : CelI w1 so G cel :=
  ⟨fun q e => Nat.lt_of_lt_of_le (h.lt q e) hs, fun W hW => h.ans W fun q e => (hW q e).trans (hk q e)⟩
theorem CelI.below {w w1 : World} {so : Option Addr} {G : Nat → Prop} {cel : Int → Int → Option Cl} (h : CelI w so G cel) (hb : Below w.heap.size w w1) : CelI w1 so G cel := h.keep hb.size fun q e => hb.block q (h.lt q e)
theorem cel_store {w : World} {G : Nat → Prop} {sb : Nat} {ts : Tb} {live last : Int} (h : SM w G sb ts live last) : CelI w (some ⟨sb, 0, none⟩) G (cellAt ts) := ⟨fun _ e => h.lt e, fun _ hW t k => cell_any (h.keep hW) t k⟩
/-- Between two writes. -/
structure BfI (w wr : World) (xb : Nat) (so : Option Addr) (ct ck : Int) (r : Option Nat) (nv tv : Value) (NS : List Nt) : Prop where
  sw : SwM wr xb so ct ck nv tv false
  no : NoV wr nv NS
  up : UpN NS
  ch : Touch w wr xb r
  new : ∀ q, nv.ownBlock = some q → r = some q ∨ w.heap.size ≤ q
theorem BfI.below {w wr w1 : World} {xb : Nat} {so : Option Addr} {ct ck : Int} {r : Option Nat} {nv tv : Value} {NS : List Nt} (h : BfI w wr xb so ct ck r nv tv NS) (hb : Below wr.heap.size wr w1) : BfI w w1 xb so ct ck r nv tv NS :=
  ⟨SwM.below h.sw hb, h.no.below hb, h.up, h.ch.later hb, h.new⟩
set_option maxHeartbeats 16000000 in
theorem swbefore_any {w : World} {G : Nat → Prop} {xb : Nat} {so : Option Addr} {ct ck : Int} {nv tv : Value} {NS : List Nt} {cel : Int → Int → Option Cl} {A : Option Addr} {c : Nat} {ws : List Wr} (h : SwM w xb so ct ck nv tv false) (hV : NoV w nv NS) (hl : NS.length + ws.length ≤ 10000) (hu : UpN NS)
    (hC : CelI w so G cel) (hG : ∀ q, G q → q ≠ xb ∧ nv.ownBlock ≠ some q) (hw : Wrs w A ws) (hA : 0 < ws.length → ∀ b o, A = some ⟨b, o, none⟩ → b ≠ xb ∧ nv.ownBlock ≠ some b) :
    Calls Try.prog 39 #[.pointer (some ⟨xb, 0, none⟩), .slice A ws.length c] w fun e w' => e = .returned (.tuple #[]) ∧ ∃ nv', BfI w w' xb so ct ck nv.ownBlock nv' tv (befS cel ct ck NS ws) := by
  have HD := Lib.hid (swdone_any h)
  obtain ⟨r0, hr0⟩ : ∃ r0, r0 = nv.ownBlock := ⟨_, rfl⟩
  have hI0 : BfI w w xb so ct ck r0 nv tv (befS cel ct ck NS (ws.take 0)) := ⟨h, hV, hu, Touch.refl _ _ _, fun q e => .inl (by rw [hr0, e])⟩
  rw [← hr0] at hG hA ⊢
  obtain ⟨n, hn⟩ : ∃ n, n = ws.length := ⟨_, rfl⟩
  have HIN := Lib.hid (And.intro hI0 (And.intro hl (And.intro hC (And.intro hG (And.intro hw (And.intro hA hn))))))
  rw [← hn]
  have hn18 : n ≤ 10000 := by omega
  clear h hV hl hu hC hG hw hA hn hI0 hr0
  go_enter Try.func39, Try.ntmps39
  go_wp2_with fail
  refine Calls.mono HD.out ?_
  rintro e w1 ⟨rfl, rfl⟩
  go_wp2_with fail
  go_loopw [5, 10, 11, 12, 13, 14, 15, 16, 17, 18, 19, 20, 21, 22, 23, 24, 25, 26, 27, 28, 29, 30, 31, 32, 33, 34, 35, 36, 37, 38] (fun _ ix _ _ _ _ _ _ _ _ _ _ _ _ _ _ _ _ _ _ _ _ _ _ _ _ _ _ _ _ wr => ∃ (z : Nat) (nv : Value), ix = .int .i64 (z : Int) ∧ z ≤ n ∧ BfI w wr xb so ct ck r0 nv tv (befS cel ct ck NS (ws.take z)) ∧ (befS cel ct ck NS (ws.take z)).length ≤ NS.length + z) (fun _ ix _ _ _ _ _ _ _ _ _ _ _ _ _ _ _ _ _ _ _ _ _ _ _ _ _ _ _ _ wr => n - (intOf ix).toNat)
  case atStart => exact ⟨0, nv, rfl, Nat.zero_le _, HIN.out.1, by simp [befS]⟩
  case round =>
    obtain ⟨z, nv, rfl, hz, hI, hlen⟩ := hrel
    have HI := Lib.hid (And.intro hI (And.intro hz hlen))
    clear hI hz hlen
    by_cases hlt : z < n
    · have hzl : z < ws.length := by have := HIN.out.2.2.2.2.2.2; omega
      obtain ⟨b, off, hbo, hcl0⟩ := Wrs.cell HIN.out.2.2.2.2.1 (by omega)
      have hkb : wr.heap[b]? = w.heap[b]? := by
        obtain ⟨g1, g2⟩ := HIN.out.2.2.2.2.2.1 (by omega) b off hbo
        exact HI.out.1.ch.block b (World.block_lt_of_cell? _ _ (hcl0 z hzl).1) g1 (fun e => g2 e)
      obtain ⟨x, hx⟩ : ∃ x, x = ws[z] := ⟨_, rfl⟩
      obtain ⟨x0, x1, x2, x3⟩ := hcl0 z hzl
      rw [← hx] at x0 x1 x2 x3
      have y0 := (World.cell?_of_block (a := ⟨b, off + z * 4, none⟩) hkb).trans x0
      have y1 := (World.cell?_of_block (a := ⟨b, off + z * 4 + 1, none⟩) hkb).trans x1
      have y2 := (World.cell?_of_block (a := ⟨b, off + z * 4 + 2, none⟩) hkb).trans x2
      have y3 := (World.cell?_of_block (a := ⟨b, off + z * 4 + 3, none⟩) hkb).trans x3
      have htk : ws.take (z + 1) = ws.take z ++ [x] := by rw [hx]; exact (List.take_append_getElem hzl).symm
      obtain ⟨N0, hN0⟩ : ∃ N0, N0 = befS cel ct ck NS (ws.take z) := ⟨_, rfl⟩
      have HTK : Hid (befS cel ct ck NS (ws.take (z + 1)) = befW cel ct ck N0 x) := Lib.hid (by rw [htk, befS_snoc, hN0])
      rw [← hN0] at HI
      subst hbo
      obtain ⟨p5, hp5⟩ : ∃ p5, p5 = wr.heap.size := ⟨_, rfl⟩
      obtain ⟨W5, hW5⟩ : ∃ W5, W5 = wr.alloc (.cells #[.int .i64 x.t, .int .i64 x.k, .int .i64 x.v, .bool x.dead] 51) := ⟨_, rfl⟩
      have hb5 : Below wr.heap.size wr W5 := by rw [hW5]; exact (Below.refl _ _).alloc (Nat.le_refl _) _
      have g5 : W5.heap[p5]? = some (.cells #[.int .i64 x.t, .int .i64 x.k, .int .i64 x.v, .bool x.dead] 51 (0, 0)) := by rw [hW5, hp5]; exact heap_alloc_new wr _
      have HI5 := Lib.hid (And.intro (HI.out.1.below hb5) (And.intro g5 HI.out.2))
      have HW5 := Lib.hid (And.intro hW5 hp5)
      have HCE : Hid (∀ W2, Below W5.drew.heap.size W5.drew W2 → W2.cell? ⟨p5, 0, none⟩ = some (.int .i64 x.t) ∧ W2.cell? ⟨p5, 1, none⟩ = some (.int .i64 x.k) ∧ W2.cell? ⟨xb, 1, none⟩ = some (.int .i64 ct) ∧ W2.cell? ⟨xb, 2, none⟩ = some (.int .i64 ck)) := Lib.hid fun W2 hw => by
        have hb2 : Below W5.heap.size W5 W2 := (Below.refl _ _).drew.trans hw
        have e5 := (hb2.block p5 (Array.getElem?_eq_some_iff.1 HI5.out.2.1).1).trans HI5.out.2.1
        have h9 := SwM.at (SwM.below HI5.out.1.sw hb2)
        exact ⟨by rw [cell_of_row _ _ 0 _ _ _ e5]; rfl, by rw [cell_of_row _ _ 1 _ _ _ e5]; rfl, h9.2.1, h9.2.2.1⟩
      clear hcl0 hkb hx x0 x1 x2 x3 htk hN0 hp5 hW5 hb5 g5 HI hzl
      go_upto_region 4 with fail
      rw [← HW5.out.1, ← HW5.out.2]
      clear y0 y1 y2 y3
      by_cases ht0 : 0 ≤ x.t
      · by_cases ht4 : x.t < 4
        · obtain ⟨ls, hls⟩ : ∃ ls, ls = lessK x.t x.k ct ck := ⟨_, rfl⟩
          have hle := fun W => flass_any W x.t x.k ct ck
          rw [← hls] at hle
          have HLE := Lib.hid hle
          have HLS := Lib.hid hls
          clear hle hls
          refine wp_region_noPanic ?_
          refine wp_region_abs 19 39 [
            .is (.pointer (some ⟨p5, 0, none⟩)),
            .is (.pointer (some ⟨p5, 0, none⟩)),
            .is (.int .i64 x.t),
            .is (.bool true),
            .is (.bool true),
            .is (.pointer (some ⟨p5, 0, none⟩)),
            .is (.pointer (some ⟨p5, 0, none⟩)),
            .is (.int .i64 x.t),
            .is (.bool true),
            .is (.bool true),
            .is (.bool true),
            .is (.pointer (some ⟨p5, 0, none⟩)),
            .is (.agg #[.int .i64 x.t, .int .i64 x.k]),
            .is (.pointer (some ⟨xb, 0, none⟩)),
            .is (.pointer (some ⟨xb, 0, none⟩)),
            .is (.pointer (some ⟨xb, 1, none⟩)),
            .is (.agg #[.int .i64 ct, .int .i64 ck]),
            .is (.bool ls),
            .is (.bool (!ls))]
            [14, 15, 16, 17, 18, 19, 20, 21, 22, 23, 24, 25, 26, 27, 28, 29, 30, 31, 32]
            [[], [0], [1], [2], [3], [4], [5, 4], [6, 4], [7, 4], [4, 8], [9], [10], [11, 10], [10], [13, 10], [14, 10], [15, 10], [12, 16, 10], [17, 10]] (by kernel_rfl) (by rfl) rfl rfl (by kernel_rfl) (fun _ _ _ _ h => h.elim) ?_ ?_
          · refine ⟨?_, ?_, ?_, ?_, ?_, ?_, ?_, ?_, ?_, ?_, ?_, ?_, ?_, ?_, ?_, ?_, ?_, ?_, ?_, trivial⟩
            · intro W2 hw K hK
              go_simp
              exact hK _ _ rfl (Below.refl _ _)
            · intro W2 hw K hK
              go_simp
              exact hK _ _ rfl (Below.refl _ _)
            · intro W2 hw K hK
              obtain ⟨s0, s1, s2, s3⟩ := HCE.out W2 hw
              go_simp
              exact hK _ _ rfl (Below.refl _ _)
            · intro W2 hw K hK
              go_simp
              exact hK _ _ rfl (Below.refl _ _)
            · intro W2 hw K hK
              go_simp
              exact hK _ _ rfl (Below.refl _ _)
            · intro W2 hw K hK
              go_simp
              exact hK _ _ rfl (Below.refl _ _)
            · intro W2 hw K hK
              go_simp
              exact hK _ _ rfl (Below.refl _ _)
            · intro W2 hw K hK
              obtain ⟨s0, s1, s2, s3⟩ := HCE.out W2 hw
              go_simp
              exact hK _ _ rfl (Below.refl _ _)
            · intro W2 hw K hK
              go_simp
              exact hK _ _ rfl (Below.refl _ _)
            · intro W2 hw K hK
              go_simp
              exact hK _ _ rfl (Below.refl _ _)
            · intro W2 hw K hK
              go_simp
              exact hK _ _ rfl (Below.refl _ _)
            · intro W2 hw K hK
              go_simp
              exact hK _ _ rfl (Below.refl _ _)
            · intro W2 hw K hK
              obtain ⟨s0, s1, s2, s3⟩ := HCE.out W2 hw
              go_simp
              exact hK _ _ rfl (Below.refl _ _)
            · intro W2 hw K hK
              go_simp
              exact hK _ _ rfl (Below.refl _ _)
            · intro W2 hw K hK
              go_simp
              exact hK _ _ rfl (Below.refl _ _)
            · intro W2 hw K hK
              go_simp
              exact hK _ _ rfl (Below.refl _ _)
            · intro W2 hw K hK
              obtain ⟨s0, s1, s2, s3⟩ := HCE.out W2 hw
              go_simp
              exact hK _ _ rfl (Below.refl _ _)
            · intro W2 hw K hK
              go_simp
              refine Calls.mono (HLE.out W2) ?_
              rintro e9 w9 ⟨rfl, hb9⟩
              exact hK _ _ rfl hb9
            · intro W2 hw K hK
              go_simp
              exact hK _ _ rfl (Below.refl _ _)
          · intro W2 hw2
            simp only [Behind]
            have hb2 := Lib.hid ((Below.refl _ W5).drew.trans hw2)
            clear hw2
            simp only [List.drop, Act.put, List.setIfInBounds_toArray, List.set_cons_zero, List.set_cons_succ]
            go_wp2_with fail
            refine NoPanic.normal ?_
            have HI6 := Lib.hid (HI5.out.1.below hb2.out)
            cases ls with
            | true =>
              have HF : Hid (befW cel ct ck N0 x = N0) := Lib.hid (by unfold befW; rw [if_neg (fun e => by have := e.2; rw [← HLS.out] at this; cases this)])
              have HI8 : Hid (BfI w W2 xb so ct ck r0 nv tv (befS cel ct ck NS (ws.take (z + 1)))) := Lib.hid (by rw [HTK.out, HF.out]; exact HI6.out)
              go_wp2_with fail
              go_roundw
              case rel => exact ⟨z + 1, nv, by go_num, by omega, HI8.out, by rw [HTK.out]; have := befW_len cel ct ck N0 x; have := HI5.out.2.2.2; omega⟩
              case measure => simp [intOf]; omega
            | false =>
              have e6 := (hb2.out.block p5 (Array.getElem?_eq_some_iff.1 HI5.out.2.1).1).trans HI5.out.2.1
              have c0 : W2.cell? ⟨p5, 0, none⟩ = some (.int .i64 x.t) := by rw [cell_of_row _ _ 0 _ _ _ e6]; rfl
              have c1 : W2.cell? ⟨p5, 1, none⟩ = some (.int .i64 x.k) := by rw [cell_of_row _ _ 1 _ _ _ e6]; rfl
              have hxt : x.t = ((x.t.toNat : Nat) : Int) := (Int.toNat_of_nonneg ht0).symm
              have hcl : CelI W2 so G cel := HIN.out.2.2.1.keep HI6.out.ch.size fun q e => HI6.out.ch.block q (HIN.out.2.2.1.lt q e) (HIN.out.2.2.2.1 q e).1 (HIN.out.2.2.2.1 q e).2
              have HNO := Lib.hid (swnote_any (t := x.t.toNat) (k := x.k) (o := cel x.t x.k) HI6.out.sw HI6.out.no (by have := HI5.out.2.2.2; have := HIN.out.2.1; have := HIN.out.2.2.2.2.2.2; omega) HI6.out.up fun W hb => by rw [← hxt]; exact (hcl.below hb).ans W (fun _ _ => rfl) x.t x.k)
              have HF : Hid (befW cel ct ck N0 x = noteS x.t.toNat x.k (cel x.t x.k) N0) := Lib.hid (by unfold befW; rw [if_pos ⟨⟨ht0, ht4⟩, HLS.out.symm⟩])
              rw [← hxt] at HNO
              clear e6 hxt hcl
              go_wp2_with fail
              refine Calls.mono HNO.out ?_
              rintro e w8 ⟨rfl, nv8, k1, k2, k3, k4⟩
              have HI8 : Hid (BfI w w8 xb so ct ck r0 nv8 tv (befW cel ct ck N0 x)) := Lib.hid (by
                rw [HF.out]
                exact ⟨k1, k2, noteS_up HI6.out.up, HI6.out.ch.trans k3 HI6.out.new, fun q e => by
                  rcases k4 q e with e | e
                  · exact HI6.out.new q e
                  · exact .inr (Nat.le_trans HI6.out.ch.size e)⟩)
              clear k1 k2 k3 k4 c0 c1
              go_wp2_with fail
              go_roundw
              case rel => exact ⟨z + 1, nv8, by go_num, by omega, by rw [HTK.out]; exact HI8.out, by rw [HTK.out]; have := befW_len cel ct ck N0 x; have := HI5.out.2.2.2; omega⟩
              case measure => simp [intOf]; omega
        · have HF : Hid (befW cel ct ck N0 x = N0) := Lib.hid (by unfold befW; rw [if_neg (fun e => ht4 e.1.2)])
          refine wp_region_noPanic ?_
          refine wp_region_abs 19 39 [
            .is (.pointer (some ⟨p5, 0, none⟩)),
            .is (.pointer (some ⟨p5, 0, none⟩)),
            .is (.int .i64 x.t),
            .is (.bool true),
            .is (.bool true),
            .is (.pointer (some ⟨p5, 0, none⟩)),
            .is (.pointer (some ⟨p5, 0, none⟩)),
            .is (.int .i64 x.t),
            .is (.bool false),
            .is (.bool false),
            .is (.bool false),
            .is undef,
            .is undef,
            .is undef,
            .is undef,
            .is undef,
            .is undef,
            .is undef,
            .is undef]
            [14, 15, 16, 17, 18, 19, 20, 21, 22, 23, 24, 25, 26, 27, 28, 29, 30, 31, 32]
            [[], [0], [1], [2], [3], [4], [5, 4], [6, 4], [7, 4], [4, 8], [9], [10], [11, 10], [10], [13, 10], [14, 10], [15, 10], [12, 16, 10], [17, 10]] (by kernel_rfl) (by rfl) rfl rfl (by kernel_rfl) (fun _ _ _ _ h => h.elim) ?_ ?_
          · refine ⟨?_, ?_, ?_, ?_, ?_, ?_, ?_, ?_, ?_, ?_, ?_, ?_, ?_, ?_, ?_, ?_, ?_, ?_, ?_, trivial⟩
            · intro W2 hw K hK
              go_simp
              exact hK _ _ rfl (Below.refl _ _)
            · intro W2 hw K hK
              go_simp
              exact hK _ _ rfl (Below.refl _ _)
            · intro W2 hw K hK
              obtain ⟨s0, s1, s2, s3⟩ := HCE.out W2 hw
              go_simp
              exact hK _ _ rfl (Below.refl _ _)
            · intro W2 hw K hK
              go_simp
              exact hK _ _ rfl (Below.refl _ _)
            · intro W2 hw K hK
              go_simp
              exact hK _ _ rfl (Below.refl _ _)
            · intro W2 hw K hK
              go_simp
              exact hK _ _ rfl (Below.refl _ _)
            · intro W2 hw K hK
              go_simp
              exact hK _ _ rfl (Below.refl _ _)
            · intro W2 hw K hK
              obtain ⟨s0, s1, s2, s3⟩ := HCE.out W2 hw
              go_simp
              exact hK _ _ rfl (Below.refl _ _)
            · intro W2 hw K hK
              go_simp
              exact hK _ _ rfl (Below.refl _ _)
            · intro W2 hw K hK
              go_simp
              exact hK _ _ rfl (Below.refl _ _)
            · intro W2 hw K hK
              go_simp
              exact hK _ _ rfl (Below.refl _ _)
            · intro W2 hw K hK
              go_simp
              exact hK _ _ rfl (Below.refl _ _)
            · intro W2 hw K hK
              obtain ⟨s0, s1, s2, s3⟩ := HCE.out W2 hw
              go_simp
              exact hK _ _ rfl (Below.refl _ _)
            · intro W2 hw K hK
              go_simp
              exact hK _ _ rfl (Below.refl _ _)
            · intro W2 hw K hK
              go_simp
              exact hK _ _ rfl (Below.refl _ _)
            · intro W2 hw K hK
              go_simp
              exact hK _ _ rfl (Below.refl _ _)
            · intro W2 hw K hK
              obtain ⟨s0, s1, s2, s3⟩ := HCE.out W2 hw
              go_simp
              exact hK _ _ rfl (Below.refl _ _)
            · intro W2 hw K hK
              go_simp
              exact hK _ _ rfl (Below.refl _ _)
            · intro W2 hw K hK
              go_simp
              exact hK _ _ rfl (Below.refl _ _)
          · intro W2 hw2
            simp only [Behind]
            have hb2 := Lib.hid ((Below.refl _ W5).drew.trans hw2)
            clear hw2
            simp only [List.drop, Act.put, List.setIfInBounds_toArray, List.set_cons_zero, List.set_cons_succ]
            go_wp2_with fail
            refine NoPanic.normal ?_
            have HI6 := Lib.hid (HI5.out.1.below hb2.out)
            have HI8 : Hid (BfI w W2 xb so ct ck r0 nv tv (befS cel ct ck NS (ws.take (z + 1)))) := Lib.hid (by rw [HTK.out, HF.out]; exact HI6.out)
            go_wp2_with fail
            go_roundw
            case rel => exact ⟨z + 1, nv, by go_num, by omega, HI8.out, by rw [HTK.out]; have := befW_len cel ct ck N0 x; have := HI5.out.2.2.2; omega⟩
            case measure => simp [intOf]; omega
      · have HF : Hid (befW cel ct ck N0 x = N0) := Lib.hid (by unfold befW; rw [if_neg (fun e => ht0 e.1.1)])
        refine wp_region_noPanic ?_
        refine wp_region_abs 19 39 [
          .is (.pointer (some ⟨p5, 0, none⟩)),
          .is (.pointer (some ⟨p5, 0, none⟩)),
          .is (.int .i64 x.t),
          .is (.bool false),
          .is (.bool false),
          .is undef,
          .is undef,
          .is undef,
          .is undef,
          .is (.bool false),
          .is (.bool false),
          .is undef,
          .is undef,
          .is undef,
          .is undef,
          .is undef,
          .is undef,
          .is undef,
          .is undef]
          [14, 15, 16, 17, 18, 19, 20, 21, 22, 23, 24, 25, 26, 27, 28, 29, 30, 31, 32]
          [[], [0], [1], [2], [3], [4], [5, 4], [6, 4], [7, 4], [4, 8], [9], [10], [11, 10], [10], [13, 10], [14, 10], [15, 10], [12, 16, 10], [17, 10]] (by kernel_rfl) (by rfl) rfl rfl (by kernel_rfl) (fun _ _ _ _ h => h.elim) ?_ ?_
        · refine ⟨?_, ?_, ?_, ?_, ?_, ?_, ?_, ?_, ?_, ?_, ?_, ?_, ?_, ?_, ?_, ?_, ?_, ?_, ?_, trivial⟩
          · intro W2 hw K hK
            go_simp
            exact hK _ _ rfl (Below.refl _ _)
          · intro W2 hw K hK
            go_simp
            exact hK _ _ rfl (Below.refl _ _)
          · intro W2 hw K hK
            obtain ⟨s0, s1, s2, s3⟩ := HCE.out W2 hw
            go_simp
            exact hK _ _ rfl (Below.refl _ _)
          · intro W2 hw K hK
            go_simp
            exact hK _ _ rfl (Below.refl _ _)
          · intro W2 hw K hK
            go_simp
            exact hK _ _ rfl (Below.refl _ _)
          · intro W2 hw K hK
            go_simp
            exact hK _ _ rfl (Below.refl _ _)
          · intro W2 hw K hK
            go_simp
            exact hK _ _ rfl (Below.refl _ _)
          · intro W2 hw K hK
            obtain ⟨s0, s1, s2, s3⟩ := HCE.out W2 hw
            go_simp
            exact hK _ _ rfl (Below.refl _ _)
          · intro W2 hw K hK
            go_simp
            exact hK _ _ rfl (Below.refl _ _)
          · intro W2 hw K hK
            go_simp
            exact hK _ _ rfl (Below.refl _ _)
          · intro W2 hw K hK
            go_simp
            exact hK _ _ rfl (Below.refl _ _)
          · intro W2 hw K hK
            go_simp
            exact hK _ _ rfl (Below.refl _ _)
          · intro W2 hw K hK
            obtain ⟨s0, s1, s2, s3⟩ := HCE.out W2 hw
            go_simp
            exact hK _ _ rfl (Below.refl _ _)
          · intro W2 hw K hK
            go_simp
            exact hK _ _ rfl (Below.refl _ _)
          · intro W2 hw K hK
            go_simp
            exact hK _ _ rfl (Below.refl _ _)
          · intro W2 hw K hK
            go_simp
            exact hK _ _ rfl (Below.refl _ _)
          · intro W2 hw K hK
            obtain ⟨s0, s1, s2, s3⟩ := HCE.out W2 hw
            go_simp
            exact hK _ _ rfl (Below.refl _ _)
          · intro W2 hw K hK
            go_simp
            exact hK _ _ rfl (Below.refl _ _)
          · intro W2 hw K hK
            go_simp
            exact hK _ _ rfl (Below.refl _ _)
        · intro W2 hw2
          simp only [Behind]
          have hb2 := Lib.hid ((Below.refl _ W5).drew.trans hw2)
          clear hw2
          simp only [List.drop, Act.put, List.setIfInBounds_toArray, List.set_cons_zero, List.set_cons_succ]
          go_wp2_with fail
          refine NoPanic.normal ?_
          have HI6 := Lib.hid (HI5.out.1.below hb2.out)
          have HI8 : Hid (BfI w W2 xb so ct ck r0 nv tv (befS cel ct ck NS (ws.take (z + 1)))) := Lib.hid (by rw [HTK.out, HF.out]; exact HI6.out)
          go_wp2_with fail
          go_roundw
          case rel => exact ⟨z + 1, nv, by go_num, by omega, HI8.out, by rw [HTK.out]; have := befW_len cel ct ck N0 x; have := HI5.out.2.2.2; omega⟩
          case measure => simp [intOf]; omega
    · obtain rfl : z = n := by have := HI.out.2.1; omega
      have HE : Hid (BfI w wr xb so ct ck r0 nv tv (befS cel ct ck NS ws)) := Lib.hid (by
        have h9 := HI.out.1
        rw [List.take_of_length_le (by have := HIN.out.2.2.2.2.2.2; omega)] at h9
        exact h9)
      go_wp2_with fail
      exact bodyPost_end (v := .tuple #[]) (by simp [results, Try.results39, go_sem]) rfl ⟨rfl, _, HE.out⟩
end Go.Proofs.Ytejpjbmbcdgomaa

/- A step of a sweep that is done, and of none. -/
namespace Go.Proofs.Ytejpjbmbcdgomaa
set_option maxRecDepth 100000
open Go.RowKit

theorem swstep_done {w : World} {xb : Nat} {so : Option Addr} {ct ck : Int} {nv tv : Value} (h : SwM w xb so ct ck nv tv true) (n : Int) : Calls Try.prog 42 #[.pointer (some ⟨xb, 0, none⟩), .int .i64 n] w fun e w' => e = .returned (.bool true) ∧ w = w' := by
  have HD := Lib.hid (swdone_any h)
  clear h
  go_enter Try.func42, Try.ntmps42
  go_wp2_with fail
  refine Calls.mono HD.out ?_
  rintro e w1 ⟨rfl, rfl⟩
  go_wp2_with fail
  go_ret
  exact ⟨rfl, rfl⟩
theorem swtext_not {w : World} {xb : Nat} {so : Option Addr} {ct ck : Int} {nv tv : Value} (h : SwM w xb so ct ck nv tv false) : Calls Try.prog 45 #[.pointer (some ⟨xb, 0, none⟩)] w fun e w' => e = .returned (.tuple #[.slice none 0 0, errV 11]) ∧ w = w' := by
  obtain ⟨_, _, _, _, _, c5⟩ := h.at
  clear h
  go_enter Try.func45, Try.ntmps45
  go_wp2_with fail
  exact bodyPost_ret (v := .tuple #[.slice none 0 0, errV 11]) (by simp [results, Try.results45, go_sem, errV]) rfl ⟨rfl, rfl⟩
end Go.Proofs.Ytejpjbmbcdgomaa
