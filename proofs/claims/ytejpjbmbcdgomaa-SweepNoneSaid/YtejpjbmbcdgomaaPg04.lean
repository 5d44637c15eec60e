/- VNoteM, VBef, VStepD, VText: put together. -/
import Derived.Test.YtejpjbmbcdgomaaPg02
import Derived.Test.YtejpjbmbcdgomaaPe32
import Derived.Test.YtejpjbmbcdgomaaPe33
import Derived.Test.YtejpjbmbcdgomaaPe20
import Derived.Test.YtejpjbmbcdgomaaPe25
/- Notes, pure. -/
namespace Go.Proofs.Ytejpjbmbcdgomaa
set_option maxRecDepth 100000
open Go.RowKit

theorem noteS_len (t : Nat) (k : Int) (o : Option Cl) (NS : List Nt) : (noteS t k o NS).length ≤ NS.length + 1 := by
  unfold noteS
  split
  · omega
  · have := posN_le (t : Int) k NS
    simp
    omega
theorem not_less_of {t k : Int} {NS : List Nt} (hu : UpN NS) {j : Nat} (hj : j < NS.length) (h : posN t k NS ≤ j) : lessK NS[j].e.t NS[j].e.x.k t k = false := by
  cases hc : lessK NS[j].e.t NS[j].e.x.k t k with
  | false => rfl
  | true =>
    exfalso
    have key : ∀ i (hi : i < NS.length), i ≤ j → lessK NS[i].e.t NS[i].e.x.k t k = true := fun i hi hij => by
      by_cases e : i = j
      · subst e; exact hc
      · exact lessK_tr ((List.pairwise_iff_getElem.1 hu) i j hi hj (by omega)) hc
    have h2 : ∀ (NS : List Nt) (hu : ∀ i (hi : i < NS.length), i ≤ j → lessK NS[i].e.t NS[i].e.x.k t k = true), j < NS.length → j < posN t k NS := by
      clear key hc h hj hu
      intro NS
      induction NS generalizing j with
      | nil => intro _ h; cases h
      | cons x NS ih =>
        intro hu hj
        have h0 : lessK (x.e.t : Int) x.e.x.k t k = true := hu 0 (by simp) (by omega)
        unfold posN
        rw [List.takeWhile_cons, if_pos h0, List.length_cons]
        cases j with
        | zero => omega
        | succ j =>
          have := ih (j := j) (fun i hi hij => hu (i + 1) (by simpa using hi) (by omega)) (by simpa using hj)
          unfold posN at this
          omega
    have := h2 NS key hj
    omega
theorem hasN_iff {t k : Int} {NS : List Nt} (hu : UpN NS) : hasN t k NS = true ↔ ∃ x ∈ NS, (x.e.t : Int) = t ∧ x.e.x.k = k := by
  unfold hasN
  constructor
  · intro h
    cases hg : NS[posN t k NS]? with
    | none => rw [hg] at h; cases h
    | some x =>
      rw [hg] at h
      unfold atN at h
      simp only [Bool.and_eq_true, decide_eq_true_eq] at h
      exact ⟨x, List.mem_of_getElem? hg, h⟩
  · rintro ⟨x, hx, h1, h2⟩
    obtain ⟨j, hj, rfl⟩ := List.mem_iff_getElem.1 hx
    have hp : posN t k NS = j := by
      refine posN_eq (by omega) (fun i hi hij => ?_) fun _ => ?_
      · have := (List.pairwise_iff_getElem.1 hu) i j hi hj hij
        unfold lessN at this
        rw [h1, h2] at this
        exact this
      · rw [h1, h2]
        unfold lessK
        simp
    rw [hp, List.getElem?_eq_getElem hj]
    unfold atN
    simp [h1, h2]
theorem noteS_mem {t : Nat} {k : Int} {o : Option Cl} {NS : List Nt} {x : Nt} : x ∈ noteS t k o NS ↔ x ∈ NS ∨ (hasN (t : Int) k NS = false ∧ x = newN t k o) := by
  unfold noteS
  cases h : hasN (t : Int) k NS with
  | true => simp
  | false =>
    rw [if_neg (by decide)]
    have e : NS = NS.take (posN (t : Int) k NS) ++ NS.drop (posN (t : Int) k NS) := (List.take_append_drop _ _).symm
    constructor
    · intro hx
      rcases List.mem_append.1 hx with hx | hx
      · exact .inl (List.mem_of_mem_take hx)
      · rcases List.mem_cons.1 hx with hx | hx
        · exact .inr ⟨rfl, hx⟩
        · exact .inl (List.mem_of_mem_drop hx)
    · rintro (hx | ⟨_, rfl⟩)
      · rw [e] at hx
        rcases List.mem_append.1 hx with hx | hx
        · exact List.mem_append.2 (.inl hx)
        · exact List.mem_append.2 (.inr (List.mem_cons_of_mem _ hx))
      · exact List.mem_append.2 (.inr List.mem_cons_self)
theorem lessK_total {t k t2 k2 : Int} (h : lessK t k t2 k2 = false) (hn : ¬ (t = t2 ∧ k = k2)) : lessK t2 k2 t k = true := by
  unfold lessK at *
  simp only [Bool.or_eq_true, decide_eq_true_eq, Bool.and_eq_true, Bool.or_eq_false_iff, decide_eq_false_iff_not, Bool.and_eq_false_iff] at *
  omega
theorem noteS_up {t : Nat} {k : Int} {o : Option Cl} {NS : List Nt} (hu : UpN NS) : UpN (noteS t k o NS) := by
  unfold noteS
  cases h : hasN (t : Int) k NS with
  | true => rw [if_pos rfl]; exact hu
  | false =>
    rw [if_neg (by decide)]
    have hlt : ∀ x ∈ NS.take (posN (t : Int) k NS), lessK (x.e.t : Int) x.e.x.k t k = true := fun x hx => by
      obtain ⟨j, hj, rfl⟩ := List.mem_iff_getElem.1 hx
      rw [List.length_take] at hj
      rw [List.getElem_take]
      exact posN_lt (by omega) (by omega)
    have hgt : ∀ x ∈ NS.drop (posN (t : Int) k NS), lessK (t : Int) k x.e.t x.e.x.k = true := fun x hx => by
      obtain ⟨j, hj, rfl⟩ := List.mem_iff_getElem.1 hx
      rw [List.length_drop] at hj
      rw [List.getElem_drop]
      have h1 := not_less_of hu (t := (t : Int)) (k := k) (j := posN (t : Int) k NS + j) (by omega) (by omega)
      refine lessK_total h1 fun e => ?_
      have h2 := (hasN_iff hu (t := (t : Int)) (k := k)).2 ⟨_, List.getElem_mem (h := by omega), e⟩
      rw [h] at h2
      cases h2
    rw [UpN, List.pairwise_append, List.pairwise_cons]
    refine ⟨hu.sublist (List.take_sublist _ _), ⟨fun x hx => hgt x hx, hu.sublist (List.drop_sublist _ _)⟩, fun a ha b hb => ?_⟩
    rcases List.mem_cons.1 hb with rfl | hb
    · exact hlt a ha
    · exact lessK_tr (hlt a ha) (hgt b hb)
/-- What a row of writes brings into the notes. -/
def befW (cel : Int → Int → Option Cl) (ct ck : Int) (NS : List Nt) (x : Wr) : List Nt := if (0 ≤ x.t ∧ x.t < 4) ∧ lessK x.t x.k ct ck = false then noteS x.t.toNat x.k (cel x.t x.k) NS else NS
def befS (cel : Int → Int → Option Cl) (ct ck : Int) (NS : List Nt) (ws : List Wr) : List Nt := ws.foldl (befW cel ct ck) NS
theorem befS_snoc (cel : Int → Int → Option Cl) (ct ck : Int) (NS : List Nt) (ws : List Wr) (x : Wr) : befS cel ct ck NS (ws ++ [x]) = befW cel ct ck (befS cel ct ck NS ws) x := by
  unfold befS
  rw [List.foldl_append]
  rfl
theorem befW_up {cel : Int → Int → Option Cl} {ct ck : Int} {NS : List Nt} (x : Wr) (hu : UpN NS) : UpN (befW cel ct ck NS x) := by
  unfold befW
  split
  · exact noteS_up hu
  · exact hu
theorem befW_len (cel : Int → Int → Option Cl) (ct ck : Int) (NS : List Nt) (x : Wr) : (befW cel ct ck NS x).length ≤ NS.length + 1 := by
  unfold befW
  split
  · exact noteS_len _ _ _ _
  · omega
end Go.Proofs.Ytejpjbmbcdgomaa

/- A sweep is told of writes. Written by gen_vbef.py. -/
namespace Go.Proofs.Ytejpjbmbcdgomaa
set_option maxRecDepth 100000
open Go.RowKit

theorem Touch.refl (w : World) (g : Nat) (r : Option Nat) : Touch w w g r := ⟨rfl, rfl, rfl, Nat.le_refl _, fun _ _ _ _ => rfl⟩
theorem Touch.trans {w w1 w2 : World} {g : Nat} {r r1 : Option Nat} (h : Touch w w1 g r) (h2 : Touch w1 w2 g r1) (hr : ∀ q, r1 = some q → r = some q ∨ w.heap.size ≤ q) : Touch w w2 g r :=
  ⟨h2.os.trans h.os, h2.tape.trans h.tape, h2.output.trans h.output, Nat.le_trans h.size h2.size, fun k hk h3 h4 => (h2.block k (Nat.lt_of_lt_of_le hk h.size) h3 fun e => by
    rcases hr k e with e | e
    · exact h4 e
    · omega).trans (h.block k hk h3 h4)⟩
/-- What Cell answers as long as certain blocks stand. -/
structure CelI (w : World) (so : Option Addr) (G : Nat → Prop) (cel : Int → Int → Option Cl) : Prop where
  lt : ∀ q, G q → q < w.heap.size
  ans : ∀ W, (∀ q, G q → W.heap[q]? = w.heap[q]?) → ∀ t k, Calls Try.prog 68 #[.pointer so, .agg #[.int .i64 t, .int .i64 k]] W fun e w' => e = .returned (ansC (cel t k)) ∧ Below W.heap.size W w'
theorem CelI.keep {w w1 : World} {so : Option Addr} {G : Nat → Prop} {cel : Int → Int → Option Cl} (h : CelI w so G cel) (hs : w.heap.size ≤ w1.heap.size) (hk : ∀ q, G q → w1.heap[q]? = w.heap[q]?) : CelI w1 so G cel :=
  ⟨fun q e => Nat.lt_of_lt_of_le (h.lt q e) hs, fun W hW => h.ans W fun q e => (hW q e).trans (hk q e)⟩
theorem CelI.below {w w1 : World} {so : Option Addr} {G : Nat → Prop} {cel : Int → Int → Option Cl} (h : CelI w so G cel) (hb : Below w.heap.size w w1) : CelI w1 so G cel := h.keep hb.size fun q e => hb.block q (h.lt q e)
theorem cel_nil (w : World) : CelI w none (fun _ => False) fun _ _ => none := ⟨fun _ e => e.elim, fun W _ t k => cell_nil W t k⟩
theorem cel_store {w : World} {G : Nat → Prop} {sb : Nat} {ts : Tb} {live last : Int} (h : SM w G sb ts live last) : CelI w (some ⟨sb, 0, none⟩) G (cellAt ts) := ⟨fun _ e => h.lt e, fun _ hW t k => cell_any (h.keep hW) t k⟩
/-- Between two writes. -/
structure BfI (w wr : World) (xb : Nat) (so : Option Addr) (ct ck : Int) (r : Option Nat) (nv tv : Value) (NS : List Nt) : Prop where
  sw : SwM wr xb so ct ck nv tv false
  no : NoV wr nv NS
  up : UpN NS
  ch : Touch w wr xb r
  new : ∀ q, nv.ownBlock = some q → r = some q ∨ w.heap.size ≤ q
theorem BfI.below {w wr w1 : World} {xb : Nat} {so : Option Addr} {ct ck : Int} {r : Option Nat} {nv tv : Value} {NS : List Nt} (h : BfI w wr xb so ct ck r nv tv NS) (hb : Below wr.heap.size wr w1) : BfI w w1 xb so ct ck r nv tv NS :=
  ⟨SwM.below h.sw hb, h.no.below hb, h.up, h.ch.later hb, h.new⟩
set_option maxHeartbeats 16000000 in
theorem swbefore_any {w : World} {G : Nat → Prop} {xb : Nat} {so : Option Addr} {ct ck : Int} {nv tv : Value} {NS : List Nt} {cel : Int → Int → Option Cl} {A : Option Addr} {c : Nat} {ws : List Wr} (h : SwM w xb so ct ck nv tv false) (hV : NoV w nv NS) (hl : NS.length + ws.length ≤ 10000) (hu : UpN NS)
    (hC : CelI w so G cel) (hG : ∀ q, G q → q ≠ xb ∧ nv.ownBlock ≠ some q) (hw : Wrs w A ws) (hA : 0 < ws.length → ∀ b o, A = some ⟨b, o, none⟩ → b ≠ xb ∧ nv.ownBlock ≠ some b) :
    Calls Try.prog 39 #[.pointer (some ⟨xb, 0, none⟩), .slice A ws.length c] w fun e w' => e = .returned (.tuple #[]) ∧ ∃ nv', BfI w w' xb so ct ck nv.ownBlock nv' tv (befS cel ct ck NS ws) := by
  have HD := Lib.hid (swdone_any h)
  obtain ⟨r0, hr0⟩ : ∃ r0, r0 = nv.ownBlock := ⟨_, rfl⟩
  have hI0 : BfI w w xb so ct ck r0 nv tv (befS cel ct ck NS (ws.take 0)) := ⟨h, hV, hu, Touch.refl _ _ _, fun q e => .inl (by rw [hr0, e])⟩
  rw [← hr0] at hG hA ⊢
  obtain ⟨n, hn⟩ : ∃ n, n = ws.length := ⟨_, rfl⟩
  have HIN := Lib.hid (And.intro hI0 (And.intro hl (And.intro hC (And.intro hG (And.intro hw (And.intro hA hn))))))
  rw [← hn]
  have hn18 : n ≤ 10000 := by omega
  clear h hV hl hu hC hG hw hA hn hI0 hr0
  go_enter Try.func39, Try.ntmps39
  go_wp2_with fail
  refine Calls.mono HD.out ?_
  rintro e w1 ⟨rfl, rfl⟩
  go_wp2_with fail
  go_loopw [5, 10, 11, 12, 13, 14, 15, 16, 17, 18, 19, 20, 21, 22, 23, 24, 25, 26, 27, 28, 29, 30, 31, 32, 33, 34, 35, 36, 37, 38] (fun _ ix _ _ _ _ _ _ _ _ _ _ _ _ _ _ _ _ _ _ _ _ _ _ _ _ _ _ _ _ wr => ∃ (z : Nat) (nv : Value), ix = .int .i64 (z : Int) ∧ z ≤ n ∧ BfI w wr xb so ct ck r0 nv tv (befS cel ct ck NS (ws.take z)) ∧ (befS cel ct ck NS (ws.take z)).length ≤ NS.length + z) (fun _ ix _ _ _ _ _ _ _ _ _ _ _ _ _ _ _ _ _ _ _ _ _ _ _ _ _ _ _ _ wr => n - (intOf ix).toNat)
  case atStart => exact ⟨0, nv, rfl, Nat.zero_le _, HIN.out.1, by simp [befS]⟩
  case round =>
    obtain ⟨z, nv, rfl, hz, hI, hlen⟩ := hrel
    have HI := Lib.hid (And.intro hI (And.intro hz hlen))
    clear hI hz hlen
    by_cases hlt : z < n
    · have hzl : z < ws.length := by have := HIN.out.2.2.2.2.2.2; omega
      obtain ⟨b, off, hbo, hcl0⟩ := Wrs.cell HIN.out.2.2.2.2.1 (by omega)
      have hkb : wr.heap[b]? = w.heap[b]? := by
        obtain ⟨g1, g2⟩ := HIN.out.2.2.2.2.2.1 (by omega) b off hbo
        exact HI.out.1.ch.block b (World.block_lt_of_cell? _ _ (hcl0 z hzl).1) g1 (fun e => g2 e)
      obtain ⟨x, hx⟩ : ∃ x, x = ws[z] := ⟨_, rfl⟩
      obtain ⟨x0, x1, x2, x3⟩ := hcl0 z hzl
      rw [← hx] at x0 x1 x2 x3
      have y0 := (World.cell?_of_block (a := ⟨b, off + z * 4, none⟩) hkb).trans x0
      have y1 := (World.cell?_of_block (a := ⟨b, off + z * 4 + 1, none⟩) hkb).trans x1
      have y2 := (World.cell?_of_block (a := ⟨b, off + z * 4 + 2, none⟩) hkb).trans x2
      have y3 := (World.cell?_of_block (a := ⟨b, off + z * 4 + 3, none⟩) hkb).trans x3
      have htk : ws.take (z + 1) = ws.take z ++ [x] := by rw [hx]; exact (List.take_append_getElem hzl).symm
      obtain ⟨N0, hN0⟩ : ∃ N0, N0 = befS cel ct ck NS (ws.take z) := ⟨_, rfl⟩
      have HTK : Hid (befS cel ct ck NS (ws.take (z + 1)) = befW cel ct ck N0 x) := Lib.hid (by rw [htk, befS_snoc, hN0])
      rw [← hN0] at HI
      subst hbo
      obtain ⟨p5, hp5⟩ : ∃ p5, p5 = wr.heap.size := ⟨_, rfl⟩
      obtain ⟨W5, hW5⟩ : ∃ W5, W5 = wr.alloc (.cells #[.int .i64 x.t, .int .i64 x.k, .int .i64 x.v, .bool x.dead] 51) := ⟨_, rfl⟩
      have hb5 : Below wr.heap.size wr W5 := by rw [hW5]; exact (Below.refl _ _).alloc (Nat.le_refl _) _
      have g5 : W5.heap[p5]? = some (.cells #[.int .i64 x.t, .int .i64 x.k, .int .i64 x.v, .bool x.dead] 51 (0, 0)) := by rw [hW5, hp5]; exact heap_alloc_new wr _
      have HI5 := Lib.hid (And.intro (HI.out.1.below hb5) (And.intro g5 HI.out.2))
      have HW5 := Lib.hid (And.intro hW5 hp5)
      have HCE : Hid (∀ W2, Below W5.drew.heap.size W5.drew W2 → W2.cell? ⟨p5, 0, none⟩ = some (.int .i64 x.t) ∧ W2.cell? ⟨p5, 1, none⟩ = some (.int .i64 x.k) ∧ W2.cell? ⟨xb, 1, none⟩ = some (.int .i64 ct) ∧ W2.cell? ⟨xb, 2, none⟩ = some (.int .i64 ck)) := Lib.hid fun W2 hw => by
        have hb2 : Below W5.heap.size W5 W2 := (Below.refl _ _).drew.trans hw
        have e5 := (hb2.block p5 (Array.getElem?_eq_some_iff.1 HI5.out.2.1).1).trans HI5.out.2.1
        have h9 := SwM.at (SwM.below HI5.out.1.sw hb2)
        exact ⟨by rw [cell_of_row _ _ 0 _ _ _ e5]; rfl, by rw [cell_of_row _ _ 1 _ _ _ e5]; rfl, h9.2.1, h9.2.2.1⟩
      clear hcl0 hkb hx x0 x1 x2 x3 htk hN0 hp5 hW5 hb5 g5 HI hzl
      go_upto_region 4 with fail
      rw [← HW5.out.1, ← HW5.out.2]
      clear y0 y1 y2 y3
      by_cases ht0 : 0 ≤ x.t
      · by_cases ht4 : x.t < 4
        · obtain ⟨ls, hls⟩ : ∃ ls, ls = lessK x.t x.k ct ck := ⟨_, rfl⟩
          have hle := fun W => flass_any W x.t x.k ct ck
          rw [← hls] at hle
          have HLE := Lib.hid hle
          have HLS := Lib.hid hls
          clear hle hls
          refine wp_region_noPanic ?_
          refine wp_region_abs 19 39 [
            .is (.pointer (some ⟨p5, 0, none⟩)),
            .is (.pointer (some ⟨p5, 0, none⟩)),
            .is (.int .i64 x.t),
            .is (.bool true),
            .is (.bool true),
            .is (.pointer (some ⟨p5, 0, none⟩)),
            .is (.pointer (some ⟨p5, 0, none⟩)),
            .is (.int .i64 x.t),
            .is (.bool true),
            .is (.bool true),
            .is (.bool true),
            .is (.pointer (some ⟨p5, 0, none⟩)),
            .is (.agg #[.int .i64 x.t, .int .i64 x.k]),
            .is (.pointer (some ⟨xb, 0, none⟩)),
            .is (.pointer (some ⟨xb, 0, none⟩)),
            .is (.pointer (some ⟨xb, 1, none⟩)),
            .is (.agg #[.int .i64 ct, .int .i64 ck]),
            .is (.bool ls),
            .is (.bool (!ls))]
            [14, 15, 16, 17, 18, 19, 20, 21, 22, 23, 24, 25, 26, 27, 28, 29, 30, 31, 32]
            [[], [0], [1], [2], [3], [4], [5, 4], [6, 4], [7, 4], [4, 8], [9], [10], [11, 10], [10], [13, 10], [14, 10], [15, 10], [12, 16, 10], [17, 10]] (by kernel_rfl) (by rfl) rfl rfl (by kernel_rfl) (fun _ _ _ _ h => h.elim) ?_ ?_
          · refine ⟨?_, ?_, ?_, ?_, ?_, ?_, ?_, ?_, ?_, ?_, ?_, ?_, ?_, ?_, ?_, ?_, ?_, ?_, ?_, trivial⟩
            · intro W2 hw K hK
              go_simp
              exact hK _ _ rfl (Below.refl _ _)
            · intro W2 hw K hK
              go_simp
              exact hK _ _ rfl (Below.refl _ _)
            · intro W2 hw K hK
              obtain ⟨s0, s1, s2, s3⟩ := HCE.out W2 hw
              go_simp
              exact hK _ _ rfl (Below.refl _ _)
            · intro W2 hw K hK
              go_simp
              exact hK _ _ rfl (Below.refl _ _)
            · intro W2 hw K hK
              go_simp
              exact hK _ _ rfl (Below.refl _ _)
            · intro W2 hw K hK
              go_simp
              exact hK _ _ rfl (Below.refl _ _)
            · intro W2 hw K hK
              go_simp
              exact hK _ _ rfl (Below.refl _ _)
            · intro W2 hw K hK
              obtain ⟨s0, s1, s2, s3⟩ := HCE.out W2 hw
              go_simp
              exact hK _ _ rfl (Below.refl _ _)
            · intro W2 hw K hK
              go_simp
              exact hK _ _ rfl (Below.refl _ _)
            · intro W2 hw K hK
              go_simp
              exact hK _ _ rfl (Below.refl _ _)
            · intro W2 hw K hK
              go_simp
              exact hK _ _ rfl (Below.refl _ _)
            · intro W2 hw K hK
              go_simp
              exact hK _ _ rfl (Below.refl _ _)
            · intro W2 hw K hK
              obtain ⟨s0, s1, s2, s3⟩ := HCE.out W2 hw
              go_simp
              exact hK _ _ rfl (Below.refl _ _)
            · intro W2 hw K hK
              go_simp
              exact hK _ _ rfl (Below.refl _ _)
            · intro W2 hw K hK
              go_simp
              exact hK _ _ rfl (Below.refl _ _)
            · intro W2 hw K hK
              go_simp
              exact hK _ _ rfl (Below.refl _ _)
            · intro W2 hw K hK
              obtain ⟨s0, s1, s2, s3⟩ := HCE.out W2 hw
              go_simp
              exact hK _ _ rfl (Below.refl _ _)
            · intro W2 hw K hK
              go_simp
              refine Calls.mono (HLE.out W2) ?_
              rintro e9 w9 ⟨rfl, hb9⟩
              exact hK _ _ rfl hb9
            · intro W2 hw K hK
              go_simp
              exact hK _ _ rfl (Below.refl _ _)
          · intro W2 hw2
            simp only [Behind]
            have hb2 := Lib.hid ((Below.refl _ W5).drew.trans hw2)
            clear hw2
            simp only [List.drop, Act.put, List.setIfInBounds_toArray, List.set_cons_zero, List.set_cons_succ]
            go_wp2_with fail
            refine NoPanic.normal ?_
            have HI6 := Lib.hid (HI5.out.1.below hb2.out)
            cases ls with
            | true =>
              have HF : Hid (befW cel ct ck N0 x = N0) := Lib.hid (by unfold befW; rw [if_neg (fun e => by have := e.2; rw [← HLS.out] at this; cases this)])
              have HI8 : Hid (BfI w W2 xb so ct ck r0 nv tv (befS cel ct ck NS (ws.take (z + 1)))) := Lib.hid (by rw [HTK.out, HF.out]; exact HI6.out)
              go_wp2_with fail
              go_roundw
              case rel => exact ⟨z + 1, nv, by go_num, by omega, HI8.out, by rw [HTK.out]; have := befW_len cel ct ck N0 x; have := HI5.out.2.2.2; omega⟩
              case measure => simp [intOf]; omega
            | false =>
              have e6 := (hb2.out.block p5 (Array.getElem?_eq_some_iff.1 HI5.out.2.1).1).trans HI5.out.2.1
              have c0 : W2.cell? ⟨p5, 0, none⟩ = some (.int .i64 x.t) := by rw [cell_of_row _ _ 0 _ _ _ e6]; rfl
              have c1 : W2.cell? ⟨p5, 1, none⟩ = some (.int .i64 x.k) := by rw [cell_of_row _ _ 1 _ _ _ e6]; rfl
              have hxt : x.t = ((x.t.toNat : Nat) : Int) := (Int.toNat_of_nonneg ht0).symm
              have hcl : CelI W2 so G cel := HIN.out.2.2.1.keep HI6.out.ch.size fun q e => HI6.out.ch.block q (HIN.out.2.2.1.lt q e) (HIN.out.2.2.2.1 q e).1 (HIN.out.2.2.2.1 q e).2
              have HNO := Lib.hid (swnote_any (t := x.t.toNat) (k := x.k) (o := cel x.t x.k) HI6.out.sw HI6.out.no (by have := HI5.out.2.2.2; have := HIN.out.2.1; have := HIN.out.2.2.2.2.2.2; omega) HI6.out.up fun W hb => by rw [← hxt]; exact (hcl.below hb).ans W (fun _ _ => rfl) x.t x.k)
              have HF : Hid (befW cel ct ck N0 x = noteS x.t.toNat x.k (cel x.t x.k) N0) := Lib.hid (by unfold befW; rw [if_pos ⟨⟨ht0, ht4⟩, HLS.out.symm⟩])
              rw [← hxt] at HNO
              clear e6 hxt hcl
              go_wp2_with fail
              refine Calls.mono HNO.out ?_
              rintro e w8 ⟨rfl, nv8, k1, k2, k3, k4⟩
              have HI8 : Hid (BfI w w8 xb so ct ck r0 nv8 tv (befW cel ct ck N0 x)) := Lib.hid (by
                rw [HF.out]
                exact ⟨k1, k2, noteS_up HI6.out.up, HI6.out.ch.trans k3 HI6.out.new, fun q e => by
                  rcases k4 q e with e | e
                  · exact HI6.out.new q e
                  · exact .inr (Nat.le_trans HI6.out.ch.size e)⟩)
              clear k1 k2 k3 k4 c0 c1
              go_wp2_with fail
              go_roundw
              case rel => exact ⟨z + 1, nv8, by go_num, by omega, by rw [HTK.out]; exact HI8.out, by rw [HTK.out]; have := befW_len cel ct ck N0 x; have := HI5.out.2.2.2; omega⟩
              case measure => simp [intOf]; omega
        · have HF : Hid (befW cel ct ck N0 x = N0) := Lib.hid (by unfold befW; rw [if_neg (fun e => ht4 e.1.2)])
          refine wp_region_noPanic ?_
          refine wp_region_abs 19 39 [
            .is (.pointer (some ⟨p5, 0, none⟩)),
            .is (.pointer (some ⟨p5, 0, none⟩)),
            .is (.int .i64 x.t),
            .is (.bool true),
            .is (.bool true),
            .is (.pointer (some ⟨p5, 0, none⟩)),
            .is (.pointer (some ⟨p5, 0, none⟩)),
            .is (.int .i64 x.t),
            .is (.bool false),
            .is (.bool false),
            .is (.bool false),
            .is undef,
            .is undef,
            .is undef,
            .is undef,
            .is undef,
            .is undef,
            .is undef,
            .is undef]
            [14, 15, 16, 17, 18, 19, 20, 21, 22, 23, 24, 25, 26, 27, 28, 29, 30, 31, 32]
            [[], [0], [1], [2], [3], [4], [5, 4], [6, 4], [7, 4], [4, 8], [9], [10], [11, 10], [10], [13, 10], [14, 10], [15, 10], [12, 16, 10], [17, 10]] (by kernel_rfl) (by rfl) rfl rfl (by kernel_rfl) (fun _ _ _ _ h => h.elim) ?_ ?_
          · refine ⟨?_, ?_, ?_, ?_, ?_, ?_, ?_, ?_, ?_, ?_, ?_, ?_, ?_, ?_, ?_, ?_, ?_, ?_, ?_, trivial⟩
            · intro W2 hw K hK
              go_simp
              exact hK _ _ rfl (Below.refl _ _)
            · intro W2 hw K hK
              go_simp
              exact hK _ _ rfl (Below.refl _ _)
            · intro W2 hw K hK
              obtain ⟨s0, s1, s2, s3⟩ := HCE.out W2 hw
              go_simp
              exact hK _ _ rfl (Below.refl _ _)
            · intro W2 hw K hK
              go_simp
              exact hK _ _ rfl (Below.refl _ _)
            · intro W2 hw K hK
              go_simp
              exact hK _ _ rfl (Below.refl _ _)
            · intro W2 hw K hK
              go_simp
              exact hK _ _ rfl (Below.refl _ _)
            · intro W2 hw K hK
              go_simp
              exact hK _ _ rfl (Below.refl _ _)
            · intro W2 hw K hK
              obtain ⟨s0, s1, s2, s3⟩ := HCE.out W2 hw
              go_simp
              exact hK _ _ rfl (Below.refl _ _)
            · intro W2 hw K hK
              go_simp
              exact hK _ _ rfl (Below.refl _ _)
            · intro W2 hw K hK
              go_simp
              exact hK _ _ rfl (Below.refl _ _)
            · intro W2 hw K hK
              go_simp
              exact hK _ _ rfl (Below.refl _ _)
            · intro W2 hw K hK
              go_simp
              exact hK _ _ rfl (Below.refl _ _)
            · intro W2 hw K hK
              obtain ⟨s0, s1, s2, s3⟩ := HCE.out W2 hw
              go_simp
              exact hK _ _ rfl (Below.refl _ _)
            · intro W2 hw K hK
              go_simp
              exact hK _ _ rfl (Below.refl _ _)
            · intro W2 hw K hK
              go_simp
              exact hK _ _ rfl (Below.refl _ _)
            · intro W2 hw K hK
              go_simp
              exact hK _ _ rfl (Below.refl _ _)
            · intro W2 hw K hK
              obtain ⟨s0, s1, s2, s3⟩ := HCE.out W2 hw
              go_simp
              exact hK _ _ rfl (Below.refl _ _)
            · intro W2 hw K hK
              go_simp
              exact hK _ _ rfl (Below.refl _ _)
            · intro W2 hw K hK
              go_simp
              exact hK _ _ rfl (Below.refl _ _)
          · intro W2 hw2
            simp only [Behind]
            have hb2 := Lib.hid ((Below.refl _ W5).drew.trans hw2)
            clear hw2
            simp only [List.drop, Act.put, List.setIfInBounds_toArray, List.set_cons_zero, List.set_cons_succ]
            go_wp2_with fail
            refine NoPanic.normal ?_
            have HI6 := Lib.hid (HI5.out.1.below hb2.out)
            have HI8 : Hid (BfI w W2 xb so ct ck r0 nv tv (befS cel ct ck NS (ws.take (z + 1)))) := Lib.hid (by rw [HTK.out, HF.out]; exact HI6.out)
            go_wp2_with fail
            go_roundw
            case rel => exact ⟨z + 1, nv, by go_num, by omega, HI8.out, by rw [HTK.out]; have := befW_len cel ct ck N0 x; have := HI5.out.2.2.2; omega⟩
            case measure => simp [intOf]; omega
      · have HF : Hid (befW cel ct ck N0 x = N0) := Lib.hid (by unfold befW; rw [if_neg (fun e => ht0 e.1.1)])
        refine wp_region_noPanic ?_
        refine wp_region_abs 19 39 [
          .is (.pointer (some ⟨p5, 0, none⟩)),
          .is (.pointer (some ⟨p5, 0, none⟩)),
          .is (.int .i64 x.t),
          .is (.bool false),
          .is (.bool false),
          .is undef,
          .is undef,
          .is undef,
          .is undef,
          .is (.bool false),
          .is (.bool false),
          .is undef,
          .is undef,
          .is undef,
          .is undef,
          .is undef,
          .is undef,
          .is undef,
          .is undef]
          [14, 15, 16, 17, 18, 19, 20, 21, 22, 23, 24, 25, 26, 27, 28, 29, 30, 31, 32]
          [[], [0], [1], [2], [3], [4], [5, 4], [6, 4], [7, 4], [4, 8], [9], [10], [11, 10], [10], [13, 10], [14, 10], [15, 10], [12, 16, 10], [17, 10]] (by kernel_rfl) (by rfl) rfl rfl (by kernel_rfl) (fun _ _ _ _ h => h.elim) ?_ ?_
        · refine ⟨?_, ?_, ?_, ?_, ?_, ?_, ?_, ?_, ?_, ?_, ?_, ?_, ?_, ?_, ?_, ?_, ?_, ?_, ?_, trivial⟩
          · intro W2 hw K hK
            go_simp
            exact hK _ _ rfl (Below.refl _ _)
          · intro W2 hw K hK
            go_simp
            exact hK _ _ rfl (Below.refl _ _)
          · intro W2 hw K hK
            obtain ⟨s0, s1, s2, s3⟩ := HCE.out W2 hw
            go_simp
            exact hK _ _ rfl (Below.refl _ _)
          · intro W2 hw K hK
            go_simp
            exact hK _ _ rfl (Below.refl _ _)
          · intro W2 hw K hK
            go_simp
            exact hK _ _ rfl (Below.refl _ _)
          · intro W2 hw K hK
            go_simp
            exact hK _ _ rfl (Below.refl _ _)
          · intro W2 hw K hK
            go_simp
            exact hK _ _ rfl (Below.refl _ _)
          · intro W2 hw K hK
            obtain ⟨s0, s1, s2, s3⟩ := HCE.out W2 hw
            go_simp
            exact hK _ _ rfl (Below.refl _ _)
          · intro W2 hw K hK
            go_simp
            exact hK _ _ rfl (Below.refl _ _)
          · intro W2 hw K hK
            go_simp
            exact hK _ _ rfl (Below.refl _ _)
          · intro W2 hw K hK
            go_simp
            exact hK _ _ rfl (Below.refl _ _)
          · intro W2 hw K hK
            go_simp
            exact hK _ _ rfl (Below.refl _ _)
          · intro W2 hw K hK
            obtain ⟨s0, s1, s2, s3⟩ := HCE.out W2 hw
            go_simp
            exact hK _ _ rfl (Below.refl _ _)
          · intro W2 hw K hK
            go_simp
            exact hK _ _ rfl (Below.refl _ _)
          · intro W2 hw K hK
            go_simp
            exact hK _ _ rfl (Below.refl _ _)
          · intro W2 hw K hK
            go_simp
            exact hK _ _ rfl (Below.refl _ _)
          · intro W2 hw K hK
            obtain ⟨s0, s1, s2, s3⟩ := HCE.out W2 hw
            go_simp
            exact hK _ _ rfl (Below.refl _ _)
          · intro W2 hw K hK
            go_simp
            exact hK _ _ rfl (Below.refl _ _)
          · intro W2 hw K hK
            go_simp
            exact hK _ _ rfl (Below.refl _ _)
        · intro W2 hw2
          simp only [Behind]
          have hb2 := Lib.hid ((Below.refl _ W5).drew.trans hw2)
          clear hw2
          simp only [List.drop, Act.put, List.setIfInBounds_toArray, List.set_cons_zero, List.set_cons_succ]
          go_wp2_with fail
          refine NoPanic.normal ?_
          have HI6 := Lib.hid (HI5.out.1.below hb2.out)
          have HI8 : Hid (BfI w W2 xb so ct ck r0 nv tv (befS cel ct ck NS (ws.take (z + 1)))) := Lib.hid (by rw [HTK.out, HF.out]; exact HI6.out)
          go_wp2_with fail
          go_roundw
          case rel => exact ⟨z + 1, nv, by go_num, by omega, HI8.out, by rw [HTK.out]; have := befW_len cel ct ck N0 x; have := HI5.out.2.2.2; omega⟩
          case measure => simp [intOf]; omega
    · obtain rfl : z = n := by have := HI.out.2.1; omega
      have HE : Hid (BfI w wr xb so ct ck r0 nv tv (befS cel ct ck NS ws)) := Lib.hid (by
        have h9 := HI.out.1
        rw [List.take_of_length_le (by have := HIN.out.2.2.2.2.2.2; omega)] at h9
        exact h9)
      go_wp2_with fail
      exact bodyPost_end (v := .tuple #[]) (by simp [results, Try.results39, go_sem]) rfl ⟨rfl, _, HE.out⟩
end Go.Proofs.Ytejpjbmbcdgomaa

/- A step of a sweep that is done, and of none. -/
namespace Go.Proofs.Ytejpjbmbcdgomaa
set_option maxRecDepth 100000
open Go.RowKit

theorem swstep_done {w : World} {xb : Nat} {so : Option Addr} {ct ck : Int} {nv tv : Value} (h : SwM w xb so ct ck nv tv true) (n : Int) : Calls Try.prog 42 #[.pointer (some ⟨xb, 0, none⟩), .int .i64 n] w fun e w' => e = .returned (.bool true) ∧ w = w' := by
  have HD := Lib.hid (swdone_any h)
  clear h
  go_enter Try.func42, Try.ntmps42
  go_wp2_with fail
  refine Calls.mono HD.out ?_
  rintro e w1 ⟨rfl, rfl⟩
  go_wp2_with fail
  go_ret
  exact ⟨rfl, rfl⟩
theorem swstep_nil (w : World) (n : Int) : Calls Try.prog 42 #[.pointer none, .int .i64 n] w fun e w' => e = .returned (.bool true) ∧ w = w' := by
  have HD := Lib.hid (swdone_nil w)
  go_enter Try.func42, Try.ntmps42
  go_wp2_with fail
  refine Calls.mono HD.out ?_
  rintro e w1 ⟨rfl, rfl⟩
  go_wp2_with fail
  go_ret
  exact ⟨rfl, rfl⟩
theorem swtext_nil (w : World) : Calls Try.prog 45 #[.pointer none] w fun e w' => e = .returned (.tuple #[.slice none 0 0, errV 11]) ∧ w = w' := by
  go_enter Try.func45, Try.ntmps45
  go_wp2_with fail
  exact bodyPost_ret (v := .tuple #[.slice none 0 0, errV 11]) (by simp [results, Try.results45, go_sem, errV]) rfl ⟨rfl, rfl⟩
theorem swtext_not {w : World} {xb : Nat} {so : Option Addr} {ct ck : Int} {nv tv : Value} (h : SwM w xb so ct ck nv tv false) : Calls Try.prog 45 #[.pointer (some ⟨xb, 0, none⟩)] w fun e w' => e = .returned (.tuple #[.slice none 0 0, errV 11]) ∧ w = w' := by
  obtain ⟨_, _, _, _, _, c5⟩ := h.at
  clear h
  go_enter Try.func45, Try.ntmps45
  go_wp2_with fail
  exact bodyPost_ret (v := .tuple #[.slice none 0 0, errV 11]) (by simp [results, Try.results45, go_sem, errV]) rfl ⟨rfl, rfl⟩
end Go.Proofs.Ytejpjbmbcdgomaa

/- A sweep's text. -/
namespace Go.Proofs.Ytejpjbmbcdgomaa
set_option maxRecDepth 100000
open Go.RowKit

def wrE (e : En) : Wr := ⟨(e.t : Int), e.x.k, e.x.c.v, false⟩
/-- What was taken, put by force. -/
def fT (T : List En) : Tb := T.foldl (fun ts e => forceT e.x.c.s ts [wrE e]) fun _ => []
theorem fT_snoc (T : List En) (e : En) : fT (T ++ [e]) = forceT e.x.c.s (fT T) [wrE e] := by
  unfold fT
  rw [List.foldl_append]
  rfl
def tkE (e : En) : Prop := e.t < 4 ∧ Fits e.x.k ∧ Fits e.x.c.v ∧ 1 ≤ e.x.c.s ∧ e.x.c.s ≤ 9223372036854775807
/-- Between two of them. -/
structure TxI (w wr : World) (sb n : Nat) (ts : Tb) : Prop where
  b : Below w.heap.size w wr
  ex : ∃ G last, SM wr G sb ts (liveT ts : Int) last ∧ ∀ q, G q → w.heap.size ≤ q
  len : ∀ i, i < 4 → (ts i).length ≤ n
  num : NumT ts
theorem TxI.next {w wr W2 : World} {sb n b : Nat} {ts : Tb} {e : En} (h : TxI w wr sb n ts) (hn : n ≤ 20000) (he : tkE e) (hb : Below wr.heap.size wr W2) (hx : W2.heap[b]? = some (.cells #[.int .i64 (e.t : Int), .int .i64 e.x.k, .int .i64 e.x.c.v, .bool false] 51 (0, 0))) :
    Calls Try.prog 33 #[.pointer (some ⟨sb, 0, none⟩), .int .i64 e.x.c.s, .slice (some ⟨b, 0, none⟩) 1 1] W2 fun r w' => r = .returned .nilIface ∧ TxI w w' sb (n + 1) (forceT e.x.c.s ts [wrE e]) := by
  obtain ⟨G, last, h1, h2⟩ := h.ex
  obtain ⟨e1, e2, e3, e4, e5⟩ := he
  have hok : WrOk (wrE e) := ⟨e2, e3⟩
  refine Calls.mono (force_any (ws := [wrE e]) (A := some ⟨b, 0, none⟩) (c := 1) e.x.c.s (h1.below hb) (wrs_one (x := wrE e) hx) (fun x hx => by rw [List.mem_singleton.1 hx]; exact hok.1) (by simp) (fun i hi => Nat.le_trans (h.len i hi) (by omega)) (takB_good e4 fun j hj => by
    have hj0 : j = 0 := by simp at hj; omega
    subst hj0
    show InT (e.t : Int)
    unfold InT
    omega)) ?_
  rintro r w' ⟨rfl, G', g1, g2⟩
  have hlo := g2.low (Nat.le_trans h.b.size hb.size) h2
  exact ⟨rfl, (h.b.trans (hb.mono h.b.size)).trans hlo.1, ⟨G', _, g1, hlo.2⟩, fun i hi => force_le _ h.len i hi, NumT.force _ h.num (fun x hx => by rw [List.mem_singleton.1 hx]; exact hok) (by omega) e5⟩
set_option maxHeartbeats 16000000 in
theorem swtext_any {w : World} {B xb : Nat} {so : Option Addr} {ct ck : Int} {nv tv : Value} {T : List En} (h : SwM w xb so ct ck nv tv true) (ho : Sno w B tv T) (hT : T.length ≤ 10000) (hg : ∀ e ∈ T, tkE e) :
    Calls Try.prog 45 #[.pointer (some ⟨xb, 0, none⟩)] w fun e w' => ∃ A c, e = .returned (.tuple #[.slice A (putB (fT T)).length c, .nilIface]) ∧ Rdv w' A (putB (fT T)).length 1 (valsB (putB (fT T))) ∧ Below w.heap.size w w' := by
  obtain ⟨A, c, rfl, hr, _, _⟩ := rdv_own ho
  obtain ⟨_, _, _, _, c4, c5⟩ := SwM.at h
  have HE : Hid (Ens w A T) := Lib.hid ⟨rfl, hr⟩
  have HSW := Lib.hid h
  obtain ⟨n, hn⟩ : ∃ n, n = T.length := ⟨_, rfl⟩
  have HN := Lib.hid hn
  have HT := Lib.hid (And.intro hT hg)
  rw [← hn] at c4
  clear h ho hr hn hT hg
  go_enter Try.func45, Try.ntmps45
  go_upto_region 3 with fail
  clear c5
  go_wp2_with fail
  refine Calls.mono (snew_any w) ?_
  rintro e w1 ⟨rfl, ⟨G, hM, hG⟩, hb1⟩
  obtain ⟨sb, hsb⟩ : ∃ sb, sb = w.heap.size := ⟨_, rfl⟩
  rw [← hsb] at hM ⊢
  have HI1 : Hid (TxI w w1 sb 0 (fT (T.take 0))) := Lib.hid ⟨hb1, ⟨G, 0, hM, hG⟩, fun i _ => by simp [fT], NumT.none⟩
  have d4 := (SwM.at (SwM.below HSW.out hb1)).2.2.2.2.1
  rw [← HN.out] at d4
  clear hsb hM hG hb1 c4
  go_wp2_with fail
  go_loopw [2, 3, 6, 7, 24, 25, 26, 27, 28, 29, 30, 31, 32, 33, 34, 35, 36, 37, 38, 39, 40, 41, 42, 43] (fun _ _ _ _ ix _ _ _ _ _ _ _ _ _ _ _ _ _ _ _ _ _ _ _ wr => ∃ z : Nat, ix = .int .i64 (z : Int) ∧ z ≤ n ∧ TxI w wr sb z (fT (T.take z))) (fun _ _ _ _ ix _ _ _ _ _ _ _ _ _ _ _ _ _ _ _ _ _ _ _ wr => n - (intOf ix).toNat)
  case atStart => exact ⟨0, rfl, Nat.zero_le _, HI1.out⟩
  case round =>
    obtain ⟨z, rfl, hz, hI⟩ := hrel
    have HI := Lib.hid (And.intro hI hz)
    have hn18 : n ≤ 10000 := by rw [HN.out]; exact HT.out.1
    clear hI hz d4
    by_cases hlt : z < n
    · have hzl : z < T.length := by rw [← HN.out]; exact hlt
      obtain ⟨b, off, rfl, hcl⟩ := Ens.cell (RowAt.below HE.out HI.out.1.b) (by omega)
      obtain ⟨x0, x1, x2, x3, x4⟩ := hcl z hzl
      obtain ⟨y, hy⟩ : ∃ y, y = T[z] := ⟨_, rfl⟩
      have htk : T.take (z + 1) = T.take z ++ [y] := by rw [hy]; exact (List.take_append_getElem hzl).symm
      have hgy : tkE y := by rw [hy]; exact HT.out.2 _ (List.getElem_mem hzl)
      rw [← hy] at x0 x1 x2 x3 x4
      obtain ⟨p15, hp15⟩ : ∃ p15, p15 = wr.heap.size := ⟨_, rfl⟩
      obtain ⟨W12, hW12⟩ : ∃ W12, W12 = (wr.alloc (.cells #[.int .i64 (y.t : Int), .int .i64 y.x.k, .int .i64 y.x.c.v, .int .i64 y.x.c.s, .bool y.x.c.dead] 112)).alloc (.cells #[.int .i64 (y.t : Int), .int .i64 y.x.k, .int .i64 y.x.c.v, .bool false] 51) := ⟨_, rfl⟩
      have h3 := blocks2 wr (.cells #[.int .i64 (y.t : Int), .int .i64 y.x.k, .int .i64 y.x.c.v, .int .i64 y.x.c.s, .bool y.x.c.dead] 112) (.cells #[.int .i64 (y.t : Int), .int .i64 y.x.k, .int .i64 y.x.c.v, .bool false] 51)
      rw [← hW12] at h3
      obtain ⟨_, g15, _, gb⟩ := h3
      have HNX := Lib.hid (HI.out.1.next (by omega) hgy gb g15)
      have HTK := Lib.hid htk
      have HW12 := Lib.hid (And.intro hW12 hp15)
      rw [← hp15] at HNX
      clear hcl hy htk hgy g15 gb hW12 hp15
      go_wp2_with fail
      rw [← HW12.out.1, ← HW12.out.2]
      refine Calls.mono HNX.out ?_
      rintro e w13 ⟨rfl, hI'⟩
      have HI' : Hid (TxI w w13 sb (z + 1) (fT (T.take (z + 1)))) := Lib.hid (by rw [HTK.out, fT_snoc]; exact hI')
      clear hI' x0 x1 x2 x3 x4
      go_wp2_with fail
      go_roundw
      case rel => exact ⟨z + 1, by go_num, by omega, HI'.out⟩
      case measure => simp [intOf]; omega
    · obtain rfl : z = n := by have := HI.out.2; omega
      have hT0 : T.take z = T := by rw [HN.out]; exact List.take_length
      have hI := HI.out.1
      rw [hT0] at hI
      obtain ⟨G, last, h1, h2⟩ := hI.ex
      have HP := Lib.hid (sput_any h1 (fun i hi => Nat.le_trans (hI.len i hi) (by omega)) hI.num)
      have HB := Lib.hid hI.b
      clear hT0 hI h1 h2 hlt
      go_wp2_with fail
      refine Calls.mono HP.out ?_
      rintro e w9 ⟨A2, c2, rfl, hr2, _, hb2⟩
      have HR2 := Lib.hid (And.intro hr2 (HB.out.trans (hb2.mono HB.out.size)))
      clear hr2 hb2
      go_wp2_with fail
      exact bodyPost_ret (v := .tuple #[.slice A2 (putB (fT T)).length c2, .nilIface]) (by simp [results, Try.results45, go_sem]) rfl ⟨A2, c2, rfl, HR2.out.1, HR2.out.2⟩
end Go.Proofs.Ytejpjbmbcdgomaa
