/- ProgEncodes answers true of whatever program: the walk. -/
import Derived.Test.YtkeckjgihjpfbaaDoorREnc
import Derived.Test.YtkeckjgihjpfbaaDoorBackC
import Derived.Test.YtkeckjgihjpfbaaDoorDecode
import Derived.Test.YtkeckjgihjpfbaaDoorFault
import Derived.Deep.Cut
namespace Go.Proofs.YtkeckjgihjpfbaaDoor
set_option maxRecDepth 100000
open Go.RowKit

theorem encL_small (x : Ins) (l : Nat) : ∀ b ∈ encL x l, b < 256 := by
  unfold encL
  split <;> exact cntN_small_all _
theorem encI_small {x : Ins} (h : x.Small) : ∀ b ∈ encI x, b < 256 := by
  intro b hb
  unfold encI at hb
  rcases List.mem_cons.1 hb with rfl | hb
  · have := h.op; omega
  · unfold encLs at hb
    obtain ⟨l, _, hl⟩ := List.mem_flatMap.1 hb
    exact encL_small x l b hl
theorem encP_small {f : Nat} {l : List Ins} (h : ∀ x ∈ l, x.Small) : ∀ b ∈ encP f l, b < 256 := by
  intro b hb
  unfold encP at hb
  rcases List.mem_append.1 hb with hb | hb
  · rcases List.mem_append.1 hb with hb | hb
    · exact cntN_small_all _ b hb
    · exact cntN_small_all _ b hb
  · unfold encIs at hb
    obtain ⟨x, hx, hb⟩ := List.mem_flatMap.1 hb
    exact encI_small (h x hx) b hb
theorem encP_len {f : Nat} {l : List Ins} (h : ∀ x ∈ l, x.Small) (hf : f ≤ 1000) (hl : l.length ≤ 32) : (encP f l).length ≤ 2000 := by
  have h1 := encIs_len l (fun x hx => (h x hx).enc)
  have h2 := cntN_len f (by omega)
  have h3 := cntN_len l.length (by omega)
  unfold encP
  rw [List.length_append, List.length_append]
  omega
theorem NewAt.nil {w w' : World} {A : Option Addr} {n c : Nat} (h : NewAt w w' A n c) : A = none → c = 0 ∧ n = 0 := by
  intro hA
  rcases h with ⟨_, h1, h2⟩ | ⟨b, e, _⟩
  · exact ⟨h2, h1⟩
  · rw [hA] at e; cases e
theorem fault_later {w w2 : World} {b : Nat} {v : Int} (h : FaultAt w b v) (hb : Below w.heap.size w w2) : FaultAt w2 b v := (hb.block b (Array.getElem?_eq_some_iff.1 h).1).trans h
theorem box_later {w w2 : World} {b : Nat} {o : Obj} (h : w.heap[b]? = some o) (hb : Below w.heap.size w w2) : w2.heap[b]? = some o := (hb.block b (Array.getElem?_eq_some_iff.1 h).1).trans h
theorem sameP_self' (f : Int) (l : List Ins) : sameP f f l l = true := by simp [sameP]
theorem dec_good {f : Int} {l : List Ins} (h : chk f l = -2) (hn : ∀ x ∈ l, Fits x.n) {w w' : World} {e : Ending} (hd : DecE (encP f.toNat l) w w' e) :
    ∃ A c, e = .returned (.tuple #[.agg #[.int .i64 f, .slice A l.length c], .nilIface]) ∧ Codes w' A l.length l ∧ w'.ownsRow w.heap.size 43 6 (.slice A l.length c) l.length (insV l) := by
  have h1 := dec_back h hn
  have h2 := read_back h hn
  rcases hd with ⟨_, A, c, h3⟩ | ⟨h3, _⟩
  · rw [h2] at h3
    exact ⟨A, c, h3⟩
  · rw [h1] at h3; cases h3
set_option maxHeartbeats 16000000 in
theorem encodes_law (f : Int) (A : Option Addr) (n c : Nat) (l : List Ins) (w : World) (hT : Tab w) (h1 : Codes w A n l) (hn : n ≤ 9223372036854775807) (hnil : A = none → c = 0) (hok : ∀ x ∈ l, Ins.Ok x) :
    Calls Tryd.prog 3 #[.agg #[.int .i64 f, .slice A n c]] w fun e w' => e = .returned (.bool true) ∧ Below w.heap.size w w' := by
  have hb0 := (Below.refl w.heap.size w).alloc (Nat.le_refl _) (.cells #[.int .i64 f, .slice A n c] 24)
  have HAL := Lib.hid (alive_any _ (hT.ext hb0))
  have HB0 := Lib.hid hb0
  have HN0 := Lib.hid (one_new w (.cells #[.int .i64 f, .slice A n c] 24))
  have HT := Lib.hid hT
  have H1 := Lib.hid h1
  have HL := Lib.hid h1.len
  have HFN := Lib.hid (fun x hx => (hok x hx).n)
  clear hb0 hT h1 hok
  go_enter Tryd.func3, Tryd.ntmps3
  go_wp2_with fail
  refine Calls.mono HAL.out ?_
  rintro e w1 ⟨rfl, hb1⟩
  have HB1 := Lib.hid (HB0.out.trans (hb1.mono HB0.out.size))
  have HX1 := Lib.hid (box_later HN0.out hb1)
  have x0 : w1.cell? ⟨w.heap.size, 0, none⟩ = some (.int .i64 f) := cell_of_row w1 _ 0 _ 24 (0, 0) HX1.out
  have x1 : w1.cell? ⟨w.heap.size, 1, none⟩ = some (.slice A n c) := cell_of_row w1 _ 1 _ 24 (0, 0) HX1.out
  have HLA := Lib.hid (large_any f A n c w1)
  clear hb1
  by_cases hl : 100 < n
  · have d1 : decide ((100 : Int) < (n : Int)) = true := decide_eq_true (by omega)
    rw [d1] at HLA
    clear d1
    go_wp2_with fail
    refine Calls.mono HLA.out ?_
    rintro e w2 ⟨rfl, hb2⟩
    have HB2 := Lib.hid (HB1.out.trans (hb2.mono HB1.out.size))
    clear hb2
    go_wp2_with fail
    go_ret
    exact ⟨rfl, HB2.out⟩
  have d1 : decide ((100 : Int) < (n : Int)) = false := decide_eq_false (by omega)
  rw [d1] at HLA
  clear d1
  go_wp2_with fail
  refine Calls.mono HLA.out ?_
  rintro e w2 ⟨rfl, hb2⟩
  have HB2 := Lib.hid (HB1.out.trans (hb2.mono HB1.out.size))
  have HX2 := Lib.hid (box_later HX1.out hb2)
  clear x0 x1 hb2
  have x0 : w2.cell? ⟨w.heap.size, 0, none⟩ = some (.int .i64 f) := cell_of_row w2 _ 0 _ 24 (0, 0) HX2.out
  have x1 : w2.cell? ⟨w.heap.size, 1, none⟩ = some (.slice A n c) := cell_of_row w2 _ 1 _ 24 (0, 0) HX2.out
  have HCP := Lib.hid (copies_any f A n c l w2 (H1.out.ext (stays_b HB2.out)) hnil (by omega))
  go_wp2_with fail
  refine Calls.mono HCP.out ?_
  rintro e w3 ⟨A', c', rfl, hcd, hown, hb3⟩
  clear x0 x1
  have hb3a : Below w2.heap.size w2 (w3.alloc (.cells #[.int .i64 f, .slice A' n c'] 24)) := hb3.alloc hb3.size _
  have HB3 := Lib.hid (HB2.out.trans (hb3a.mono HB2.out.size))
  have HX3 := Lib.hid (box_later HX2.out hb3a)
  have HY3 := Lib.hid (one_new w3 (.cells #[.int .i64 f, .slice A' n c'] 24))
  have HCD := Lib.hid (hcd.ext (stays_b ((Below.refl _ w3).alloc (Nat.le_refl _) (.cells #[.int .i64 f, .slice A' n c'] 24))))
  have HEN := Lib.hid (encode_any f A' n c' l _ (HT.out.ext HB3.out) HCD.out hn HFN.out)
  have hq : w.heap.size < w3.heap.size := by have := (Array.getElem?_eq_some_iff.1 HX2.out).1; have := hb3.size; omega
  clear hcd hown hb3 hb3a
  go_wp2_with fail
  refine Calls.mono HEN.out ?_
  rintro e w4 ⟨he, hb4⟩
  have HB4 := Lib.hid (HB3.out.trans (hb4.mono HB3.out.size))
  have HX4 := Lib.hid (box_later HX3.out hb4)
  have HY4 := Lib.hid (box_later HY3.out hb4)
  have HC4 := Lib.hid (HCD.out.ext (stays_b hb4))
  have HC4p := Lib.hid (H1.out.ext (stays_b HB4.out))
  have x0 : w4.cell? ⟨w.heap.size, 0, none⟩ = some (.int .i64 f) := cell_of_row w4 _ 0 _ 24 (0, 0) HX4.out
  have x1 : w4.cell? ⟨w.heap.size, 1, none⟩ = some (.slice A n c) := cell_of_row w4 _ 1 _ 24 (0, 0) HX4.out
  have y0 : w4.cell? ⟨w3.heap.size, 0, none⟩ = some (.int .i64 f) := cell_of_row w4 _ 0 _ 24 (0, 0) HY4.out
  have y1 : w4.cell? ⟨w3.heap.size, 1, none⟩ = some (.slice A' n c') := cell_of_row w4 _ 1 _ 24 (0, 0) HY4.out
  have hpg := programs_any f f A' A n n c' c l l w4 HC4.out HC4p.out hn hn
  rw [show sameP f f l l = true by simp [sameP]] at hpg
  have HPG := Lib.hid hpg
  clear hb4 hpg
  rcases he with ⟨hck, Ab, cb, rfl, hrb, hnab⟩ | ⟨hck, b, rfl, _, hfa⟩
  · obtain ⟨hh, _⟩ := chk_good hck
    obtain ⟨fn, rfl⟩ := Int.eq_ofNat_of_zero_le (show 0 ≤ f by omega)
    have hfn : fn ≤ 1000 := by omega
    have hn32 : n ≤ 32 := by have := HL.out; omega
    have hn1 : 1 ≤ n := by have := HL.out; omega
    have hsm := good_small hck HFN.out
    have HSM := Lib.hid hsm
    have HEL := Lib.hid (show (encP ((fn : Int).toNat) l).length ≤ 2000 from encP_len hsm (by omega) (by omega))
    have HES := Lib.hid (show ∀ b ∈ encP ((fn : Int).toNat) l, b < 256 from encP_small hsm)
    have HDG := Lib.hid (fun (w w' : World) (e : Ending) (h : DecE (encP ((fn : Int).toNat) l) w w' e) => dec_good hck HFN.out h)
    have HNIL := Lib.hid hnab.nil
    have HRB := Lib.hid hrb
    have HRCK := Lib.hid (fun W (h : Codes W A n l) => (by have h2 := refcheck_any (fn : Int) A n c l W h hn; rw [hck] at h2; exact h2 : Calls Tryd.prog 16 #[.agg #[.int .i64 (fn : Int), .slice A n c]] W fun e w' => e = .returned (.int .i64 (-2)) ∧ Below W.heap.size W w'))
    have HRE := Lib.hid (fun W (h : Codes W A n l) => refenc_any fn A n c l W h hsm hfn hn32)
    obtain ⟨L, hL⟩ : ∃ L, L = encP ((fn : Int).toNat) l := ⟨_, rfl⟩
    have HLE := Lib.hid (show encP fn l = L by rw [hL]; rfl)
    rw [← hL] at HEL HES HDG HNIL HRB ⊢
    clear hL hck hh hsm hrb hnab
    go_wp2_with fail
    refine Calls.mono HPG.out ?_
    rintro e w5 ⟨rfl, hb5⟩
    have HB5 := Lib.hid (HB4.out.trans (hb5.mono HB4.out.size))
    have HX5 := Lib.hid (box_later HX4.out hb5)
    have HY5 := Lib.hid (box_later HY4.out hb5)
    have HC5 := Lib.hid (HC4.out.ext (stays_b hb5))
    have HRB5 := Lib.hid (HRB.out.ext (stays_b hb5))
    clear x0 x1 y0 y1 hb5
    have x0 : w5.cell? ⟨w.heap.size, 0, none⟩ = some (.int .i64 (fn : Int)) := cell_of_row w5 _ 0 _ 24 (0, 0) HX5.out
    have x1 : w5.cell? ⟨w.heap.size, 1, none⟩ = some (.slice A n c) := cell_of_row w5 _ 1 _ 24 (0, 0) HX5.out
    have HRC := Lib.hid (HRCK.out w5 (H1.out.ext (stays_b HB5.out)))
    go_wp2_with fail
    refine Calls.mono HRC.out ?_
    rintro e w6 ⟨rfl, hb6⟩
    have HB6 := Lib.hid (HB5.out.trans (hb6.mono HB5.out.size))
    have HX6 := Lib.hid (box_later HX5.out hb6)
    have HY6 := Lib.hid (box_later HY5.out hb6)
    have HC6 := Lib.hid (HC5.out.ext (stays_b hb6))
    have HRB6 := Lib.hid (HRB5.out.ext (stays_b hb6))
    have HDE := Lib.hid (decode_any Ab L.length cb L w6 (HT.out.ext HB6.out) HRB6.out HNIL.out (by have := HEL.out; omega) HES.out)
    clear x0 x1 hb6
    go_wp2_with fail
    refine Calls.mono HDE.out ?_
    rintro e w7 ⟨he7, hb7⟩
    obtain ⟨A2, c2, rfl, hc7, ho7⟩ := HDG.out _ _ _ he7
    have hb7b := hb7
    have hb7a : Below w6.heap.size w6 (w7.alloc (.cells #[.int .i64 (fn : Int), .slice A2 l.length c2] 24)) := hb7.alloc hb7.size _
    have HB7 := Lib.hid (HB6.out.trans (hb7a.mono HB6.out.size))
    have HX7 := Lib.hid (box_later HX6.out hb7a)
    have HY7 := Lib.hid (box_later HY6.out hb7a)
    have HC7 := Lib.hid (HC6.out.ext (stays_b hb7a))
    have HRB7 := Lib.hid (HRB6.out.ext (stays_b hb7a))
    have hbz : Below w7.heap.size w7 (w7.alloc (.cells #[.int .i64 (fn : Int), .slice A2 l.length c2] 24)) := (Below.refl _ w7).alloc (Nat.le_refl _) _
    have HZ7 := Lib.hid (one_new w7 (.cells #[.int .i64 (fn : Int), .slice A2 l.length c2] 24))
    have HCX7 := Lib.hid (hc7.ext (stays_b hbz))
    have HOW7 := Lib.hid (own_keep ho7 fun b _ _ e => hbz.block b (Array.getElem?_eq_some_iff.1 e).1)
    have HZ := Lib.hid (show w6.heap.size ≤ w7.heap.size from hb7.size)
    have HLL := Lib.hid (show l.length = n from HL.out)
    obtain ⟨W, hW⟩ : ∃ W, W = w7.alloc (.cells #[.int .i64 (fn : Int), .slice A2 l.length c2] 24) := ⟨_, rfl⟩
    have HBW67 := Lib.hid hb7a
    clear he7 hb7 hb7a hb7b hc7 ho7 hbz
    go_upto_region 13 with fail
    rw [← hW] at HB7 HX7 HY7 HC7 HRB7 HZ7 HCX7 HOW7 HBW67 ⊢
    clear hW
    have x0 : W.cell? ⟨w.heap.size, 0, none⟩ = some (.int .i64 (fn : Int)) := cell_of_row W _ 0 _ 24 (0, 0) HX7.out
    have x1 : W.cell? ⟨w.heap.size, 1, none⟩ = some (.slice A n c) := cell_of_row W _ 1 _ 24 (0, 0) HX7.out
    have HRE7 := Lib.hid (HRE.out W (H1.out.ext (stays_b HB7.out)))
    go_wp2_with fail
    refine Calls.mono HRE7.out ?_
    rintro e w8 ⟨v8, rfl, ho8, hb8⟩
    rw [HLE.out] at ho8
    obtain ⟨A8, c8, rfl, hr8, _⟩ := ownB_rdv ho8
    have HB8 := Lib.hid (HB7.out.trans (hb8.mono HB7.out.size))
    have HX8 := Lib.hid (box_later HX7.out hb8)
    have HBW68 := Lib.hid (HBW67.out.trans (hb8.mono HBW67.out.size))
    have HY8 := Lib.hid (box_later HY7.out hb8)
    have HZ8 := Lib.hid (box_later HZ7.out hb8)
    have HC8 := Lib.hid (HC7.out.ext (stays_b hb8))
    have HCX8 := Lib.hid (HCX7.out.ext (stays_b hb8))
    have HOW8 := Lib.hid (own_keep HOW7.out fun b _ _ e => hb8.block b (Array.getElem?_eq_some_iff.1 e).1)
    have hsm8 := same_any Ab A8 L.length cb L.length c8 L L w8 (HRB7.out.ext (stays_b hb8)) hr8 HES.out HES.out
    rw [decide_eq_true rfl] at hsm8
    have HSM8 := Lib.hid hsm8
    clear x0 x1 ho8 hr8 hb8 hsm8
    go_wp2_with fail
    refine Calls.mono HSM8.out ?_
    rintro e w9 ⟨rfl, rfl⟩
    have x0 : w8.cell? ⟨w.heap.size, 0, none⟩ = some (.int .i64 (fn : Int)) := cell_of_row w8 _ 0 _ 24 (0, 0) HX8.out
    have x1 : w8.cell? ⟨w.heap.size, 1, none⟩ = some (.slice A n c) := cell_of_row w8 _ 1 _ 24 (0, 0) HX8.out
    have z0 : w8.cell? ⟨w7.heap.size, 0, none⟩ = some (.int .i64 (fn : Int)) := cell_of_row w8 _ 0 _ 24 (0, 0) HZ8.out
    have z1 : w8.cell? ⟨w7.heap.size, 1, none⟩ = some (.slice A2 l.length c2) := cell_of_row w8 _ 1 _ 24 (0, 0) HZ8.out
    have hp9 := programs_any (fn : Int) (fn : Int) A2 A l.length n c2 c l l w8 HCX8.out (H1.out.ext (stays_b HB8.out)) (by have := HLL.out; omega) hn
    rw [sameP_self'] at hp9
    have HP9 := Lib.hid hp9
    clear hp9
    go_wp2_with fail
    refine Calls.mono HP9.out ?_
    rintro e w9 ⟨rfl, hb9⟩
    have HB9 := Lib.hid (HB8.out.trans (hb9.mono HB8.out.size))
    have HX9 := Lib.hid (box_later HX8.out hb9)
    have HBW69 := Lib.hid (HBW68.out.trans (hb9.mono HBW68.out.size))
    have HY9 := Lib.hid (box_later HY8.out hb9)
    have HZ9 := Lib.hid (box_later HZ8.out hb9)
    have HC9 := Lib.hid (HC8.out.ext (stays_b hb9))
    have HOW9 := Lib.hid (own_keep HOW8.out fun b _ _ e => hb9.block b (Array.getElem?_eq_some_iff.1 e).1)
    clear x0 x1 z0 z1 hb9
    have z1 : w9.cell? ⟨w7.heap.size, 1, none⟩ = some (.slice A2 l.length c2) := cell_of_row w9 _ 1 _ 24 (0, 0) HZ9.out
    go_wp2_with fail
    have hln : l.length = n := HLL.out
    obtain ⟨g, cs0, hg0, hcs0, rfl⟩ : ∃ g cs, w9.heap[g]? = some (.cells cs 43 (0, 0)) ∧ n * 6 ≤ cs.size ∧ A2 = some ⟨g, 0, none⟩ := by
      rcases HOW9.out.2 with ⟨_, h0⟩ | ⟨g, cap, cur, e, _, h2, h3, _, h4, _⟩
      · omega
      · injection e with e1 _ e3
        exact ⟨g, cur, h2, by rw [h4]; have := Nat.mul_le_mul_right 6 h3; omega, e1⟩
    have hgw6 : w6.heap.size ≤ g := by obtain ⟨h, _⟩ := own_cells HOW9.out g rfl; exact h
    have HG0 := Lib.hid hg0
    have hl2 : l.length ≤ 32 := by omega
    have HLN := Lib.hid hln
    clear z1 hln hg0
    go_loopw [69] (fun i wr => ∃ (k : Nat) (cs : Array Value), i = .int .i64 (k : Int) ∧ k ≤ l.length ∧ Below w6.heap.size w9 wr ∧ wr.heap[g]? = some (.cells cs 43 (0, 0)) ∧ n * 6 ≤ cs.size ∧ wr.heap[w7.heap.size]? = some (.cells #[.int .i64 (fn : Int), .slice (some ⟨g, 0, none⟩) l.length c2] 24 (0, 0))) (fun i _ => l.length - (intOf i).toNat)
    case atStart => exact ⟨0, cs0, rfl, by omega, Below.refl _ _, HG0.out, hcs0, HZ9.out⟩
    case round =>
      obtain ⟨k, cs, rfl, hk, hb, hg, hcs, hz⟩ := hrel
      have HBK := Lib.hid hb
      have HGK := Lib.hid hg
      have HZK := Lib.hid hz
      have z1 : wr.cell? ⟨w7.heap.size, 1, none⟩ = some (.slice (some ⟨g, 0, none⟩) l.length c2) := cell_of_row wr _ 1 _ 24 (0, 0) hz
      clear hb hg hz
      by_cases hlt : k < l.length
      · have ha : ∀ j, j < 6 → ∃ v, wr.cell? ⟨g, k * 6 + j, none⟩ = some v := fun j hj => by
          rw [cell_of_row wr _ _ _ 43 (0, 0) HGK.out]
          have h : k * 6 + j < cs.size := by have := HLN.out; omega
          exact ⟨cs[k * 6 + j], Array.getElem?_eq_getElem h⟩
        obtain ⟨v0, a0⟩ := ha 0 (by omega)
        obtain ⟨v1, a1⟩ := ha 1 (by omega)
        obtain ⟨v2, a2⟩ := ha 2 (by omega)
        obtain ⟨v3, a3⟩ := ha 3 (by omega)
        obtain ⟨v4, a4⟩ := ha 4 (by omega)
        obtain ⟨v5, a5⟩ := ha 5 (by omega)
        rw [Nat.add_zero] at a0
        have fz : ∀ o, wr.frozen? ⟨g, o, none⟩ = false := fun o => by simp [World.frozen?, HGK.out]
        have f0 := fz (k * 6)
        have f1 := fz (k * 6 + 1)
        have f2 := fz (k * 6 + 2)
        have f3 := fz (k * 6 + 3)
        have f4 := fz (k * 6 + 4)
        have f5 := fz (k * 6 + 5)
        have hne : w7.heap.size ≠ g := fun e => by have h := HGK.out; rw [← e, HZK.out] at h; cases h
        have HNE := Lib.hid hne
        clear ha fz hne
        go_wp2_with fail
        go_roundw
        case rel => exact ⟨k + 1, _, by go_num, by omega, (((((HBK.out.setCell hgw6 _).setCell hgw6 _).setCell hgw6 _).setCell hgw6 _).setCell hgw6 _).setCell hgw6 _, heap_at (heap_at (heap_at (heap_at (heap_at (heap_at HGK.out _ _) _ _) _ _) _ _) _ _) _ _, by simp; exact hcs, ((((((Deep.blk_setCell_other _ _ _ _ HNE.out).trans (Deep.blk_setCell_other _ _ _ _ HNE.out)).trans (Deep.blk_setCell_other _ _ _ _ HNE.out)).trans (Deep.blk_setCell_other _ _ _ _ HNE.out)).trans (Deep.blk_setCell_other _ _ _ _ HNE.out)).trans (Deep.blk_setCell_other _ _ _ _ HNE.out)).trans HZK.out⟩
        case measure => simp [intOf]; omega
      · have HX10 := Lib.hid ((HBK.out.block w.heap.size (Array.getElem?_eq_some_iff.1 HX6.out).1).trans HX9.out)
        have HY10 := Lib.hid ((HBK.out.block w3.heap.size (Array.getElem?_eq_some_iff.1 HY6.out).1).trans HY9.out)
        have x0 : wr.cell? ⟨w.heap.size, 0, none⟩ = some (.int .i64 (fn : Int)) := cell_of_row wr _ 0 _ 24 (0, 0) HX10.out
        have x1 : wr.cell? ⟨w.heap.size, 1, none⟩ = some (.slice A n c) := cell_of_row wr _ 1 _ 24 (0, 0) HX10.out
        have y0 : wr.cell? ⟨w3.heap.size, 0, none⟩ = some (.int .i64 (fn : Int)) := cell_of_row wr _ 0 _ 24 (0, 0) HY10.out
        have y1 : wr.cell? ⟨w3.heap.size, 1, none⟩ = some (.slice A' n c') := cell_of_row wr _ 1 _ 24 (0, 0) HY10.out
        have hB10 : Below w.heap.size w wr := HB9.out.trans (HBK.out.mono (by have := HB6.out.size; omega))
        have hk69 : ∀ p : Addr, p.block < w6.heap.size → wr.cell? p = w6.cell? p := fun p hp => (HBK.out.cell hp).trans (HBW69.out.cell hp)
        have hp10 := programs_any (fn : Int) (fn : Int) A' A n n c' c l l wr (HC6.out.ext hk69) (H1.out.ext (stays_b hB10)) hn hn
        rw [sameP_self'] at hp10
        have HP10 := Lib.hid hp10
        have HB10 := Lib.hid hB10
        clear hB10 hk69 hp10 z1
        go_wp2_with fail
        refine Calls.mono HP10.out ?_
        rintro e w11 ⟨rfl, hb11⟩
        have HB11 := Lib.hid (HB10.out.trans (hb11.mono HB10.out.size))
        clear hb11
        go_wp2_with fail
        go_ret
        exact ⟨rfl, HB11.out⟩
  · have HFA := Lib.hid hfa
    have HCK := Lib.hid hck
    clear hck hfa
    go_wp2_with fail
    refine Calls.mono HPG.out ?_
    rintro e w5 ⟨rfl, hb5⟩
    have HB5 := Lib.hid (HB4.out.trans (hb5.mono HB4.out.size))
    have HX5 := Lib.hid (box_later HX4.out hb5)
    have HF5 := Lib.hid (fault_later HFA.out hb5)
    clear x0 x1 y0 y1 hb5
    have x0 : w5.cell? ⟨w.heap.size, 0, none⟩ = some (.int .i64 f) := cell_of_row w5 _ 0 _ 24 (0, 0) HX5.out
    have x1 : w5.cell? ⟨w.heap.size, 1, none⟩ = some (.slice A n c) := cell_of_row w5 _ 1 _ 24 (0, 0) HX5.out
    have HRC := Lib.hid (refcheck_any f A n c l w5 (H1.out.ext (stays_b HB5.out)) hn)
    obtain ⟨ck, hck⟩ : ∃ ck, ck = chk f l := ⟨_, rfl⟩
    rw [← hck] at HRC HF5 HCK
    have d2 : (ck != -2) = true := by rw [bne_iff_ne]; exact HCK.out
    have d3 : (ck == ck) = true := by simp
    clear hck
    go_wp2_with fail
    refine Calls.mono HRC.out ?_
    rintro e w6 ⟨rfl, hb6⟩
    have HB6 := Lib.hid (HB5.out.trans (hb6.mono HB5.out.size))
    have HF6 := Lib.hid (fault_later HF5.out hb6)
    have HIS := Lib.hid (is_fault b ck w6 HF6.out)
    have HAT := Lib.hid (at_fault b ck w6 HF6.out)
    clear hb6
    go_wp2_with fail
    refine Calls.mono HIS.out ?_
    rintro e w7 ⟨rfl, rfl⟩
    go_wp2_with fail
    refine Calls.mono HAT.out ?_
    rintro e w7 ⟨rfl, rfl⟩
    go_wp2_with fail
    go_ret
    exact ⟨rfl, HB6.out⟩
end Go.Proofs.YtkeckjgihjpfbaaDoor
