/- Layer 7: a program's text, and the document's. -/
import Derived.Test.YtkeckjgihjpfbaaDoorAsm5
namespace Go.Proofs.YtkeckjgihjpfbaaDoor
set_option maxRecDepth 100000
open Go.RowKit
attribute [local go_sem ↓] Go.wp_at_zero Go.wp_at_succ

def headL (f : Int) : List UInt8 := [102, 117, 101, 108, 32] ++ Lib.itoa f ++ [10]
def printLs (f : Int) (l : List Ins) : List UInt8 := headL f ++ l.flatMap fun x => lineL x ++ [10]
theorem printLs_take (f : Int) (l : List Ins) (k : Nat) (hk : k < l.length) : printLs f (l.take (k + 1)) = printLs f (l.take k) ++ (lineL l[k] ++ [10]) := by
  unfold printLs
  rw [List.take_succ_eq_append_getElem hk, List.flatMap_append, List.flatMap_singleton, List.append_assoc]
theorem lineL_len {x : Ins} (h : x.Ok) : (lineL x).length ≤ 120 := by
  have h1 := lineLs_len h (shapeL x.op)
  have h2 := shapeL_len x.op
  unfold lineL
  omega
theorem printLs_len {f : Int} (hf : Fits f) (l : List Ins) (h : ∀ x ∈ l, x.Ok) : (printLs f l).length ≤ 27 + l.length * 121 := by
  unfold printLs headL
  have h1 := itoa_len f hf
  have h2 : (l.flatMap fun x => lineL x ++ [10]).length ≤ l.length * 121 := by
    induction l with
    | nil => simp
    | cons x l ih =>
      have h3 := lineL_len (h x (List.mem_cons_self ..))
      have h4 := ih fun y hy => h y (List.mem_cons_of_mem _ hy)
      simp only [List.flatMap_cons, List.length_append, List.length_cons, List.length_nil]
      omega
  simp only [List.length_append]
  show 5 + _ + 1 + _ ≤ _
  omega
def PrintE (f : Int) (l : List Ins) (w w' : World) (e : Ending) : Prop :=
  (chk f l = -2 ∧ e = .returned (.tuple #[.string (tx (printLs f l)), .nilIface])) ∨
  (chk f l ≠ -2 ∧ ∃ b, e = .returned (.tuple #[.string { data := #[] }, .iface 72 (.pointer (some ⟨b, 0, none⟩))]) ∧ w.heap.size ≤ b ∧ FaultAt w' b (chk f l))
theorem ret_two {a b : ByteArray} {v : Value} (h : a = b) : Ending.returned (.tuple #[.string a, v]) = Ending.returned (.tuple #[.string b, v]) := by rw [h]
set_option maxHeartbeats 8000000 in
theorem print_any (f : Int) (hf : Fits f) (A : Option Addr) (n c : Nat) (l : List Ins) (w : World) (hT : AT w) (hC : Codes w A n l) (hn : n ≤ 9223372036854775807) (hok : ∀ x ∈ l, x.Ok) :
    Calls Tryd.prog 29 #[.agg #[.int .i64 f, .slice A n c]] w fun e w' => PrintE f l w w' e ∧ Below w.heap.size w w' := by
  have hb1 := (Below.refl w.heap.size w).alloc (Nat.le_refl _) (.cells #[.int .i64 f, .slice A n c] 24)
  have HB1 := Lib.hid hb1
  have HN1 := Lib.hid (one_new w (.cells #[.int .i64 f, .slice A n c] 24))
  have HT := Lib.hid hT
  have HC := Lib.hid hC
  have HL := Lib.hid hC.len
  have HOK := Lib.hid hok
  have HF := Lib.hid hf
  have HCK := Lib.hid (check_any f A n c l _ (hT.ext hb1).shapes (hC.ext (stays_b hb1)) hn)
  clear hb1 hT hC hok hf
  go_enter Tryd.func29, Tryd.ntmps29
  go_wp2_with fail
  refine Calls.mono HCK.out ?_
  rintro e w2 ⟨he, hb2⟩
  have HB2 := Lib.hid (HB1.out.trans (hb2.mono HB1.out.size))
  have HBX2 := Lib.hid (box_later HN1.out hb2)
  have hz1 := hb2.size
  rw [World.size_alloc] at hz1
  clear hb2
  rcases he with ⟨hck, rfl⟩ | ⟨hck, b, rfl, hbl, hfa⟩
  · have HCK2 := Lib.hid hck
    have hn32 : n ≤ 32 := by have := HL.out; have := chk_good hck; omega
    have g0 : w2.cell? ⟨w.heap.size, 0, none⟩ = some (.int .i64 f) := cell_of_row w2 _ 0 _ 24 (0, 0) HBX2.out
    have HI := Lib.hid (Tryd.strconv_Itoa f HF.out.1 HF.out.2 w2 (HT.out.ext HB2.out).pow)
    have hs1 : (tx (Lib.itoa f)).size ≤ 21 := by rw [tx_size]; exact itoa_len f HF.out
    have HHD := Lib.hid (show { data := #[102, 117, 101, 108, 32] } ++ tx (Lib.itoa f) ++ { data := #[10] } = tx (printLs f (l.take 0)) by
      unfold printLs headL
      rw [show (l.take 0).flatMap (fun x => lineL x ++ [10]) = [] from rfl, List.append_nil, ← tx_append, ← tx_append]; rfl)
    change Hid (Calls _ _ _ _ fun e w' => e = .returned (.string (tx (Lib.itoa f))) ∧ _) at HI
    obtain ⟨s, hs⟩ : ∃ s, s = tx (Lib.itoa f) := ⟨_, rfl⟩
    rw [← hs] at HI hs1 HHD
    have hs2 : 5 + s.size ≤ 9223372036854775807 := by omega
    have hs3 : 5 + s.size + 1 ≤ 9223372036854775807 := by omega
    clear hck hs
    go_wp2_with fail
    refine Calls.mono HI.out ?_
    rintro e w3 ⟨rfl, kk, os, hw3⟩
    have hb3 : Below w2.heap.size w2 w3 := hw3 ▸ below_grow kk os
    have HB3 := Lib.hid (HB2.out.trans (hb3.mono HB2.out.size))
    have HBX3 := Lib.hid (box_later HBX2.out hb3)
    have g1 : w3.cell? ⟨w.heap.size, 1, none⟩ = some (.slice A n c) := cell_of_row w3 _ 1 _ 24 (0, 0) HBX3.out
    clear hb3 hw3 g0
    go_wp2_with fail
    clear g1
    go_loopw [5, 21] (fun t i wr => ∃ k : Nat, i = .int .i64 (k : Int) ∧ k ≤ n ∧ t = .string (tx (printLs f (l.take k))) ∧ Below w.heap.size w wr) (fun _ i _ => n - (intOf i).toNat)
    case atStart => exact ⟨0, rfl, by omega, by rw [← HHD.out], HB3.out⟩
    case round =>
      obtain ⟨k, rfl, hk, rfl, hb⟩ := hrel
      have HB := Lib.hid hb
      clear hb
      by_cases hlt : k < n
      · have hkl : k < l.length := by rw [HL.out]; exact hlt
        obtain ⟨b, off, rfl, hc⟩ := (HC.out.ext (stays_b HB.out)).cells (by omega)
        obtain ⟨p0, p1, p2, p3, p4, p5⟩ := hc k hkl
        have HTK := Lib.hid (printLs_take f l k hkl)
        have hxo := HOK.out _ (List.getElem_mem hkl)
        obtain ⟨x, hx⟩ : ∃ x, x = l[k] := ⟨_, rfl⟩
        rw [← hx] at p0 p1 p2 p3 p4 p5 HTK hxo
        have hbx := (Below.refl wr.heap.size wr).alloc (Nat.le_refl _) (.cells #[.int .i64 x.op, .int .i64 x.a, .int .i64 x.b, .int .i64 x.c, .int .i64 x.t, .int .i64 x.n] 43)
        have HBX := Lib.hid (HB.out.trans (hbx.mono HB.out.size))
        have HLN := line_any x hxo _ (HT.out.ext HBX.out)
        unfold Ins.val at HLN
        have hl1 := printLs_len HF.out (l.take k) (fun y hy => HOK.out y (List.mem_of_mem_take hy))
        rw [List.length_take] at hl1
        have hl2 := lineL_len hxo
        have hsa : (tx (printLs f (l.take k))).size ≤ 100000 := by rw [tx_size]; omega
        have hsb : (tx (lineL x)).size ≤ 120 := by rw [tx_size]; omega
        have HEND := Lib.hid (show tx (printLs f (l.take k)) ++ (tx (lineL x) ++ { data := #[10] }) = tx (printLs f (l.take (k + 1))) by rw [HTK.out, ← tx_append, ← tx_append]; rfl)
        obtain ⟨a, ha⟩ : ∃ a, a = tx (printLs f (l.take k)) := ⟨_, rfl⟩
        obtain ⟨q, hq⟩ : ∃ q, q = tx (lineL x) := ⟨_, rfl⟩
        rw [← ha] at hsa HEND ⊢
        rw [← hq] at hsb HEND HLN
        have HLN := Lib.hid HLN
        have hs4 : q.size + 1 ≤ 9223372036854775807 := by omega
        have hs5 : a.size + (q.size + 1) ≤ 9223372036854775807 := by omega
        clear hc hx hxo hbx ha hq hl1 hl2 hsa hsb
        go_wp2_with fail
        refine Calls.mono HLN.out ?_
        rintro e w4 ⟨rfl, hb4⟩
        have HB4 := Lib.hid (HBX.out.trans (hb4.mono HBX.out.size))
        clear hb4
        go_wp2_with fail
        go_roundw
        case rel => exact ⟨k + 1, by go_num, by omega, by rw [HEND.out], HB4.out⟩
        case measure => simp [intOf]; omega
      · obtain rfl : k = n := by omega
        have HE := Lib.hid (show printLs f l = printLs f (l.take k) by rw [← HL.out, List.take_length])
        go_wp2_with fail
        go_ret2
        exact ⟨.inl ⟨HCK2.out, ret_two (by rw [HE.out])⟩, HB.out⟩
  · have HCK2 := Lib.hid hck
    have HFA := Lib.hid hfa
    clear hck hfa
    go_wp2_with fail
    go_ret2
    exact ⟨.inr ⟨HCK2.out, b, rfl, by rw [World.size_alloc] at hbl; omega, HFA.out⟩, HB2.out⟩
set_option maxHeartbeats 8000000 in
theorem refprint_any (f : Int) (hf : Fits f) (A : Option Addr) (n c : Nat) (l : List Ins) (w : World) (hC : Codes w A n l) (hn : n ≤ 100) (hok : ∀ x ∈ l, x.Ok) :
    Calls Tryd.prog 31 #[.agg #[.int .i64 f, .slice A n c]] w fun e w' => e = .returned (.string (tx (printLs f l))) ∧ Below w.heap.size w w' := by
  have HB1 := Lib.hid ((Below.refl w.heap.size w).alloc (Nat.le_refl _) (.cells #[.int .i64 f, .slice A n c] 24))
  have HN1 := Lib.hid (one_new w (.cells #[.int .i64 f, .slice A n c] 24))
  have HC := Lib.hid hC
  have HL := Lib.hid hC.len
  have HOK := Lib.hid hok
  have HF := Lib.hid hf
  have HI := Lib.hid (figures_any f hf)
  have hs1 : (tx (Lib.itoa f)).size ≤ 21 := by rw [tx_size]; exact itoa_len f hf
  have HHD := Lib.hid (show { data := #[102, 117, 101, 108, 32] } ++ tx (Lib.itoa f) ++ { data := #[10] } = tx (printLs f (l.take 0)) by
    unfold printLs headL
    rw [show (l.take 0).flatMap (fun x => lineL x ++ [10]) = [] from rfl, List.append_nil, ← tx_append, ← tx_append]; rfl)
  obtain ⟨s, hs⟩ : ∃ s, s = tx (Lib.itoa f) := ⟨_, rfl⟩
  rw [← hs] at HI hs1 HHD
  have hs2 : 5 + s.size ≤ 9223372036854775807 := by omega
  have hs3 : 5 + s.size + 1 ≤ 9223372036854775807 := by omega
  clear hC hok hf hs
  go_enter Tryd.func31, Tryd.ntmps31
  go_wp2_with fail
  refine Calls.mono (HI.out _) ?_
  rintro e w2 ⟨rfl, rfl⟩
  go_wp2_with fail
  go_loopw [3, 4] (fun t i wr => ∃ k : Nat, i = .int .i64 (k : Int) ∧ k ≤ n ∧ t = .string (tx (printLs f (l.take k))) ∧ Below w.heap.size w wr ∧ wr.heap[w.heap.size]? = some (.cells #[.int .i64 f, .slice A n c] 24 (0, 0))) (fun _ i _ => n - (intOf i).toNat)
  case atStart => exact ⟨0, rfl, by omega, by rw [← HHD.out], HB1.out, HN1.out⟩
  case round =>
    obtain ⟨k, rfl, hk, rfl, hb, hbb⟩ := hrel
    have HB := Lib.hid hb
    have HBB := Lib.hid hbb
    have g1 : wr.cell? ⟨w.heap.size, 1, none⟩ = some (.slice A n c) := cell_of_row wr _ 1 _ 24 (0, 0) hbb
    clear hb hbb
    by_cases hlt : k < n
    · have hkl : k < l.length := by rw [HL.out]; exact hlt
      obtain ⟨b, off, rfl, hc⟩ := (HC.out.ext (stays_b HB.out)).cells (by omega)
      obtain ⟨p0, p1, p2, p3, p4, p5⟩ := hc k hkl
      have HTK := Lib.hid (printLs_take f l k hkl)
      have hxo := HOK.out _ (List.getElem_mem hkl)
      obtain ⟨x, hx⟩ : ∃ x, x = l[k] := ⟨_, rfl⟩
      rw [← hx] at p0 p1 p2 p3 p4 p5 HTK hxo
      have HLN := fun W => refline_any x hxo W
      unfold Ins.val at HLN
      have hl1 := printLs_len HF.out (l.take k) (fun y hy => HOK.out y (List.mem_of_mem_take hy))
      rw [List.length_take] at hl1
      have hl2 := lineL_len hxo
      have hsa : (tx (printLs f (l.take k))).size ≤ 100000 := by rw [tx_size]; omega
      have hsb : (tx (lineL x)).size ≤ 120 := by rw [tx_size]; omega
      have HEND := Lib.hid (show tx (printLs f (l.take k)) ++ tx (lineL x) ++ { data := #[10] } = tx (printLs f (l.take (k + 1))) by rw [HTK.out, ← tx_append, ← tx_append, ByteArray.append_assoc]; rfl)
      obtain ⟨a, ha⟩ : ∃ a, a = tx (printLs f (l.take k)) := ⟨_, rfl⟩
      obtain ⟨q, hq⟩ : ∃ q, q = tx (lineL x) := ⟨_, rfl⟩
      rw [← ha] at hsa HEND ⊢
      rw [← hq] at hsb HEND HLN
      have HLN := Lib.hid HLN
      have hs4 : a.size + q.size ≤ 9223372036854775807 := by omega
      have hs5 : a.size + q.size + 1 ≤ 9223372036854775807 := by omega
      clear hc hx hxo ha hq hl1 hl2 hsa hsb
      go_wp2_with fail
      refine Calls.mono (HLN.out _) ?_
      rintro e w4 ⟨rfl, hb4⟩
      have HB4 := Lib.hid (HB.out.trans (hb4.mono HB.out.size))
      have HBB4 := Lib.hid (box_later HBB.out hb4)
      clear hb4 g1
      go_wp2_with fail
      go_roundw
      case rel => exact ⟨k + 1, by go_num, by omega, by rw [HEND.out], HB4.out, HBB4.out⟩
      case measure => simp [intOf]; omega
    · obtain rfl : k = n := by omega
      have HE := Lib.hid (show printLs f l = printLs f (l.take k) by rw [← HL.out, List.take_length])
      go_wp2_with fail
      go_ret
      exact ⟨ret_str (by rw [HE.out]), HB.out⟩
end Go.Proofs.YtkeckjgihjpfbaaDoor
