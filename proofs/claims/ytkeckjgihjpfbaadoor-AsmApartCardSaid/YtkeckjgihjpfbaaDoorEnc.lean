/- The contract of prog.Encode. -/
import Derived.Test.YtkeckjgihjpfbaaDoorPut
namespace Go.Proofs.YtkeckjgihjpfbaaDoor
set_option maxRecDepth 100000
open Go.RowKit

def encIs (l : List Ins) : List Nat := l.flatMap encI
/-- A program's bytes. -/
def encP (f : Nat) (l : List Ins) : List Nat := cntN f ++ cntN l.length ++ encIs l
theorem loL_ge (l : Nat) : 0 ≤ loL l := by unfold loL; split <;> decide
theorem hiL_le (l : Nat) (z : Int) (h : z ≤ 9223372036854775807) : hiL l z ≤ 9223372036854775807 := by
  unfold hiL
  split
  · decide
  split
  · decide
  split
  · exact h
  · decide
theorem enc_of_good {x : Ins} {z : Int} (h : goodI x z = true) (hz : z ≤ 9223372036854775807) (hn : Fits x.n) : x.Enc := by
  unfold goodI at h
  simp only [Bool.and_eq_true, List.all_eq_true, decide_eq_true_iff] at h
  obtain ⟨h1, h2, _⟩ := h
  refine ⟨of_decide_eq_true h1, fun l hl h110 => ?_, hn⟩
  have h3 := h2 l hl
  unfold inB at h3
  rw [decide_eq_false h110, Bool.false_or, decide_eq_true_iff] at h3
  have := loL_ge l
  have := hiL_le l z hz
  omega
theorem goodAt_enc {l : List Ins} {k : Nat} (hk : k < l.length) (hl : l.length ≤ 32) (h : goodAt l k = true) (hn : Fits (l[k]).n) : (l[k]).Enc := by
  unfold goodAt at h
  rw [List.getD_eq_getElem?_getD, List.getElem?_eq_getElem hk] at h
  exact enc_of_good h (by omega) hn
theorem encIs_take (l : List Ins) (k : Nat) (hk : k < l.length) : encIs (l.take (k + 1)) = encIs (l.take k) ++ encI l[k] := by
  unfold encIs
  rw [List.take_succ_eq_append_getElem hk, List.flatMap_append, List.flatMap_singleton]
theorem encIs_len : ∀ l : List Ins, (∀ x ∈ l, x.Enc) → (encIs l).length ≤ l.length * 51
  | [], _ => by simp [encIs]
  | x :: l, h => by
    have h1 := encI_len (h x (List.mem_cons_self ..))
    have h2 := encIs_len l (fun y hy => h y (List.mem_cons_of_mem _ hy))
    unfold encIs at h2 ⊢
    rw [List.flatMap_cons, List.length_append, List.length_cons]
    omega
theorem wtr_new (w : World) : Wtr (w.alloc (.cells #[.slice none 0 0] 66)) w.heap.size w.heap.size (.slice none 0 0) [] :=
  ⟨Nat.le_refl _, heap_alloc_new w _, ⟨rfl, .inl ⟨rfl, rfl⟩⟩⟩
theorem Wrote.below {w w' : World} {B g : Nat} {v v' : Value} {xs : List Nat} (h : Wrote w w' B g v v' xs) (hv : ∀ k, v.ownBlock = some k → B ≤ k) (hB : B ≤ w.heap.size) : Below B w w' := h.touch.below h.wtr.low hv hB
def EncE (f : Int) (l : List Ins) (w w' : World) (e : Ending) : Prop :=
  (chk f l = -2 ∧ ∃ A c, e = .returned (.tuple #[.slice A (encP f.toNat l).length c, .nilIface]) ∧ Rdv w' A (encP f.toNat l).length 1 (valsB (encP f.toNat l)) ∧ NewAt w w' A (encP f.toNat l).length c) ∨
  (chk f l ≠ -2 ∧ ∃ b, e = .returned (.tuple #[.slice none 0 0, .iface 72 (.pointer (some ⟨b, 0, none⟩))]) ∧ w.heap.size ≤ b ∧ FaultAt w' b (chk f l))
theorem NewAt.back {w w1 w' : World} {A : Option Addr} {n c : Nat} (h : NewAt w1 w' A n c) (hs : w.heap.size ≤ w1.heap.size) : NewAt w w' A n c := by
  rcases h with h | ⟨b, e, h1, h2, h3, h4⟩
  · exact .inl h
  · exact .inr ⟨b, e, by omega, h2, h3, h4⟩
set_option maxHeartbeats 4000000 in
theorem encode_any (f : Int) (A : Option Addr) (n c : Nat) (l : List Ins) (w : World) (hT : Tab w) (hC : Codes w A n l) (hn : n ≤ 9223372036854775807) (hok : ∀ x ∈ l, Fits x.n) :
    Calls Tryd.prog 14 #[.agg #[.int .i64 f, .slice A n c]] w fun e w' => EncE f l w w' e ∧ Below w.heap.size w w' := by
  have hb1 := (Below.refl w.heap.size w).alloc (Nat.le_refl _) (.cells #[.int .i64 f, .slice A n c] 24)
  have HB1 := Lib.hid hb1
  have HN1 := Lib.hid (one_new w (.cells #[.int .i64 f, .slice A n c] 24))
  have HT := Lib.hid hT
  have HC := Lib.hid hC
  have HL := Lib.hid hC.len
  have HOK := Lib.hid hok
  have HCK := Lib.hid (check_any f A n c l _ (hT.ext hb1) (hC.ext (stays_b hb1)) hn)
  have htz := tab_size hT
  clear hb1 hT hC hok
  go_enter Tryd.func14, Tryd.ntmps14
  go_wp2_with fail
  refine Calls.mono HCK.out ?_
  rintro e w2 ⟨he, hb2⟩
  have HB2 := Lib.hid (HB1.out.trans (hb2.mono HB1.out.size))
  have hs2 := hb2.size
  rw [World.size_alloc] at hs2
  have hbx2 : w2.heap[w.heap.size]? = some (.cells #[.int .i64 f, .slice A n c] 24 (0, 0)) := (hb2.block _ (by rw [World.size_alloc]; omega)).trans HN1.out
  have HBX2 := Lib.hid hbx2
  rcases he with ⟨hck, rfl⟩ | ⟨hck, b, rfl, hbl, hf⟩
  · have HCK2 := Lib.hid hck
    obtain ⟨hh, hall⟩ := chk_good hck
    obtain ⟨fn, rfl⟩ := Int.eq_ofNat_of_zero_le (show 0 ≤ f by omega)
    have hf1000 : fn ≤ 1000 := by omega
    have hn32 : n ≤ 32 := by have := HL.out; omega
    have HE := Lib.hid (fun k (hk : k < l.length) => goodAt_enc hk hh.2.2.2 (hall k hk) (HOK.out _ (List.getElem_mem hk)))
    have HES := Lib.hid (fun k => (encIs_len (l.take k) (fun x hx => by
      obtain ⟨j, hj, rfl⟩ := List.getElem_of_mem (List.mem_of_mem_take hx)
      exact HE.out j hj) : (encIs (l.take k)).length ≤ (l.take k).length * 51))
    have ef : IntKind.u64.wrap (fn : Int) = ((fn : Nat) : Int) := by rw [IntKind.wrap_u64]; omega
    have en : IntKind.u64.wrap (n : Int) = ((n : Nat) : Int) := by rw [IntKind.wrap_u64]; omega
    have g0 : w2.cell? ⟨w.heap.size, 0, none⟩ = some (.int .i64 (fn : Int)) := cell_of_row w2 _ 0 _ 24 (0, 0) hbx2
    have g1 : w2.cell? ⟨w.heap.size, 1, none⟩ = some (.slice A n c) := cell_of_row w2 _ 1 _ 24 (0, 0) hbx2
    have g0a : (w2.alloc (.cells #[.slice none 0 0] 66)).cell? ⟨w.heap.size, 0, none⟩ = some (.int .i64 (fn : Int)) := (World.cell?_alloc_lt w2 _ ⟨w.heap.size, 0, none⟩ (World.block_lt_of_cell? _ _ g0)).trans g0
    have HW0 := Lib.hid (wtr_new w2)
    have HC1 := Lib.hid (count_any w2.heap.size w2.heap.size _ _ fn (by omega) _ HW0.out (by decide))
    have hlc := cntN_len fn (by omega)
    have hlc2 := cntN_len n (by omega)
    clear hck hh hall hb2 hbx2
    go_wp2_with fail
    refine Calls.mono HC1.out ?_
    rintro e w3 ⟨rfl, v3, h3⟩
    have H3 := Lib.hid h3
    have hb3 := h3.below (fun k hk => by cases hk) (by rw [World.size_alloc]; omega)
    have hb3' : Below w2.heap.size w2 w3 := ((Below.refl _ w2).alloc (Nat.le_refl _) _).trans hb3
    have HB3 := Lib.hid hb3'
    have g0' : w3.cell? ⟨w.heap.size, 0, none⟩ = some (.int .i64 (fn : Int)) := (hb3'.cell (p := ⟨w.heap.size, 0, none⟩) (by show w.heap.size < w2.heap.size; omega)).trans g0
    have g1' : w3.cell? ⟨w.heap.size, 1, none⟩ = some (.slice A n c) := (hb3'.cell (p := ⟨w.heap.size, 1, none⟩) (by show w.heap.size < w2.heap.size; omega)).trans g1
    have HC2 := Lib.hid (count_any w2.heap.size w2.heap.size _ _ n (by omega) _ h3.wtr (by rw [List.nil_append]; omega))
    clear hb3 hb3' h3 g0a
    go_wp2_with fail
    refine Calls.mono HC2.out ?_
    rintro e w4 ⟨rfl, v4, h4⟩
    have h4t := H3.out.trans h4
    have H4 := Lib.hid h4t
    have hb4' : Below w2.heap.size w2 w4 := ((Below.refl _ w2).alloc (Nat.le_refl _) _).trans (h4t.below (fun k hk => by cases hk) (by rw [World.size_alloc]; omega))
    have g0'' : w4.cell? ⟨w.heap.size, 0, none⟩ = some (.int .i64 (fn : Int)) := (hb4'.cell (p := ⟨w.heap.size, 0, none⟩) (by show w.heap.size < w2.heap.size; omega)).trans g0
    have g1'' : w4.cell? ⟨w.heap.size, 1, none⟩ = some (.slice A n c) := (hb4'.cell (p := ⟨w.heap.size, 1, none⟩) (by show w.heap.size < w2.heap.size; omega)).trans g1
    clear h4 h4t g0' g1' hb4'
    go_wp2_with fail
    clear g0'' g1'' g0 g1
    go_loopw [25] (fun i wr => ∃ (k : Nat) (v' : Value), i = .int .i64 (k : Int) ∧ k ≤ n ∧ Wrote (w2.alloc (.cells #[.slice none 0 0] 66)) wr w2.heap.size w2.heap.size (.slice none 0 0) v' ([] ++ cntN fn ++ cntN n ++ encIs (l.take k))) (fun i _ => n - (intOf i).toNat)
    case atStart => exact ⟨0, v4, rfl, by omega, by have := H4.out; rw [show encIs (l.take 0) = [] from rfl, List.append_nil]; exact this⟩
    case round =>
      obtain ⟨k, v', rfl, hk, hwr⟩ := hrel
      have HWR := Lib.hid hwr
      have hb5 : Below w2.heap.size w2 wr := ((Below.refl _ w2).alloc (Nat.le_refl _) _).trans (hwr.below (fun k hk => by cases hk) (by rw [World.size_alloc]; omega))
      have HB5 := Lib.hid (HB2.out.trans (hb5.mono HB2.out.size))
      have hs5 := HB5.out.size
      have hll := HES.out k
      rw [List.length_take] at hll
      have hxl : ([] ++ cntN fn ++ cntN n ++ encIs (l.take k)).length ≤ 4398046511104 := by
        rw [List.length_append, List.length_append, List.nil_append]
        omega
      clear hwr hb5
      by_cases hlt : k < n
      · have hkl : k < l.length := by rw [HL.out]; exact hlt
        obtain ⟨b, off, rfl, hc⟩ := (HC.out.ext (stays_b HB5.out)).cells (by omega)
        obtain ⟨c0, c1, c2, c3, c4, c5⟩ := hc k hkl
        have HTK := Lib.hid (encIs_take l k hkl)
        have hxe := HE.out k hkl
        obtain ⟨x, hx⟩ : ∃ x, x = l[k] := ⟨_, rfl⟩
        rw [← hx] at c0 c1 c2 c3 c4 c5 HTK hxe
        have HP := Lib.hid (putI_any x hxe w2.heap.size w2.heap.size v' _ (wr.alloc (.cells #[.int .i64 x.op, .int .i64 x.a, .int .i64 x.b, .int .i64 x.c, .int .i64 x.t, .int .i64 x.n] 43)) (HT.out.ext (HB5.out.alloc hs5 _)) (by omega) (HWR.out.wtr.alloc _) hxl)
        unfold Ins.val at HP
        clear hc hx hxe hxl
        go_wp2_with fail
        refine Calls.mono HP.out ?_
        rintro e w6 ⟨rfl, v6, h6⟩
        have H6 := Lib.hid (HWR.out.trans h6.after_alloc)
        clear h6
        go_wp2_with fail
        go_roundw
        case rel => exact ⟨k + 1, v6, by go_num, by omega, by rw [HTK.out, ← List.append_assoc]; exact H6.out⟩
        case measure => simp [intOf]; omega
      · obtain rfl : k = n := by omega
        have HO := Lib.hid (out_any w2.heap.size w2.heap.size v' _ wr HWR.out.wtr (by omega))
        have HEQ := Lib.hid (show [] ++ cntN fn ++ cntN k ++ encIs (l.take k) = encP ((fn : Int).toNat) l by rw [Int.toNat_natCast, ← HL.out, List.take_length, List.nil_append]; rfl)
        rw [HEQ.out] at HO
        obtain ⟨L, hL⟩ : ∃ L, L = encP ((fn : Int).toNat) l := ⟨_, rfl⟩
        have HLL := Lib.hid hL
        rw [← hL] at HO
        clear hxl hL
        go_wp2_with fail
        refine Calls.mono HO.out ?_
        rintro e w6 ⟨v, rfl, A', c', rfl, hr, hna, hb6⟩
        have HR := Lib.hid hr
        have HNA := Lib.hid (hna.back (w := w) hs5)
        have HB6 := Lib.hid (HB5.out.trans (hb6.mono hs5))
        clear hr hna hb6
        go_wp2_with fail
        go_ret2
        exact ⟨.inl ⟨HCK2.out, A', c', by rw [← HLL.out]; rfl, by rw [← HLL.out]; exact HR.out, by rw [← HLL.out]; exact HNA.out⟩, HB6.out⟩
  · have HF := Lib.hid hf
    have HCK2 := Lib.hid hck
    have hbl2 := hbl
    rw [World.size_alloc] at hbl2
    clear hck hb2 hbx2 hf hbl
    go_wp2_with fail
    go_ret2
    exact ⟨.inr ⟨HCK2.out, b, rfl, by omega, HF.out⟩, HB2.out⟩
end Go.Proofs.YtkeckjgihjpfbaaDoor
