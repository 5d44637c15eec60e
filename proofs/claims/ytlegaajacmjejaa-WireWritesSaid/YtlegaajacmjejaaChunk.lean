/- The contracts of a writer's Bytes and Text. -/
import Derived.Test.YtlegaajacmjejaaStr
namespace Go.Proofs.Ytlegaajacmjejaa
set_option maxRecDepth 100000
open Go.RowKit

theorem Wtr.ext {w w' : World} {B g : Nat} {v : Value} {xs : List Nat} (h : Wtr w B g v xs) (k : Below w.heap.size w w') : Wtr w' B g v xs :=
  ⟨h.low, (k.block g h.lt).trans h.block, row_stays h.own (fun j hj => k.block j (h.own.lt j hj).2)⟩
theorem Wrote.after {w w1 w' : World} {B g : Nat} {v v' : Value} {xs : List Nat} (k : Below w.heap.size w w1) (h : Wrote w1 w' B g v v' xs) : Wrote w w' B g v v' xs := by
  refine ⟨h.wtr, ⟨h.touch.os.trans k.os, h.touch.tape.trans k.tape, h.touch.output.trans k.output, Nat.le_trans k.size h.touch.size, fun j hj h1 h2 => (h.touch.block j (Nat.lt_of_lt_of_le hj k.size) h1 h2).trans (k.block j hj)⟩, ?_⟩
  rcases h.row with h1 | ⟨j, h1, h2⟩
  · exact .inl h1
  · exact .inr ⟨j, h1, Nat.le_trans k.size h2⟩
theorem Wrote.of_put {w w' : World} {B g : Nat} {v v' : Value} {xs : List Nat} (h1 : Wtr w' B g v' xs) (h2 : Touch w w' g v.ownBlock) (h3 : v'.ownBlock = v.ownBlock ∨ v'.ownBlock = some w.heap.size) : Wrote w w' B g v v' xs :=
  ⟨h1, h2, h3.imp id fun h => ⟨_, h, Nat.le_refl _⟩⟩
/-- A row of bytes that a writer's calls leave alone. -/
def Away (w : World) (g : Nat) (v : Value) (A : Option Addr) : Prop := ∀ ad, A = some ad → ad.block < w.heap.size → ad.block ≠ g ∧ v.ownBlock ≠ some ad.block
theorem Touch.rdv {w w' : World} {g n size : Nat} {v : Value} {A : Option Addr} {ys : List Value} (h : Touch w w' g v.ownBlock) (hr : Rdv w A n size ys) (ha : 0 < n → Away w g v A) : Rdv w' A n size ys := by
  refine ⟨hr.1, fun hn => ?_⟩
  obtain ⟨b, off, e, hc⟩ := hr.2 hn
  refine ⟨b, off, e, fun j u hj => ?_⟩
  have hlt := World.block_lt_of_cell? _ _ (hc j u hj)
  have := ha hn _ e hlt
  rw [← hc j u hj]
  exact World.cell?_of_block (h.block b hlt this.1 this.2)

set_option maxHeartbeats 400000 in
theorem chunk_any (B g : Nat) (v : Value) (xs : List Nat) (A : Option Addr) (m c : Nat) (ys : List Nat) (w : World) (hw : Wtr w B g v xs) (hr : Rdv w A m 1 (valsB ys)) (hnil : A = none → c = 0) (ha : 0 < m → Away w g v A) (hmx : xs.length ≤ 8796093000000) (hm : m ≤ 8796093000000) :
    Calls Try.prog 86 #[.pointer (some ⟨g, 0, none⟩), .slice A m c] w fun e w' => e = .returned (.tuple #[]) ∧ ∃ v', Wrote w w' B g v v' (xs ++ (cntN m ++ ys)) := by
  have HC := Lib.hid (count_any B g v xs m (by omega) w hw (by omega))
  have HR := Lib.hid hr
  have HA := Lib.hid ha
  have e1 : IntKind.u64.wrap (m : Int) = ((m : Nat) : Int) := by rw [IntKind.wrap_u64]; omega
  have hl : (cntN m).length ≤ 10 := by
    have := Lib.bitLen_le m 64 (Nat.le_refl _) (by omega)
    unfold cntN
    rw [List.length_append, preN_length]
    unfold sizeN
    simp
    omega
  have HL := Lib.hid hl
  clear hw hr ha hl
  go_enter Try.func86, Try.ntmps86
  go_wp2_with fail
  refine Calls.mono HC.out ?_
  rintro e w1 ⟨rfl, v1, h1⟩
  have HP := Lib.hid (put_any B g v1 (xs ++ cntN m) A m c ys w1 h1.wtr (h1.touch.rdv HR.out HA.out) hnil (by have := HL.out; rw [List.length_append]; omega))
  have H1 := Lib.hid h1
  clear h1
  go_wp2_with fail
  refine Calls.mono HP.out ?_
  rintro e w2 ⟨rfl, v2, h2, h3, h4⟩
  have H2 := Lib.hid (H1.out.trans (Wrote.of_put h2 h3 h4))
  clear h2 h3 h4
  go_wp2_with fail
  refine bodyPost_end (v := .tuple #[]) (by simp [results, Try.results86, go_sem]) rfl ⟨rfl, v2, ?_⟩
  rw [← List.append_assoc]
  exact H2.out
set_option maxHeartbeats 400000 in
theorem bytes_any (B g : Nat) (v : Value) (xs : List Nat) (A : Option Addr) (m c : Nat) (ys : List Nat) (w : World) (hw : Wtr w B g v xs) (hr : Rdv w A m 1 (valsB ys)) (hnil : A = none → c = 0) (ha : 0 < m → Away w g v A) (hmx : xs.length ≤ 8796093000000) (hm : m ≤ 8796093000000) :
    Calls Try.prog 54 #[.pointer (some ⟨g, 0, none⟩), .slice A m c] w fun e w' => e = .returned (.tuple #[]) ∧ ∃ v', Wrote w w' B g v v' (xs ++ (cntN m ++ ys)) := by
  have HC := Lib.hid (chunk_any B g v xs A m c ys w hw hr hnil ha hmx hm)
  clear hw hr ha
  go_enter Try.func54, Try.ntmps54
  go_wp2_with fail
  refine Calls.mono HC.out ?_
  rintro e w1 ⟨rfl, v1, h1⟩
  have H1 := Lib.hid h1
  clear h1
  go_wp2_with fail
  exact bodyPost_end (v := .tuple #[]) (by simp [results, Try.results54, go_sem]) rfl ⟨rfl, v1, H1.out⟩

theorem bytesWorld_below (w : World) (s : ByteArray) : Below w.heap.size w (Lib.bytesWorld w 5 s) :=
  ⟨rfl, rfl, rfl, by rw [Lib.bytesWorld_size]; omega, fun k hk => Lib.bytesWorld_at_old w 5 s k hk⟩
theorem bytesWorld_rdv (w : World) (ys : List Nat) (hy : ∀ y ∈ ys, y < 256) : Rdv (Lib.bytesWorld w 5 (strN ys)) (some ⟨w.heap.size, 0, none⟩) ys.length 1 (valsB ys) := by
  refine ⟨by rw [valsB_length, Nat.mul_one], fun _ => ⟨_, 0, rfl, fun j u hj => ?_⟩⟩
  rw [valsB_get] at hj
  cases hx : ys[j]? with
  | none => rw [hx] at hj; cases hj
  | some y =>
    rw [hx] at hj
    cases hj
    have hlt := (List.getElem?_eq_some_iff.1 hx).1
    rw [Nat.zero_add, Lib.bytesWorld_cell w 5 (strN ys) j (by rw [strN_size]; exact hlt), strN_data]
    have hy' := hy y (List.mem_of_getElem? hx)
    simp [List.getD_eq_getElem?_getD, hx]
    omega
set_option maxHeartbeats 400000 in
theorem chunkS_any (B g : Nat) (v : Value) (xs ys : List Nat) (hy : ∀ y ∈ ys, y < 256) (w : World) (hw : Wtr w B g v xs) (hmx : xs.length ≤ 8796093000000) (hm : ys.length ≤ 8796093000000) :
    Calls Try.prog 87 #[.pointer (some ⟨g, 0, none⟩), .string (strN ys)] w fun e w' => e = .returned (.tuple #[]) ∧ ∃ v', Wrote w w' B g v v' (xs ++ (cntN ys.length ++ ys)) := by
  have hs := strN_size ys
  have HC := Lib.hid (count_any B g v xs ys.length (by omega) w hw (by omega))
  have hl : (cntN ys.length).length ≤ 10 := by
    have := Lib.bitLen_le ys.length 64 (Nat.le_refl _) (by omega)
    unfold cntN
    rw [List.length_append, preN_length]
    unfold sizeN
    simp
    omega
  have HL := Lib.hid hl
  have HP : ∀ w1 v1, Wtr w1 B g v1 (xs ++ cntN ys.length) → Calls Try.prog 84 #[.pointer (some ⟨g, 0, none⟩), .slice (some ⟨w1.heap.size, 0, none⟩) ys.length (grownCap w1 ys.length 0 5)] (Lib.bytesWorld w1 5 (strN ys)) fun e w' => e = .returned (.tuple #[]) ∧ ∃ v', Wrote w1 w' B g v1 v' ((xs ++ cntN ys.length) ++ ys) := fun w1 v1 h1 =>
    (put_any B g v1 (xs ++ cntN ys.length) _ ys.length _ ys _ (h1.ext (bytesWorld_below w1 _)) (bytesWorld_rdv w1 ys hy) (fun h => by cases h) (by rw [List.length_append]; omega)).mono fun _ _ ⟨h2, v', h3, h4, h5⟩ => ⟨h2, v', (Wrote.of_put h3 h4 h5).after (bytesWorld_below w1 _)⟩
  obtain ⟨n, hn⟩ : ∃ n, n = ys.length := ⟨_, rfl⟩
  have hcv : ∀ w1 : World, (convert 9 26 (.string (strN ys))).run Try.prog w1 = .ok (.slice (some ⟨w1.heap.size, 0, none⟩) n (grownCap w1 n 0 5)) (Lib.bytesWorld w1 5 (strN ys)) := fun w1 => by
    have := Lib.run_convert_string_bytes (P := Try.prog) w1 9 26 5 (strN ys) Try.underlying9 Try.underlying26 Try.underlying5
    rw [hs] at this
    rw [hn]
    exact this
  rw [← hn] at hs HC HP hm ⊢
  have HP := Lib.hid HP
  have HN := Lib.hid hn
  obtain ⟨s, hS⟩ : ∃ s, s = strN ys := ⟨_, rfl⟩
  rw [← hS] at hcv hs HP ⊢
  have e1 : IntKind.u64.wrap (n : Int) = ((n : Nat) : Int) := by rw [IntKind.wrap_u64]; omega
  have HV := Lib.hid hcv
  clear hw hl HL hn hS hcv
  go_enter Try.func87, Try.ntmps87
  go_wp2_with fail
  refine Calls.mono HC.out ?_
  rintro e w1 ⟨rfl, v1, h1⟩
  have HQ := Lib.hid (HP.out w1 v1 h1.wtr)
  have H1 := Lib.hid h1
  have e2 := HV.out w1
  clear h1
  go_wp2_with fail
  refine Calls.mono HQ.out ?_
  rintro e w2 ⟨rfl, v2, h2⟩
  have H2 := Lib.hid (H1.out.trans h2)
  clear h2
  go_wp2_with fail
  refine bodyPost_end (v := .tuple #[]) (by simp [results, Try.results87, go_sem]) rfl ⟨rfl, v2, ?_⟩
  rw [← List.append_assoc]
  exact H2.out
set_option maxHeartbeats 400000 in
theorem text_any (B g : Nat) (v : Value) (xs ys : List Nat) (hy : ∀ y ∈ ys, y < 256) (w : World) (hw : Wtr w B g v xs) (hmx : xs.length ≤ 8796093000000) (hm : ys.length ≤ 8796093000000) :
    Calls Try.prog 56 #[.pointer (some ⟨g, 0, none⟩), .string (strN ys)] w fun e w' => e = .returned (.tuple #[]) ∧ ∃ v', Wrote w w' B g v v' (xs ++ (cntN ys.length ++ ys)) := by
  have HC := Lib.hid (chunkS_any B g v xs ys hy w hw hmx hm)
  obtain ⟨s, hS⟩ : ∃ s, s = strN ys := ⟨_, rfl⟩
  rw [← hS] at HC ⊢
  clear hw hS
  go_enter Try.func56, Try.ntmps56
  go_wp2_with fail
  refine Calls.mono HC.out ?_
  rintro e w1 ⟨rfl, v1, h1⟩
  have H1 := Lib.hid h1
  clear h1
  go_wp2_with fail
  exact bodyPost_end (v := .tuple #[]) (by simp [results, Try.results56, go_sem]) rfl ⟨rfl, v1, H1.out⟩
end Go.Proofs.Ytlegaajacmjejaa
