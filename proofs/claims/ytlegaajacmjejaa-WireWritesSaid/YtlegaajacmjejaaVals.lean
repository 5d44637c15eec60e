/- Rows of values, and the contract of the law's large. -/
import Derived.Test.YtlegaajacmjejaaWrite
namespace Go.Proofs.Ytlegaajacmjejaa
set_option maxRecDepth 100000
open Go.RowKit

/-- A value of a kind, as it came in. -/
structure VV where
  k : Int
  n : Int
  u : Nat
  A : Option Addr
  m : Nat
  c : Nat
  ys : List Nat
def VV.val (v : VV) : Value := .agg #[.int .i64 v.k, .int .i64 v.n, .int .u64 (v.u : Int), .slice v.A v.m v.c]
/-- What is known of it. -/
structure VOk (w : World) (v : VV) : Prop where
  row : Rdv w v.A v.m 1 (valsB v.ys)
  nil : v.A = none → v.c = 0
  fits : Fits v.n
  u64 : v.u < 18446744073709551616
  small : ∀ y ∈ v.ys, y < 256
  len : v.m ≤ 9223372036854775807
theorem VOk.blen {w : World} {v : VV} (h : VOk w v) : v.ys.length = v.m := by have := h.row.1; rw [valsB_length] at this; omega
theorem VOk.ext {w w' : World} {v : VV} (h : VOk w v) (hs : ∀ p : Addr, p.block < w.heap.size → w'.cell? p = w.cell? p) : VOk w' v :=
  ⟨h.row.ext hs, h.nil, h.fits, h.u64, h.small, h.len⟩
/-- A slice that reads as values. -/
structure Vals (w : World) (A : Option Addr) (n : Nat) (vs : List VV) : Prop where
  len : vs.length = n
  cells : 0 < n → ∃ b off, A = some ⟨b, off, none⟩ ∧ ∀ j (h : j < vs.length), w.cell? ⟨b, off + j * 4, none⟩ = some (.int .i64 vs[j].k) ∧ w.cell? ⟨b, off + j * 4 + 1, none⟩ = some (.int .i64 vs[j].n) ∧
    w.cell? ⟨b, off + j * 4 + 2, none⟩ = some (.int .u64 (vs[j].u : Int)) ∧ w.cell? ⟨b, off + j * 4 + 3, none⟩ = some (.slice vs[j].A vs[j].m vs[j].c)
  all : ∀ v ∈ vs, VOk w v
theorem Vals.ext {w w' : World} {A : Option Addr} {n : Nat} {vs : List VV} (h : Vals w A n vs) (hs : ∀ p : Addr, p.block < w.heap.size → w'.cell? p = w.cell? p) : Vals w' A n vs :=
  ⟨h.len, fun hn => by
    obtain ⟨b, off, e, hc⟩ := h.cells hn
    refine ⟨b, off, e, fun j hj => ?_⟩
    obtain ⟨h1, h2, h3, h4⟩ := hc j hj
    exact ⟨(hs _ (World.block_lt_of_cell? _ _ h1)).trans h1, (hs _ (World.block_lt_of_cell? _ _ h2)).trans h2, (hs _ (World.block_lt_of_cell? _ _ h3)).trans h3, (hs _ (World.block_lt_of_cell? _ _ h4)).trans h4⟩,
   fun v hv => (h.all v hv).ext hs⟩

/-- What large answers. -/
def LargeE (n : Nat) (vs : List VV) (e : Ending) : Prop := ∃ b, e = .returned (.bool b) ∧ (b = false → n ≤ 41 ∧ ∀ v ∈ vs, v.m ≤ 300)
set_option maxHeartbeats 1000000 in
theorem large_any (A : Option Addr) (n c : Nat) (vs : List VV) (w : World) (h : Vals w A n vs) (hn : n ≤ 9223372036854775807) :
    Calls Try.prog 14 #[.slice A n c] w fun e w' => LargeE n vs e ∧ Below w.heap.size w w' := by
  have HV := Lib.hid h
  have HL := Lib.hid h.len
  clear h
  go_enter Try.func14, Try.ntmps14
  go_wp2_with fail
  go_loopw [7] (fun i wr => ∃ k : Nat, i = .int .i64 (k : Int) ∧ k ≤ n ∧ k ≤ 41 ∧ (∀ j (h : j < vs.length), j < k → vs[j].m ≤ 300) ∧ Below w.heap.size w wr) (fun i _ => n - (intOf i).toNat)
  case atStart => exact ⟨0, rfl, by omega, by omega, fun j _ h => absurd h (by omega), Below.refl _ _⟩
  case round =>
    obtain ⟨k, rfl, hk, hk41, hall, hb⟩ := hrel
    have HALL := Lib.hid hall
    have HB := Lib.hid hb
    have hsz := hb.size
    have hV := HV.out.ext (stays_b hb)
    clear hall hb
    by_cases hlt : k < n
    · obtain ⟨b, off, rfl, hc⟩ := hV.cells (by omega)
      have hkv : k < vs.length := by rw [HL.out]; exact hlt
      obtain ⟨h0, h1, h2, h3⟩ := hc k hkv
      have hm := (hV.all _ (List.getElem_mem hkv)).len
      obtain ⟨v, hv⟩ : ∃ v, v = vs[k] := ⟨_, rfl⟩
      rw [← hv] at h0 h1 h2 h3 hm
      have HVK := Lib.hid hv
      clear hc hV hv
      go_wp2_with fail
      · go_ret
        exact ⟨⟨true, rfl, fun h => by cases h⟩, HB.out.alloc hsz _⟩
      · have hk40 : k ≤ 40 := by omega
        have hm300 : v.m ≤ 300 := by omega
        refine ⟨⟨k + 1, by go_num, by omega, by omega, fun j hj hjk => ?_, HB.out.alloc hsz _⟩, by simp [intOf]; omega⟩
        rcases Nat.lt_or_ge j k with h5 | h5
        · exact HALL.out j hj h5
        · obtain rfl : j = k := by omega
          rw [← HVK.out]; exact hm300
      · go_ret
        exact ⟨⟨true, rfl, fun h => by cases h⟩, HB.out.alloc hsz _⟩
    · clear hV
      go_wp2_with fail
      go_ret
      refine ⟨⟨false, rfl, fun _ => ⟨by omega, fun v hv => ?_⟩⟩, HB.out⟩
      obtain ⟨j, hj, rfl⟩ := List.getElem_of_mem hv
      exact HALL.out j hj (by have := HL.out; omega)
end Go.Proofs.Ytlegaajacmjejaa
