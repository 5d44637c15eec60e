/- WRNum, WStr: put together. -/
import Derived.Test.YtejpjbmbcdgomaaPa51
import Derived.Laws.BytesArg
import Derived.Lib.ConvBytes
/- The contracts of a reader's Num, Flag, Bytes, Text; and the new reader. -/
namespace Go.Proofs.Ytejpjbmbcdgomaa
set_option maxRecDepth 100000
open Go.RowKit

theorem rcnt_lt (f : Nat) : ∀ (i n : Nat) (bs : List Nat), f + i = 10 → n < 128 ^ i → (∀ x ∈ bs, x < 256) → (i = 10 → n < 18446744073709551616) → (rcnt f i n bs).1 < 18446744073709551616 := by
  induction f with
  | zero => intro i n bs hi hn _ h; exact h (by omega)
  | succ f ih =>
    intro i n bs hi hn hs _
    rcases bs with _ | ⟨b, t⟩
    · simp [rcnt]
    · simp only [rcnt]
      by_cases hC : (i = 9 ∧ 1 < b) ∨ (0 < i ∧ b = 0)
      · rw [if_pos hC]; decide
      · rw [if_neg hC]
        have hb9 : i = 9 → b % 128 ≤ 1 := by omega
        have hlt : n + b % 128 * 128 ^ i < 18446744073709551616 := by
          rcases Nat.lt_or_ge i 9 with h | h
          · have h8 : (128 : Nat) ^ i ≤ 128 ^ 8 := Nat.pow_le_pow_right (by omega) (by omega)
            have : b % 128 * 128 ^ i ≤ 127 * 128 ^ 8 := Nat.mul_le_mul (by omega) h8
            omega
          · obtain rfl : i = 9 := by omega
            have := hb9 rfl
            have : b % 128 * 128 ^ 9 ≤ 1 * 128 ^ 9 := Nat.mul_le_mul this (Nat.le_refl _)
            omega
        have hn' : n + b % 128 * 128 ^ i < 128 ^ (i + 1) := by
          have : b % 128 * 128 ^ i ≤ 127 * 128 ^ i := Nat.mul_le_mul (by omega) (Nat.le_refl _)
          rw [Nat.pow_succ]; omega
        split
        · exact hlt
        · exact ih (i + 1) _ t (by omega) hn' (fun x hx => hs x (List.mem_cons_of_mem _ hx)) (fun _ => hlt)
theorem rcount_lt (bs : List Nat) (hs : ∀ x ∈ bs, x < 256) : (rcount bs).1 < 18446744073709551616 := rcnt_lt 10 0 0 bs rfl (by decide) hs (fun h => by cases h)
/-- The number of a count. -/
def unfoldN (n : Nat) : Int := if n % 2 = 1 then -((n / 2 : Nat) : Int) - 1 else ((n / 2 : Nat) : Int)

theorem unfold_bits (n : Nat) (h : n < 18446744073709551616) : bits BinOp.xor IntKind.i64 ((n : Int) / 2) (wrap64 (-wrap64 (bits BinOp.and IntKind.u64 (n : Int) 1))) = unfoldN n := by
  rw [Go.Lib.u64_and1 (n : Int) (by omega) (by omega)]
  have e0 : (n : Int) / 2 = ((n / 2 : Nat) : Int) := by omega
  unfold unfoldN
  by_cases h1 : n % 2 = 1
  · rw [if_pos h1, show (n : Int) % 2 = 1 by omega, show wrap64 (-wrap64 1) = -1 by decide +kernel, e0]
    show IntKind.i64.wrap ((BitVec.ofInt 64 ((n / 2 : Nat) : Int) ^^^ BitVec.ofInt 64 (-1)).toNat : Int) = _
    have h1 : (BitVec.ofInt 64 (-1)).toNat = 2 ^ 64 - 1 := by decide
    have h2 : (BitVec.ofInt 64 ((n / 2 : Nat) : Int)).toNat = n / 2 := by
      rw [BitVec.ofInt_natCast, BitVec.toNat_ofNat]; exact Nat.mod_eq_of_lt (by omega)
    rw [BitVec.toNat_xor, h1, h2, Nat.xor_comm, Go.Lib.xor_ones64 (n / 2) (by omega), IntKind.wrap_i64]
    omega
  · rw [if_neg h1, show (n : Int) % 2 = 0 by omega, show wrap64 (-wrap64 0) = 0 by decide +kernel, e0]
    show IntKind.i64.wrap ((BitVec.ofInt 64 ((n / 2 : Nat) : Int) ^^^ BitVec.ofInt 64 0).toNat : Int) = _
    have h1 : (BitVec.ofInt 64 0).toNat = 0 := by decide
    have h2 : (BitVec.ofInt 64 ((n / 2 : Nat) : Int)).toNat = n / 2 := by
      rw [BitVec.ofInt_natCast, BitVec.toNat_ofNat]; exact Nat.mod_eq_of_lt (by omega)
    rw [BitVec.toNat_xor, h1, h2, Nat.xor_zero, IntKind.wrap_i64]
    omega
set_option maxHeartbeats 400000 in
theorem rnum_any (B : Nat → Prop) (V : Value) (bs : List Nat) (bad : Bool) (w : World) (h : Rdr w B V bs bad) :
    Calls Try.prog 59 #[V] w fun e w' => e = .returned (.int .i64 (unfoldN (rcount bs).1)) ∧ Rdr w' B V (rcount bs).2.1 (rcount bs).2.2 ∧ Only w w' V := by
  have HC := Lib.hid (rcount_any B V bs bad w h)
  have hlt := rcount_lt bs h.small'
  obtain ⟨n, hn⟩ : ∃ n, n = (rcount bs).1 := ⟨_, rfl⟩
  rw [← hn] at HC hlt ⊢
  obtain ⟨U, hU⟩ : ∃ U, U = unfoldN n := ⟨_, rfl⟩
  rw [← hU]
  have HU := Lib.hid ((unfold_bits n hlt).trans hU.symm)
  clear h hn hU
  go_enter Try.func59, Try.ntmps59
  go_wp2_with fail
  refine Calls.mono HC.out ?_
  rintro e w1 ⟨rfl, h1, h2⟩
  have H1 := Lib.hid h1
  have H2 := Lib.hid h2
  clear h1 h2
  go_wp2_with fail
  go_ret
  exact ⟨by rw [HU.out]; rfl, H1.out, H2.out⟩

/-- What Flag leaves. -/
def flagRest (bs : List Nat) : List Nat := if byteT bs > 1 then [] else bs.drop 1
def flagBad (bs : List Nat) (bad : Bool) : Bool := decide (byteT bs > 1) || (bad || decide (bs.length = 0))
theorem ret_bool {a b : Bool} (h : a = b) : Ending.returned (.bool a) = .returned (.bool b) := by rw [h]
/-- What Bytes answers, and leaves. -/
def bytesOut (bs : List Nat) : List Nat := outT (rcount bs).2.1 (rcount bs).2.2 (rcount bs).1
def bytesRest (bs : List Nat) : List Nat := restT (rcount bs).2.1 (rcount bs).2.2 (rcount bs).1
def bytesBad (bs : List Nat) : Bool := failT (rcount bs).2.1 (rcount bs).2.2 (rcount bs).1
theorem Rdr.len' {w : World} {B : Nat → Prop} {V : Value} {bs : List Nat} {bad : Bool} (h : Rdr w B V bs bad) : bs.length ≤ 140737488355328 := by
  cases h with
  | none => simp
  | some _ A n c _ _ low block row lies hbad small len => have := row.1; rw [valsB_length] at this; omega
theorem outT_len (bs : List Nat) (bad : Bool) (m : Nat) : (outT bs bad m).length ≤ bs.length := by
  unfold outT
  split
  · simp
  · rw [List.length_take]; omega
end Go.Proofs.Ytejpjbmbcdgomaa

/- Strings of bytes; the contracts of num.Same, of a reader's Text, of the new reader, and of a writer's Bytes and Text. -/
namespace Go.Proofs.Ytejpjbmbcdgomaa
set_option maxRecDepth 100000
open Go.RowKit

/-- What string(b) is. -/
def strN (xs : List Nat) : ByteArray := strOfNums (xs.map fun (x : Nat) => (x : Int))
theorem strN_size (xs : List Nat) : (strN xs).size = xs.length := by simp [strN, strOfNums_size]
theorem strN_data (xs : List Nat) : (strN xs).data.toList = xs.map UInt8.ofNat := by
  unfold strN
  rw [strOfNums_data, List.map_map]
  exact List.map_congr_left fun x _ => by simp
theorem strN_toList (xs : List Nat) : (strN xs).toList = xs.map UInt8.ofNat := by rw [ByteArray.toList_eq, strN_data]
theorem map_byte_inj : ∀ (xs ys : List Nat), (∀ x ∈ xs, x < 256) → (∀ x ∈ ys, x < 256) → xs.map UInt8.ofNat = ys.map UInt8.ofNat → xs = ys
  | [], [], _, _, _ => rfl
  | [], _ :: _, _, _, h => by simp at h
  | _ :: _, [], _, _, h => by simp at h
  | x :: xs, y :: ys, hx, hy, h => by
    simp only [List.map_cons, List.cons.injEq] at h
    have e1 := congrArg UInt8.toNat h.1
    rw [UInt8.toNat_ofNat', UInt8.toNat_ofNat'] at e1
    have h1 := hx x (List.mem_cons_self ..)
    have h2 := hy y (List.mem_cons_self ..)
    rw [map_byte_inj xs ys (fun a ha => hx a (List.mem_cons_of_mem _ ha)) (fun a ha => hy a (List.mem_cons_of_mem _ ha)) h.2]
    congr 1
    omega
theorem strN_beq (xs ys : List Nat) (hx : ∀ x ∈ xs, x < 256) (hy : ∀ x ∈ ys, x < 256) : ((strN xs).toList == (strN ys).toList) = decide (xs = ys) := by
  rw [strN_toList, strN_toList]
  by_cases h : xs = ys
  · subst h; simp
  · rw [decide_eq_false h]
    exact beq_eq_false_iff_ne.2 fun he => h (map_byte_inj xs ys hx hy he)
theorem run_str (w : World) (A : Option Addr) (n c : Nat) (xs : List Nat) (h : Rdv w A n 1 (valsB xs)) : (convert 57 9 (.slice A n c)).run Try.prog w = .ok (.string (strN xs)) w := by
  obtain ⟨hl, hc⟩ := h
  rw [valsB_length, Nat.mul_one] at hl
  rcases Nat.eq_zero_or_pos n with h0 | h0
  · subst h0
    obtain rfl : xs = [] := List.eq_nil_of_length_eq_zero hl
    rw [run_convert_bytes_string w 57 9 5 _ 0 c Try.underlying57 Try.underlying5 Try.underlying9]
    rcases A with _ | ad
    · rfl
    · rw [run_bytesToString w ad 0 c [] (by simpa using run_loadCells_list (P := Try.prog) w ad [] (fun j v hj => by simp at hj))]
      rfl
  · obtain ⟨b, off, rfl, hc'⟩ := hc h0
    exact run_convert_bytes_arg w 57 5 Try.underlying57 Try.underlying5 b off n c (xs.map fun (x : Nat) => (x : Int)) (by simp [hl]) (fun i hi => by
      rw [hc' i _ (show (valsB xs)[i]? = some (.int .u8 ((xs.getD i 0 : Nat) : Int)) by rw [valsB_get]; simp [List.getD_eq_getElem?_getD, show i < xs.length by omega])]
      simp [List.getD_eq_getElem?_getD, show i < xs.length by omega]) 9 Try.underlying9

set_option maxHeartbeats 400000 in
theorem same_any (A A' : Option Addr) (n c n' c' : Nat) (xs ys : List Nat) (w : World) (h1 : Rdv w A n 1 (valsB xs)) (h2 : Rdv w A' n' 1 (valsB ys)) (hx : ∀ x ∈ xs, x < 256) (hy : ∀ x ∈ ys, x < 256) :
    Calls Try.prog 27 #[.slice A n c, .slice A' n' c'] w fun e w' => e = .returned (.bool (decide (xs = ys))) ∧ w = w' := by
  have e1 := run_str w A n c xs h1
  have e2 := run_str w A' n' c' ys h2
  have e3 := strN_beq xs ys hx hy
  obtain ⟨s, hs⟩ : ∃ s, s = strN xs := ⟨_, rfl⟩
  obtain ⟨t, ht⟩ : ∃ t, t = strN ys := ⟨_, rfl⟩
  rw [← hs] at e1 e3
  rw [← ht] at e2 e3
  have H3 := Lib.hid e3
  clear h1 h2 hs ht e3
  go_enter Try.func27, Try.ntmps27
  go_wp2_with fail
  go_ret
  exact ⟨ret_bool H3.out, rfl⟩

set_option maxHeartbeats 400000 in
theorem newReader_any (A : Option Addr) (n c : Nat) (ys : List Nat) (w : World) (hr : Rdv w A n 1 (valsB ys)) (hnil : A = none → c = 0 ∧ n = 0) (hn : n ≤ 140737488355328) (hs : ∀ x ∈ ys, x < 256) :
    Calls Try.prog 57 #[.slice A n c] w fun e w' => ∃ g, e = .returned (.pointer (some ⟨g, 0, none⟩)) ∧ Rdr w' (fun k => w.heap.size ≤ k ∧ k < w'.heap.size) (.pointer (some ⟨g, 0, none⟩)) ys false ∧ Below w.heap.size w w' := by
  have HC := Lib.hid (clone_any A n c ys w hr hnil hn)
  have HS := Lib.hid hs
  clear hr hs hnil
  go_enter Try.func57, Try.ntmps57
  go_wp2_with fail
  refine Calls.mono HC.out ?_
  rintro e w1 ⟨_, rfl, A', c', rfl, h1, h2, h3⟩
  have H1 := Lib.hid h1
  have H2 := Lib.hid h2
  have H3 := Lib.hid h3
  clear h1 h2 h3
  go_wp2_with fail
  go_ret
  have hb := Below.alloc (Below.refl w1.heap.size w1) (Nat.le_refl _) (.cells #[.slice A' n c', .bool false] 171 (0, 0))
  refine ⟨_, rfl, .some _ A' n c' ys false ⟨H3.out.size, by rw [World.size_alloc]; omega⟩ (heap_alloc_new w1 _) (H1.out.ext (stays_b hb)) ?_ (fun h => by cases h) HS.out hn, (H3.out.alloc H3.out.size _)⟩
  rcases H2.out with h | ⟨b, e, h1, h2, h3, _⟩
  · exact .inl h
  · exact .inr ⟨b, 0, e, ⟨h1, by rw [World.size_alloc]; omega⟩, by omega, by rw [World.size_alloc]; omega, h3⟩
end Go.Proofs.Ytejpjbmbcdgomaa
