/- The contracts of crc.Add and crc.Sum. -/
import Derived.Test.YtfajalhpenincaaDoorFeed
namespace Go.Proofs.YtfajalhpenincaaDoor
open Go.RowKit

def inv (s : Nat) : Nat := 4294967295 ^^^ s
theorem max_lt : (4294967295 : Nat) < 4294967296 := by decide
theorem inv_eq (s : Nat) : inv s = 4294967295 ^^^ s := by rw [inv]
theorem inv_lt {s : Nat} (h : s < 4294967296) : inv s < 4294967296 := by
  rw [inv_eq]
  exact xor_lt32 max_lt h
theorem inv_inv (s : Nat) : inv (inv s) = s := by rw [inv_eq, inv_eq, ← Nat.xor_assoc, Nat.xor_self, Nat.zero_xor]
def addN (s : Nat) (xs : List Nat) : Nat := inv (feedL (inv s) xs)
theorem addN_lt {s : Nat} {xs : List Nat} (h : s < 4294967296) (hx : Small xs) : addN s xs < 4294967296 := inv_lt (feedL_lt (inv_lt h) hx)
theorem addN_append (s : Nat) (xs ys : List Nat) : addN s (xs ++ ys) = addN (addN s xs) ys := by
  unfold addN; rw [inv_inv, feedL_append]
theorem max_u32 : IntKind.u32.max = ((4294967295 : Nat) : Int) := by decide
theorem inv_bits {s : Nat} (h : s < 4294967296) : bits BinOp.xor IntKind.u32 IntKind.u32.max (s : Int) = ((inv s : Nat) : Int) := by
  rw [max_u32, u32_xor_nat 4294967295 s max_lt h, inv_eq]

set_option maxHeartbeats 400000 in
theorem add_any (s : Nat) (hs : s < 4294967296) (A : Option Addr) (n c : Nat) (xs : List Nat) (w : World) (hb : Bts w A n xs) (hT : Tab w) (hn : n ≤ 9223372036854775807) :
    Calls Tryd.prog 13 #[.int .u32 (s : Int), .slice A n c] w fun e w' => e = .returned (.int .u32 ((addN s xs : Nat) : Int)) ∧ w = w' := by
  obtain ⟨s', h1⟩ : ∃ x, x = inv s := ⟨_, rfl⟩
  obtain ⟨f, h2⟩ : ∃ x, x = feedL s' xs := ⟨_, rfl⟩
  obtain ⟨g, h3⟩ : ∃ x, x = inv f := ⟨_, rfl⟩
  have hs' : s' < 4294967296 := by rw [h1]; exact inv_lt hs
  have hf : f < 4294967296 := by rw [h2]; exact feedL_lt hs' hb.2.1
  have e1 : bits BinOp.xor IntKind.u32 IntKind.u32.max (s : Int) = (s' : Int) := by rw [h1]; exact inv_bits hs
  have e2 : bits BinOp.xor IntKind.u32 IntKind.u32.max (f : Int) = (g : Int) := by rw [h3]; exact inv_bits hf
  have C := feed_any s' hs' A n c xs w hb hT hn
  rw [← h2] at C
  have hg : g = addN s xs := by rw [h3, h2, h1]; rfl
  have HG := Lib.hid hg
  have HC := Lib.hid C
  clear h1 h2 h3 hg C
  go_enter Tryd.func13, Tryd.ntmps13
  go_wp2_with fail
  refine Calls.mono HC.out ?_
  rintro e w' ⟨rfl, rfl⟩
  go_wp2_with fail
  go_ret
  exact ⟨ret_u32 HG.out, rfl⟩

/-- A slice of byte slices. -/
def Rws (w : World) (A : Option Addr) (n : Nat) (xss : List (List Nat)) : Prop :=
  xss.length = n ∧ (0 < n → ∃ b off, A = some ⟨b, off, none⟩ ∧ ∀ j, j < n → ∃ A' n' c', w.cell? ⟨b, off + j, none⟩ = some (.slice A' n' c') ∧ Bts w A' n' (xss.getD j []) ∧ n' ≤ 9223372036854775807)

def sumL (s : Nat) (xss : List (List Nat)) : Nat := xss.foldl addN s
def AllSmall (xss : List (List Nat)) : Prop := ∀ x ∈ xss, Small x
theorem sumL_lt {s : Nat} (h : s < 4294967296) : ∀ {xss : List (List Nat)}, AllSmall xss → sumL s xss < 4294967296 := by
  intro xss
  induction xss generalizing s with
  | nil => intro _; exact h
  | cons x xs ih =>
    intro hs
    exact ih (addN_lt h (hs x (List.mem_cons_self))) (fun y hy => hs y (List.mem_cons_of_mem _ hy))
theorem Rws.small {w : World} {A : Option Addr} {n : Nat} {xss : List (List Nat)} (h : Rws w A n xss) : AllSmall xss := by
  intro x hx
  obtain ⟨hl, hc⟩ := h
  obtain ⟨j, hj, rfl⟩ := List.getElem_of_mem hx
  obtain ⟨b, off, _, hc⟩ := hc (by omega)
  obtain ⟨A', n', c', _, hb, _⟩ := hc j (by omega)
  have := hb.2.1
  simpa [List.getD_eq_getElem?_getD, hj] using this
theorem sumL_snoc (s : Nat) (xss : List (List Nat)) (k : Nat) (h : k < xss.length) : sumL s (xss.take (k + 1)) = addN (sumL s (xss.take k)) (xss.getD k []) := by
  unfold sumL
  rw [List.take_succ_eq_append_getElem h, List.foldl_append]
  simp [List.getD_eq_getElem?_getD, h]

set_option maxHeartbeats 400000 in
theorem sum_any (A : Option Addr) (n c : Nat) (xss : List (List Nat)) (w : World) (hb : Rws w A n xss) (hT : Tab w) (hn : n ≤ 9223372036854775807) :
    Calls Tryd.prog 12 #[.slice A n c] w fun e w' => e = .returned (.int .u32 ((sumL 0 xss : Nat) : Int)) ∧ w = w' := by
  have hsm := hb.small
  go_enter Tryd.func12, Tryd.ntmps12
  go_wp2
  go_loop [3, 5, 8] (fun g _ i => ∃ k : Nat, k ≤ n ∧ i = .int .i64 k ∧ g = .int .u32 ((sumL 0 (xss.take k) : Nat) : Int)) (fun _ _ i => n - (intOf i).toNat)
  case atStart => exact ⟨0, Nat.zero_le _, rfl, rfl⟩
  case round =>
    obtain ⟨k, hk, rfl, rfl⟩ := hrel
    obtain ⟨hl, hc⟩ := hb
    have HL := Lib.hid hl
    clear hl
    by_cases hlt : k < n
    · obtain ⟨b, off, rfl, hc'⟩ := hc (by omega)
      obtain ⟨A', n', c', hck, hbs, hn'⟩ := hc' k hlt
      obtain ⟨x, hxe⟩ : ∃ x, x = xss.getD k [] := ⟨_, rfl⟩
      rw [← hxe] at hbs
      obtain ⟨g, hge⟩ : ∃ g, g = sumL 0 (xss.take k) := ⟨_, rfl⟩
      rw [← hge]
      have hg : g < 4294967296 := by rw [hge]; exact sumL_lt (by decide) (fun y hy => hsm y (List.mem_of_mem_take hy))
      have C := Lib.hid (add_any g hg A' n' c' x w hbs hT hn')
      have en : addN g x = sumL 0 (xss.take (k + 1)) := by rw [sumL_snoc 0 xss k (by rw [HL.out]; exact hlt), ← hge, ← hxe]
      have HE := Lib.hid en
      clear hxe hge hc' hc hbs en hsm
      go_wp2_with fail
      refine Calls.mono C.out ?_
      rintro e w' ⟨rfl, rfl⟩
      go_wp2_with fail
      go_round
      case rel => exact ⟨k + 1, by omega, by go_num, by rw [HE.out]⟩
      case measure => simp [intOf]; omega
    · go_wp2
      go_ret
      exact ⟨ret_u32 (by rw [List.take_of_length_le (by rw [HL.out]; omega)]), rfl⟩
end Go.Proofs.YtfajalhpenincaaDoor
