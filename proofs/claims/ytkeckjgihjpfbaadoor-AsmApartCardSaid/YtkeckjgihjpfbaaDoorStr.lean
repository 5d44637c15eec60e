/- Strings of bytes; the contracts of num.Same, of a reader's Text, of the new reader, and of a writer's Bytes and Text. -/
import Derived.Test.YtkeckjgihjpfbaaDoorRNum
import Derived.Laws.BytesArg
import Derived.Lib.ConvBytes
namespace Go.Proofs.YtkeckjgihjpfbaaDoor
set_option maxRecDepth 100000
open Go.RowKit

/-- What string(b) is. -/
def strN (xs : List Nat) : ByteArray := strOfNums (xs.map fun (x : Nat) => (x : Int))
theorem strN_size (xs : List Nat) : (strN xs).size = xs.length := by simp [strN, strOfNums_size]
theorem strN_data (xs : List Nat) : (strN xs).data.toList = xs.map UInt8.ofNat := by
  unfold strN
  rw [strOfNums_data, List.map_map]
  exact List.map_congr_left fun x _ => by simp
theorem strN_toList (xs : List Nat) : (strN xs).toList = xs.map UInt8.ofNat := by rw [ByteArray.toList_eq, strN_data]
theorem map_byte_inj : ∀ (xs ys : List Nat), (∀ x ∈ xs, x < 256) → (∀ x ∈ ys, x < 256) → xs.map UInt8.ofNat = ys.map UInt8.ofNat → xs = ys
  | [], [], _, _, _ => rfl
  | [], _ :: _, _, _, h => by simp at h
  | _ :: _, [], _, _, h => by simp at h
  | x :: xs, y :: ys, hx, hy, h => by
    simp only [List.map_cons, List.cons.injEq] at h
    have e1 := congrArg UInt8.toNat h.1
    rw [UInt8.toNat_ofNat', UInt8.toNat_ofNat'] at e1
    have h1 := hx x (List.mem_cons_self ..)
    have h2 := hy y (List.mem_cons_self ..)
    rw [map_byte_inj xs ys (fun a ha => hx a (List.mem_cons_of_mem _ ha)) (fun a ha => hy a (List.mem_cons_of_mem _ ha)) h.2]
    congr 1
    omega
theorem strN_beq (xs ys : List Nat) (hx : ∀ x ∈ xs, x < 256) (hy : ∀ x ∈ ys, x < 256) : ((strN xs).toList == (strN ys).toList) = decide (xs = ys) := by
  rw [strN_toList, strN_toList]
  by_cases h : xs = ys
  · subst h; simp
  · rw [decide_eq_false h]
    exact beq_eq_false_iff_ne.2 fun he => h (map_byte_inj xs ys hx hy he)
theorem run_str (w : World) (A : Option Addr) (n c : Nat) (xs : List Nat) (h : Rdv w A n 1 (valsB xs)) : (convert 28 9 (.slice A n c)).run Tryd.prog w = .ok (.string (strN xs)) w := by
  obtain ⟨hl, hc⟩ := h
  rw [valsB_length, Nat.mul_one] at hl
  rcases Nat.eq_zero_or_pos n with h0 | h0
  · subst h0
    obtain rfl : xs = [] := List.eq_nil_of_length_eq_zero hl
    rw [run_convert_bytes_string w 28 9 5 _ 0 c Tryd.underlying28 Tryd.underlying5 Tryd.underlying9]
    rcases A with _ | ad
    · rfl
    · rw [run_bytesToString w ad 0 c [] (by simpa using run_loadCells_list (P := Tryd.prog) w ad [] (fun j v hj => by simp at hj))]
      rfl
  · obtain ⟨b, off, rfl, hc'⟩ := hc h0
    exact run_convert_bytes_arg w 28 5 Tryd.underlying28 Tryd.underlying5 b off n c (xs.map fun (x : Nat) => (x : Int)) (by simp [hl]) (fun i hi => by
      rw [hc' i _ (show (valsB xs)[i]? = some (.int .u8 ((xs.getD i 0 : Nat) : Int)) by rw [valsB_get]; simp [List.getD_eq_getElem?_getD, show i < xs.length by omega])]
      simp [List.getD_eq_getElem?_getD, show i < xs.length by omega]) 9 Tryd.underlying9

set_option maxHeartbeats 400000 in
theorem same_any (A A' : Option Addr) (n c n' c' : Nat) (xs ys : List Nat) (w : World) (h1 : Rdv w A n 1 (valsB xs)) (h2 : Rdv w A' n' 1 (valsB ys)) (hx : ∀ x ∈ xs, x < 256) (hy : ∀ x ∈ ys, x < 256) :
    Calls Tryd.prog 20 #[.slice A n c, .slice A' n' c'] w fun e w' => e = .returned (.bool (decide (xs = ys))) ∧ w = w' := by
  have e1 := run_str w A n c xs h1
  have e2 := run_str w A' n' c' ys h2
  have e3 := strN_beq xs ys hx hy
  obtain ⟨s, hs⟩ : ∃ s, s = strN xs := ⟨_, rfl⟩
  obtain ⟨t, ht⟩ : ∃ t, t = strN ys := ⟨_, rfl⟩
  rw [← hs] at e1 e3
  rw [← ht] at e2 e3
  have H3 := Lib.hid e3
  clear h1 h2 hs ht e3
  go_enter Tryd.func20, Tryd.ntmps20
  go_wp2_with fail
  go_ret
  exact ⟨ret_bool H3.out, rfl⟩

set_option maxHeartbeats 400000 in
theorem newReader_any (A : Option Addr) (n c : Nat) (ys : List Nat) (w : World) (hr : Rdv w A n 1 (valsB ys)) (hnil : A = none → c = 0 ∧ n = 0) (hn : n ≤ 140737488355328) (hs : ∀ x ∈ ys, x < 256) :
    Calls Tryd.prog 43 #[.slice A n c] w fun e w' => ∃ g, e = .returned (.pointer (some ⟨g, 0, none⟩)) ∧ Rdr w' (fun k => w.heap.size ≤ k ∧ k < w'.heap.size) (.pointer (some ⟨g, 0, none⟩)) ys false ∧ Below w.heap.size w w' := by
  have HC := Lib.hid (clone_any A n c ys w hr hnil hn)
  have HS := Lib.hid hs
  clear hr hs hnil
  go_enter Tryd.func43, Tryd.ntmps43
  go_wp2_with fail
  refine Calls.mono HC.out ?_
  rintro e w1 ⟨_, rfl, A', c', rfl, h1, h2, h3⟩
  have H1 := Lib.hid h1
  have H2 := Lib.hid h2
  have H3 := Lib.hid h3
  clear h1 h2 h3
  go_wp2_with fail
  go_ret
  have hb := Below.alloc (Below.refl w1.heap.size w1) (Nat.le_refl _) (.cells #[.slice A' n c', .bool false] 112 (0, 0))
  refine ⟨_, rfl, .some _ A' n c' ys false ⟨H3.out.size, by rw [World.size_alloc]; omega⟩ (heap_alloc_new w1 _) (H1.out.ext (stays_b hb)) ?_ (fun h => by cases h) HS.out hn, (H3.out.alloc H3.out.size _)⟩
  rcases H2.out with h | ⟨b, e, h1, h2, h3, _⟩
  · exact .inl h
  · exact .inr ⟨b, 0, e, ⟨h1, by rw [World.size_alloc]; omega⟩, by omega, by rw [World.size_alloc]; omega, h3⟩
end Go.Proofs.YtkeckjgihjpfbaaDoor
