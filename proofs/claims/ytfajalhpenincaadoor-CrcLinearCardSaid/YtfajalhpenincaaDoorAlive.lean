/- The fixed fact that each statement asks first: the sum of the chapter's example. And how bytes stay what they are in later worlds. -/
import Derived.Test.YtfajalhpenincaaDoorAdd
import Derived.Lib.SlBytesConst
import Derived.Lib.SmallJoins
namespace Go.Proofs.YtfajalhpenincaaDoor
open Go.RowKit

theorem tab_size {w : World} (h : Tab w) : 0 < w.heap.size := by
  have h0 := h 0 (by omega)
  have := World.block_lt_of_cell? _ _ h0
  simpa using this
/-- All that was there in w reads the same in w'. -/
def Stays (w w' : World) : Prop := ∀ p : Addr, p.block < w.heap.size → w'.cell? p = w.cell? p
theorem stays_below {w w' : World} (h : Below w.heap.size w w') : Stays w w' := fun _ hp => h.cell hp
theorem stays_alloc (w : World) (o : Obj) : Stays w (w.alloc o) := fun _ hp => World.cell?_alloc_lt w o _ hp
theorem Stays.cell {w w' : World} (h : Stays w w') {p : Addr} {v : Value} (hp : w.cell? p = some v) : w'.cell? p = some v := by
  rw [h p (World.block_lt_of_cell? _ _ hp)]; exact hp
theorem Tab.ext {w w' : World} (h : Tab w) (hs : Stays w w') : Tab w' := fun i hi => hs.cell (h i hi)
theorem Bts.ext {w w' : World} {A : Option Addr} {n : Nat} {xs : List Nat} (h : Bts w A n xs) (hs : Stays w w') : Bts w' A n xs :=
  ⟨h.1, h.2.1, fun hn => by
    obtain ⟨b, off, e, hc⟩ := h.2.2 hn
    exact ⟨b, off, e, fun j hj => hs.cell (hc j hj)⟩⟩
theorem Rws.ext {w w' : World} {A : Option Addr} {n : Nat} {xss : List (List Nat)} (h : Rws w A n xss) (hs : Stays w w') : Rws w' A n xss :=
  ⟨h.1, fun hn => by
    obtain ⟨b, off, e, hc⟩ := h.2 hn
    refine ⟨b, off, e, fun j hj => ?_⟩
    obtain ⟨A', n', c', h1, h2, h3⟩ := hc j hj
    exact ⟨A', n', c', hs.cell h1, h2.ext hs, h3⟩⟩
theorem bts_new (w : World) (xs : List Nat) (t : TypeId) (fr : Nat × Nat) (C : Array Value) (hC : C = (xs.map fun (x : Nat) => Value.int .u8 (x : Int)).toArray) (hs : Small xs) :
    Bts (w.alloc (.cells C t fr)) (some ⟨w.heap.size, 0, none⟩) xs.length xs := by
  refine ⟨rfl, hs, fun _ => ⟨_, _, rfl, fun j hj => ?_⟩⟩
  rw [World.cell?_alloc_mark, hC]
  simp [List.getD_eq_getElem?_getD, hj]

def abc : List Nat := [49, 50, 51, 52]
def def5 : List Nat := [53, 54, 55, 56, 57]
theorem alive_num : sumL 0 [abc, def5] = 3421780262 := by decide +kernel

theorem bts_at (w : World) (xs : List Nat) (t : TypeId) (fr : Nat × Nat) (C : Array Value) (g : Nat) (n : Nat) (hg : g = w.heap.size) (hn : xs.length = n) (hC : C = (xs.map fun (x : Nat) => Value.int .u8 (x : Int)).toArray) (hs : Small xs) :
    Bts (w.alloc (.cells C t fr)) (some ⟨g, 0, none⟩) n xs := by
  subst hg hn
  exact bts_new w xs t fr C hC hs
theorem rws_new (w : World) (C : Array Value) (t : TypeId) (g n : Nat) (hg : g = w.heap.size) (xss : List (List Nat)) (hn : xss.length = n)
    (hc : ∀ j, j < n → ∃ A' n' c', C[j]? = some (.slice A' n' c') ∧ Bts w A' n' (xss.getD j []) ∧ n' ≤ 9223372036854775807) :
    Rws (w.alloc (.cells C t)) (some ⟨g, 0, none⟩) n xss := by
  subst hg
  refine ⟨hn, fun _ => ⟨_, _, rfl, fun j hj => ?_⟩⟩
  obtain ⟨A', n', c', h1, h2, h3⟩ := hc j hj
  refine ⟨A', n', c', ?_, h2.ext (stays_alloc _ _), h3⟩
  rw [World.cell?_alloc_mark, ← h1]
  simp

def one (w : World) : World := w.alloc (.cells #[Value.int IntKind.u8 49, Value.int IntKind.u8 50, Value.int IntKind.u8 51, Value.int IntKind.u8 52] 5 (4, 5))
def two (w : World) : World := (one w).alloc (.cells #[Value.int IntKind.u8 53, Value.int IntKind.u8 54, Value.int IntKind.u8 55, Value.int IntKind.u8 56, Value.int IntKind.u8 57] 5 (5, 6))
def three (w : World) : World := (two w).alloc (.cells #[Value.slice (some { block := w.heap.size, off := 0 }) 4 4, Value.slice (some { block := w.heap.size + 1, off := 0 }) 5 5] 22)
theorem three_rws (w : World) : Rws (three w) (some ⟨w.heap.size + 1 + 1, 0, none⟩) 2 [abc, def5] := by
  have h1 : Bts (one w) (some ⟨w.heap.size, 0, none⟩) 4 abc := bts_at w abc 5 (4, 5) _ _ 4 rfl rfl rfl (by unfold Small abc; decide)
  have h2 : Bts (two w) (some ⟨w.heap.size + 1, 0, none⟩) 5 def5 := bts_at (one w) def5 5 (5, 6) _ _ 5 (by simp [one]) rfl rfl (by unfold Small def5; decide)
  refine rws_new (two w) _ 22 _ 2 (by simp [two, one]) _ rfl (fun j hj => ?_)
  match j, hj with
  | 0, _ => exact ⟨_, _, _, rfl, h1.ext (stays_alloc _ _), by decide⟩
  | 1, _ => exact ⟨_, _, _, rfl, h2, by decide⟩
theorem three_below (w : World) : Below w.heap.size w (three w) :=
  (((Below.refl _ _).alloc (Nat.le_refl _) _).alloc (by simp) _).alloc (by simp; omega) _

set_option maxHeartbeats 400000 in
theorem alive_any (w : World) (hT : Tab w) :
    Calls Tryd.prog 9 #[] w fun e w' => e = .returned (.bool true) ∧ Below w.heap.size w w' := by
  have hcv := fun (w : World) (C : Array Value) (n c g : Nat) (hg : g = w.heap.size) => Go.Joins.run_convert_bytes_const_at (P := Tryd.prog) w 22 5 C n c g hg Tryd.underlying22 Tryd.underlying5
  have C := sum_any (some ⟨w.heap.size + 1 + 1, 0, none⟩) 2 2 [abc, def5] (three w) (three_rws w) (hT.ext (stays_below (three_below w))) (by decide)
  rw [alive_num] at C
  have HB := Lib.hid (three_below w)
  have HC := Lib.hid C
  clear C
  unfold three two one at HC HB
  go_enter Tryd.func9, Tryd.ntmps9
  go_wp2_with fail
  refine Calls.mono HC.out ?_
  rintro e w' ⟨rfl, rfl⟩
  clear HC hcv
  go_wp2
  go_ret
  exact ⟨rfl, HB.out⟩
end Go.Proofs.YtfajalhpenincaaDoor
