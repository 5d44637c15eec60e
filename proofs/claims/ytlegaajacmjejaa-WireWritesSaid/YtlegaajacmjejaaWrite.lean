/- The contract of the law's write: a value, written by both. -/
import Derived.Test.YtlegaajacmjejaaRefW
namespace Go.Proofs.Ytlegaajacmjejaa
set_option maxRecDepth 100000
open Go.RowKit

theorem OwnB.base {w : World} {B B' : Nat} {v : Value} {xs : List Nat} (h : OwnB w B v xs) (hb : B' ≤ B) : OwnB w B' v xs := by
  refine ⟨h.1, ?_⟩
  rcases h.2 with h0 | ⟨g, cap, cur, e, h1, h2⟩
  · exact .inl h0
  · exact .inr ⟨g, cap, cur, e, Nat.le_trans hb h1, h2⟩
theorem Wrote.before {w w1 w' : World} {B g : Nat} {v v' : Value} {xs : List Nat} (h : Wrote w w1 B g v v' xs) (k : Below w1.heap.size w1 w') : Wrote w w' B g v v' xs := by
  refine ⟨h.wtr.ext k, ⟨k.os.trans h.touch.os, k.tape.trans h.touch.tape, k.output.trans h.touch.output, Nat.le_trans h.touch.size k.size, fun j hj h1 h2 => (k.block j (Nat.lt_of_lt_of_le hj h.touch.size)).trans (h.touch.block j hj h1 h2)⟩, h.row⟩
theorem Wrote.cell {w w' : World} {B g : Nat} {v v' : Value} {xs : List Nat} (h : Wrote w w' B g v v' xs) {p : Addr} (hp : p.block < w.heap.size) (hg : p.block ≠ g) (hr : v.ownBlock ≠ some p.block) : w'.cell? p = w.cell? p :=
  World.cell?_of_block (h.touch.block p.block hp hg hr)
theorem Away.alloc {w : World} {g : Nat} {v : Value} {A : Option Addr} (h : Away w g v A) (hg : g < w.heap.size) (hv : ∀ k, v.ownBlock = some k → k < w.heap.size) (o : Obj) : Away (w.alloc o) g v A := by
  intro ad e hlt
  rw [World.size_alloc] at hlt
  rcases Nat.lt_or_ge ad.block w.heap.size with h1 | h1
  · exact h ad e h1
  · exact ⟨by omega, fun he => by have := hv _ he; omega⟩
/-- A value's bytes. -/
def enc (k n : Int) (u : Nat) (ys : List Nat) : List Nat :=
  if k = 1 then cntN (foldN n) else if k = 2 then [flagN (decide (n = 1))] else if k = 3 then cntN ys.length ++ ys else if k = 4 then cntN ys.length ++ ys
  else if k = 5 then [(n % 256).toNat] else cntN u
/-- A value in a block. -/
def valC (k n : Int) (u : Nat) (A : Option Addr) (m c : Nat) : Array Value := #[.int .i64 k, .int .i64 n, .int .u64 (u : Int), .slice A m c]
/-- What a writer's call and the answer behind it make. -/
structure Both (w w' : World) (B g : Nat) (v v' r : Value) (xs ys : List Nat) : Prop where
  wrote : Wrote w w' B g v v' (xs ++ ys)
  own : OwnB w' w.heap.size r ys
theorem Both.make {w w1 w2 : World} {o : Obj} {B g : Nat} {v v' r : Value} {xs ys : List Nat} (h : Wrote (w.alloc o) w1 B g v v' (xs ++ ys)) (k : Below w1.heap.size w1 w2) (hr : OwnB w2 w1.heap.size r ys) : Both w w2 B g v v' r xs ys :=
  ⟨(Wrote.after_alloc h).before k, hr.base (Wrote.after_alloc h).touch.size⟩

set_option maxHeartbeats 1000000 in
theorem write_any (B g : Nat) (v : Value) (xs : List Nat) (k n : Int) (u : Nat) (A : Option Addr) (m c : Nat) (ys : List Nat) (w : World) (hw : Wtr w B g v xs) (hr : Rdv w A m 1 (valsB ys)) (hnil : A = none → c = 0) (ha : 0 < m → Away w g v A)
    (hn : Fits n) (hu : u < 18446744073709551616) (hy : ∀ y ∈ ys, y < 256) (hmx : xs.length ≤ 8796093000000) (hm : m ≤ 8796093000000) :
    Calls Try.prog 16 #[.pointer (some ⟨g, 0, none⟩), .agg #[.int .i64 k, .int .i64 n, .int .u64 (u : Int), .slice A m c]] w fun e w' => ∃ r, e = .returned r ∧ ∃ v', Both w w' B g v v' r xs (enc k n u ys) := by
  have hl : ys.length = m := by have := hr.1; rw [valsB_length] at this; omega
  obtain ⟨o, ho⟩ : ∃ o, o = Obj.cells (valC k n u A m c) 31 (0, 0) := ⟨_, rfl⟩
  have hw1 := hw.alloc o
  have hlt := hw.lt
  have hown : v.ownBlock ≠ some w.heap.size := fun he => by have := (hw.own.lt _ he).2; omega
  have ha1 := fun h => (ha h).alloc hlt (fun j hj => (hw.own.lt j hj).2) o
  have hr1 : Rdv (w.alloc o) A m 1 (valsB ys) := hr.ext (fun p hp => World.cell?_alloc_lt w o _ hp)
  have hcell : ∀ (w' : World) (v' : Value) (zs : List Nat), Wrote (w.alloc o) w' B g v v' zs → ∀ j, w'.cell? ⟨w.heap.size, j, none⟩ = (valC k n u A m c)[j]? := fun w' v' zs hh j => by
    rw [hh.cell (p := ⟨w.heap.size, j, none⟩) (by rw [World.size_alloc]; exact Nat.lt_succ_self _) (Nat.ne_of_gt hlt) hown, ho]
    exact cell_of_row _ _ j _ 31 (0, 0) (heap_alloc_new w _)
  have HCELL := Lib.hid hcell
  rw [← hl] at hr1 hm ha1
  subst ho
  unfold enc
  by_cases h1 : k = 1
  · rw [if_pos h1]
    subst h1
    have HN := Lib.hid (num_any B g v xs n hn _ hw1 (by omega))
    have HF := Lib.hid (fun w' => refNum_any n hn w')
    clear hw hr ha hw1 ha1 hr1 hcell hown hlt
    go_enter Try.func16, Try.ntmps16
    go_wp2_with fail
    refine Calls.mono HN.out ?_
    rintro e w1 ⟨rfl, v1, h2⟩
    have c1 : w1.cell? ⟨w.heap.size, 1, none⟩ = some (.int .i64 n) := HCELL.out w1 v1 _ h2 1
    have HG := Lib.hid (HF.out w1)
    have H2 := Lib.hid h2
    clear h2
    go_wp2_with fail
    refine Calls.mono HG.out ?_
    rintro e w2 ⟨r, rfl, h3, h4⟩
    have HB := Lib.hid (Both.make H2.out h4 h3)
    clear h3 h4
    go_wp2_with fail
    go_ret
    exact ⟨_, rfl, v1, HB.out⟩
  rw [if_neg h1]
  by_cases h2 : k = 2
  · rw [if_pos h2]
    subst h2
    obtain ⟨f, hf⟩ : ∃ f, f = decide (n = 1) := ⟨_, rfl⟩
    have hf2 : (n == 1) = f := by rw [hf]; by_cases h : n = 1 <;> simp [h]
    rw [← hf]
    have HN := Lib.hid (flag_any B g v xs f _ hw1 (by omega))
    have HF := Lib.hid (fun w' => refFlag_any f w')
    clear hw hr ha hw1 ha1 hr1 hcell hown hlt hf
    go_enter Try.func16, Try.ntmps16
    go_wp2_with fail
    refine Calls.mono HN.out ?_
    rintro e w1 ⟨rfl, v1, h2⟩
    have c1 : w1.cell? ⟨w.heap.size, 1, none⟩ = some (.int .i64 n) := HCELL.out w1 v1 _ h2 1
    have HG := Lib.hid (HF.out w1)
    have H2 := Lib.hid h2
    clear h2
    go_wp2_with fail
    refine Calls.mono HG.out ?_
    rintro e w2 ⟨r, rfl, h3, h4⟩
    have HB := Lib.hid (Both.make H2.out h4 h3)
    clear h3 h4
    go_wp2_with fail
    go_ret
    exact ⟨_, rfl, v1, HB.out⟩
  rw [if_neg h2]
  by_cases h3 : k = 3
  · rw [if_pos h3]
    subst h3
    have HN := Lib.hid (bytes_any B g v xs A ys.length c ys _ hw1 hr1 hnil ha1 hmx hm)
    have HF := Lib.hid (fun w' (hq : Rdv w' A ys.length 1 (valsB ys)) => refBytes_any A ys.length c ys w' hq hnil hm)
    have HT := Lib.hid (fun (w' : World) (h : Touch (w.alloc (.cells (valC 3 n u A m c) 31)) w' g v.ownBlock) => h.rdv hr1 ha1)
    clear hw hr ha hw1 ha1 hr1 hcell hown hlt
    obtain ⟨N, hN⟩ : ∃ N, N = ys.length := ⟨_, rfl⟩
    rw [← hN] at hl HN HF HT hm ⊢
    obtain rfl := hl
    clear hN
    go_enter Try.func16, Try.ntmps16
    go_wp2_with fail
    refine Calls.mono HN.out ?_
    rintro e w1 ⟨rfl, v1, h2⟩
    have c1 : w1.cell? ⟨w.heap.size, 3, none⟩ = some (.slice A N c) := HCELL.out w1 v1 _ h2 3
    have HG := Lib.hid (HF.out w1 (HT.out w1 h2.touch))
    have H2 := Lib.hid h2
    clear h2
    go_wp2_with fail
    refine Calls.mono HG.out ?_
    rintro e w2 ⟨r, rfl, h3, h4⟩
    have HB := Lib.hid (Both.make H2.out h4 h3)
    clear h3 h4
    go_wp2_with fail
    go_ret
    exact ⟨_, rfl, v1, HB.out⟩
  rw [if_neg h3]
  by_cases h4 : k = 4
  · rw [if_pos h4]
    subst h4
    have HN := Lib.hid (text_any B g v xs ys hy _ hw1 hmx hm)
    have HF := Lib.hid (fun w' (hq : Rdv w' A ys.length 1 (valsB ys)) => refBytes_any A ys.length c ys w' hq hnil hm)
    have HT := Lib.hid (fun (w' : World) (h : Touch (w.alloc (.cells (valC 4 n u A m c) 31)) w' g v.ownBlock) => h.rdv hr1 ha1)
    have e1 : Sem.run Try.prog (convert 26 9 (.slice A ys.length c)) (w.alloc (.cells #[.int .i64 4, .int .i64 n, .int .u64 (u : Int), .slice A m c] 31)) = .ok (.string (strN ys)) (w.alloc (.cells #[.int .i64 4, .int .i64 n, .int .u64 (u : Int), .slice A m c] 31)) := run_str _ A ys.length c ys hr1
    clear hw hr ha hw1 ha1 hr1 hcell hown hlt
    obtain ⟨N, hN⟩ : ∃ N, N = ys.length := ⟨_, rfl⟩
    rw [← hN] at hl HN HF HT hm e1 ⊢
    obtain rfl := hl
    clear hN
    obtain ⟨s, hs⟩ : ∃ s, s = strN ys := ⟨_, rfl⟩
    rw [← hs] at e1 HN
    clear hs
    go_enter Try.func16, Try.ntmps16
    go_wp2_with fail
    refine Calls.mono HN.out ?_
    rintro e w1 ⟨rfl, v1, h2⟩
    have c1 : w1.cell? ⟨w.heap.size, 3, none⟩ = some (.slice A N c) := HCELL.out w1 v1 _ h2 3
    have HG := Lib.hid (HF.out w1 (HT.out w1 h2.touch))
    have H2 := Lib.hid h2
    clear h2
    go_wp2_with fail
    refine Calls.mono HG.out ?_
    rintro e w2 ⟨r, rfl, h3, h4⟩
    have HB := Lib.hid (Both.make H2.out h4 h3)
    clear h3 h4
    go_wp2_with fail
    go_ret
    exact ⟨_, rfl, v1, HB.out⟩
  rw [if_neg h4]
  by_cases h5 : k = 5
  · rw [if_pos h5]
    subst h5
    obtain ⟨b, hb⟩ : ∃ b, b = (n % 256).toNat := ⟨_, rfl⟩
    have e1 : n % 256 = (b : Int) := by omega
    have hb255 : b ≤ 255 := by omega
    have e2 : IntKind.u8.wrap n = (b : Int) := by rw [← e1]; rfl
    rw [← hb]
    have HN := Lib.hid (byte_any B g v xs b _ hw1 (by omega))
    clear hw hr ha hw1 ha1 hr1 hcell hown hlt hb
    go_enter Try.func16, Try.ntmps16
    go_wp2_with fail
    refine Calls.mono HN.out ?_
    rintro e w1 ⟨rfl, v1, h2⟩
    have c1 : w1.cell? ⟨w.heap.size, 1, none⟩ = some (.int .i64 n) := HCELL.out w1 v1 _ h2 1
    have HB := Lib.hid (Both.make h2 ((Below.refl _ w1).alloc (Nat.le_refl _) _) (ownB_one w1 b))
    clear h2
    go_wp2_with fail
    go_ret
    exact ⟨_, rfl, v1, HB.out⟩
  rw [if_neg h5]
  have HN := Lib.hid (count_any B g v xs u hu _ hw1 (by omega))
  have HF := Lib.hid (fun w' => refCount_any u hu w')
  clear hw hr ha hw1 ha1 hr1 hcell hown hlt
  go_enter Try.func16, Try.ntmps16
  go_wp2_with fail
  refine Calls.mono HN.out ?_
  rintro e w1 ⟨rfl, v1, h2⟩
  have c1 : w1.cell? ⟨w.heap.size, 2, none⟩ = some (.int .u64 (u : Int)) := HCELL.out w1 v1 _ h2 2
  have HG := Lib.hid (HF.out w1)
  have H2 := Lib.hid h2
  clear h2
  go_wp2_with fail
  refine Calls.mono HG.out ?_
  rintro e w2 ⟨r, rfl, h3, h4⟩
  have HB := Lib.hid (Both.make H2.out h4 h3)
  clear h3 h4
  go_wp2_with fail
  go_ret
  exact ⟨_, rfl, v1, HB.out⟩
end Go.Proofs.Ytlegaajacmjejaa
