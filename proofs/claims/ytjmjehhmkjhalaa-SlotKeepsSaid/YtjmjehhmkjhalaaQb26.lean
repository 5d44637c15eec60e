/- LParts, LSeal: put together. -/
import Derived.Test.YtjmjehhmkjhalaaQb25
import Derived.Test.YtjmjehhmkjhalaaQb18
import Derived.Deep.CutRange
import Derived.Laws.CopyRow
import Derived.Laws.CopyOwn
/- The contracts of slab.Need, slab.Parts and of what Parts hands out. -/
namespace Go.Proofs.Ytjmjehhmkjhalaa
set_option maxRecDepth 100000
open Go.RowKit
attribute [local go_sem] Oper.semAt_some

theorem ret_i64 {a b : Int} (h : a = b) : Ending.returned (.int .i64 a) = .returned (.int .i64 b) := by rw [h]
def needN (n : Nat) : Nat := (n + 49) / 50
set_option maxHeartbeats 400000 in
theorem need_any (n : Nat) (hn : n ≤ 9223372036854775807) (w : World) : Calls Try.prog 108 #[.int .i64 (n : Int)] w fun e w' => e = .returned (.int .i64 ((needN n : Nat) : Int)) ∧ w = w' := by
  have hd : needN n = (n + 49) / 50 := rfl
  obtain ⟨N, hN⟩ : ∃ N, N = needN n := ⟨_, rfl⟩
  rw [← hN] at hd ⊢
  by_cases h : n < 1
  · obtain rfl : N = 0 := by omega
    clear hd hN
    go_enter Try.func108, Try.ntmps108
    go_wp2_with fail
    go_ret
    exact ⟨rfl, rfl⟩
  · have HE := Lib.hid (show ((n : Int) - 1) / 50 + 1 = (N : Int) by omega)
    have h' : 1 ≤ n := by omega
    clear hd hN h
    go_enter Try.func108, Try.ntmps108
    go_wp2_with fail
    go_ret
    exact ⟨ret_i64 HE.out, rfl⟩

def partN (ds : List Nat) (k : Nat) : List Nat := (ds.drop (50 * k)).take 50
/-- Where a slice lies that was made behind a world of size z. -/
def NewZ (z : Nat) (W : World) (A : Option Addr) (n c : Nat) : Prop := (A = none ∧ n = 0 ∧ c = 0) ∨ ∃ b, A = some ⟨b, 0, none⟩ ∧ z ≤ b ∧ b < W.heap.size ∧ n ≤ c ∧ (0 < n → ∃ cs, W.heap[b]? = some (.cells cs 5 (0, 0)))
/-- What a round is handed. -/
def PartM (ds : List Nat) (k : Nat) (v : Value) (z : Nat) (W : World) : Prop :=
  ∃ A c, v = .slice A (partN ds k).length c ∧ Rdv W A (partN ds k).length 1 (valsB (partN ds k)) ∧ NewZ z W A (partN ds k).length c
/-- The box of Parts' own copy. -/
def Box (W : World) (B : Nat) (A : Option Addr) (n c : Nat) : Prop := W.heap[B]? = some (.cells #[.slice A n c] 51 (0, 0))
theorem Box.cell {W : World} {B : Nat} {A : Option Addr} {n c : Nat} (h : Box W B A n c) : W.cell? ⟨B, 0, none⟩ = some (.slice A n c) := cell_of_row W B 0 _ 51 (0, 0) h

set_option maxHeartbeats 1000000 in
theorem parts_any (A : Option Addr) (n c : Nat) (ds : List Nat) (w : World) (hr : Rdv w A n 1 (valsB ds)) (hnil : A = none → c = 0 ∧ n = 0) (hn : n ≤ 140737488355328) :
    Calls Try.prog 82 #[.slice A n c] w fun e w' => ∃ B, e = .returned (.func (.func 138) #[] #[.pointer (some ⟨B, 0, none⟩)]) ∧ ∃ A' c', Box w' B A' n c' ∧ Rdv w' A' n 1 (valsB ds) ∧ NewAt w w' A' n c' ∧ w.heap.size ≤ B ∧ Below w.heap.size w w' := by
  have HC := Lib.hid (fun w (h : Rdv w A n 1 (valsB ds)) => clone_any A n c ds w h hnil hn)
  have HR := Lib.hid hr
  clear hr hnil
  go_enter Try.func82, Try.ntmps82
  go_wp2_with fail
  refine Calls.mono (HC.out _ HR.out) ?_
  rintro e w1 ⟨_, rfl, A', c', rfl, h1, h2, h3⟩
  have H1 := Lib.hid h1
  have H2 := Lib.hid h2
  have H3 := Lib.hid h3
  clear h1 h2 h3
  go_wp2_with fail
  go_ret
  have hb := Below.alloc (Below.refl w1.heap.size w1) (Nat.le_refl _) (.cells #[.slice A' n c'] 51 (0, 0))
  refine ⟨_, rfl, A', c', heap_alloc_new w1 _, H1.out.ext (stays_b hb), ?_, H3.out.size, H3.out.alloc H3.out.size _⟩
  rcases H2.out with h | ⟨b, e, h4, h5, h6, h7⟩
  · exact .inl h
  · refine .inr ⟨b, e, h4, by rw [World.size_alloc]; omega, h6, fun hp => ?_⟩
    obtain ⟨cs, h8⟩ := h7 hp
    exact ⟨cs, (heap_alloc_old w1 _ h5).trans h8⟩
theorem part_rdv {w : World} {b off n : Nat} {ds : List Nat} (h : Rdv w (some ⟨b, off, none⟩) n 1 (valsB ds)) (k : Nat) (hk : 50 * k < n) : Rdv w (some ⟨b, off + 50 * k, none⟩) (partN ds k).length 1 (valsB (partN ds k)) := by
  have hl : ds.length = n := by have := h.1; rw [valsB_length] at this; omega
  refine ⟨by rw [valsB_length, Nat.mul_one], fun _ => ⟨b, off + 50 * k, rfl, fun j u hj => ?_⟩⟩
  obtain ⟨b', off', e, hc⟩ := h.2 (by omega)
  injection e with e
  injection e with e1 e2
  subst e1 e2
  rw [valsB_get] at hj
  unfold partN at hj
  rw [List.getElem?_take] at hj
  by_cases hj50 : j < 50
  · rw [if_pos hj50, List.getElem?_drop] at hj
    have := hc (50 * k + j) u (by rw [valsB_get]; exact hj)
    rw [Nat.add_assoc]
    exact this
  · rw [if_neg hj50] at hj
    cases hj
theorem partN_length (ds : List Nat) (k : Nat) : (partN ds k).length = min 50 (ds.length - 50 * k) := by simp [partN]

/-- A round is met with a part. -/
theorem part_yield {l k m m' N n : Nat} {O : Nat → Prop} {ds : List Nat} {J Jx : Nat → World → Prop} {wr w5 : World} {A' : Option Addr} {c' : Nat} (hN : N = needN n) (hm : m = min (50 * k + 50) n - 50 * k) (hl : (partN ds k).length = m) (hk : k < N) (hmm : m' = m)
    (hJ : ∀ k, Stays (J k)) (hJk : J k wr)
    (hY : ∀ k v W0 W1, k < needN n → J k W0 → J k W1 → PartM ds k v W0.heap.size W1 → YieldAt Fence.wide 9 Try.prog l #[.int .i64 (k : Int), v] W1 fun e W' =>
      (e = .returned (.bool true) ∧ J (k + 1) W' ∧ Keeps O W1 W') ∨ (e = .returned (.bool false) ∧ Jx (k + 1) W'))
    (hr : Rdv w5 A' m' 1 (valsB (partN ds k))) (hn : NewAt wr w5 A' m' c') (hb : Below wr.heap.size wr w5) :
    YieldAt Fence.wide 9 Try.prog l #[.int .i64 (k : Int), .slice A' m' c'] w5 fun e W' => (e = .returned (.bool true) ∧ J (k + 1) W' ∧ Keeps O w5 W') ∨ (e = .returned (.bool false) ∧ Jx (k + 1) W') := by
  subst hmm
  rw [← hl] at hr hn ⊢
  exact hY k _ wr w5 (by rw [← hN]; exact hk) hJk (hJ k wr w5 hJk hb) ⟨A', c', rfl, hr, hn⟩

set_option maxHeartbeats 2000000 in
theorem parts_hands (B : Nat) (A : Option Addr) (n c : Nat) (O : Nat → Prop) (ds : List Nat) (w : World) (hB : Box w B A n c) (hr : Rdv w A n 1 (valsB ds)) (hn : n ≤ 140737488355328) (hc : n ≤ c) (hn0 : ∀ k, O k → k < w.heap.size) (hB0 : O B) (hA0 : ∀ b o, A = some ⟨b, o, none⟩ → O b) :
    Hands Try.prog 138 #[.pointer (some ⟨B, 0, none⟩)] O (needN n) (fun k v => #[.int .i64 (k : Int), v]) (PartM ds) w := by
  intro l J Jx W hW hJ hJx hY h0
  have hl : ds.length = n := by have := hr.1; rw [valsB_length] at this; omega
  have HS := Lib.hid (fun W' (h : Keeps O W W') => (⟨(h.2 B hB0).trans ((hW.block B (hn0 B hB0)).trans hB), ⟨hr.1, fun hp => by
      obtain ⟨b, off, e, hcell⟩ := hr.2 hp
      have hb := hA0 b off e
      exact ⟨b, off, e, fun j u hj => (World.cell?_of_block (h.2 b hb)).trans ((hW.cell (p := ⟨b, off + j, none⟩) (hn0 b hb)).trans (hcell j u hj))⟩⟩⟩ : Box W' B A n c ∧ Rdv W' A n 1 (valsB ds)))
  have hWs := hW.size
  have HJ := Lib.hid hJ
  have HY := Lib.hid hY
  have HL := Lib.hid hl
  have H0 := Lib.hid h0
  have hbox := (HS.out W (Keeps.refl _ _)).1.cell
  clear hY hJ hJx hl hr hB hW h0
  refine callsIn_of_wp Try.func138 rfl trivial ?_ rfl
  simp only [Try.ntmps138, List.size_toArray, List.length_cons, List.length_nil, Nat.reduceAdd, Nat.reduceSub, Array.replicate_succ, Array.replicate_zero, List.push_toArray, List.append_toArray, List.nil_append, List.cons_append]
  gi_wp2_with fail
  refine ⟨trivial, ?_⟩
  refine (callsIn_wide.2 (need_any n (by omega) _)).mono ?_
  rintro e w' ⟨rfl, rfl⟩
  gi_wp2_with fail
  gi_loopw [3, 4, 8] (fun _ _ i wr => ∃ k : Nat, k ≤ needN n ∧ i = .int .i64 (k : Int) ∧ J k wr ∧ Keeps O W wr) (fun _ _ i _ => needN n - (intOf i).toNat)
  case atStart => exact ⟨0, Nat.zero_le _, rfl, H0.out, Keeps.refl _ _⟩
  case round =>
    obtain ⟨k, hk, rfl, hJk, hb⟩ := hrel
    have HJK := Lib.hid hJk
    have HBK := Lib.hid hb
    obtain ⟨N, hN⟩ : ∃ N, N = needN n := ⟨_, rfl⟩
    have hNn : N = (n + 49) / 50 := hN
    rw [← hN] at hk ⊢
    have HN := Lib.hid hN
    clear hJk hN
    by_cases hlt : k < N
    · have h50 : 50 * k < n := by omega
      obtain ⟨hbx, hrw⟩ := HS.out wr hb
      have hc1 := hbx.cell
      obtain ⟨b, off, rfl, _⟩ := hrw.2 (by omega)
      obtain ⟨m, hm⟩ : ∃ m, m = min (50 * k + 50) n - 50 * k := ⟨_, rfl⟩
      have hpl : (partN ds k).length = m := by rw [partN_length, HL.out]; omega
      have hpr := part_rdv hrw k h50
      rw [hpl] at hpr
      have HCL := Lib.hid (fun a m' cc (ha : a = off + 50 * k) (hm : m' = m) => (by subst ha hm; exact clone_any (some ⟨b, off + 50 * k, none⟩) m' cc (partN ds k) wr hpr (fun h => by cases h) (by omega) : Calls Try.prog 137 #[.slice (some ⟨b, a, none⟩) m' cc] wr fun e w' => ∃ v, e = .returned v ∧ ∃ A' c', v = .slice A' m' c' ∧ Rdv w' A' m' 1 (valsB (partN ds k)) ∧ NewAt wr w' A' m' c' ∧ Below wr.heap.size wr w'))
      have HPL := Lib.hid hpl
      have HM := Lib.hid hm
      clear hbx hrw hpr hpl hb hNn hm
      gi_wp2_with fail
      all_goals
        refine ⟨trivial, ?_⟩
        refine (callsIn_wide.2 (HCL.out _ _ _ (by omega) (by have := HM.out; omega))).mono ?_
        rintro e w5 ⟨_, rfl, A', c', rfl, r5, n5, b5⟩
        have hy0 := part_yield HN.out HM.out HPL.out hlt (by have := HM.out; omega) HJ.out HJK.out HY.out r5 n5 b5
        have HB5 := Lib.hid (HBK.out.trans (Keeps.of_below b5 (fun q hq => by have h1 := hn0 q hq; have h2 := HBK.out.1; omega)))
        clear r5 n5 b5
        obtain ⟨fn, tmps, assign, body, hy, hR⟩ := hy0
        gi_wp2_with fail
        refine hR.mono ?_
        rintro e W3 (⟨rfl, hJ3, hk3⟩ | ⟨rfl, hJx3⟩)
        · have HJ3 := Lib.hid hJ3
          have HB3 := Lib.hid (HB5.out.trans hk3)
          clear hJ3 hk3
          gi_wp2_with fail
          go_roundw
          case rel => exact ⟨k + 1, by omega, by go_num, HJ3.out, HB3.out⟩
          case measure => simp [intOf]; omega
        · have HX3 := Lib.hid hJx3
          clear hJx3
          gi_wp2_with fail
          refine bodyPost_ret (results_none rfl _ _ _) rfl ?_
          exact ⟨⟨_, rfl⟩, .inr ⟨k, by rw [← HN.out]; exact hlt, HX3.out⟩⟩
    · obtain rfl : k = N := by omega
      clear hb
      gi_wp2_with fail
      go_end0
      exact ⟨⟨_, rfl⟩, .inl (by rw [← HN.out]; exact HJK.out)⟩
end Go.Proofs.Ytjmjehhmkjhalaa

/- The contract of slab.Seal. -/
namespace Go.Proofs.Ytjmjehhmkjhalaa
set_option maxRecDepth 100000
open Go.RowKit
attribute [local go_sem] Oper.semAt_some

theorem zeros_sec : (#[.int .u8 0, .int .u8 0, .int .u8 0, .int .u8 0, .int .u8 0, .int .u8 0, .int .u8 0, .int .u8 0, .int .u8 0, .int .u8 0, .int .u8 0, .int .u8 0, .int .u8 0, .int .u8 0, .int .u8 0, .int .u8 0, .int .u8 0, .int .u8 0, .int .u8 0, .int .u8 0, .int .u8 0, .int .u8 0, .int .u8 0, .int .u8 0, .int .u8 0, .int .u8 0, .int .u8 0, .int .u8 0, .int .u8 0, .int .u8 0, .int .u8 0, .int .u8 0, .int .u8 0, .int .u8 0, .int .u8 0, .int .u8 0, .int .u8 0, .int .u8 0, .int .u8 0, .int .u8 0, .int .u8 0, .int .u8 0, .int .u8 0, .int .u8 0, .int .u8 0, .int .u8 0, .int .u8 0, .int .u8 0, .int .u8 0, .int .u8 0, .int .u8 0, .int .u8 0, .int .u8 0, .int .u8 0, .int .u8 0, .int .u8 0, .int .u8 0, .int .u8 0, .int .u8 0, .int .u8 0, .int .u8 0, .int .u8 0, .int .u8 0, .int .u8 0] : Array Value) = secV (noughts 64) := by rfl
def eForm : Value := .iface 43 (.int .i64 2)
theorem secV_one (l : List Nat) : (secV l).all (·.oneCell') = true := by
  simp [secV, valsB, Value.oneCell']
theorem store_sec {w : World} {g : Nat} {z l : List Nat} (h : Sec w g z) (hz : z.length = 64) (hl : l.length = 64) : (storeCells ⟨g, 0, none⟩ (secV l).toList).run Try.prog w = .ok () (w.setRow g (secV l)) := by
  have hs : (secV z).size = 64 := by rw [secV_size, hz]
  have hs2 : (secV l).size = 64 := by rw [secV_size, hl]
  have hx := run_storeCells_at (P := Try.prog) g 0 75 (secV l).toList 0 (secV z) w h (by simp [hs, hs2]) (by
    intro x hx
    have := secV_one l
    rw [Array.all_eq_true] at this
    obtain ⟨i, hi, rfl⟩ := List.mem_iff_getElem.1 hx
    simpa using this i (by simpa using hi))
  rw [hx]
  congr 2
  rw [List.drop_eq_nil_of_le (by simp [hs, hs2])]
  simp
theorem Sec.put {w : World} {g : Nat} {z : List Nat} (h : Sec w g z) (l : List Nat) : Sec (w.setRow g (secV l)) g l := setRow_heap w g _ _ 75 _ h
theorem res37 {w : World} {g : Nat} {l : List Nat} (h : Sec w g l) (hl : l.length = 64) (tmps : Array Value) (h2 : tmps.getD 2 undef = .pointer (some ⟨g, 0, none⟩)) :
    (results Try.f113 tmps).run Try.prog w = .ok (.tuple #[.agg (secV l), tmps.getD 3 undef]) w := by
  have h2' : tmps[2]?.getD undef = .pointer (some ⟨g, 0, none⟩) := by simpa using h2
  have hl := load_sec h hl
  have e : Try.f113.results = #[.cell 2 75, .tmp 3] := Try.results113
  simp only [results, e]
  simp [asAddr, h2', hl]

theorem heap_alloc3_new (w : World) (a b c : Obj) : (((w.alloc a).alloc b).alloc c).heap[w.heap.size + 1 + 1]? = some c := by
  have := heap_alloc_new ((w.alloc a).alloc b) c
  rw [World.size_alloc, World.size_alloc] at this
  exact this
/-- The world of Seal's variables: the slab, the result, the sector. -/
structure SealW (w w1 : World) (st kd : Int) (S : Value) (r s : List Nat) : Prop where
  slab : Sl w1 w.heap.size (.int .i64 st) (.int .i64 kd) S
  res : Sec w1 (w.heap.size + 1) r
  sec : Sec w1 (w.heap.size + 1 + 1) s
  below : Below w.heap.size w w1
theorem sealW_new (w : World) (st kd : Int) (S : Value) :
    SealW w (((w.alloc (.cells #[.int .i64 st, .int .i64 kd, S] 208)).alloc (.cells (secV (noughts 64)) 75)).alloc (.cells (secV (noughts 64)) 75)) st kd S (noughts 64) (noughts 64) where
  slab := (heap_alloc_old _ _ (by simp; omega)).trans ((heap_alloc_old _ _ (by simp)).trans (heap_alloc_new w _))
  res := (heap_alloc_old _ _ (by simp)).trans (heap_alloc2_new w _ _)
  sec := heap_alloc3_new w _ _ _
  below := (((Below.refl _ w).alloc (Nat.le_refl _) _).alloc (by simp) _).alloc (by simp; omega) _
theorem SealW.put {w w1 : World} {st kd : Int} {S : Value} {r s : List Nat} (h : SealW w w1 st kd S r s) (l : List Nat) : Sec (w1.setRow (w.heap.size + 1) (secV l)) (w.heap.size + 1) l ∧ Below w.heap.size w (w1.setRow (w.heap.size + 1) (secV l)) :=
  ⟨h.res.put l, below_setRow h.below (Nat.le_succ _) _⟩
theorem noughts64 : (noughts 64).length = 64 := noughts_length 64

end Go.Proofs.Ytjmjehhmkjhalaa
