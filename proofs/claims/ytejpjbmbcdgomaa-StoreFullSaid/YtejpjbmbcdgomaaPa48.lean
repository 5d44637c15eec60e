/- SLong, SAlive: put together. -/
import Derived.Test.YtejpjbmbcdgomaaPa36
import Derived.Test.YtejpjbmbcdgomaaPa40
import Derived.Test.YtejpjbmbcdgomaaPa47
/- long, and the fixed fact. -/
namespace Go.Proofs.Ytejpjbmbcdgomaa
set_option maxRecDepth 100000
open Go.RowKit

/-- What long answers. -/
def LongE (os : List Oq) (e : Ending) : Prop := ∃ b, e = .returned (.bool b) ∧ (b = false → os.length ≤ 61 ∧ ∀ o ∈ os, o.ws.length ≤ 30)
set_option maxHeartbeats 4000000 in
theorem long_any {w : World} {A : Option Addr} {c : Nat} {os : List Oq} (h : Acts w A os) : Calls Try.prog 11 #[.slice A os.length c] w fun e w' => LongE os e ∧ Below w.heap.size w w' := by
  obtain ⟨n, hn⟩ : ∃ n, n = os.length := ⟨_, rfl⟩
  have HN := Lib.hid hn
  have H := Lib.hid h
  have hnb : n ≤ 9223372036854775807 := by rw [hn]; exact h.big
  rw [← hn]
  clear hn h
  go_enter Try.func11, Try.ntmps11
  go_wp2_with fail
  go_loopw [3, 4, 7, 8, 9, 10, 11, 12, 13, 14, 15, 16, 17, 18, 19, 20] (fun _ _ ix _ _ _ _ _ _ _ _ _ _ _ _ _ wr => ∃ z : Nat, ix = .int .i64 (z : Int) ∧ z ≤ n ∧ z ≤ 61 ∧ (∀ (j : Nat) (hj : j < os.length), j < z → os[j].ws.length ≤ 30) ∧ Below w.heap.size w wr) (fun _ _ ix _ _ _ _ _ _ _ _ _ _ _ _ _ wr => n - (intOf ix).toNat)
  case atStart => exact ⟨0, rfl, by omega, by omega, fun j _ hj => by omega, Below.refl _ _⟩
  case round =>
    obtain ⟨z, rfl, hz, hz6, hall, hb⟩ := hrel
    have HB := Lib.hid (And.intro hall hb)
    clear hall hb
    by_cases hlt : z < n
    · have hzl : z < os.length := by rw [← HN.out]; exact hlt
      obtain ⟨b, off, rfl, hcl⟩ := Acts.cell (H.out.below HB.out.2) (by omega)
      obtain ⟨x0, x1, x2⟩ := hcl z hzl
      obtain ⟨o, ho⟩ : ∃ o, o = os[z] := ⟨_, rfl⟩
      rw [← ho] at x0 x1 x2
      have HO := Lib.hid ho
      obtain ⟨m, hm⟩ : ∃ m, m = o.ws.length := ⟨_, rfl⟩
      rw [← hm] at x1
      have hmb : m ≤ 9223372036854775807 := by rw [hm, ho]; exact (H.out.ok _ (List.getElem_mem hzl)).big
      have HM := Lib.hid hm
      have HAL := Lib.hid (HB.out.2.trans (((Below.refl _ wr).alloc (Nat.le_refl _) (.cells #[.int .i64 o.q, .slice o.A m o.c, .bool o.pg] 34)).mono HB.out.2.size))
      clear hcl ho hm
      by_cases h6 : 60 < z
      · have d1 : decide ((60 : Int) < (z : Int)) = true := decide_eq_true (by omega)
        go_wp2_with fail
        go_ret
        exact ⟨⟨true, rfl, fun h => by cases h⟩, HAL.out⟩
      · have d1 : decide ((60 : Int) < (z : Int)) = false := decide_eq_false (by omega)
        by_cases h3 : 30 < m
        · have d2 : decide ((30 : Int) < (m : Int)) = true := decide_eq_true (by omega)
          clear h3
          go_wp2_with fail
          go_ret
          exact ⟨⟨true, rfl, fun h => by cases h⟩, HAL.out⟩
        · have d2 : decide ((30 : Int) < (m : Int)) = false := decide_eq_false (by omega)
          have HM3 : Hid (m ≤ 30) := Lib.hid (by omega)
          have hz61 : z + 1 ≤ 61 := by omega
          clear h3 h6
          go_wp2_with fail
          go_roundw
          case rel => exact ⟨z + 1, by go_num, by omega, by omega, fun j hj hjz => by
            rcases Nat.lt_or_ge j z with e | e
            · exact HB.out.1 j hj e
            · obtain rfl : j = z := by omega
              rw [← HO.out, ← HM.out]; exact HM3.out, HAL.out⟩
          case measure => simp [intOf]; omega
    · obtain rfl : z = n := by omega
      have HF : Hid (os.length ≤ 61 ∧ ∀ o ∈ os, o.ws.length ≤ 30) := Lib.hid ⟨by rw [← HN.out]; exact hz6, fun o ho => by
        obtain ⟨j, hj, rfl⟩ := List.getElem_of_mem ho
        exact HB.out.1 j hj (by rw [HN.out]; exact hj)⟩
      clear hlt hz hz6 hnb
      go_wp2_with fail
      go_ret
      exact ⟨⟨false, rfl, fun _ => HF.out⟩, HB.out.2⟩
theorem wrs_one {W : World} {b : Nat} {x : Wr} {T : TypeId} (h : W.heap[b]? = some (.cells #[.int .i64 x.t, .int .i64 x.k, .int .i64 x.v, .bool x.dead] T (0, 0))) : Wrs W (some ⟨b, 0, none⟩) [x] :=
  ⟨rfl, rfl, fun _ => ⟨b, 0, rfl, fun j u hj => by
    rw [Nat.zero_add, cell_of_row _ b j _ T (0, 0) h]
    simpa [rowV, Wr.vals] using hj⟩⟩
end Go.Proofs.Ytejpjbmbcdgomaa

/- The fixed fact of layer 9. -/
namespace Go.Proofs.Ytejpjbmbcdgomaa
set_option maxRecDepth 100000
open Go.RowKit

theorem mem_ins {x y : Ix} {l : List Ix} (h : y ∈ ins x l) : y = x ∨ y ∈ l := by
  unfold ins at h
  rcases List.mem_append.1 h with e | e
  · exact .inr (List.mem_filter.1 e).1
  · rcases List.mem_cons.1 e with e | e
    · exact .inl e
    · exact .inr (List.mem_filter.1 e).1
theorem NumT.put {q : Int} {ts : Tb} {x : Wr} (h : NumT ts) (hx : WrOk x) (h0 : 0 ≤ q) (h1 : q ≤ 9223372036854775807) : NumT (putW q ts x) := fun i hi y hy => by
  unfold putW at hy
  split at hy
  · exact h i hi y hy
  · unfold Tb.upd at hy
    split at hy
    · rename_i e
      rcases mem_ins hy with rfl | hy
      · refine ⟨hx.1, ?_, h0, h1⟩
        show Fits (if x.dead then 0 else x.v)
        split
        · exact ⟨by decide, by decide⟩
        · exact hx.2
      · subst e
        exact h _ hi y hy
    · exact h i hi y hy
theorem NumT.force {q : Int} : ∀ (ws : List Wr) {ts : Tb}, NumT ts → (∀ x ∈ ws, WrOk x) → 0 ≤ q → q ≤ 9223372036854775807 → NumT (forceT q ts ws)
  | [], _, h, _, _, _ => h
  | x :: ws, _, h, hw, h0, h1 => NumT.force ws (h.put (hw x (by simp)) h0 h1) (fun y hy => hw y (by simp [hy])) h0 h1
theorem NumT.none : NumT fun _ => [] := fun _ _ _ h => by cases h
def tsA : Tb := forceT 2 (fun _ => []) [⟨2, 1, 5, false⟩]
def tsB : Tb := forceT 1 tsA [⟨2, 1, 7, false⟩]
theorem factA : apN 2 (fun _ => []) [⟨2, 1, 5, false⟩] = 0 := by kernel_rfl
theorem factB : apN 1 tsA [⟨2, 1, 7, false⟩] = 0 := by kernel_rfl
theorem factC : gok (cellAt tsB 2 1) = true := by kernel_rfl
theorem factD : gv (cellAt tsB 2 1) = 5 := by kernel_rfl
theorem factE : liveT tsB = 1 := by kernel_rfl
theorem factF : (putB tsB).length = 6 := by kernel_rfl
theorem okA : WrOk ⟨2, 1, 5, false⟩ := ⟨⟨by decide, by decide⟩, by decide, by decide⟩
theorem okB : WrOk ⟨2, 1, 7, false⟩ := ⟨⟨by decide, by decide⟩, by decide, by decide⟩
theorem numB : NumT tsB := NumT.force _ (NumT.force _ NumT.none (fun x hx => by rw [List.mem_singleton.1 hx]; exact okA) (by decide) (by decide)) (fun x hx => by rw [List.mem_singleton.1 hx]; exact okB) (by decide) (by decide)
theorem lenA : ∀ i, i < 4 → (tsA i).length ≤ 50000 := fun i hi => Nat.le_trans (force_le (n := 0) [⟨2, 1, 5, false⟩] (fun _ _ => Nat.le_refl _) i hi) (by decide)
theorem lenB : ∀ i, i < 4 → (tsB i).length ≤ 50000 := fun i hi => Nat.le_trans (force_le (n := 1) [⟨2, 1, 7, false⟩] (fun i hi => Nat.le_trans (force_le (n := 0) [⟨2, 1, 5, false⟩] (fun _ _ => Nat.le_refl _) i hi) (by decide)) i hi) (by decide)
theorem numWA : NumW [⟨2, 1, 5, false⟩] := fun x hx => by rw [List.mem_singleton.1 hx]; exact okA.1
theorem numWB : NumW [⟨2, 1, 7, false⟩] := fun x hx => by rw [List.mem_singleton.1 hx]; exact okB.1
set_option maxHeartbeats 4000000 in
theorem alive_any (w : World) : Calls Try.prog 10 #[] w fun e w' => e = .returned (.bool true) ∧ Below w.heap.size w w' := by
  have HN := Lib.hid (snew_any w)
  go_enter Try.func10, Try.ntmps10
  go_wp2_with fail
  refine Calls.mono HN.out ?_
  rintro e w1 ⟨rfl, ⟨G, hM, hG⟩, hb1⟩
  obtain ⟨sb, hsb⟩ : ∃ sb, sb = w.heap.size := ⟨_, rfl⟩
  rw [← hsb] at hM
  have HSB := Lib.hid hsb
  obtain ⟨W3, hW3⟩ : ∃ W3, W3 = (w1.alloc (.cells #[.int .i64 2, .int .i64 1] 42)).alloc (.cells #[.int .i64 2, .int .i64 1, .int .i64 5, .bool false] 51) := ⟨_, rfl⟩
  have hb3 : Below w1.heap.size w1 W3 := by rw [hW3]; exact ((Below.refl _ _).alloc (Nat.le_refl _) _).alloc (by simp) _
  have hs3 : W3.heap.size = w1.heap.size + 2 := by rw [hW3]; simp
  have hk3 : W3.heap[w1.heap.size]? = some (.cells #[.int .i64 2, .int .i64 1] 42 (0, 0)) := by
    rw [hW3, ((Below.refl _ (w1.alloc (.cells #[.int .i64 2, .int .i64 1] 42))).alloc (Nat.le_refl _) _).block _ (by simp)]
    exact heap_alloc_new w1 _
  have hx3 : W3.heap[w1.heap.size + 1]? = some (.cells #[.int .i64 2, .int .i64 1, .int .i64 5, .bool false] 51 (0, 0)) := by
    have := heap_alloc_new (w1.alloc (.cells #[.int .i64 2, .int .i64 1] 42)) (.cells #[.int .i64 2, .int .i64 1, .int .i64 5, .bool false] 51)
    have e : (w1.alloc (.cells #[.int .i64 2, .int .i64 1] 42)).heap.size = w1.heap.size + 1 := by simp
    rw [e, ← hW3] at this
    exact this
  obtain ⟨s1, hs1⟩ : ∃ s1, s1 = w1.heap.size := ⟨_, rfl⟩
  rw [← hs1] at hk3 hx3 hs3
  have HA := Lib.hid (apply_any (c := 1) 2 (hM.below hb3) (wrs_one (x := ⟨2, 1, 5, false⟩) hx3) numWA (by decide) (fun _ _ => by decide))
  rw [factA, show errV 0 = .nilIface from rfl] at HA
  have HG := Lib.hid (And.intro hG (And.intro hb1 (And.intro hb3 (And.intro hk3 (And.intro hs3 hs1)))))
  have HW3 := Lib.hid hW3
  have HM := Lib.hid hM
  clear hM hG hb1 hW3 hb3 hs3 hk3 hx3
  rw [← hsb]
  clear hsb
  go_wp2_with fail
  rw [← HW3.out, ← HG.out.2.2.2.2.2]
  refine Calls.mono HA.out ?_
  rintro e w4 ⟨rfl, G1, ts1, last1, hM1, hC1, ⟨⟨_, rfl, rfl⟩ | ⟨h0, _⟩⟩⟩
  rotate_left
  · exact absurd rfl h0
  change SM w4 G1 sb tsA (liveT tsA : Int) 2 at hM1
  have hnG : ¬ G s1 := fun e => by have := HM.out.lt e; have := HG.out.2.2.2.2.2; omega
  have hk4 : w4.heap[s1]? = some (.cells #[.int .i64 2, .int .i64 1] 42 (0, 0)) := (hC1.ch.block _ (Array.getElem?_eq_some_iff.1 HG.out.2.2.2.1).1 hnG).trans HG.out.2.2.2.1
  have hnG1 : ¬ G1 s1 := fun e => by
    rcases hC1.fr _ e with e | e
    · exact hnG e
    · have := HG.out.2.2.2.2.1; omega
  have hb4 := ((Cg.of_below HG.out.2.2.1 G).trans hC1).low HG.out.2.1.size HG.out.1
  have HB4 : Hid (Below w.heap.size w w4 ∧ ∀ q, G1 q → w.heap.size ≤ q) := Lib.hid ⟨HG.out.2.1.trans hb4.1, hb4.2⟩
  have c0 : w4.cell? ⟨s1, 0, none⟩ = some (.int .i64 2) := by rw [cell_of_row _ _ 0 _ _ _ hk4]; rfl
  have c1 : w4.cell? ⟨s1, 1, none⟩ = some (.int .i64 1) := by rw [cell_of_row _ _ 1 _ _ _ hk4]; rfl
  have hb45 : Below w4.heap.size w4 (w4.alloc (.cells #[.int .i64 2, .int .i64 1, .int .i64 7, .bool false] 51)) := (Below.refl _ _).alloc (Nat.le_refl _) _
  have HA2 := Lib.hid (apply_any (c := 1) 1 (hM1.below hb45) (wrs_one (x := ⟨2, 1, 7, false⟩) (heap_alloc_new w4 _)) numWB (by decide) lenA)
  rw [factB, show errV 0 = .nilIface from rfl] at HA2
  rw [HG.out.2.2.2.2.2] at c0 c1
  have H4 := Lib.hid (And.intro hM1 (And.intro hk4 (And.intro hnG1 hb45)))
  clear hM1 hC1 hnG hk4 hnG1 hb4 hb45
  go_wp2_with fail
  refine Calls.mono HA2.out ?_
  rintro e w6 ⟨rfl, G2, ts2, last2, hM2, hC2, ⟨⟨_, rfl, rfl⟩ | ⟨h0, _⟩⟩⟩
  rotate_left
  · exact absurd rfl h0
  change SM w6 G2 sb tsB (liveT tsB : Int) 2 at hM2
  have hk5 := (H4.out.2.2.2.block _ (Array.getElem?_eq_some_iff.1 H4.out.2.1).1).trans H4.out.2.1
  have hk6 := (hC2.ch.block _ (Array.getElem?_eq_some_iff.1 hk5).1 H4.out.2.2.1).trans hk5
  have hb6 := ((Cg.of_below H4.out.2.2.2 G1).trans hC2).low HB4.out.1.size HB4.out.2
  have HB6 : Hid (Below w.heap.size w w6) := Lib.hid (HB4.out.1.trans hb6.1)
  clear c0 c1
  have c0 : w6.cell? ⟨s1, 0, none⟩ = some (.int .i64 2) := by rw [cell_of_row _ _ 0 _ _ _ hk6]; rfl
  have c1 : w6.cell? ⟨s1, 1, none⟩ = some (.int .i64 1) := by rw [cell_of_row _ _ 1 _ _ _ hk6]; rfl
  rw [HG.out.2.2.2.2.2] at c0 c1
  have HGT := Lib.hid (sget_any hM2 2 1)
  rw [factC, factD] at HGT
  have HM2 := Lib.hid hM2
  clear hM2 hk5 hk6 hb6 hC2
  go_wp2_with fail
  refine Calls.mono HGT.out ?_
  rintro e w7 ⟨rfl, hb7⟩
  have hM7 := HM2.out.below hb7
  have HL := Lib.hid (slive_any hM7)
  have HLA := Lib.hid (slast_any hM7)
  have HP := Lib.hid (sput_any hM7 (fun i hi => Nat.le_trans (lenB i hi) (by decide)) numB)
  rw [factE] at HL
  rw [factF] at HP
  have HB7 := Lib.hid (HB6.out.trans (hb7.mono HB6.out.size))
  clear hM7 hb7 c0 c1
  go_wp2_with fail
  refine Calls.mono HL.out ?_
  rintro e w8 ⟨rfl, rfl⟩
  go_wp2_with fail
  refine Calls.mono HLA.out ?_
  rintro e w8 ⟨rfl, rfl⟩
  go_wp2_with fail
  refine Calls.mono HP.out ?_
  rintro e w8 ⟨A, c, rfl, _, _, hb8⟩
  have HB8 := Lib.hid (HB7.out.trans (hb8.mono HB7.out.size))
  clear hb8
  go_wp2_with fail
  go_ret
  exact ⟨rfl, HB8.out⟩
end Go.Proofs.Ytejpjbmbcdgomaa
