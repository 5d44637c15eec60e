/- VNote: put together. -/
import Derived.Test.YtejpjbmbcdgomaaPt37
import Derived.Test.YtejpjbmbcdgomaaPt33
import Derived.Test.YtejpjbmbcdgomaaPt16
import Derived.Test.YtejpjbmbcdgomaaPt19
/- What stands at a key is noted. Written by gen_vnote.py. -/
namespace Go.Proofs.Ytejpjbmbcdgomaa
set_option maxRecDepth 100000
open Go.RowKit

/-- Is a key noted? -/
def atN (t k : Int) (x : Nt) : Bool := decide ((x.e.t : Int) = t) && decide (x.e.x.k = k)
def hasN (t k : Int) (NS : List Nt) : Bool := match NS[posN t k NS]? with | none => false | some x => atN t k x
def newN (t : Nat) (k : Int) (o : Option Cl) : Nt := ⟨⟨t, ⟨k, cv o⟩⟩, gok o⟩
/-- The notes then. -/
def noteS (t : Nat) (k : Int) (o : Option Cl) (NS : List Nt) : List Nt := if hasN t k NS then NS else NS.take (posN t k NS) ++ newN t k o :: NS.drop (posN t k NS)
theorem gok_eq (o : Option Cl) : gok o = (o.isSome && !(cv o).dead) := by
  cases o with
  | none => rfl
  | some c => rfl
theorem nov_ne {w : World} {xb : Nat} {so : Option Addr} {ct ck : Int} {nv nw tv : Value} {d : Bool} {NS : List Nt} (h : SwM w xb so ct ck nw tv d) (hV : NoV w nv NS) : nv.ownBlock ≠ some xb := fun c => by
  obtain ⟨cur, e7⟩ := hV.type c
  have e8 : w.heap[xb]? = some (.cells #[.pointer so, .int .i64 ct, .int .i64 ck, nw, tv, .bool d] 145 (0, 0)) := h
  rw [e8] at e7
  injection e7 with e7
  injection e7 with _ e9 _
  revert e9
  decide
theorem set3 {w : World} {p : Nat} {a b c : Value} {T : TypeId} (x y z : Value) (h : w.heap[p]? = some (.cells #[a, b, c] T (0, 0))) : (((w.setCell ⟨p, 0, none⟩ x).setCell ⟨p, 1, none⟩ y).setCell ⟨p, 2, none⟩ z).heap[p]? = some (.cells #[x, y, z] T (0, 0)) :=
  (heap_set _ p 2 z (heap_set _ p 1 y (heap_set w p 0 x h))).trans rfl
set_option maxHeartbeats 16000000 in
theorem swnote_any {w : World} {xb : Nat} {so : Option Addr} {ct ck : Int} {nv tv : Value} {NS : List Nt} {t : Nat} {k : Int} {o : Option Cl} (h : SwM w xb so ct ck nv tv false) (hV : NoV w nv NS) (hl : NS.length ≤ 10000) (hu : UpN NS)
    (hC : ∀ W, Below w.heap.size w W → Calls Try.prog 68 #[.pointer so, .agg #[.int .i64 (t : Int), .int .i64 k]] W fun e w' => e = .returned (ansC o) ∧ Below W.heap.size W w') :
    Calls Try.prog 82 #[.pointer (some ⟨xb, 0, none⟩), .agg #[.int .i64 (t : Int), .int .i64 k]] w fun e w' => e = .returned (.tuple #[]) ∧ ∃ nv', SwM w' xb so ct ck nv' tv false ∧ NoV w' nv' (noteS t k o NS) ∧ Touch w w' xb nv.ownBlock ∧ ∀ q, nv'.ownBlock = some q → nv.ownBlock = some q ∨ w.heap.size ≤ q := by
  have hne := nov_ne h hV
  obtain ⟨nA, nc, rfl⟩ := hV.form
  obtain ⟨hN, _, _⟩ := hV.nts
  obtain ⟨n, hn⟩ : ∃ n, n = NS.length := ⟨_, rfl⟩
  obtain ⟨p, hp⟩ : ∃ p, p = posN (t : Int) k NS := ⟨_, rfl⟩
  obtain ⟨st, hst⟩ : ∃ st, st = hasN (t : Int) k NS := ⟨_, rfl⟩
  obtain ⟨bx, hbx⟩ : ∃ bx, bx = w.heap.size := ⟨_, rfl⟩
  obtain ⟨bk, hbk⟩ : ∃ bk, bk = bx + 1 := ⟨_, rfl⟩
  obtain ⟨W1, hW1⟩ : ∃ W1, W1 = (w.alloc (.cells #[.pointer (some ⟨xb, 0, none⟩)] 79)).alloc (.cells #[.int .i64 (t : Int), .int .i64 k] 42) := ⟨_, rfl⟩
  have h3 := blocks2 w (.cells #[.pointer (some ⟨xb, 0, none⟩)] 79) (.cells #[.int .i64 (t : Int), .int .i64 k] 42)
  rw [← hW1, ← hbx, ← hbk] at h3
  obtain ⟨g1, g2, gs, gb⟩ := h3
  rw [hbx] at gb
  have hnc : NcI W1 xb bx bk t k := ⟨by rw [cell_of_row _ _ 0 _ _ _ g1]; rfl, by rw [cell_of_row _ _ 0 _ _ _ g2]; rfl, by rw [cell_of_row _ _ 1 _ _ _ g2]; rfl⟩
  have hs1 := SwM.below h gb
  have HSR := Lib.hid (searchN_any hs1 (RowAt.below hN gb) hnc (by omega) hu)
  rw [← hn, ← hp] at HSR
  have HIN := Lib.hid (And.intro h (And.intro hV (And.intro hl (And.intro hu (And.intro hC hne)))))
  have HNP := Lib.hid (And.intro hn (And.intro hp hst))
  have HW := Lib.hid (And.intro hW1 (And.intro hbx hbk))
  have H1 := Lib.hid (And.intro gb (And.intro hnc (And.intro hs1 (RowAt.below hN gb))))
  have x0 := hnc.x
  have z3 : W1.cell? ⟨xb, 3, none⟩ = some (.slice nA n nc) := by rw [hn]; exact (SwM.at hs1).2.2.2.1
  clear h hV hl hu hC hne hN hn hp hst hbx hbk hW1 g1 g2 gs gb hnc hs1
  go_enter Try.func82, Try.ntmps82
  go_upto_region 1 with fail
  rw [← HW.out.1, ← HW.out.2.1, ← HW.out.2.2]
  go_wp2_with fail
  refine Calls.mono HSR.out ?_
  rintro e w2 ⟨rfl, hb2⟩
  have H2 : Hid (Below w.heap.size w w2 ∧ NcI w2 xb bx bk t k ∧ SwM w2 xb so ct ck (.slice nA n nc) tv false ∧ Nts w2 nA NS) := Lib.hid (by
    rw [HNP.out.1]
    exact ⟨H1.out.1.trans (hb2.mono H1.out.1.size), H1.out.2.1.below hb2, SwM.below H1.out.2.2.1 hb2, RowAt.below H1.out.2.2.2 hb2⟩)
  clear hb2 x0 z3
  have HCE : Hid (∀ W2, Below w2.drew.heap.size w2.drew W2 → W2.cell? ⟨bx, 0, none⟩ = some (.pointer (some ⟨xb, 0, none⟩)) ∧ W2.cell? ⟨bk, 0, none⟩ = some (.int .i64 (t : Int)) ∧ W2.cell? ⟨bk, 1, none⟩ = some (.int .i64 k) ∧ W2.cell? ⟨xb, 3, none⟩ = some (.slice nA n nc)) := Lib.hid fun W2 hw => by
    have hb2 : Below w2.heap.size w2 W2 := (Below.refl _ _).drew.trans hw
    have h9 := NcI.below H2.out.2.1 hb2
    exact ⟨h9.x, h9.k0, h9.k1, (SwM.at (SwM.below H2.out.2.2.1 hb2)).2.2.2.1⟩
  go_upto_region 2 with fail
  go_cut [33] from 14 to 32 (fun g wx => g = .bool st ∧ Below w2.heap.size w2 wx)
  case first =>
    by_cases hpn : p < n
    · have hpl : p < NS.length := by rw [← HNP.out.1]; exact hpn
      obtain ⟨y, hy⟩ : ∃ y, y = NS[p] := ⟨_, rfl⟩
      have hst : st = (decide ((y.e.t : Int) = t) && decide (y.e.x.k = k)) := by
        rw [HNP.out.2.2]
        unfold hasN
        rw [← HNP.out.2.1, List.getElem?_eq_getElem hpl, ← hy]
        rfl
      obtain ⟨b, off, rfl, hcl⟩ := Nts.cell H2.out.2.2.2 (by omega)
      obtain ⟨y0, y1, hrest⟩ := hcl p hpl
      rw [← hy] at y0 y1
      have HY : Hid (∀ W2, Below w2.drew.heap.size w2.drew W2 → W2.cell? ⟨b, off + p * 6, none⟩ = some (.int .i64 (y.e.t : Int)) ∧ W2.cell? ⟨b, off + p * 6 + 1, none⟩ = some (.int .i64 y.e.x.k)) := Lib.hid fun W2 hw => by
        have hb2 : Below w2.heap.size w2 W2 := (Below.refl _ _).drew.trans hw
        exact ⟨(hb2.cell (World.block_lt_of_cell? w2 _ y0)).trans y0, (hb2.cell (World.block_lt_of_cell? w2 _ y1)).trans y1⟩
      have HST := Lib.hid hst
      have heq := fun W => eql_keyK W (y.e.t : Int) y.e.x.k t k
      obtain ⟨eqv, heqv⟩ : ∃ v, v = (decide ((y.e.t : Int) = t) && decide (y.e.x.k = k)) := ⟨_, rfl⟩
      rw [← heqv] at HST heq
      have HEQ := Lib.hid heq
      clear hcl hy hst y0 y1 heqv heq hrest
      refine wp_region_noPanic ?_
      refine wp_region_abs 19 63 [
        .is (.int .i64 (p : Int)),
        .is (.pointer (some ⟨xb, 0, none⟩)),
        .is (.pointer (some ⟨xb, 0, none⟩)),
        .is (.pointer (some ⟨xb, 3, none⟩)),
        .is (.slice (some ⟨b, off, none⟩) n nc),
        .is (.int .i64 (n : Int)),
        .is (.bool true),
        .is (.bool true),
        .is (.pointer (some ⟨xb, 0, none⟩)),
        .is (.pointer (some ⟨xb, 0, none⟩)),
        .is (.pointer (some ⟨xb, 3, none⟩)),
        .is (.slice (some ⟨b, off, none⟩) n nc),
        .is (.int .i64 (p : Int)),
        .is (.pointer (some ⟨b, off + p * 6, none⟩)),
        .is (.pointer (some ⟨b, off + p * 6, none⟩)),
        .is (.pointer (some ⟨b, off + p * 6, none⟩)),
        .is (.agg #[.int .i64 (y.e.t : Int), .int .i64 y.e.x.k]),
        .is (.agg #[.int .i64 (t : Int), .int .i64 k]),
        .is (.bool eqv)]
        [14, 15, 16, 17, 18, 19, 20, 21, 22, 23, 24, 25, 26, 27, 28, 29, 30, 31, 32]
        [[], [], [1], [2], [3], [4], [0, 5], [6], [7], [8, 7], [9, 7], [10, 7], [7], [11, 12, 7], [13, 7], [14, 7], [15, 7], [7], [16, 17, 7]] (by kernel_rfl) (by rfl) rfl rfl (by kernel_rfl) (fun _ _ _ _ h => h.elim) ?_ ?_
      · refine ⟨?_, ?_, ?_, ?_, ?_, ?_, ?_, ?_, ?_, ?_, ?_, ?_, ?_, ?_, ?_, ?_, ?_, ?_, ?_, trivial⟩
        · intro W2 hw K hK
          go_simp
          exact hK _ _ rfl (Below.refl _ _)
        · intro W2 hw K hK
          obtain ⟨s0, s1, s2, s3⟩ := HCE.out W2 hw
          go_simp
          exact hK _ _ rfl (Below.refl _ _)
        · intro W2 hw K hK
          go_simp
          exact hK _ _ rfl (Below.refl _ _)
        · intro W2 hw K hK
          go_simp
          exact hK _ _ rfl (Below.refl _ _)
        · intro W2 hw K hK
          obtain ⟨s0, s1, s2, s3⟩ := HCE.out W2 hw
          go_simp
          exact hK _ _ rfl (Below.refl _ _)
        · intro W2 hw K hK
          go_simp
          exact hK _ _ rfl (Below.refl _ _)
        · intro W2 hw K hK
          go_simp
          exact hK _ _ rfl (Below.refl _ _)
        · intro W2 hw K hK
          go_simp
          exact hK _ _ rfl (Below.refl _ _)
        · intro W2 hw K hK
          obtain ⟨s0, s1, s2, s3⟩ := HCE.out W2 hw
          go_simp
          exact hK _ _ rfl (Below.refl _ _)
        · intro W2 hw K hK
          go_simp
          exact hK _ _ rfl (Below.refl _ _)
        · intro W2 hw K hK
          go_simp
          exact hK _ _ rfl (Below.refl _ _)
        · intro W2 hw K hK
          obtain ⟨s0, s1, s2, s3⟩ := HCE.out W2 hw
          go_simp
          exact hK _ _ rfl (Below.refl _ _)
        · intro W2 hw K hK
          go_simp
          exact hK _ _ rfl (Below.refl _ _)
        · intro W2 hw K hK
          go_simp
          exact hK _ _ rfl (Below.refl _ _)
        · intro W2 hw K hK
          go_simp
          exact hK _ _ rfl (Below.refl _ _)
        · intro W2 hw K hK
          go_simp
          exact hK _ _ rfl (Below.refl _ _)
        · intro W2 hw K hK
          obtain ⟨r0, r1⟩ := HY.out W2 hw
          go_simp
          exact hK _ _ rfl (Below.refl _ _)
        · intro W2 hw K hK
          obtain ⟨s0, s1, s2, s3⟩ := HCE.out W2 hw
          go_simp
          exact hK _ _ rfl (Below.refl _ _)
        · intro W2 hw K hK
          have heq := HEQ.out
          go_simp
          exact hK _ _ rfl (Below.refl _ _)
      · intro W2 hw2
        simp only [Behind]
        have hb2 := Lib.hid ((Below.refl _ w2).drew.trans hw2)
        clear hw2
        simp only [List.drop, Act.put, List.setIfInBounds_toArray, List.set_cons_zero, List.set_cons_succ]
        go_wp2_with fail
        refine NoPanic.normal ?_
        refine ‹∀ (a' : Act) (w' : World), Met _ a' w' → _› _ _ ?_
        go_meet
        exact ⟨by rw [HST.out], hb2.out⟩
    · have HST : Hid (st = false) := Lib.hid (by
        rw [HNP.out.2.2]
        unfold hasN
        rw [← HNP.out.2.1, List.getElem?_eq_none (by have := HNP.out.1; omega)])
      refine wp_region_noPanic ?_
      refine wp_region_abs 19 63 [
        .is (.int .i64 (p : Int)),
        .is (.pointer (some ⟨xb, 0, none⟩)),
        .is (.pointer (some ⟨xb, 0, none⟩)),
        .is (.pointer (some ⟨xb, 3, none⟩)),
        .is (.slice nA n nc),
        .is (.int .i64 (n : Int)),
        .is (.bool false),
        .is (.bool false),
        .is undef,
        .is undef,
        .is undef,
        .is undef,
        .is undef,
        .is undef,
        .is undef,
        .is undef,
        .is undef,
        .is undef,
        .is undef]
        [14, 15, 16, 17, 18, 19, 20, 21, 22, 23, 24, 25, 26, 27, 28, 29, 30, 31, 32]
        [[], [], [1], [2], [3], [4], [0, 5], [6], [7], [8, 7], [9, 7], [10, 7], [7], [11, 12, 7], [13, 7], [14, 7], [15, 7], [7], [16, 17, 7]] (by kernel_rfl) (by rfl) rfl rfl (by kernel_rfl) (fun _ _ _ _ h => h.elim) ?_ ?_
      · refine ⟨?_, ?_, ?_, ?_, ?_, ?_, ?_, ?_, ?_, ?_, ?_, ?_, ?_, ?_, ?_, ?_, ?_, ?_, ?_, trivial⟩
        · intro W2 hw K hK
          go_simp
          exact hK _ _ rfl (Below.refl _ _)
        · intro W2 hw K hK
          obtain ⟨s0, s1, s2, s3⟩ := HCE.out W2 hw
          go_simp
          exact hK _ _ rfl (Below.refl _ _)
        · intro W2 hw K hK
          go_simp
          exact hK _ _ rfl (Below.refl _ _)
        · intro W2 hw K hK
          go_simp
          exact hK _ _ rfl (Below.refl _ _)
        · intro W2 hw K hK
          obtain ⟨s0, s1, s2, s3⟩ := HCE.out W2 hw
          go_simp
          exact hK _ _ rfl (Below.refl _ _)
        · intro W2 hw K hK
          go_simp
          exact hK _ _ rfl (Below.refl _ _)
        · intro W2 hw K hK
          go_simp
          exact hK _ _ rfl (Below.refl _ _)
        · intro W2 hw K hK
          go_simp
          exact hK _ _ rfl (Below.refl _ _)
        · intro W2 hw K hK
          go_simp
          exact hK _ _ rfl (Below.refl _ _)
        · intro W2 hw K hK
          go_simp
          exact hK _ _ rfl (Below.refl _ _)
        · intro W2 hw K hK
          go_simp
          exact hK _ _ rfl (Below.refl _ _)
        · intro W2 hw K hK
          go_simp
          exact hK _ _ rfl (Below.refl _ _)
        · intro W2 hw K hK
          go_simp
          exact hK _ _ rfl (Below.refl _ _)
        · intro W2 hw K hK
          go_simp
          exact hK _ _ rfl (Below.refl _ _)
        · intro W2 hw K hK
          go_simp
          exact hK _ _ rfl (Below.refl _ _)
        · intro W2 hw K hK
          go_simp
          exact hK _ _ rfl (Below.refl _ _)
        · intro W2 hw K hK
          go_simp
          exact hK _ _ rfl (Below.refl _ _)
        · intro W2 hw K hK
          go_simp
          exact hK _ _ rfl (Below.refl _ _)
        · intro W2 hw K hK
          go_simp
          exact hK _ _ rfl (Below.refl _ _)
      · intro W2 hw2
        simp only [Behind]
        have hb2 := Lib.hid ((Below.refl _ w2).drew.trans hw2)
        clear hw2
        simp only [List.drop, Act.put, List.setIfInBounds_toArray, List.set_cons_zero, List.set_cons_succ]
        go_wp2_with fail
        refine NoPanic.normal ?_
        refine ‹∀ (a' : Act) (w' : World), Met _ a' w' → _› _ _ ?_
        go_meet
        exact ⟨by rw [HST.out], hb2.out⟩
  case rest =>
  rename World => wx
  obtain ⟨rfl, hbx⟩ := hcut
  have HX : Hid (Below w.heap.size w wx ∧ NcI wx xb bx bk t k ∧ SwM wx xb so ct ck (.slice nA n nc) tv false ∧ NoV wx (.slice nA n nc) NS) := Lib.hid (by
    refine ⟨H2.out.1.trans (hbx.mono H2.out.1.size), H2.out.2.1.below hbx, SwM.below H2.out.2.2.1 hbx, ?_⟩
    have h9 := HIN.out.2.1
    rw [← HNP.out.1] at h9
    exact h9.below (H2.out.1.trans (hbx.mono H2.out.1.size)))
  clear hbx HCE
  cases st with
  | true =>
    have HR : Hid (noteS t k o NS = NS) := Lib.hid (by unfold noteS; rw [if_pos HNP.out.2.2.symm])
    go_wp2_with fail
    exact bodyPost_ret (v := .tuple #[]) (by simp [results, Try.results82, go_sem]) rfl ⟨rfl, _, HX.out.2.2.1, by rw [HR.out]; exact HX.out.2.2.2, Touch.of HX.out.1, fun q e => .inl (by rw [← e]; cases nA <;> rfl)⟩
  | false =>
    have HR : Hid (noteS t k o NS = NS.take p ++ newN t k o :: NS.drop p) := Lib.hid (by unfold noteS; rw [if_neg (by rw [← HNP.out.2.2]; decide), ← HNP.out.2.1])
    have HCA : Hid (∀ W2, Below wx.drew.heap.size wx.drew W2 → Calls Try.prog 68 #[.pointer so, .agg #[.int .i64 (t : Int), .int .i64 k]] W2 fun e w' => e = .returned (ansC o) ∧ Below W2.heap.size W2 w') := Lib.hid fun W2 hw => HIN.out.2.2.2.2.1 W2 (HX.out.1.trans (((Below.refl _ _).drew.trans hw).mono HX.out.1.size))
    obtain ⟨ok, hok⟩ : ∃ ok, ok = o.isSome := ⟨_, rfl⟩
    obtain ⟨cl, hcl⟩ : ∃ cl, cl = cv o := ⟨_, rfl⟩
    have HG : Hid (newN t k o = ⟨⟨t, ⟨k, cl⟩⟩, ok && !cl.dead⟩) := Lib.hid (by unfold newN; rw [gok_eq, hok, hcl])
    unfold ansC at HCA
    rw [← hok, ← hcl] at HCA
    have hWZ : (wx.alloc (.cells #[.int .i64 0, .int .i64 0, .bool false] 44)).drew = wx.drew.alloc (.cells #[.int .i64 0, .int .i64 0, .bool false] 44) := rfl
    have hbA : Below wx.heap.size wx (wx.alloc (.cells #[.int .i64 0, .int .i64 0, .bool false] 44)).drew := by rw [hWZ]; exact ((Below.refl _ _).drew).alloc (Nat.le_refl _) _
    have gA : (wx.alloc (.cells #[.int .i64 0, .int .i64 0, .bool false] 44)).drew.heap[wx.heap.size]? = some (.cells #[.int .i64 0, .int .i64 0, .bool false] 44 (0, 0)) := heap_alloc_new wx _
    have q0 := HX.out.2.1.x
    have q1 := HX.out.2.1.k0
    have q2 := HX.out.2.1.k1
    have q3 := (SwM.at HX.out.2.2.1).1
    have r0 : (wx.alloc (.cells #[.int .i64 0, .int .i64 0, .bool false] 44)).cell? _ = _ := (NcI.below HX.out.2.1 hbA).x
    have r1 : (wx.alloc (.cells #[.int .i64 0, .int .i64 0, .bool false] 44)).cell? _ = _ := (NcI.below HX.out.2.1 hbA).k0
    have r2 : (wx.alloc (.cells #[.int .i64 0, .int .i64 0, .bool false] 44)).cell? _ = _ := (NcI.below HX.out.2.1 hbA).k1
    have r3 : (wx.alloc (.cells #[.int .i64 0, .int .i64 0, .bool false] 44)).cell? _ = _ := (SwM.at (SwM.below HX.out.2.2.1 hbA)).1
    have HA := Lib.hid (And.intro hbA gA)
    have HCB := Lib.hid (HCA.out (wx.alloc (.cells #[.int .i64 0, .int .i64 0, .bool false] 44)).drew (by rw [hWZ]; exact (Below.refl _ wx.drew).alloc (Nat.le_refl _) _))
    have HCC := Lib.hid (HCA.out wx.drew (Below.refl _ _))
    clear hbA gA hok hcl hWZ
    go_upto_region 3 with fail
    go_cut [5, 6] from 34 to 42 (fun g5 g6 wy => ∃ p5 : Nat, g5 = .pointer (some ⟨p5, 0, none⟩) ∧ g6 = .bool ok ∧ Below wx.heap.size wx wy ∧ wy.heap[p5]? = some (.cells #[.int .i64 cl.v, .int .i64 cl.s, .bool cl.dead] 44 (0, 0)) ∧ wx.heap.size ≤ p5)
    case first =>
      go_region_law (first
        | (go_simp; go_at_call 68; refine Calls.mono HCB.out ?_; rintro e w9 ⟨rfl, hb9⟩; have g9 := (hb9.block wx.heap.size (Array.getElem?_eq_some_iff.1 HA.out.2).1).trans HA.out.2; have f9 := frozen_of g9; have k0 : w9.cell? ⟨wx.heap.size, 0, none⟩ = some (.int .i64 0) := (by rw [cell_of_row _ _ 0 _ _ _ g9]; rfl); have k1 : w9.cell? ⟨wx.heap.size, 1, none⟩ = some (.int .i64 0) := (by rw [cell_of_row _ _ 1 _ _ _ g9]; rfl); have k2 : w9.cell? ⟨wx.heap.size, 2, none⟩ = some (.bool false) := (by rw [cell_of_row _ _ 2 _ _ _ g9]; rfl); have G9 := Lib.hid (And.intro (HA.out.1.trans (hb9.mono HA.out.1.size)) g9); clear hb9 g9)
        | (go_simp; go_at_call 68; refine Calls.mono HCC.out ?_; rintro e w9 ⟨rfl, hb9⟩; have g9 := heap_alloc_new w9 (.cells #[.int .i64 0, .int .i64 0, .bool false] 44); have f9 := frozen_of g9; have k0 : (w9.alloc (.cells #[.int .i64 0, .int .i64 0, .bool false] 44)).cell? ⟨w9.heap.size, 0, none⟩ = some (.int .i64 0) := (by rw [cell_of_row _ _ 0 _ _ _ g9]; rfl); have k1 : (w9.alloc (.cells #[.int .i64 0, .int .i64 0, .bool false] 44)).cell? ⟨w9.heap.size, 1, none⟩ = some (.int .i64 0) := (by rw [cell_of_row _ _ 1 _ _ _ g9]; rfl); have k2 : (w9.alloc (.cells #[.int .i64 0, .int .i64 0, .bool false] 44)).cell? ⟨w9.heap.size, 2, none⟩ = some (.bool false) := (by rw [cell_of_row _ _ 2 _ _ _ g9]; rfl); have G8 := Lib.hid ((Below.refl _ wx).drew.trans hb9); clear hb9 g9))
      all_goals
        go_wp2_with fail
        go_meet
        first
          | exact ⟨w9.heap.size, rfl, rfl, G8.out.alloc G8.out.size _, heap_alloc_new w9 _, G8.out.size⟩
          | exact ⟨wx.heap.size, rfl, rfl, ((G9.out.1.setCell (p := ⟨wx.heap.size, 0, none⟩) (Nat.le_refl _) _).setCell (p := ⟨wx.heap.size, 1, none⟩) (Nat.le_refl _) _).setCell (p := ⟨wx.heap.size, 2, none⟩) (Nat.le_refl _) _, set3 _ _ _ G9.out.2, Nat.le_refl _⟩
    case rest =>
    rename World => wy
    obtain ⟨p5, rfl, rfl, hby, hg5, hlo5⟩ := hcut
    have HY : Hid (Below w.heap.size w wy ∧ NcI wy xb bx bk t k ∧ SwM wy xb so ct ck (.slice nA n nc) tv false ∧ NoV wy (.slice nA n nc) NS ∧ wy.heap[p5]? = some (.cells #[.int .i64 cl.v, .int .i64 cl.s, .bool cl.dead] 44 (0, 0)) ∧ w.heap.size ≤ p5) := Lib.hid ⟨HX.out.1.trans (hby.mono HX.out.1.size), HX.out.2.1.below hby, SwM.below HX.out.2.2.1 hby, HX.out.2.2.2.below hby, hg5, Nat.le_trans HX.out.1.size hlo5⟩
    have HC4 : Hid (∀ W2, Below wy.drew.heap.size wy.drew W2 → W2.cell? ⟨bx, 0, none⟩ = some (.pointer (some ⟨xb, 0, none⟩)) ∧ W2.cell? ⟨bk, 0, none⟩ = some (.int .i64 (t : Int)) ∧ W2.cell? ⟨bk, 1, none⟩ = some (.int .i64 k) ∧ W2.cell? ⟨xb, 3, none⟩ = some (.slice nA n nc) ∧ W2.cell? ⟨p5, 0, none⟩ = some (.int .i64 cl.v) ∧ W2.cell? ⟨p5, 1, none⟩ = some (.int .i64 cl.s) ∧ W2.cell? ⟨p5, 2, none⟩ = some (.bool cl.dead)) := Lib.hid fun W2 hw => by
      have hb2 : Below wy.heap.size wy W2 := (Below.refl _ _).drew.trans hw
      have h9 := NcI.below HY.out.2.1 hb2
      have h8 := (hb2.block p5 (Array.getElem?_eq_some_iff.1 HY.out.2.2.2.2.1).1).trans HY.out.2.2.2.2.1
      exact ⟨h9.x, h9.k0, h9.k1, (SwM.at (SwM.below HY.out.2.2.1 hb2)).2.2.2.1, by rw [cell_of_row _ _ 0 _ _ _ h8]; rfl, by rw [cell_of_row _ _ 1 _ _ _ h8]; rfl, by rw [cell_of_row _ _ 2 _ _ _ h8]; rfl⟩
    clear hby hg5 hlo5 q0 q1 q2 q3 r0 r1 r2 r3
    obtain ⟨NL, hNL⟩ : ∃ NL, NL = noteS t k o NS := ⟨_, rfl⟩
    have HNL := Lib.hid hNL
    clear hNL
    obtain ⟨g, hg⟩ : ∃ g, g = (ok && !cl.dead) := ⟨_, rfl⟩
    rw [← hg] at HG
    cases ok with
    | false =>
      obtain rfl : g = false := hg
      go_upto_region 4 with fail
      have hWZ : (wy.alloc (.cells #[.int .i64 (t : Int), .int .i64 k, .int .i64 cl.v, .int .i64 cl.s, .bool cl.dead, .bool (false)] 149)).drew = wy.drew.alloc (.cells #[.int .i64 (t : Int), .int .i64 k, .int .i64 cl.v, .int .i64 cl.s, .bool cl.dead, .bool (false)] 149) := rfl
      have hbA : Below wy.heap.size wy (wy.alloc (.cells #[.int .i64 (t : Int), .int .i64 k, .int .i64 cl.v, .int .i64 cl.s, .bool cl.dead, .bool (false)] 149)).drew := by rw [hWZ]; exact ((Below.refl _ _).drew).alloc (Nat.le_refl _) _
      have gA : (wy.alloc (.cells #[.int .i64 (t : Int), .int .i64 k, .int .i64 cl.v, .int .i64 cl.s, .bool cl.dead, .bool (false)] 149)).drew.heap[wy.heap.size]? = some (.cells #[.int .i64 (t : Int), .int .i64 k, .int .i64 cl.v, .int .i64 cl.s, .bool cl.dead, .bool (false)] 149 (0, 0)) := heap_alloc_new wy _
      have q0 := HY.out.2.1.x
      have q1 := HY.out.2.1.k0
      have q2 := HY.out.2.1.k1
      have q3 := (SwM.at HY.out.2.2.1).2.2.2.1
      have hsA := SwM.below HY.out.2.2.1 hbA
      have r5 := (hbA.block p5 (Array.getElem?_eq_some_iff.1 HY.out.2.2.2.2.1).1).trans HY.out.2.2.2.2.1
      have HS1 : Hid ((wy.alloc (.cells #[.int .i64 (t : Int), .int .i64 k, .int .i64 cl.v, .int .i64 cl.s, .bool cl.dead, .bool (false)] 149)).drew.cell? ⟨bx, 0, none⟩ = some (.pointer (some ⟨xb, 0, none⟩)) ∧ (wy.alloc (.cells #[.int .i64 (t : Int), .int .i64 k, .int .i64 cl.v, .int .i64 cl.s, .bool cl.dead, .bool (false)] 149)).drew.cell? ⟨bk, 0, none⟩ = some (.int .i64 (t : Int)) ∧ (wy.alloc (.cells #[.int .i64 (t : Int), .int .i64 k, .int .i64 cl.v, .int .i64 cl.s, .bool cl.dead, .bool (false)] 149)).drew.cell? ⟨bk, 1, none⟩ = some (.int .i64 k) ∧ (wy.alloc (.cells #[.int .i64 (t : Int), .int .i64 k, .int .i64 cl.v, .int .i64 cl.s, .bool cl.dead, .bool (false)] 149)).drew.cell? ⟨xb, 3, none⟩ = some (.slice nA n nc) ∧ (wy.alloc (.cells #[.int .i64 (t : Int), .int .i64 k, .int .i64 cl.v, .int .i64 cl.s, .bool cl.dead, .bool (false)] 149)).drew.cell? ⟨p5, 0, none⟩ = some (.int .i64 cl.v) ∧ (wy.alloc (.cells #[.int .i64 (t : Int), .int .i64 k, .int .i64 cl.v, .int .i64 cl.s, .bool cl.dead, .bool (false)] 149)).drew.cell? ⟨p5, 1, none⟩ = some (.int .i64 cl.s) ∧ (wy.alloc (.cells #[.int .i64 (t : Int), .int .i64 k, .int .i64 cl.v, .int .i64 cl.s, .bool cl.dead, .bool (false)] 149)).drew.cell? ⟨p5, 2, none⟩ = some (.bool cl.dead)) := Lib.hid ⟨(NcI.below HY.out.2.1 hbA).x, (NcI.below HY.out.2.1 hbA).k0, (NcI.below HY.out.2.1 hbA).k1, (SwM.at hsA).2.2.2.1, by rw [cell_of_row _ _ 0 _ _ _ r5]; rfl, by rw [cell_of_row _ _ 1 _ _ _ r5]; rfl, by rw [cell_of_row _ _ 2 _ _ _ r5]; rfl⟩
      have p50 : wy.cell? ⟨p5, 0, none⟩ = some (.int .i64 cl.v) := by rw [cell_of_row _ _ 0 _ _ _ HY.out.2.2.2.2.1]; rfl
      have p51 : wy.cell? ⟨p5, 1, none⟩ = some (.int .i64 cl.s) := by rw [cell_of_row _ _ 1 _ _ _ HY.out.2.2.2.2.1]; rfl
      have p52 : wy.cell? ⟨p5, 2, none⟩ = some (.bool cl.dead) := by rw [cell_of_row _ _ 2 _ _ _ HY.out.2.2.2.2.1]; rfl
      have hnv := HY.out.2.2.2.1.below hbA
      have hp6n : (Value.slice nA n nc).ownBlock ≠ some wy.heap.size := fun c => by
        have h1 := HIN.out.2.1
        rw [← HNP.out.1] at h1
        have h2 := h1.lt c
        have h3 := HY.out.1.size
        omega
      have hxn : (Value.slice nA n nc).ownBlock ≠ some xb := by have h1 := HIN.out.2.2.2.2.2; rw [← HNP.out.1] at h1; exact h1
      have hbxn : (Value.slice nA n nc).ownBlock ≠ some bx := fun c => by
        have h1 := HIN.out.2.1
        rw [← HNP.out.1] at h1
        have h2 := h1.lt c
        have := HW.out.2.1
        omega
      have hnl : NL = NS.take p ++ (⟨⟨t, ⟨k, cl⟩⟩, false⟩ : Nt) :: NS.drop p := by rw [HNL.out, HR.out, HG.out]
      have HIA : Hid (Calls Try.prog 105 #[.slice nA n nc, .int .i64 (p : Int), .slice (some ⟨wy.heap.size, 0, none⟩) 1 1] (wy.alloc (.cells #[.int .i64 (t : Int), .int .i64 k, .int .i64 cl.v, .int .i64 cl.s, .bool cl.dead, .bool (false)] 149)).drew fun e w' => ∃ A8 c8, e = .returned (.slice A8 NL.length c8) ∧ NcI w' xb bx bk t k ∧ SwM w' xb so ct ck (.slice nA n nc) tv false ∧ w'.heap[p5]? = some (.cells #[.int .i64 cl.v, .int .i64 cl.s, .bool cl.dead] 44 (0, 0)) ∧ SwM (w'.setCell ⟨xb, 3, none⟩ (.slice A8 NL.length c8)) xb so ct ck (.slice A8 NL.length c8) tv false ∧ NoV (w'.setCell ⟨xb, 3, none⟩ (.slice A8 NL.length c8)) (.slice A8 NL.length c8) NL ∧ Touch w (w'.setCell ⟨xb, 3, none⟩ (.slice A8 NL.length c8)) xb (Value.slice nA n nc).ownBlock ∧ ∀ q, (Value.slice A8 NL.length c8).ownBlock = some q → (Value.slice nA n nc).ownBlock = some q ∨ w.heap.size ≤ q) := Lib.hid (by
        refine Calls.mono (insert_anyNt hnv p (by rw [HNP.out.2.1]; exact posN_le _ _ _) (by have := HIN.out.2.2.1; omega) ⟨⟨t, ⟨k, cl⟩⟩, false⟩ wy.heap.size gA hp6n) ?_
        rintro e w8 ⟨v8, rfl, hv8, hg8, hq8⟩
        obtain ⟨A8, c8, rfl⟩ := hv8.form
        rw [← hnl] at hv8 hq8 ⊢
        have hs8 := (hg8.block xb (SwM.lt hsA) (fun e => hxn e.symm)).trans hsA
        have hxA : (Value.slice A8 NL.length c8).ownBlock ≠ some xb := fun e => by
          rcases hq8 xb e with e2 | e2
          · exact hxn e2
          · have := SwM.lt hsA; omega
        have hbk : bk < wy.heap.size := World.block_lt_of_cell? _ _ q1
        have hbx : bx < wy.heap.size := World.block_lt_of_cell? _ _ q0
        have hbkn : (Value.slice nA n nc).ownBlock ≠ some bk := fun c => by
          have h1 := HIN.out.2.1
          rw [← HNP.out.1] at h1
          have h2 := h1.lt c
          have := HW.out.2
          omega
        have hp5n : (Value.slice nA n nc).ownBlock ≠ some p5 := fun c => by
          have h1 := HIN.out.2.1
          rw [← HNP.out.1] at h1
          have h2 := h1.lt c
          have := HY.out.2.2.2.2.2
          omega
        have hA9 := NcI.below HY.out.2.1 hbA
        have kx := hg8.block bx (Nat.lt_of_lt_of_le hbx hbA.size) (fun e => hbxn e.symm)
        have kk := hg8.block bk (Nat.lt_of_lt_of_le hbk hbA.size) (fun e => hbkn e.symm)
        exact ⟨A8, c8, rfl, ⟨(World.cell?_of_block (a := ⟨bx, 0, none⟩) kx).trans hA9.x, (World.cell?_of_block (a := ⟨bk, 0, none⟩) kk).trans hA9.k0, (World.cell?_of_block (a := ⟨bk, 1, none⟩) kk).trans hA9.k1⟩, hs8, (hg8.block p5 (Array.getElem?_eq_some_iff.1 r5).1 (fun e => hp5n e.symm)).trans r5, (heap_set w8 xb 3 _ hs8).trans rfl, hv8.keep fun q e => heap_ne _ _ _ _ fun e2 => hxA (by rw [e, e2]), ((Touch.of (HY.out.1.trans (hbA.mono HY.out.1.size))).grown hg8).set, fun q e => (hq8 q e).imp id fun e => Nat.le_trans (HY.out.1.trans (hbA.mono HY.out.1.size)).size e⟩)
      clear hWZ hbA gA hsA hnv hp6n hxn hbxn hnl r5
      have HS0 := Lib.hid (And.intro q0 (And.intro q1 (And.intro q2 (And.intro q3 (And.intro p50 (And.intro p51 p52))))))
      clear q0 q1 q2 q3 p50 p51 p52
      refine wp_region_noPanic ?_
      refine wp_region_z (fun w' => w'.cell? ⟨bx, 0, none⟩ = some (.pointer (some ⟨xb, 0, none⟩)) ∧ w'.cell? ⟨bk, 0, none⟩ = some (.int .i64 (t : Int)) ∧ w'.cell? ⟨bk, 1, none⟩ = some (.int .i64 k) ∧ w'.cell? ⟨xb, 3, none⟩ = some (.slice nA n nc) ∧ w'.cell? ⟨p5, 0, none⟩ = some (.int .i64 cl.v) ∧ w'.cell? ⟨p5, 1, none⟩ = some (.int .i64 cl.s) ∧ w'.cell? ⟨p5, 2, none⟩ = some (.bool cl.dead)) 20 (by kernel_rfl) ?_
      refine wpAnyZ_take (i := 0) (v := .pointer (some ⟨xb, 0, none⟩)) rfl (by kernel_rfl) (by kernel_rfl) (by kernel_rfl) (by decide) (by kernel_rfl) (never1 (by kernel_rfl)) (fun _ _ _ h => h) (Or.inl ⟨by rfl, fun _ hS => by obtain ⟨s0, s1, s2, s3, s4, s5, s6⟩ := hS; go_simp⟩) HS0.out ?_
      simp only [Act.put, List.setIfInBounds_toArray]
      refine wpAnyZ_take (i := 1) (v := .pointer (some ⟨xb, 0, none⟩)) rfl (by kernel_rfl) (by kernel_rfl) (by kernel_rfl) (by decide) (by kernel_rfl) (never1 (by kernel_rfl)) (fun _ _ _ h => h) (Or.inl ⟨by rfl, fun _ hS => by obtain ⟨s0, s1, s2, s3, s4, s5, s6⟩ := hS; go_simp⟩) HS0.out ?_
      simp only [Act.put]
      refine wpAnyZ_take (i := 2) (v := .pointer (some ⟨xb, 0, none⟩)) rfl (by kernel_rfl) (by kernel_rfl) (by kernel_rfl) (by decide) (by kernel_rfl) (never1 (by kernel_rfl)) (fun _ _ _ h => h) (Or.inl ⟨by rfl, fun _ _ => by go_simp⟩) HS0.out ?_
      simp only [Act.put]
      refine wpAnyZ_take (i := 3) (v := .pointer (some ⟨xb, 3, none⟩)) rfl (by kernel_rfl) (by kernel_rfl) (by kernel_rfl) (by decide) (by kernel_rfl) (never1 (by kernel_rfl)) (fun _ _ _ h => h) (Or.inl ⟨by rfl, fun _ _ => by go_simp⟩) HS0.out ?_
      simp only [Act.put]
      refine wpAnyZ_take (i := 4) (v := .slice nA n nc) rfl (by kernel_rfl) (by kernel_rfl) (by kernel_rfl) (by decide) (by kernel_rfl) (never1 (by kernel_rfl)) (fun _ _ _ h => h) (Or.inl ⟨by rfl, fun _ hS => by obtain ⟨s0, s1, s2, s3, s4, s5, s6⟩ := hS; go_simp⟩) HS0.out ?_
      simp only [Act.put]
      refine wpAnyZ_take (i := 5) (v := .int .i64 (p : Int)) rfl (by kernel_rfl) (by kernel_rfl) (by kernel_rfl) (by decide) (by kernel_rfl) (never1 (by kernel_rfl)) (fun _ _ _ h => h) (Or.inl ⟨by rfl, fun _ _ => by go_simp⟩) HS0.out ?_
      simp only [Act.put]
      refine wpAnyZ_take (i := 6) (v := .agg #[.int .i64 (t : Int), .int .i64 k]) rfl (by kernel_rfl) (by kernel_rfl) (by kernel_rfl) (by decide) (by kernel_rfl) (never1 (by kernel_rfl)) (fun _ _ _ h => h) (Or.inl ⟨by rfl, fun _ hS => by obtain ⟨s0, s1, s2, s3, s4, s5, s6⟩ := hS; go_simp⟩) HS0.out ?_
      simp only [Act.put]
      refine wpAnyZ_take (i := 7) (v := .agg #[.int .i64 cl.v, .int .i64 cl.s, .bool cl.dead]) rfl (by kernel_rfl) (by kernel_rfl) (by kernel_rfl) (by decide) (by kernel_rfl) (never1 (by kernel_rfl)) (fun _ _ _ h => h) (Or.inl ⟨by rfl, fun _ hS => by obtain ⟨s0, s1, s2, s3, s4, s5, s6⟩ := hS; go_simp⟩) HS0.out ?_
      simp only [Act.put]
      refine wpAnyZ_take (i := 8) (v := .agg #[.int .i64 (t : Int), .int .i64 k, .int .i64 cl.v, .int .i64 cl.s, .bool cl.dead]) rfl (by kernel_rfl) (by kernel_rfl) (by kernel_rfl) (by decide) (by kernel_rfl) (never1 (by kernel_rfl)) (fun _ _ _ h => h) (Or.inl ⟨by rfl, fun _ _ => by go_simp⟩) HS0.out ?_
      simp only [Act.put]
      refine wpAnyZ_take (i := 9) (v := .bool false) rfl (by kernel_rfl) (by kernel_rfl) (by kernel_rfl) (by decide) (by kernel_rfl) (never1 (by kernel_rfl)) (fun _ _ _ h => h) (Or.inl ⟨by rfl, fun _ _ => by go_simp⟩) HS0.out ?_
      simp only [Act.put]
      refine wpAnyZ_take (i := 10) (v := .bool false) rfl (by kernel_rfl) (by kernel_rfl) (by kernel_rfl) (by decide) (by kernel_rfl) (never1 (by kernel_rfl)) (fun _ _ _ h => h) (Or.inl ⟨by rfl, fun _ _ => by go_simp⟩) HS0.out ?_
      simp only [Act.put]
      refine wpAnyZ_take (i := 11) (v := undef) rfl (by kernel_rfl) (by kernel_rfl) (by kernel_rfl) (by decide) (by kernel_rfl) (never1 (by kernel_rfl)) (fun _ _ _ h => h) (Or.inr ⟨by kernel_rfl, rfl⟩) HS0.out ?_
      simp only [Act.put]
      refine wpAnyZ_take (i := 12) (v := undef) rfl (by kernel_rfl) (by kernel_rfl) (by kernel_rfl) (by decide) (by kernel_rfl) (never1 (by kernel_rfl)) (fun _ _ _ h => h) (Or.inr ⟨by kernel_rfl, rfl⟩) HS0.out ?_
      simp only [Act.put]
      refine wpAnyZ_take (i := 13) (v := undef) rfl (by kernel_rfl) (by kernel_rfl) (by kernel_rfl) (by decide) (by kernel_rfl) (never1 (by kernel_rfl)) (fun _ _ _ h => h) (Or.inr ⟨by kernel_rfl, rfl⟩) HS0.out ?_
      simp only [Act.put]
      refine wpAnyZ_take (i := 14) (v := .bool false) rfl (by kernel_rfl) (by kernel_rfl) (by kernel_rfl) (by decide) (by kernel_rfl) (never1 (by kernel_rfl)) (fun _ _ _ h => h) (Or.inl ⟨by rfl, fun _ _ => by go_simp⟩) HS0.out ?_
      simp only [Act.put]
      refine wpAnyZ_take (i := 15) (v := .agg #[.int .i64 (t : Int), .int .i64 k, .int .i64 cl.v, .int .i64 cl.s, .bool cl.dead, .bool (false)]) rfl (by kernel_rfl) (by kernel_rfl) (by kernel_rfl) (by decide) (by kernel_rfl) (never1 (by kernel_rfl)) (fun _ _ _ h => h) (Or.inl ⟨by rfl, fun _ _ => by go_simp⟩) HS0.out ?_
      simp only [Act.put]
      refine wpAnyZ_one (i := 16) (by kernel_rfl) rfl (by rfl) fun K hK => ?_
      go_simp
      refine hK _ _ (fun _ => HS1.out) ?_
      clear hK K
      refine wpAnyZ_one (i := 17) (by kernel_rfl) rfl (by rfl) fun K hK => ?_
      go_simp
      go_at_call 105
      refine Calls.mono HIA.out ?_
      rintro e w8 ⟨A8, c8, rfl, h1, h2, h4, h3⟩
      have hS8 : Hid (w8.cell? ⟨bx, 0, none⟩ = some (.pointer (some ⟨xb, 0, none⟩)) ∧ w8.cell? ⟨bk, 0, none⟩ = some (.int .i64 (t : Int)) ∧ w8.cell? ⟨bk, 1, none⟩ = some (.int .i64 k) ∧ w8.cell? ⟨xb, 3, none⟩ = some (.slice nA n nc) ∧ w8.cell? ⟨p5, 0, none⟩ = some (.int .i64 cl.v) ∧ w8.cell? ⟨p5, 1, none⟩ = some (.int .i64 cl.s) ∧ w8.cell? ⟨p5, 2, none⟩ = some (.bool cl.dead)) := Lib.hid ⟨h1.x, h1.k0, h1.k1, (SwM.at h2).2.2.2.1, by rw [cell_of_row _ _ 0 _ _ _ h4]; rfl, by rw [cell_of_row _ _ 1 _ _ _ h4]; rfl, by rw [cell_of_row _ _ 2 _ _ _ h4]; rfl⟩
      have z8 := frozen_of h2 3
      have z9 := (SwM.at h2).2.2.2.1
      have HE := Lib.hid h3
      clear h1 h2 h3 h4
      refine hK _ _ (fun _ => hS8.out) ?_
      clear hK K
      refine wpAnyZ_one (i := 18) (by kernel_rfl) rfl (by rfl) fun K hK => ?_
      go_simp
      refine hK _ _ (fun _ => hS8.out) ?_
      clear hK K
      refine wpAnyZ_one (i := 19) (by kernel_rfl) rfl (by rfl) fun K hK => ?_
      go_simp
      refine hK _ _ (fun _ => hS8.out) ?_
      clear hK K
      refine wpAnyZ_one (i := 20) (by kernel_rfl) rfl (by rfl) fun K hK => ?_
      go_simp
      refine hK _ _ (fun h => absurd rfl h) ?_
      clear hK K
      refine wpAnyZ_done (by kernel_rfl) ?_ _
      refine NoPanic.normal ?_
      go_wp2_with fail
      exact bodyPost_end (v := .tuple #[]) (by simp [results, Try.results82, go_sem]) rfl ⟨rfl, _, HE.out.1, by rw [← HNL.out]; exact HE.out.2.1, by rw [show (Value.slice nA NS.length nc).ownBlock = (Value.slice nA n nc).ownBlock by cases nA <;> rfl]; exact HE.out.2.2.1, fun q e => by rw [show (Value.slice nA NS.length nc).ownBlock = (Value.slice nA n nc).ownBlock by cases nA <;> rfl]; exact HE.out.2.2.2 q e⟩
    | true =>
      obtain rfl : g = !cl.dead := hg
      go_upto_region 4 with fail
      have hWZ : (wy.alloc (.cells #[.int .i64 (t : Int), .int .i64 k, .int .i64 cl.v, .int .i64 cl.s, .bool cl.dead, .bool (!cl.dead)] 149)).drew = wy.drew.alloc (.cells #[.int .i64 (t : Int), .int .i64 k, .int .i64 cl.v, .int .i64 cl.s, .bool cl.dead, .bool (!cl.dead)] 149) := rfl
      have hbA : Below wy.heap.size wy (wy.alloc (.cells #[.int .i64 (t : Int), .int .i64 k, .int .i64 cl.v, .int .i64 cl.s, .bool cl.dead, .bool (!cl.dead)] 149)).drew := by rw [hWZ]; exact ((Below.refl _ _).drew).alloc (Nat.le_refl _) _
      have gA : (wy.alloc (.cells #[.int .i64 (t : Int), .int .i64 k, .int .i64 cl.v, .int .i64 cl.s, .bool cl.dead, .bool (!cl.dead)] 149)).drew.heap[wy.heap.size]? = some (.cells #[.int .i64 (t : Int), .int .i64 k, .int .i64 cl.v, .int .i64 cl.s, .bool cl.dead, .bool (!cl.dead)] 149 (0, 0)) := heap_alloc_new wy _
      have q0 := HY.out.2.1.x
      have q1 := HY.out.2.1.k0
      have q2 := HY.out.2.1.k1
      have q3 := (SwM.at HY.out.2.2.1).2.2.2.1
      have hsA := SwM.below HY.out.2.2.1 hbA
      have r5 := (hbA.block p5 (Array.getElem?_eq_some_iff.1 HY.out.2.2.2.2.1).1).trans HY.out.2.2.2.2.1
      have HS1 : Hid ((wy.alloc (.cells #[.int .i64 (t : Int), .int .i64 k, .int .i64 cl.v, .int .i64 cl.s, .bool cl.dead, .bool (!cl.dead)] 149)).drew.cell? ⟨bx, 0, none⟩ = some (.pointer (some ⟨xb, 0, none⟩)) ∧ (wy.alloc (.cells #[.int .i64 (t : Int), .int .i64 k, .int .i64 cl.v, .int .i64 cl.s, .bool cl.dead, .bool (!cl.dead)] 149)).drew.cell? ⟨bk, 0, none⟩ = some (.int .i64 (t : Int)) ∧ (wy.alloc (.cells #[.int .i64 (t : Int), .int .i64 k, .int .i64 cl.v, .int .i64 cl.s, .bool cl.dead, .bool (!cl.dead)] 149)).drew.cell? ⟨bk, 1, none⟩ = some (.int .i64 k) ∧ (wy.alloc (.cells #[.int .i64 (t : Int), .int .i64 k, .int .i64 cl.v, .int .i64 cl.s, .bool cl.dead, .bool (!cl.dead)] 149)).drew.cell? ⟨xb, 3, none⟩ = some (.slice nA n nc) ∧ (wy.alloc (.cells #[.int .i64 (t : Int), .int .i64 k, .int .i64 cl.v, .int .i64 cl.s, .bool cl.dead, .bool (!cl.dead)] 149)).drew.cell? ⟨p5, 0, none⟩ = some (.int .i64 cl.v) ∧ (wy.alloc (.cells #[.int .i64 (t : Int), .int .i64 k, .int .i64 cl.v, .int .i64 cl.s, .bool cl.dead, .bool (!cl.dead)] 149)).drew.cell? ⟨p5, 1, none⟩ = some (.int .i64 cl.s) ∧ (wy.alloc (.cells #[.int .i64 (t : Int), .int .i64 k, .int .i64 cl.v, .int .i64 cl.s, .bool cl.dead, .bool (!cl.dead)] 149)).drew.cell? ⟨p5, 2, none⟩ = some (.bool cl.dead)) := Lib.hid ⟨(NcI.below HY.out.2.1 hbA).x, (NcI.below HY.out.2.1 hbA).k0, (NcI.below HY.out.2.1 hbA).k1, (SwM.at hsA).2.2.2.1, by rw [cell_of_row _ _ 0 _ _ _ r5]; rfl, by rw [cell_of_row _ _ 1 _ _ _ r5]; rfl, by rw [cell_of_row _ _ 2 _ _ _ r5]; rfl⟩
      have p50 : wy.cell? ⟨p5, 0, none⟩ = some (.int .i64 cl.v) := by rw [cell_of_row _ _ 0 _ _ _ HY.out.2.2.2.2.1]; rfl
      have p51 : wy.cell? ⟨p5, 1, none⟩ = some (.int .i64 cl.s) := by rw [cell_of_row _ _ 1 _ _ _ HY.out.2.2.2.2.1]; rfl
      have p52 : wy.cell? ⟨p5, 2, none⟩ = some (.bool cl.dead) := by rw [cell_of_row _ _ 2 _ _ _ HY.out.2.2.2.2.1]; rfl
      have hnv := HY.out.2.2.2.1.below hbA
      have hp6n : (Value.slice nA n nc).ownBlock ≠ some wy.heap.size := fun c => by
        have h1 := HIN.out.2.1
        rw [← HNP.out.1] at h1
        have h2 := h1.lt c
        have h3 := HY.out.1.size
        omega
      have hxn : (Value.slice nA n nc).ownBlock ≠ some xb := by have h1 := HIN.out.2.2.2.2.2; rw [← HNP.out.1] at h1; exact h1
      have hbxn : (Value.slice nA n nc).ownBlock ≠ some bx := fun c => by
        have h1 := HIN.out.2.1
        rw [← HNP.out.1] at h1
        have h2 := h1.lt c
        have := HW.out.2.1
        omega
      have hnl : NL = NS.take p ++ (⟨⟨t, ⟨k, cl⟩⟩, !cl.dead⟩ : Nt) :: NS.drop p := by rw [HNL.out, HR.out, HG.out]
      have HIA : Hid (Calls Try.prog 105 #[.slice nA n nc, .int .i64 (p : Int), .slice (some ⟨wy.heap.size, 0, none⟩) 1 1] (wy.alloc (.cells #[.int .i64 (t : Int), .int .i64 k, .int .i64 cl.v, .int .i64 cl.s, .bool cl.dead, .bool (!cl.dead)] 149)).drew fun e w' => ∃ A8 c8, e = .returned (.slice A8 NL.length c8) ∧ NcI w' xb bx bk t k ∧ SwM w' xb so ct ck (.slice nA n nc) tv false ∧ w'.heap[p5]? = some (.cells #[.int .i64 cl.v, .int .i64 cl.s, .bool cl.dead] 44 (0, 0)) ∧ SwM (w'.setCell ⟨xb, 3, none⟩ (.slice A8 NL.length c8)) xb so ct ck (.slice A8 NL.length c8) tv false ∧ NoV (w'.setCell ⟨xb, 3, none⟩ (.slice A8 NL.length c8)) (.slice A8 NL.length c8) NL ∧ Touch w (w'.setCell ⟨xb, 3, none⟩ (.slice A8 NL.length c8)) xb (Value.slice nA n nc).ownBlock ∧ ∀ q, (Value.slice A8 NL.length c8).ownBlock = some q → (Value.slice nA n nc).ownBlock = some q ∨ w.heap.size ≤ q) := Lib.hid (by
        refine Calls.mono (insert_anyNt hnv p (by rw [HNP.out.2.1]; exact posN_le _ _ _) (by have := HIN.out.2.2.1; omega) ⟨⟨t, ⟨k, cl⟩⟩, !cl.dead⟩ wy.heap.size gA hp6n) ?_
        rintro e w8 ⟨v8, rfl, hv8, hg8, hq8⟩
        obtain ⟨A8, c8, rfl⟩ := hv8.form
        rw [← hnl] at hv8 hq8 ⊢
        have hs8 := (hg8.block xb (SwM.lt hsA) (fun e => hxn e.symm)).trans hsA
        have hxA : (Value.slice A8 NL.length c8).ownBlock ≠ some xb := fun e => by
          rcases hq8 xb e with e2 | e2
          · exact hxn e2
          · have := SwM.lt hsA; omega
        have hbk : bk < wy.heap.size := World.block_lt_of_cell? _ _ q1
        have hbx : bx < wy.heap.size := World.block_lt_of_cell? _ _ q0
        have hbkn : (Value.slice nA n nc).ownBlock ≠ some bk := fun c => by
          have h1 := HIN.out.2.1
          rw [← HNP.out.1] at h1
          have h2 := h1.lt c
          have := HW.out.2
          omega
        have hp5n : (Value.slice nA n nc).ownBlock ≠ some p5 := fun c => by
          have h1 := HIN.out.2.1
          rw [← HNP.out.1] at h1
          have h2 := h1.lt c
          have := HY.out.2.2.2.2.2
          omega
        have hA9 := NcI.below HY.out.2.1 hbA
        have kx := hg8.block bx (Nat.lt_of_lt_of_le hbx hbA.size) (fun e => hbxn e.symm)
        have kk := hg8.block bk (Nat.lt_of_lt_of_le hbk hbA.size) (fun e => hbkn e.symm)
        exact ⟨A8, c8, rfl, ⟨(World.cell?_of_block (a := ⟨bx, 0, none⟩) kx).trans hA9.x, (World.cell?_of_block (a := ⟨bk, 0, none⟩) kk).trans hA9.k0, (World.cell?_of_block (a := ⟨bk, 1, none⟩) kk).trans hA9.k1⟩, hs8, (hg8.block p5 (Array.getElem?_eq_some_iff.1 r5).1 (fun e => hp5n e.symm)).trans r5, (heap_set w8 xb 3 _ hs8).trans rfl, hv8.keep fun q e => heap_ne _ _ _ _ fun e2 => hxA (by rw [e, e2]), ((Touch.of (HY.out.1.trans (hbA.mono HY.out.1.size))).grown hg8).set, fun q e => (hq8 q e).imp id fun e => Nat.le_trans (HY.out.1.trans (hbA.mono HY.out.1.size)).size e⟩)
      clear hWZ hbA gA hsA hnv hp6n hxn hbxn hnl r5
      have HS0 := Lib.hid (And.intro q0 (And.intro q1 (And.intro q2 (And.intro q3 (And.intro p50 (And.intro p51 p52))))))
      clear q0 q1 q2 q3 p50 p51 p52
      refine wp_region_noPanic ?_
      refine wp_region_z (fun w' => w'.cell? ⟨bx, 0, none⟩ = some (.pointer (some ⟨xb, 0, none⟩)) ∧ w'.cell? ⟨bk, 0, none⟩ = some (.int .i64 (t : Int)) ∧ w'.cell? ⟨bk, 1, none⟩ = some (.int .i64 k) ∧ w'.cell? ⟨xb, 3, none⟩ = some (.slice nA n nc) ∧ w'.cell? ⟨p5, 0, none⟩ = some (.int .i64 cl.v) ∧ w'.cell? ⟨p5, 1, none⟩ = some (.int .i64 cl.s) ∧ w'.cell? ⟨p5, 2, none⟩ = some (.bool cl.dead)) 20 (by kernel_rfl) ?_
      refine wpAnyZ_take (i := 0) (v := .pointer (some ⟨xb, 0, none⟩)) rfl (by kernel_rfl) (by kernel_rfl) (by kernel_rfl) (by decide) (by kernel_rfl) (never1 (by kernel_rfl)) (fun _ _ _ h => h) (Or.inl ⟨by rfl, fun _ hS => by obtain ⟨s0, s1, s2, s3, s4, s5, s6⟩ := hS; go_simp⟩) HS0.out ?_
      simp only [Act.put, List.setIfInBounds_toArray]
      refine wpAnyZ_take (i := 1) (v := .pointer (some ⟨xb, 0, none⟩)) rfl (by kernel_rfl) (by kernel_rfl) (by kernel_rfl) (by decide) (by kernel_rfl) (never1 (by kernel_rfl)) (fun _ _ _ h => h) (Or.inl ⟨by rfl, fun _ hS => by obtain ⟨s0, s1, s2, s3, s4, s5, s6⟩ := hS; go_simp⟩) HS0.out ?_
      simp only [Act.put]
      refine wpAnyZ_take (i := 2) (v := .pointer (some ⟨xb, 0, none⟩)) rfl (by kernel_rfl) (by kernel_rfl) (by kernel_rfl) (by decide) (by kernel_rfl) (never1 (by kernel_rfl)) (fun _ _ _ h => h) (Or.inl ⟨by rfl, fun _ _ => by go_simp⟩) HS0.out ?_
      simp only [Act.put]
      refine wpAnyZ_take (i := 3) (v := .pointer (some ⟨xb, 3, none⟩)) rfl (by kernel_rfl) (by kernel_rfl) (by kernel_rfl) (by decide) (by kernel_rfl) (never1 (by kernel_rfl)) (fun _ _ _ h => h) (Or.inl ⟨by rfl, fun _ _ => by go_simp⟩) HS0.out ?_
      simp only [Act.put]
      refine wpAnyZ_take (i := 4) (v := .slice nA n nc) rfl (by kernel_rfl) (by kernel_rfl) (by kernel_rfl) (by decide) (by kernel_rfl) (never1 (by kernel_rfl)) (fun _ _ _ h => h) (Or.inl ⟨by rfl, fun _ hS => by obtain ⟨s0, s1, s2, s3, s4, s5, s6⟩ := hS; go_simp⟩) HS0.out ?_
      simp only [Act.put]
      refine wpAnyZ_take (i := 5) (v := .int .i64 (p : Int)) rfl (by kernel_rfl) (by kernel_rfl) (by kernel_rfl) (by decide) (by kernel_rfl) (never1 (by kernel_rfl)) (fun _ _ _ h => h) (Or.inl ⟨by rfl, fun _ _ => by go_simp⟩) HS0.out ?_
      simp only [Act.put]
      refine wpAnyZ_take (i := 6) (v := .agg #[.int .i64 (t : Int), .int .i64 k]) rfl (by kernel_rfl) (by kernel_rfl) (by kernel_rfl) (by decide) (by kernel_rfl) (never1 (by kernel_rfl)) (fun _ _ _ h => h) (Or.inl ⟨by rfl, fun _ hS => by obtain ⟨s0, s1, s2, s3, s4, s5, s6⟩ := hS; go_simp⟩) HS0.out ?_
      simp only [Act.put]
      refine wpAnyZ_take (i := 7) (v := .agg #[.int .i64 cl.v, .int .i64 cl.s, .bool cl.dead]) rfl (by kernel_rfl) (by kernel_rfl) (by kernel_rfl) (by decide) (by kernel_rfl) (never1 (by kernel_rfl)) (fun _ _ _ h => h) (Or.inl ⟨by rfl, fun _ hS => by obtain ⟨s0, s1, s2, s3, s4, s5, s6⟩ := hS; go_simp⟩) HS0.out ?_
      simp only [Act.put]
      refine wpAnyZ_take (i := 8) (v := .agg #[.int .i64 (t : Int), .int .i64 k, .int .i64 cl.v, .int .i64 cl.s, .bool cl.dead]) rfl (by kernel_rfl) (by kernel_rfl) (by kernel_rfl) (by decide) (by kernel_rfl) (never1 (by kernel_rfl)) (fun _ _ _ h => h) (Or.inl ⟨by rfl, fun _ _ => by go_simp⟩) HS0.out ?_
      simp only [Act.put]
      refine wpAnyZ_take (i := 9) (v := .bool true) rfl (by kernel_rfl) (by kernel_rfl) (by kernel_rfl) (by decide) (by kernel_rfl) (never1 (by kernel_rfl)) (fun _ _ _ h => h) (Or.inl ⟨by rfl, fun _ _ => by go_simp⟩) HS0.out ?_
      simp only [Act.put]
      refine wpAnyZ_take (i := 10) (v := .bool true) rfl (by kernel_rfl) (by kernel_rfl) (by kernel_rfl) (by decide) (by kernel_rfl) (never1 (by kernel_rfl)) (fun _ _ _ h => h) (Or.inl ⟨by rfl, fun _ _ => by go_simp⟩) HS0.out ?_
      simp only [Act.put]
      refine wpAnyZ_take (i := 11) (v := .pointer (some ⟨p5, 2, none⟩)) rfl (by kernel_rfl) (by kernel_rfl) (by kernel_rfl) (by decide) (by kernel_rfl) (never1 (by kernel_rfl)) (fun _ _ _ h => h) (Or.inl ⟨by kernel_rfl, fun _ _ => by go_simp⟩) HS0.out ?_
      simp only [Act.put]
      refine wpAnyZ_take (i := 12) (v := .bool cl.dead) rfl (by kernel_rfl) (by kernel_rfl) (by kernel_rfl) (by decide) (by kernel_rfl) (never1 (by kernel_rfl)) (fun _ _ _ h => h) (Or.inl ⟨by kernel_rfl, fun _ hS => by obtain ⟨s0, s1, s2, s3, s4, s5, s6⟩ := hS; go_simp⟩) HS0.out ?_
      simp only [Act.put]
      refine wpAnyZ_take (i := 13) (v := .bool (!cl.dead)) rfl (by kernel_rfl) (by kernel_rfl) (by kernel_rfl) (by decide) (by kernel_rfl) (never1 (by kernel_rfl)) (fun _ _ _ h => h) (Or.inl ⟨by kernel_rfl, fun _ _ => by go_simp⟩) HS0.out ?_
      simp only [Act.put]
      refine wpAnyZ_take (i := 14) (v := .bool (!cl.dead)) rfl (by kernel_rfl) (by kernel_rfl) (by kernel_rfl) (by decide) (by kernel_rfl) (never1 (by kernel_rfl)) (fun _ _ _ h => h) (Or.inl ⟨by rfl, fun _ _ => by go_simp⟩) HS0.out ?_
      simp only [Act.put]
      refine wpAnyZ_take (i := 15) (v := .agg #[.int .i64 (t : Int), .int .i64 k, .int .i64 cl.v, .int .i64 cl.s, .bool cl.dead, .bool (!cl.dead)]) rfl (by kernel_rfl) (by kernel_rfl) (by kernel_rfl) (by decide) (by kernel_rfl) (never1 (by kernel_rfl)) (fun _ _ _ h => h) (Or.inl ⟨by rfl, fun _ _ => by go_simp⟩) HS0.out ?_
      simp only [Act.put]
      refine wpAnyZ_one (i := 16) (by kernel_rfl) rfl (by rfl) fun K hK => ?_
      go_simp
      refine hK _ _ (fun _ => HS1.out) ?_
      clear hK K
      refine wpAnyZ_one (i := 17) (by kernel_rfl) rfl (by rfl) fun K hK => ?_
      go_simp
      go_at_call 105
      refine Calls.mono HIA.out ?_
      rintro e w8 ⟨A8, c8, rfl, h1, h2, h4, h3⟩
      have hS8 : Hid (w8.cell? ⟨bx, 0, none⟩ = some (.pointer (some ⟨xb, 0, none⟩)) ∧ w8.cell? ⟨bk, 0, none⟩ = some (.int .i64 (t : Int)) ∧ w8.cell? ⟨bk, 1, none⟩ = some (.int .i64 k) ∧ w8.cell? ⟨xb, 3, none⟩ = some (.slice nA n nc) ∧ w8.cell? ⟨p5, 0, none⟩ = some (.int .i64 cl.v) ∧ w8.cell? ⟨p5, 1, none⟩ = some (.int .i64 cl.s) ∧ w8.cell? ⟨p5, 2, none⟩ = some (.bool cl.dead)) := Lib.hid ⟨h1.x, h1.k0, h1.k1, (SwM.at h2).2.2.2.1, by rw [cell_of_row _ _ 0 _ _ _ h4]; rfl, by rw [cell_of_row _ _ 1 _ _ _ h4]; rfl, by rw [cell_of_row _ _ 2 _ _ _ h4]; rfl⟩
      have z8 := frozen_of h2 3
      have z9 := (SwM.at h2).2.2.2.1
      have HE := Lib.hid h3
      clear h1 h2 h3 h4
      refine hK _ _ (fun _ => hS8.out) ?_
      clear hK K
      refine wpAnyZ_one (i := 18) (by kernel_rfl) rfl (by rfl) fun K hK => ?_
      go_simp
      refine hK _ _ (fun _ => hS8.out) ?_
      clear hK K
      refine wpAnyZ_one (i := 19) (by kernel_rfl) rfl (by rfl) fun K hK => ?_
      go_simp
      refine hK _ _ (fun _ => hS8.out) ?_
      clear hK K
      refine wpAnyZ_one (i := 20) (by kernel_rfl) rfl (by rfl) fun K hK => ?_
      go_simp
      refine hK _ _ (fun h => absurd rfl h) ?_
      clear hK K
      refine wpAnyZ_done (by kernel_rfl) ?_ _
      refine NoPanic.normal ?_
      go_wp2_with fail
      exact bodyPost_end (v := .tuple #[]) (by simp [results, Try.results82, go_sem]) rfl ⟨rfl, _, HE.out.1, by rw [← HNL.out]; exact HE.out.2.1, by rw [show (Value.slice nA NS.length nc).ownBlock = (Value.slice nA n nc).ownBlock by cases nA <;> rfl]; exact HE.out.2.2.1, fun q e => by rw [show (Value.slice nA NS.length nc).ownBlock = (Value.slice nA n nc).ownBlock by cases nA <;> rfl]; exact HE.out.2.2.2 q e⟩
end Go.Proofs.Ytejpjbmbcdgomaa
