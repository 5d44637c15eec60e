/- The contracts of num.Programs, the law's copies, the document's Shape. -/
import Derived.Test.YtkeckjgihjpfbaaDoorSame
import Derived.Deep.Cut
namespace Go.Proofs.YtkeckjgihjpfbaaDoor
set_option maxRecDepth 100000
open Go.RowKit

theorem two_cells (w : World) (f g : Int) (A A' : Option Addr) (n n' c c' : Nat) :
    ((w.alloc (.cells #[.int .i64 f, .slice A n c] 24)).alloc (.cells #[.int .i64 g, .slice A' n' c'] 24)).heap[w.heap.size]? = some (.cells #[.int .i64 f, .slice A n c] 24 (0, 0)) ∧
    ((w.alloc (.cells #[.int .i64 f, .slice A n c] 24)).alloc (.cells #[.int .i64 g, .slice A' n' c'] 24)).heap[w.heap.size + 1]? = some (.cells #[.int .i64 g, .slice A' n' c'] 24 (0, 0)) := by
  refine ⟨(heap_alloc_old _ _ (by simp)).trans (heap_alloc_new w _), ?_⟩
  have h := heap_alloc_new (w.alloc (.cells #[.int .i64 f, .slice A n c] 24)) (.cells #[.int .i64 g, .slice A' n' c'] 24)
  rw [World.size_alloc] at h
  exact h
set_option maxHeartbeats 4000000 in
theorem programs_any (f g : Int) (A A' : Option Addr) (n n' c c' : Nat) (l m : List Ins) (w : World) (h1 : Codes w A n l) (h2 : Codes w A' n' m) (hn : n ≤ 9223372036854775807) (hn' : n' ≤ 9223372036854775807) :
    Calls Tryd.prog 15 #[.agg #[.int .i64 f, .slice A n c], .agg #[.int .i64 g, .slice A' n' c']] w fun e w' => e = .returned (.bool (sameP f g l m)) ∧ Below w.heap.size w w' := by
  have hb := two_boxes w f g A A' n n' c c'
  obtain ⟨hx, hy⟩ := two_cells w f g A A' n n' c c'
  have HBX := Lib.hid hb
  have HXB := Lib.hid hx
  have HYB := Lib.hid hy
  have HL := Lib.hid h1.len
  have HM := Lib.hid h2.len
  have H1 := Lib.hid h1
  have H2 := Lib.hid h2
  clear h1 h2 hb hx hy
  by_cases hfg : f = g
  · subst hfg
    have d0 : (f != f) = false := by simp
    have HS := Lib.hid (show sameP f f l m = decide (l = m) by simp [sameP])
    by_cases hnn : n = n'
    · subst hnn
      have d1 : ((n : Int) != (n : Int)) = false := by simp
      go_enter Tryd.func15, Tryd.ntmps15
      go_wp2_with fail
      clear d0 d1
      go_loopw [23] (fun i wr => ∃ k : Nat, i = .int .i64 (k : Int) ∧ k ≤ n ∧ Below w.heap.size w wr ∧ wr.heap[w.heap.size]? = some (.cells #[.int .i64 f, .slice A n c] 24 (0, 0)) ∧ wr.heap[w.heap.size + 1]? = some (.cells #[.int .i64 f, .slice A' n c'] 24 (0, 0)) ∧ (∀ j (h1 : j < l.length) (h2 : j < m.length), j < k → l[j] = m[j])) (fun i _ => n - (intOf i).toNat)
      case atStart => exact ⟨0, rfl, by omega, HBX.out, HXB.out, HYB.out, fun j _ _ h => absurd h (by omega)⟩
      case round =>
        obtain ⟨k, rfl, hk, hb, hx, hy, hall⟩ := hrel
        have HB := Lib.hid hb
        have HALL := Lib.hid hall
        have HX2 := Lib.hid hx
        have HY2 := Lib.hid hy
        have r1 : wr.cell? ⟨w.heap.size, 1, none⟩ = some (.slice A n c) := cell_of_row wr _ 1 _ 24 (0, 0) hx
        have s1 : wr.cell? ⟨w.heap.size + 1, 1, none⟩ = some (.slice A' n c') := cell_of_row wr _ 1 _ 24 (0, 0) hy
        clear hb hall hx hy
        by_cases hlt : k < n
        · have hkl : k < l.length := by rw [HL.out]; exact hlt
          have hkm : k < m.length := by rw [HM.out]; exact hlt
          obtain ⟨b, off, rfl, hc⟩ := (H1.out.ext (stays_b HB.out)).cells (by omega)
          obtain ⟨b2, off2, rfl, hc2⟩ := (H2.out.ext (stays_b HB.out)).cells (by omega)
          obtain ⟨p0, p1, p2, p3, p4, p5⟩ := hc k hkl
          obtain ⟨q0, q1, q2, q3, q4, q5⟩ := hc2 k hkm
          obtain ⟨x, hx⟩ : ∃ x, x = l[k] := ⟨_, rfl⟩
          obtain ⟨y, hy⟩ : ∃ y, y = m[k] := ⟨_, rfl⟩
          rw [← hx] at p0 p1 p2 p3 p4 p5
          rw [← hy] at q0 q1 q2 q3 q4 q5
          have hne := fun W => neq_ins W x y
          unfold Ins.val at hne
          have HX := Lib.hid hx
          have HY := Lib.hid hy
          clear hc hc2 hx hy
          by_cases he : x = y
          · rw [decide_eq_true he] at hne
            have HE := Lib.hid he
            clear he
            go_wp2_with fail
            go_quiet (fail)
            have hbd : Below w.heap.size w (wr.drewN nq) := ⟨HB.out.os, HB.out.tape, HB.out.output, HB.out.size, HB.out.block⟩
            go_wp2_with fail
            go_roundw
            case rel => exact ⟨k + 1, by go_num, by omega, hbd, HX2.out, HY2.out, fun j h1 h2 hj => by
              rcases Nat.lt_or_ge j k with h | h
              · exact HALL.out j h1 h2 h
              · obtain rfl : j = k := by omega
                rw [← HX.out, ← HY.out]; exact HE.out⟩
            case measure => simp [intOf]; omega
          · rw [decide_eq_false he] at hne
            have HE := Lib.hid (show decide (l = m) = false from decide_eq_false (decide_cut l m k hkl hkm (by rw [← HX.out, ← HY.out]; exact he)))
            clear he
            go_wp2_with fail
            go_quiet (fail)
            have hbd : Below w.heap.size w (wr.drewN nq) := ⟨HB.out.os, HB.out.tape, HB.out.output, HB.out.size, HB.out.block⟩
            go_wp2_with fail
            go_ret
            exact ⟨ret_bool' (by rw [HS.out, HE.out]), hbd⟩
        · obtain rfl : k = n := by omega
          have HE := Lib.hid (show decide (l = m) = true from decide_eq_true (decide_all l m (by rw [HL.out, HM.out]) (fun j h1 h2 => HALL.out j h1 h2 (by rw [← HL.out]; exact h1))))
          go_wp2_with fail
          go_ret
          exact ⟨ret_bool' (by rw [HS.out, HE.out]), HB.out⟩
    · have d1 : ((n : Int) != (n' : Int)) = true := by rw [bne_iff_ne]; omega
      have HE := Lib.hid (show decide (l = m) = false from decide_eq_false (fun e => hnn (by rw [← HL.out, ← HM.out, e])))
      clear hnn
      go_enter Tryd.func15, Tryd.ntmps15
      go_wp2_with fail
      go_ret
      exact ⟨ret_bool' (by rw [HS.out, HE.out]), HBX.out⟩
  · have d0 : (f != g) = true := by rw [bne_iff_ne]; exact hfg
    have HS := Lib.hid (show sameP f g l m = false by simp [sameP, hfg])
    clear hfg
    go_enter Tryd.func15, Tryd.ntmps15
    go_wp2_with fail
    go_ret
    exact ⟨ret_bool' HS.out.symm, HBX.out⟩
/-- The copy's own memory. -/
def CopE (f : Int) (n : Nat) (l : List Ins) (w w' : World) (e : Ending) : Prop := ∃ A' c', e = .returned (.agg #[.int .i64 f, .slice A' n c']) ∧ Codes w' A' n l ∧ w'.ownsRow w.heap.size 43 6 (.slice A' n c') n (insV l) ∧ Below w.heap.size w w'
theorem results13 (w : World) (g : Nat) (f : Int) (A : Option Addr) (n c : Nat) (h : w.heap[g]? = some (.cells #[.int .i64 f, .slice A n c] 24 (0, 0))) (tmps : Array Value) (h2 : tmps.getD 2 undef = .pointer (some ⟨g, 0, none⟩)) :
    (results Tryd.f13 tmps).run Tryd.prog w = .ok (.agg #[.int .i64 f, .slice A n c]) w := by
  have h2' : tmps[2]?.getD undef = .pointer (some ⟨g, 0, none⟩) := by simpa using h2
  have c0 : w.cell? ⟨g, 0, none⟩ = some (.int .i64 f) := cell_of_row w g 0 _ 24 (0, 0) h
  have c1 : w.cell? ⟨g, 1, none⟩ = some (.slice A n c) := cell_of_row w g 1 _ 24 (0, 0) h
  have e : Tryd.f13.results = #[.cell 2 24] := Tryd.results13
  have hl : (loadVar 24 ⟨g, 0, none⟩).run Tryd.prog w = .ok (.agg #[.int .i64 f, .slice A n c]) w := by simp [go_sem, c0, c1]
  simp only [results, e]
  simp [asAddr, h2', hl]
def copW (w : World) (f : Int) (A : Option Addr) (n c : Nat) : World := (w.alloc (.cells #[.int .i64 f, .slice A n c] 24)).alloc (.cells #[.int .i64 0, .slice none 0 0] 24)
theorem copW_size (w : World) (f : Int) (A : Option Addr) (n c : Nat) : (copW w f A n c).heap.size = w.heap.size + 2 := by simp [copW]
theorem copW_below (w : World) (f : Int) (A : Option Addr) (n c : Nat) : Below w.heap.size w (copW w f A n c) := ((Below.refl _ w).alloc (Nat.le_refl _) _).alloc (by simp) _
theorem copW_at (w : World) (f : Int) (A : Option Addr) (n c : Nat) : (copW w f A n c).heap[w.heap.size]? = some (.cells #[.int .i64 f, .slice A n c] 24 (0, 0)) ∧ (copW w f A n c).heap[w.heap.size + 1]? = some (.cells #[.int .i64 0, .slice none 0 0] 24 (0, 0)) := by
  unfold copW
  refine ⟨(heap_alloc_old _ _ (by simp)).trans (heap_alloc_new w _), ?_⟩
  have h := heap_alloc_new (w.alloc (.cells #[.int .i64 f, .slice A n c] 24)) (.cells #[.int .i64 0, .slice none 0 0] 24)
  rw [World.size_alloc] at h
  exact h
theorem cop_facts {w W w3 : World} {f : Int} {A : Option Addr} {n c : Nat} (hsz : w.heap.size + 2 ≤ W.heap.size) (hx : W.heap[w.heap.size]? = some (.cells #[.int .i64 f, .slice A n c] 24 (0, 0))) (hy : W.heap[w.heap.size + 1]? = some (.cells #[.int .i64 0, .slice none 0 0] 24 (0, 0)))
    (hg : (W.alloc (.cells #[] 43)).grownBy w3 (Value.slice (some ⟨W.heap.size, 0, none⟩) 0 0).ownBlock) : w3.heap[w.heap.size]? = some (.cells #[.int .i64 f, .slice A n c] 24 (0, 0)) ∧ w3.heap[w.heap.size + 1]? = some (.cells #[.int .i64 0, .slice none 0 0] 24 (0, 0)) ∧
    w3.cell? ⟨w.heap.size, 0, none⟩ = some (.int .i64 f) ∧ w3.cell? ⟨w.heap.size, 1, none⟩ = some (.slice A n c) ∧ w3.cell? ⟨w.heap.size + 1, 0, none⟩ = some (.int .i64 0) ∧ w3.cell? ⟨w.heap.size + 1, 1, none⟩ = some (.slice none 0 0) ∧
    w3.frozen? ⟨w.heap.size, 1, none⟩ = false ∧ w3.frozen? ⟨w.heap.size + 1, 0, none⟩ = false ∧ w3.frozen? ⟨w.heap.size + 1, 1, none⟩ = false := by
  have y0 : w3.heap[w.heap.size]? = some (.cells #[.int .i64 f, .slice A n c] 24 (0, 0)) := (hg.block _ (by rw [World.size_alloc]; omega) (fun e => by have : w.heap.size = W.heap.size := Option.some.inj e; omega)).trans ((heap_alloc_old W _ (by omega)).trans hx)
  have y1 : w3.heap[w.heap.size + 1]? = some (.cells #[.int .i64 0, .slice none 0 0] 24 (0, 0)) := (hg.block _ (by rw [World.size_alloc]; omega) (fun e => by have : w.heap.size + 1 = W.heap.size := Option.some.inj e; omega)).trans ((heap_alloc_old W _ (by omega)).trans hy)
  exact ⟨y0, y1, cell_of_row w3 _ 0 _ 24 (0, 0) y0, cell_of_row w3 _ 1 _ 24 (0, 0) y0, cell_of_row w3 _ 0 _ 24 (0, 0) y1, cell_of_row w3 _ 1 _ 24 (0, 0) y1, by simp [World.frozen?, y0], by simp [World.frozen?, y1], by simp [World.frozen?, y1]⟩
/-- The cells of one's own row stand in a block of cells. -/
theorem own_cells {w : World} {B e size n : Nat} {v : Value} {xs : List Value} (h : w.ownsRow B e size v n xs) (b : Nat) (hb : v.ownBlock = some b) : B ≤ b ∧ b < w.heap.size ∧ ∃ cur, w.heap[b]? = some (.cells cur e (0, 0)) := by
  rcases h.2 with ⟨rfl, _⟩ | ⟨g, cap, cur, rfl, h1, h2, _⟩
  · cases hb
  · cases hb
    exact ⟨h1, (Array.getElem?_eq_some_iff.1 h2).1, cur, h2⟩
theorem own_keep {w w' : World} {B e size n : Nat} {v : Value} {xs : List Value} (h : w.ownsRow B e size v n xs) (hb : ∀ b cur, v.ownBlock = some b → w.heap[b]? = some (.cells cur e (0, 0)) → w'.heap[b]? = w.heap[b]?) : w'.ownsRow B e size v n xs := by
  refine ⟨h.1, ?_⟩
  rcases h.2 with h0 | ⟨g, cap, cur, rfl, h1, h2, h3⟩
  · exact .inl h0
  · exact .inr ⟨g, cap, cur, rfl, h1, (hb g cur rfl h2).trans h2, h3⟩
theorem cop_end {w W w3 : World} {f : Int} {A A3 : Option Addr} {n c k3 : Nat} {xs : List Value} (y0 : w3.heap[w.heap.size]? = some (.cells #[.int .i64 f, .slice A n c] 24 (0, 0))) (y1 : w3.heap[w.heap.size + 1]? = some (.cells #[.int .i64 0, .slice none 0 0] 24 (0, 0)))
    (ho : w3.ownsRow w.heap.size 43 6 (.slice A3 (0 + n) k3) (0 + n) ([] ++ xs)) (hg : (W.alloc (.cells #[] 43)).grownBy w3 (Value.slice (some ⟨W.heap.size, 0, none⟩) 0 0).ownBlock) (hb : Below w.heap.size w W) (hsz : w.heap.size + 2 ≤ W.heap.size) :
    (((w3.setCell ⟨w.heap.size, 1, none⟩ (.slice A3 n k3)).setCell ⟨w.heap.size + 1, 0, none⟩ (.int .i64 f)).setCell ⟨w.heap.size + 1, 1, none⟩ (.slice A3 n k3)).heap[w.heap.size + 1]? = some (.cells #[.int .i64 f, .slice A3 n k3] 24 (0, 0)) ∧
    (((w3.setCell ⟨w.heap.size, 1, none⟩ (.slice A3 n k3)).setCell ⟨w.heap.size + 1, 0, none⟩ (.int .i64 f)).setCell ⟨w.heap.size + 1, 1, none⟩ (.slice A3 n k3)).ownsRow w.heap.size 43 6 (.slice A3 n k3) n xs ∧
    Below w.heap.size w (((w3.setCell ⟨w.heap.size, 1, none⟩ (.slice A3 n k3)).setCell ⟨w.heap.size + 1, 0, none⟩ (.int .i64 f)).setCell ⟨w.heap.size + 1, 1, none⟩ (.slice A3 n k3)) := by
  rw [Nat.zero_add, List.nil_append] at ho
  refine ⟨?_, ?_, ?_⟩
  · simp [World.setCell, Array.getElem?_modify, y1]
  · refine own_keep ho fun b cur _ e => ?_
    have n0 : b ≠ w.heap.size := fun h => by subst h; rw [y0] at e; cases e
    have n1 : b ≠ w.heap.size + 1 := fun h => by subst h; rw [y1] at e; cases e
    exact (Deep.blk_setCell_other _ _ _ b n1).trans ((Deep.blk_setCell_other _ _ _ b n1).trans (Deep.blk_setCell_other _ _ _ b n0))
  · have h1 : Below w.heap.size w w3 := (hb.alloc hb.size _).grown hg (by rw [World.size_alloc]; omega) (fun q e => by have : W.heap.size = q := Option.some.inj e; omega)
    exact ((h1.setCell (by show w.heap.size ≤ w.heap.size; omega) _).setCell (by show w.heap.size ≤ w.heap.size + 1; omega) _).setCell (by show w.heap.size ≤ w.heap.size + 1; omega) _
set_option maxHeartbeats 2000000 in
theorem copies_any (f : Int) (A : Option Addr) (n c : Nat) (l : List Ins) (w : World) (h : Codes w A n l) (hnil : A = none → c = 0) (hn : n ≤ 1000000000) :
    Calls Tryd.prog 13 #[.agg #[.int .i64 f, .slice A n c]] w fun e w' => CopE f n l w w' e := by
  obtain ⟨hx, hy⟩ := copW_at w f A n c
  have hsz := copW_size w f A n c
  have HBX := Lib.hid (copW_below w f A n c)
  have HX := Lib.hid hx
  have HY := Lib.hid hy
  have HC := Lib.hid (h.ext (stays_b HBX.out))
  have HLN := Lib.hid h.len
  go_enter Tryd.func13, Tryd.ntmps13
  go_upto_region 1 with fail
  change Code.wp _ _ _ _ (copW w f A n c)
  obtain ⟨W, hW⟩ : ∃ W, W = copW w f A n c := ⟨_, rfl⟩
  rw [← hW] at hsz HBX HX HY HC ⊢
  have hsz2 := Nat.le_of_eq hsz.symm
  clear hsz
  have x0 : W.cell? ⟨w.heap.size, 0, none⟩ = some (.int .i64 f) := cell_of_row W _ 0 _ 24 (0, 0) HX.out
  have x1 : W.cell? ⟨w.heap.size, 1, none⟩ = some (.slice A n c) := cell_of_row W _ 1 _ 24 (0, 0) HX.out
  have hEx := World.cell?_alloc_lt W (.cells #[] 43) ⟨w.heap.size, 1, none⟩ (by show w.heap.size < _; omega)
  rw [x1] at hEx
  have HOE := Lib.hid (own_empty W w.heap.size 43 6 43 rfl (by omega))
  have HC2 := Lib.hid (HC.out.ext (stays_b ((Below.refl _ W).alloc (Nat.le_refl _) (.cells #[] 43))))
  clear hx hy h hW
  go_wp2_with (at_builtin; refine wpList_append_rowv elemC rfl (.tmp 3) (.tmp 5) rfl w.heap.size (.slice (some ⟨W.heap.size, 0, none⟩) 0 0) 0 [] rfl HOE.out A n c (insV l) rfl HC2.out.row (insV_one _) hnil (by unfold maxLen; omega) (by omega) (by rw [World.size_alloc]; omega) ?_; intro v3 w3 hown3 hg3 hb3; obtain ⟨A3, k3, rfl, hrd3, _, _⟩ := rdv_own hown3; obtain ⟨y0, y1, c0, c1, e0, e1, f0, f1, f2⟩ := cop_facts hsz2 HX.out HY.out hg3; have Y0 := Lib.hid y0; have Y1 := Lib.hid y1; have HO3 := Lib.hid hown3; have HG3 := Lib.hid hg3; clear hown3 hg3 hb3 hrd3 y0 y1)
  obtain ⟨z1, z2, z3⟩ := cop_end Y0.out Y1.out HO3.out HG3.out HBX.out hsz2
  exact bodyPost_ret (results13 _ _ f A3 n k3 z1 _ rfl) rfl ⟨A3, k3, rfl, ⟨HLN.out, by have h := z2; obtain ⟨_, _, e, hr, _, _⟩ := rdv_own h; injection e with e1 _ e2; subst e1 e2; exact hr⟩, z2, z3⟩
end Go.Proofs.YtkeckjgihjpfbaaDoor
