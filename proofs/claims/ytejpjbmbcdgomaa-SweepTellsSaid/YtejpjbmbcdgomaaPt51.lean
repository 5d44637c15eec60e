/- VTellL: put together. -/
import Derived.Test.YtejpjbmbcdgomaaPt50
/- SweepTells, pure: what is left, the text at the end; calls of a sweep that is done. -/
namespace Go.Proofs.Ytejpjbmbcdgomaa
set_option maxRecDepth 100000
open Go.RowKit

theorem filter_less {α : Type} {P : α → Bool} : ∀ {l : List α} {a : α}, a ∈ l → P a = false → (l.filter P).length + 1 ≤ l.length
  | x :: l, a, h, hp => by
    rcases List.mem_cons.1 h with rfl | h
    · rw [List.filter_cons_of_neg (by rw [hp]; decide), List.length_cons]
      exact Nat.succ_le_succ (List.length_filter_le _ _)
    · have := filter_less h hp
      rw [List.filter_cons]
      split <;> simp <;> omega
theorem same_len {NS NS' : List Nt} (hu : UpN NS) (hu2 : UpN NS') {p : Nt → Bool} (h : ∀ x, x ∈ NS' ↔ x ∈ NS ∧ p x = true) : NS'.length = (NS.filter p).length := by
  have key : ∀ {a b : List Nt}, UpN a → UpN b → (∀ x, x ∈ a ↔ x ∈ b) → a.length ≤ b.length := fun {a} => by
    induction a with
    | nil => intro b _ _ _; simp
    | cons x a ih =>
      intro b ha hb hab
      obtain ⟨h1, h2⟩ := List.pairwise_cons.1 ha
      obtain ⟨s, t, rfl⟩ := List.append_of_mem ((hab x).1 (by simp))
      have hx : ∀ y ∈ a, y ≠ x := fun y hy e => by
        have := h1 y hy
        rw [e] at this
        unfold lessN at this
        rw [lessK_irr] at this; cases this
      have hb2 : UpN (s ++ t) := hb.sublist (List.Sublist.append (List.Sublist.refl s) (List.sublist_cons_self x t))
      have hbx : ∀ y ∈ s ++ t, y ≠ x := fun y hy e => by
        rw [UpN, List.pairwise_append, List.pairwise_cons] at hb
        rcases List.mem_append.1 hy with h | h
        · have := hb.2.2 y h x (by simp); rw [e] at this; unfold lessN at this; rw [lessK_irr] at this; cases this
        · have := hb.2.1.1 y h; rw [e] at this; unfold lessN at this; rw [lessK_irr] at this; cases this
      have := ih h2 hb2 fun y => ⟨fun hy => by
        have := (hab y).1 (by simp [hy])
        rcases List.mem_append.1 this with h | h
        · exact List.mem_append.2 (.inl h)
        · rcases List.mem_cons.1 h with h | h
          · exact absurd h (hx y hy)
          · exact List.mem_append.2 (.inr h), fun hy => by
        have h3 : y ∈ s ++ x :: t := by
          rcases List.mem_append.1 hy with h | h
          · exact List.mem_append.2 (.inl h)
          · exact List.mem_append.2 (.inr (by simp [h]))
        rcases List.mem_cons.1 ((hab y).2 h3) with h | h
        · exact absurd h (hbx y hy)
        · exact h⟩
      simp only [List.length_append, List.length_cons] at this ⊢
      omega
  have e : ∀ x, x ∈ NS' ↔ x ∈ NS.filter p := fun x => by rw [h, List.mem_filter]
  exact Nat.le_antisymm (key hu2 (hu.filter p) e) (key (hu.filter p) hu2 fun x => (e x).symm)
/-- How many keys are left. -/
def leftN (L : List En) (NS : List Nt) (ct ck : Int) : Nat := (restE L ct ck).length + NS.length
theorem step_left {L0 L : List En} (h0 : OkL L0) (hL : OkL L) : ∀ (n : Nat) {NS : List Nt} {T : List En} {ct ck : Int}, TellI L0 L NS T ct ck →
    ∃ R, R = stepS n (restE L ct ck) NS T ct ck ∧ UpN R.1 ∧ R.1.length ≤ NS.length ∧ (R.2.2.2.2 = true → R.2.1 = L0) ∧ (R.2.2.2.2 = false → TellI L0 L R.1 R.2.1 R.2.2.1 R.2.2.2.1 ∧ leftN L R.1 R.2.2.1 R.2.2.2.1 + n ≤ leftN L NS ct ck)
  | 0, NS, T, ct, ck, hT => ⟨_, rfl, hT.up, Nat.le_refl _, (fun e => by cases e), fun _ => ⟨hT, Nat.le_refl _⟩⟩
  | n + 1, NS, T, ct, ck, hT => by
    rcases hT.one h0 hL n with ⟨h1, h2, h3, h4⟩ | ⟨t, k, NS', T', h1, h2, h3, h4, h5, h6, _, h7, h8⟩
    · exact ⟨_, rfl, by rw [h2]; exact hT.up, by rw [h2]; exact Nat.le_refl _, fun _ => by rw [h2]; exact h4, fun e => by rw [h2] at e; cases e⟩
    · obtain ⟨R, r1, r2, r3, r4, r5⟩ := step_left h0 hL n h7
      refine ⟨R, by rw [h8]; exact r1, r2, Nat.le_trans r3 h5, r4, fun e => ⟨(r5 e).1, ?_⟩⟩
      have h9 := (r5 e).2
      have hlt : leftN L NS' (bhT t k) (bhK k) + 1 ≤ leftN L NS ct ck := by
        unfold leftN
        rw [rest_behind (fun e he => (hL.num e he).2) h4, same_len hT.up h7.up h6]
        have a1 := List.length_filter_le (fun e : En => lessK t k e.t e.x.k) (restE L ct ck)
        have a2 := List.length_filter_le (fun x : Nt => lessK t k x.e.t x.e.x.k) NS
        rcases ((least_next (rest_ok hL ct ck).pair hT.up).yes _ h1).1 with ⟨e, he, q⟩ | ⟨x, hx, q⟩
        · injection q with q1 q2
          have := filter_less (P := fun e : En => lessK t k e.t e.x.k) he (by show lessK t k e.t e.x.k = false; rw [← q1, ← q2, lessK_irr])
          omega
        · injection q with q1 q2
          have := filter_less (P := fun x : Nt => lessK t k x.e.t x.e.x.k) hx (by show lessK t k x.e.t x.e.x.k = false; rw [← q1, ← q2, lessK_irr])
          omega
      omega
def SeqT (ts : Tb) : Prop := ∀ i, i < 4 → ∀ x ∈ ts i, 1 ≤ x.c.s
theorem SeqT.put {q : Int} {ts : Tb} {x : Wr} (h : SeqT ts) (h0 : 1 ≤ q) : SeqT (putW q ts x) := fun i hi y hy => by
  unfold putW at hy
  split at hy
  · exact h i hi y hy
  · unfold Tb.upd at hy
    split at hy
    · rename_i e
      rcases mem_ins hy with rfl | hy
      · exact h0
      · subst e
        exact h _ hi y hy
    · exact h i hi y hy
theorem SeqT.force {q : Int} : ∀ (ws : List Wr) {ts : Tb}, SeqT ts → 1 ≤ q → SeqT (forceT q ts ws)
  | [], _, h, _ => h
  | _ :: ws, _, h, h0 => SeqT.force ws (h.put h0) h0
theorem SeqT.none : SeqT fun _ => [] := fun _ _ _ h => by cases h
theorem SeqT.ents {ts : Tb} (h : SeqT ts) : ∀ e ∈ ents ts, 1 ≤ e.x.c.s := fun e he => by
  unfold Go.Proofs.Ytejpjbmbcdgomaa.ents at he
  simp only [allE, tag, List.mem_append, List.mem_map, List.not_mem_nil, or_false] at he
  rcases he with ⟨x, hx, rfl⟩ | ⟨x, hx, rfl⟩ | ⟨x, hx, rfl⟩ | ⟨x, hx, rfl⟩
  · exact h 0 (by omega) x hx
  · exact h 1 (by omega) x hx
  · exact h 2 (by omega) x hx
  · exact h 3 (by omega) x hx
theorem live_tk {ts : Tb} (hn : NumT ts) (hs : SeqT ts) : ∀ e ∈ liveE (ents ts), tkE e ∧ e.x.c.dead = false := fun e he => by
  unfold liveE at he
  obtain ⟨h1, h2⟩ := List.mem_filter.1 he
  obtain ⟨a, b, c, d, f⟩ := NumT.ents hn e h1
  exact ⟨⟨a, b, c, hs.ents e h1, f⟩, by simpa using h2⟩
/-- The text of what was taken is the text of the store that it was taken of. -/
theorem text_all {ts : Tb} (hu : ∀ i, i < 4 → Up (ts i)) (hn : NumT ts) (hs : SeqT ts) : putB (fT (liveE (ents ts))) = putB ts := by
  have hp := (okL_ents hu hn).pair
  have h1 := (fT_ents hp (live_tk hn hs) _ (Nat.le_refl _)).1
  rw [List.take_length] at h1
  have h2 : liveE (liveE (ents ts)) = liveE (ents ts) := by
    unfold liveE
    rw [List.filter_filter]
    exact List.filter_congr fun e _ => by simp
  unfold putB
  rw [← liveE_ents, ← liveE_ents, h1, h2]
theorem swbefore_done {w : World} {xb : Nat} {so : Option Addr} {ct ck : Int} {nv tv : Value} (h : SwM w xb so ct ck nv tv true) (A : Option Addr) (n c : Nat) : Calls Try.prog 39 #[.pointer (some ⟨xb, 0, none⟩), .slice A n c] w fun e w' => e = .returned (.tuple #[]) ∧ w = w' := by
  have HD := Lib.hid (swdone_any h)
  clear h
  go_enter Try.func39, Try.ntmps39
  go_wp2_with fail
  refine Calls.mono HD.out ?_
  rintro e w1 ⟨rfl, rfl⟩
  go_wp2_with fail
  exact bodyPost_ret (v := .tuple #[]) (by simp [results, Try.results39, go_sem]) rfl ⟨rfl, rfl⟩
set_option maxHeartbeats 4000000 in
/-- A document's sweep that is done stays as it is. -/
theorem refbefore_done {w : World} {A B : Option Addr} {n c m cb : Nat} {yt yk : Int} {b : Bool} : Calls Try.prog 40 #[.agg #[.slice A n c, .int .i64 yt, .int .i64 yk, .bool b, .bool true], .slice B m cb] w fun e w' => e = .returned (.agg #[.slice A n c, .int .i64 yt, .int .i64 yk, .bool b, .bool true]) ∧ Below w.heap.size w w' := by
  obtain ⟨p2, hp2⟩ : ∃ p2, p2 = w.heap.size := ⟨_, rfl⟩
  obtain ⟨p4, hp4⟩ : ∃ p4, p4 = p2 + 1 := ⟨_, rfl⟩
  obtain ⟨W1, hW1⟩ : ∃ W1, W1 = (w.alloc (.cells #[.slice A n c, .int .i64 yt, .int .i64 yk, .bool b, .bool true] 83)).alloc (.cells #[.slice none 0 0, .int .i64 0, .int .i64 0, .bool false, .bool false] 83) := ⟨_, rfl⟩
  have h3 := blocks2 w (.cells #[.slice A n c, .int .i64 yt, .int .i64 yk, .bool b, .bool true] 83) (.cells #[.slice none 0 0, .int .i64 0, .int .i64 0, .bool false, .bool false] 83)
  rw [← hW1, ← hp2, ← hp4] at h3
  obtain ⟨g1, g2, _, gb⟩ := h3
  rw [hp2] at gb
  have z0 : W1.cell? ⟨p2, 0, none⟩ = some (.slice A n c) := by rw [cell_of_row _ _ 0 _ _ _ g1]; rfl
  have z1 : W1.cell? ⟨p2, 1, none⟩ = some (.int .i64 yt) := by rw [cell_of_row _ _ 1 _ _ _ g1]; rfl
  have z2 : W1.cell? ⟨p2, 2, none⟩ = some (.int .i64 yk) := by rw [cell_of_row _ _ 2 _ _ _ g1]; rfl
  have z3 : W1.cell? ⟨p2, 3, none⟩ = some (.bool b) := by rw [cell_of_row _ _ 3 _ _ _ g1]; rfl
  have z4 : W1.cell? ⟨p2, 4, none⟩ = some (.bool true) := by rw [cell_of_row _ _ 4 _ _ _ g1]; rfl
  have r0 : W1.cell? ⟨p4, 0, none⟩ = some (.slice none 0 0) := by rw [cell_of_row _ _ 0 _ _ _ g2]; rfl
  have r1 : W1.cell? ⟨p4, 1, none⟩ = some (.int .i64 0) := by rw [cell_of_row _ _ 1 _ _ _ g2]; rfl
  have r2 : W1.cell? ⟨p4, 2, none⟩ = some (.int .i64 0) := by rw [cell_of_row _ _ 2 _ _ _ g2]; rfl
  have r3 : W1.cell? ⟨p4, 3, none⟩ = some (.bool false) := by rw [cell_of_row _ _ 3 _ _ _ g2]; rfl
  have r4 : W1.cell? ⟨p4, 4, none⟩ = some (.bool false) := by rw [cell_of_row _ _ 4 _ _ _ g2]; rfl
  have rf := frozen_of g2
  obtain ⟨W9, hW9⟩ : ∃ W9, W9 = ((((W1.setCell ⟨p4, 0, none⟩ (.slice A n c)).setCell ⟨p4, 1, none⟩ (.int .i64 yt)).setCell ⟨p4, 2, none⟩ (.int .i64 yk)).setCell ⟨p4, 3, none⟩ (.bool b)).setCell ⟨p4, 4, none⟩ (.bool true) := ⟨_, rfl⟩
  have hb9 : W9.heap[p4]? = some (.cells #[.slice A n c, .int .i64 yt, .int .i64 yk, .bool b, .bool true] 83 (0, 0)) := by rw [hW9]; exact set5c _ _ _ _ _ g2
  have hlo4 : w.heap.size ≤ p4 := by omega
  have hbel : Below w.heap.size w W9 := by rw [hW9]; exact ((((gb.setCell (p := ⟨p4, 0, none⟩) hlo4 _).setCell (p := ⟨p4, 1, none⟩) hlo4 _).setCell (p := ⟨p4, 2, none⟩) hlo4 _).setCell (p := ⟨p4, 3, none⟩) hlo4 _).setCell (p := ⟨p4, 4, none⟩) hlo4 _
  have HE9 := Lib.hid (And.intro hW9 (And.intro hb9 hbel))
  have HW := Lib.hid (And.intro hW1 (And.intro hp2 hp4))
  clear hW9 hb9 hlo4 hbel hW1 hp2 hp4 g1 g2 gb
  go_enter Try.func40, Try.ntmps40
  go_upto_region 1 with fail
  rw [← HW.out.1, ← HW.out.2.1, ← HW.out.2.2]
  go_wp2_with fail
  go_loopw [5, 6, 7, 8, 9, 10, 11, 12, 13, 14, 15, 16, 17, 18, 19, 20, 21, 22, 23, 24, 25, 26, 27, 28, 29, 30, 31, 32, 33, 34, 35, 36, 37, 38, 39, 40, 41, 42, 43, 44, 45, 46, 47, 48, 49, 50, 51, 52, 53, 54, 55, 56] (fun ix _ _ _ _ _ _ _ _ _ _ _ _ _ _ _ _ _ _ _ _ _ _ _ _ _ _ _ _ _ _ _ _ _ _ _ _ _ _ _ _ _ _ _ _ _ _ _ _ _ _ _ wr => ix = .int .i64 0 ∧ wr = W1) (fun ix _ _ _ _ _ _ _ _ _ _ _ _ _ _ _ _ _ _ _ _ _ _ _ _ _ _ _ _ _ _ _ _ _ _ _ _ _ _ _ _ _ _ _ _ _ _ _ _ _ _ _ wr => 0)
  case atStart => exact ⟨rfl, rfl⟩
  case round =>
    obtain ⟨rfl, rfl⟩ := hrel
    by_cases hm : 0 < m
    · have d1 : (0 : Int) < (m : Int) := by omega
      clear hm
      go_wp2_with fail
      rw [← HE9.out.1]
      have q0 : W9.cell? ⟨p4, 0, none⟩ = some (.slice A n c) := by rw [cell_of_row _ _ 0 _ _ _ HE9.out.2.1]; rfl
      have q1 : W9.cell? ⟨p4, 1, none⟩ = some (.int .i64 yt) := by rw [cell_of_row _ _ 1 _ _ _ HE9.out.2.1]; rfl
      have q2 : W9.cell? ⟨p4, 2, none⟩ = some (.int .i64 yk) := by rw [cell_of_row _ _ 2 _ _ _ HE9.out.2.1]; rfl
      have q3 : W9.cell? ⟨p4, 3, none⟩ = some (.bool b) := by rw [cell_of_row _ _ 3 _ _ _ HE9.out.2.1]; rfl
      have q4 : W9.cell? ⟨p4, 4, none⟩ = some (.bool true) := by rw [cell_of_row _ _ 4 _ _ _ HE9.out.2.1]; rfl
      exact bodyPost_ret (v := .agg #[.slice A n c, .int .i64 yt, .int .i64 yk, .bool b, .bool true]) (by simp [results, Try.results40, go_sem, q0, q1, q2, q3, q4]) rfl ⟨rfl, HE9.out.2.2⟩
    · have d1 : ¬ (0 : Int) < (m : Int) := by omega
      clear hm
      go_wp2_with fail
      rw [← HE9.out.1]
      have q0 : W9.cell? ⟨p4, 0, none⟩ = some (.slice A n c) := by rw [cell_of_row _ _ 0 _ _ _ HE9.out.2.1]; rfl
      have q1 : W9.cell? ⟨p4, 1, none⟩ = some (.int .i64 yt) := by rw [cell_of_row _ _ 1 _ _ _ HE9.out.2.1]; rfl
      have q2 : W9.cell? ⟨p4, 2, none⟩ = some (.int .i64 yk) := by rw [cell_of_row _ _ 2 _ _ _ HE9.out.2.1]; rfl
      have q3 : W9.cell? ⟨p4, 3, none⟩ = some (.bool b) := by rw [cell_of_row _ _ 3 _ _ _ HE9.out.2.1]; rfl
      have q4 : W9.cell? ⟨p4, 4, none⟩ = some (.bool true) := by rw [cell_of_row _ _ 4 _ _ _ HE9.out.2.1]; rfl
      exact bodyPost_ret (v := .agg #[.slice A n c, .int .i64 yt, .int .i64 yk, .bool b, .bool true]) (by simp [results, Try.results40, go_sem, q0, q1, q2, q3, q4]) rfl ⟨rfl, HE9.out.2.2⟩
set_option maxHeartbeats 4000000 in
theorem refstep_done {w : World} {A AE : Option Addr} {m c nE cE : Nat} {yt yk last : Int} {b : Bool} (n : Int) : Calls Try.prog 43 #[.agg #[.slice A m c, .int .i64 yt, .int .i64 yk, .bool b, .bool true], .agg #[.slice AE nE cE, .int .i64 last], .int .i64 n] w fun e w' => e = .returned (.agg #[.slice A m c, .int .i64 yt, .int .i64 yk, .bool b, .bool true]) ∧ Below w.heap.size w w' := by
  obtain ⟨p2, hp2⟩ : ∃ p2, p2 = w.heap.size := ⟨_, rfl⟩
  obtain ⟨p3, hp3⟩ : ∃ p3, p3 = p2 + 1 := ⟨_, rfl⟩
  obtain ⟨p4, hp4⟩ : ∃ p4, p4 = p3 + 1 := ⟨_, rfl⟩
  obtain ⟨W1, hW1⟩ : ∃ W1, W1 = ((w.alloc (.cells #[.slice A m c, .int .i64 yt, .int .i64 yk, .bool b, .bool true] 83)).alloc (.cells #[.slice AE nE cE, .int .i64 last] 31)).alloc (.cells #[.slice none 0 0, .int .i64 0, .int .i64 0, .bool false, .bool false] 83) := ⟨_, rfl⟩
  have h3 := blocks3 w (.cells #[.slice A m c, .int .i64 yt, .int .i64 yk, .bool b, .bool true] 83) (.cells #[.slice AE nE cE, .int .i64 last] 31) (.cells #[.slice none 0 0, .int .i64 0, .int .i64 0, .bool false, .bool false] 83)
  rw [← hW1, ← hp2, ← hp3, ← hp4] at h3
  obtain ⟨g1, _, g2, _, gb⟩ := h3
  rw [hp2] at gb
  have z0 : W1.cell? ⟨p2, 0, none⟩ = some (.slice A m c) := by rw [cell_of_row _ _ 0 _ _ _ g1]; rfl
  have z1 : W1.cell? ⟨p2, 1, none⟩ = some (.int .i64 yt) := by rw [cell_of_row _ _ 1 _ _ _ g1]; rfl
  have z2 : W1.cell? ⟨p2, 2, none⟩ = some (.int .i64 yk) := by rw [cell_of_row _ _ 2 _ _ _ g1]; rfl
  have z3 : W1.cell? ⟨p2, 3, none⟩ = some (.bool b) := by rw [cell_of_row _ _ 3 _ _ _ g1]; rfl
  have z4 : W1.cell? ⟨p2, 4, none⟩ = some (.bool true) := by rw [cell_of_row _ _ 4 _ _ _ g1]; rfl
  have r0 : W1.cell? ⟨p4, 0, none⟩ = some (.slice none 0 0) := by rw [cell_of_row _ _ 0 _ _ _ g2]; rfl
  have r1 : W1.cell? ⟨p4, 1, none⟩ = some (.int .i64 0) := by rw [cell_of_row _ _ 1 _ _ _ g2]; rfl
  have r2 : W1.cell? ⟨p4, 2, none⟩ = some (.int .i64 0) := by rw [cell_of_row _ _ 2 _ _ _ g2]; rfl
  have r3 : W1.cell? ⟨p4, 3, none⟩ = some (.bool false) := by rw [cell_of_row _ _ 3 _ _ _ g2]; rfl
  have r4 : W1.cell? ⟨p4, 4, none⟩ = some (.bool false) := by rw [cell_of_row _ _ 4 _ _ _ g2]; rfl
  have rf := frozen_of g2
  obtain ⟨W9, hW9⟩ : ∃ W9, W9 = ((((W1.setCell ⟨p4, 0, none⟩ (.slice A m c)).setCell ⟨p4, 1, none⟩ (.int .i64 yt)).setCell ⟨p4, 2, none⟩ (.int .i64 yk)).setCell ⟨p4, 3, none⟩ (.bool b)).setCell ⟨p4, 4, none⟩ (.bool true) := ⟨_, rfl⟩
  have hb9 : W9.heap[p4]? = some (.cells #[.slice A m c, .int .i64 yt, .int .i64 yk, .bool b, .bool true] 83 (0, 0)) := by rw [hW9]; exact set5c _ _ _ _ _ g2
  have hlo4 : w.heap.size ≤ p4 := by omega
  have hbel : Below w.heap.size w W9 := by rw [hW9]; exact ((((gb.setCell (p := ⟨p4, 0, none⟩) hlo4 _).setCell (p := ⟨p4, 1, none⟩) hlo4 _).setCell (p := ⟨p4, 2, none⟩) hlo4 _).setCell (p := ⟨p4, 3, none⟩) hlo4 _).setCell (p := ⟨p4, 4, none⟩) hlo4 _
  have HE9 := Lib.hid (And.intro hW9 (And.intro hb9 hbel))
  have HW := Lib.hid (And.intro hW1 (And.intro hp2 (And.intro hp3 hp4)))
  clear hW9 hb9 hlo4 hbel hW1 hp2 hp3 hp4 g1 g2 gb
  go_enter Try.func43, Try.ntmps43
  go_upto_region 1 with fail
  rw [← HW.out.1, ← HW.out.2.1, ← HW.out.2.2.1, ← HW.out.2.2.2]
  go_wp2_with fail
  go_loopw [7, 8, 9, 10, 11, 12, 13, 14, 15, 16, 17, 18, 19, 20, 21, 22, 23, 24, 25, 26, 27, 28, 29, 30, 31, 32, 33, 34, 35, 36, 37, 38, 39, 40, 41, 42, 43, 44, 45, 46, 47, 48, 49, 50, 51, 52, 53, 54, 55, 56, 57, 58, 59, 60, 61, 62, 63, 64, 65, 66, 67, 68, 69, 70, 71, 72, 73, 74, 75, 76, 77, 78, 79, 80, 81, 82, 83, 84, 85, 86, 87, 88, 89, 90, 91] (fun ix _ _ _ _ _ _ _ _ _ _ _ _ _ _ _ _ _ _ _ _ _ _ _ _ _ _ _ _ _ _ _ _ _ _ _ _ _ _ _ _ _ _ _ _ _ _ _ _ _ _ _ _ _ _ _ _ _ _ _ _ _ _ _ _ _ _ _ _ _ _ _ _ _ _ _ _ _ _ _ _ _ _ _ _ wr => ix = .int .i64 0 ∧ wr = W1) (fun ix _ _ _ _ _ _ _ _ _ _ _ _ _ _ _ _ _ _ _ _ _ _ _ _ _ _ _ _ _ _ _ _ _ _ _ _ _ _ _ _ _ _ _ _ _ _ _ _ _ _ _ _ _ _ _ _ _ _ _ _ _ _ _ _ _ _ _ _ _ _ _ _ _ _ _ _ _ _ _ _ _ _ _ _ wr => 0)
  case atStart => exact ⟨rfl, rfl⟩
  case round =>
    obtain ⟨rfl, rfl⟩ := hrel
    by_cases hm : 0 < n
    · have d1 : (0 : Int) < n := hm
      clear hm
      go_wp2_with fail
      rw [← HE9.out.1]
      have q0 : W9.cell? ⟨p4, 0, none⟩ = some (.slice A m c) := by rw [cell_of_row _ _ 0 _ _ _ HE9.out.2.1]; rfl
      have q1 : W9.cell? ⟨p4, 1, none⟩ = some (.int .i64 yt) := by rw [cell_of_row _ _ 1 _ _ _ HE9.out.2.1]; rfl
      have q2 : W9.cell? ⟨p4, 2, none⟩ = some (.int .i64 yk) := by rw [cell_of_row _ _ 2 _ _ _ HE9.out.2.1]; rfl
      have q3 : W9.cell? ⟨p4, 3, none⟩ = some (.bool b) := by rw [cell_of_row _ _ 3 _ _ _ HE9.out.2.1]; rfl
      have q4 : W9.cell? ⟨p4, 4, none⟩ = some (.bool true) := by rw [cell_of_row _ _ 4 _ _ _ HE9.out.2.1]; rfl
      exact bodyPost_ret (v := .agg #[.slice A m c, .int .i64 yt, .int .i64 yk, .bool b, .bool true]) (by simp [results, Try.results43, go_sem, q0, q1, q2, q3, q4]) rfl ⟨rfl, HE9.out.2.2⟩
    · have d1 : ¬ (0 : Int) < n := hm
      clear hm
      go_wp2_with fail
      rw [← HE9.out.1]
      have q0 : W9.cell? ⟨p4, 0, none⟩ = some (.slice A m c) := by rw [cell_of_row _ _ 0 _ _ _ HE9.out.2.1]; rfl
      have q1 : W9.cell? ⟨p4, 1, none⟩ = some (.int .i64 yt) := by rw [cell_of_row _ _ 1 _ _ _ HE9.out.2.1]; rfl
      have q2 : W9.cell? ⟨p4, 2, none⟩ = some (.int .i64 yk) := by rw [cell_of_row _ _ 2 _ _ _ HE9.out.2.1]; rfl
      have q3 : W9.cell? ⟨p4, 3, none⟩ = some (.bool b) := by rw [cell_of_row _ _ 3 _ _ _ HE9.out.2.1]; rfl
      have q4 : W9.cell? ⟨p4, 4, none⟩ = some (.bool true) := by rw [cell_of_row _ _ 4 _ _ _ HE9.out.2.1]; rfl
      exact bodyPost_ret (v := .agg #[.slice A m c, .int .i64 yt, .int .i64 yk, .bool b, .bool true]) (by simp [results, Try.results43, go_sem, q0, q1, q2, q3, q4]) rfl ⟨rfl, HE9.out.2.2⟩
end Go.Proofs.Ytejpjbmbcdgomaa
