/- DSt, DAlive, DLong, DArmed: put together. -/
import Derived.Test.YtjmjehhmkjhalaaQb20
/- A set of devices, by what its devices are. -/
namespace Go.Proofs.Ytjmjehhmkjhalaa
set_option maxRecDepth 100000
open Go.RowKit

/-- A set in memory: its power, its devices; K: how many writes it has seen at most. -/
def St (w : World) (F : Nat → Prop) (g : Nat) (p : Pw) (ds : List Dk) (K : Nat) : Prop :=
  ∃ v L, SetM w F g p v L ∧ L.map DM.dk = ds ∧ (∀ d ∈ L, d.n + d.dk.waits.length ≤ K) ∧ ∀ d ∈ ds, (d.size ≤ 4096 ∧ ∀ y ∈ d.waits, WfI y.i)
theorem St.below {w w' : World} {F : Nat → Prop} {g : Nat} {p : Pw} {ds : List Dk} {K : Nat} (h : St w F g p ds K) (hb : Below w.heap.size w w') : St w' F g p ds K := by
  obtain ⟨v, L, h1, h2⟩ := h
  exact ⟨v, L, h1.below hb, h2⟩
theorem St.mono {w : World} {F : Nat → Prop} {g : Nat} {p : Pw} {ds : List Dk} {K K' : Nat} (h : St w F g p ds K) (hk : K ≤ K') : St w F g p ds K' := by
  obtain ⟨v, L, h1, h2, h3, h4⟩ := h
  exact ⟨v, L, h1, h2, fun d hd => Nat.le_trans (h3 d hd) hk, h4⟩
def Dk.more (d : Dk) (y : Wx) : Dk := ⟨d.size, d.sure, d.waits ++ [y]⟩
def Dk.flushed (d : Dk) : Dk := ⟨d.size, foldW d.sure d.waits, []⟩
def setAt (ds : List Dk) (j : Nat) (f : Dk → Dk) : List Dk := match ds[j]? with
  | none => ds
  | some d => ds.set j (f d)
/-- What a write comes to. -/
def writeM (p : Pw) (ds : List Dk) (d i : Int) (x : Sx) : Value × Pw × List Dk :=
  if hasB ds d i = false then (eRange, p, ds) else if (stepP p).1 = false then (eDown, (stepP p).2, ds) else (.nilIface, (stepP p).2, setAt ds d.toNat fun e => e.more ⟨i, x⟩)
def flushM (p : Pw) (ds : List Dk) (d : Int) : Value × Pw × List Dk :=
  if hasB ds d 0 = false then (eRange, p, ds) else if (stepP p).1 = false then (eDown, (stepP p).2, ds) else (.nilIface, (stepP p).2, setAt ds d.toNat Dk.flushed)
theorem hasB_true {ds : List Dk} {d i : Int} (h : hasB ds d i = true) : ∃ j : Nat, d = (j : Int) ∧ ∃ hj : j < ds.length, 0 ≤ i ∧ i < (ds[j].size : Int) := by
  unfold hasB at h
  simp only [Bool.and_eq_true, decide_eq_true_iff] at h
  obtain ⟨h1, h2, h3, h4⟩ := h
  have hj : d.toNat < ds.length := by omega
  refine ⟨d.toNat, by omega, hj, h3, ?_⟩
  rw [List.getElem?_eq_getElem hj] at h4
  exact h4
section
variable {w : World} {F : Nat → Prop} {g : Nat} {p : Pw} {ds : List Dk} {K : Nat}
theorem st_new (A : Option Addr) (c : Nat) (l : List Nat) (w : World) (h : Sz w A l) (hl : 1 ≤ l.length ∧ l.length ≤ 5) (hs : ∀ n ∈ l, 1 ≤ n ∧ n ≤ 4096) :
    Calls Try.prog 16 #[.slice A l.length c] w fun e w' => ∃ F g, e = .returned (.tuple #[.pointer (some ⟨g, 0, none⟩), .nilIface]) ∧ St w' F g pw0 (l.map Dk.new) 0 ∧ Chg w w' (fun _ => False) F := by
  refine Calls.mono (new_yes A c l w h hl hs) ?_
  rintro e w' ⟨F, g, v, L, rfl, h1, h2, h3, h4⟩
  refine ⟨F, g, rfl, ⟨v, L, h1, h2, fun d hd => ?_, fun d hd => ?_⟩, h4⟩
  · have h5 : d.dk ∈ l.map Dk.new := by rw [← h2]; exact List.mem_map_of_mem hd
    obtain ⟨n, _, e⟩ := List.mem_map.1 h5
    rw [h3 d hd, ← e]
    simp [Dk.new]
  · obtain ⟨n, hn, rfl⟩ := List.mem_map.1 hd
    exact ⟨(hs n hn).2, fun y hy => by cases hy⟩
theorem st_write (h : St w F g p ds K) (d i : Int) (x : Sx) (hl : ds.length ≤ 1000) (hk : K ≤ 1000000000) (hs : p.steps ≤ 1000000000) (ha : p.armed ≤ 9223372036854775807) :
    Calls Try.prog 40 #[.pointer (some ⟨g, 0, none⟩), .int .i64 d, .int .i64 i, x.val] w fun e w' => e = .returned (writeM p ds d i x).1 ∧ ∃ F', St w' F' g (writeM p ds d i x).2.1 (writeM p ds d i x).2.2 (K + 1) ∧ Chg w w' F F' := by
  obtain ⟨v, L, h1, h2, h3, h4⟩ := h
  have hLl : L.length = ds.length := by rw [← h2, List.length_map]
  unfold writeM
  by_cases hb : hasB ds d i = false
  · rw [if_pos hb]
    rw [← h2] at hb
    refine Calls.mono (write_range h1 d i x (by omega) hb) ?_
    rintro e w' ⟨rfl, hbw⟩
    exact ⟨rfl, F, St.mono (St.below ⟨v, L, h1, h2, h3, h4⟩ hbw) (by omega), Chg.of_below hbw F⟩
  · rw [if_neg hb]
    have hb' : hasB ds d i = true := by simpa using hb
    by_cases hp : (stepP p).1 = false
    · rw [if_pos hp]
      refine Calls.mono (write_down h1 d i x (by omega) (by rw [h2]; exact hb') hs ha hp) ?_
      rintro e w' ⟨rfl, h5, h6⟩
      exact ⟨rfl, F, ⟨v, L, h5, h2, fun d hd => Nat.le_succ_of_le (h3 d hd), h4⟩, h6⟩
    · rw [if_neg hp]
      have hp' : (stepP p).1 = true := by simpa using hp
      obtain ⟨j, rfl, hj, hi1, hi2⟩ := hasB_true hb'
      have hjL : j < L.length := by omega
      have hdk : L[j].dk = ds[j] := by subst h2; rw [List.getElem_map]
      have hm := h4 _ (List.getElem_mem hj)
      refine Calls.mono (write_yes h1 j hjL i x (by omega) (by rw [hdk]; exact ⟨hi1, hi2⟩) (by have := h3 _ (List.getElem_mem hjL); omega) hs ha hp') ?_
      rintro e w' ⟨rfl, F', vw, h5, h6⟩
      refine ⟨rfl, F', ⟨v, _, h5, ?_, fun d hd => ?_, ?_⟩, h6⟩
      · unfold setAt
        rw [Int.toNat_natCast, List.getElem?_eq_getElem hj, List.map_set, h2, ← hdk]
        rfl
      · rcases List.mem_or_eq_of_mem_set hd with e | e
        · have := h3 d e; omega
        · have := h3 _ (List.getElem_mem hjL)
          rw [e]
          simp only [List.length_append, List.length_singleton]
          omega
      · intro d hd
        unfold setAt at hd
        rw [Int.toNat_natCast, List.getElem?_eq_getElem hj] at hd
        rcases List.mem_or_eq_of_mem_set hd with e | e
        · exact h4 d e
        · rw [e]
          refine ⟨hm.1, fun y hy => ?_⟩
          rcases List.mem_append.1 hy with e2 | e2
          · exact hm.2 y e2
          · rw [List.mem_singleton.1 e2]
            exact wfI (i := i) ⟨by omega, by have := hm.1; omega⟩
theorem st_flush (h : St w F g p ds K) (d : Int) (hl : ds.length ≤ 1000) (hk : K ≤ 1000000000) (hs : p.steps ≤ 1000000000) (ha : p.armed ≤ 9223372036854775807) :
    Calls Try.prog 87 #[.pointer (some ⟨g, 0, none⟩), .int .i64 d] w fun e w' => e = .returned (flushM p ds d).1 ∧ St w' F g (flushM p ds d).2.1 (flushM p ds d).2.2 K ∧ Chg w w' F F := by
  obtain ⟨v, L, h1, h2, h3, h4⟩ := h
  have hLl : L.length = ds.length := by rw [← h2, List.length_map]
  unfold flushM
  by_cases hb : hasB ds d 0 = false
  · rw [if_pos hb]
    rw [← h2] at hb
    refine Calls.mono (flush_range h1 d (by omega) hb) ?_
    rintro e w' ⟨rfl, rfl⟩
    exact ⟨rfl, ⟨v, L, h1, h2, h3, h4⟩, Chg.refl _ _⟩
  · rw [if_neg hb]
    have hb' : hasB ds d 0 = true := by simpa using hb
    by_cases hp : (stepP p).1 = false
    · rw [if_pos hp]
      refine Calls.mono (flush_down h1 d (by omega) (by rw [h2]; exact hb') hs ha hp) ?_
      rintro e w' ⟨rfl, h5, h6⟩
      exact ⟨rfl, ⟨v, L, h5, h2, h3, h4⟩, h6⟩
    · rw [if_neg hp]
      have hp' : (stepP p).1 = true := by simpa using hp
      obtain ⟨j, rfl, hj, hi1, hi2⟩ := hasB_true hb'
      have hjL : j < L.length := by omega
      have hdk : L[j].dk = ds[j] := by subst h2; rw [List.getElem_map]
      have hm := h4 _ (List.getElem_mem hj)
      have h3j := h3 _ (List.getElem_mem hjL)
      refine Calls.mono (flush_yes h1 j hjL (by omega) (by rw [hdk]; omega) (by omega) (by rw [hdk]; exact hm.2) hs ha hp') ?_
      rintro e w' ⟨rfl, h5, h6⟩
      refine ⟨rfl, ⟨v, _, h5, ?_, fun d hd => ?_, ?_⟩, h6⟩
      · unfold setAt
        rw [Int.toNat_natCast, List.getElem?_eq_getElem hj, List.map_set, h2, ← hdk]
        rfl
      · rcases List.mem_or_eq_of_mem_set hd with e | e
        · exact h3 d e
        · rw [e]
          simp only [List.length_nil]
          omega
      · intro d hd
        unfold setAt at hd
        rw [Int.toNat_natCast, List.getElem?_eq_getElem hj] at hd
        rcases List.mem_or_eq_of_mem_set hd with e | e
        · exact h4 d e
        · rw [e]
          exact ⟨hm.1, fun y hy => by cases hy⟩
/-- What a crash makes of all devices. -/
def crashM (l : List Kp) (ds : List Dk) : List Dk := ds.mapIdx fun j d => crashDk l j d
theorem crashM_get (l : List Kp) (ds : List Dk) (i : Nat) (hi : i < ds.length) {h : i < (crashM l ds).length} : (crashM l ds)[i] = crashDk l i ds[i] := by simp [crashM]
theorem st_read (h : St w F g p ds K) (j : Nat) (hj : j < ds.length) (i : Int) (hl : ds.length ≤ 1000) (hk : K ≤ 1000000000) (hi : 0 ≤ i ∧ i < (ds[j].size : Int)) (hg : p.gone = false) :
    Calls Try.prog 126 #[.pointer (some ⟨g, 0, none⟩), .int .i64 (j : Int), .int .i64 i] w fun e w' => e = .returned (.tuple #[(readM ds[j] i).val, .nilIface]) ∧ Below w.heap.size w w' := by
  obtain ⟨v, L, h1, h2, h3, h4⟩ := h
  have hLl : L.length = ds.length := by rw [← h2, List.length_map]
  have hjL : j < L.length := by omega
  have hdk : L[j].dk = ds[j] := by subst h2; rw [List.getElem_map]
  have h3j := h3 _ (List.getElem_mem hjL)
  have hm := (h4 _ (List.getElem_mem hj)).1
  have := read_any h1 (by omega) j hjL i (by rw [hdk]; exact hi) (wfI (by omega)) hg (by omega)
  rw [hdk] at this
  exact this
theorem st_steps (h : St w F g p ds K) : Calls Try.prog 99 #[.pointer (some ⟨g, 0, none⟩)] w fun e w' => e = .returned (.int .i64 (p.steps : Int)) ∧ w = w' := by
  obtain ⟨v, L, h1, _⟩ := h
  exact steps_any h1
end
end Go.Proofs.Ytjmjehhmkjhalaa

/- alive: the chapter's example; long. -/
namespace Go.Proofs.Ytjmjehhmkjhalaa
set_option maxRecDepth 100000
open Go.RowKit

theorem St.lt {w : World} {F : Nat → Prop} {g : Nat} {p : Pw} {ds : List Dk} {K : Nat} (h : St w F g p ds K) : ∀ k, F k → k < w.heap.size := by
  obtain ⟨v, L, h1, _⟩ := h
  exact h1.Flt
theorem SBlk.byte {w : World} {b : Nat} {x : Sx} (h : SBlk w b x) (j : Nat) (u : Nat) (hj : x.l[j]? = some u) : w.cell? ⟨b, j, none⟩ = some (.int .u8 (u : Int)) := by
  have := h.at j (.int .u8 (u : Int)) (by
    show (valsB x.l)[j]? = _
    rw [valsB_get, hj]; rfl)
  rwa [Nat.zero_add] at this
end Go.Proofs.Ytjmjehhmkjhalaa

/- What is played, and whether it is more than is played. -/
namespace Go.Proofs.Ytjmjehhmkjhalaa
set_option maxRecDepth 100000
open Go.RowKit

/-- An act, as it lies. -/
structure Opx where
  kind : Int
  dev : Int
  n : Int
  b : Nat
  A : Option Addr
  m : Nat
  c : Nat
def Opx.vals (o : Opx) : List Value := [.int .i64 o.kind, .int .i64 o.dev, .int .i64 o.n, .int .u8 (o.b : Int), .slice o.A o.m o.c]
theorem Opx.vlen (o : Opx) : o.vals.length = 5 := rfl
abbrev Ops (w : World) (A : Option Addr) (l : List Opx) : Prop := RowAt Opx.vals 5 w A l.length l
theorem Ops.cell {w : World} {A : Option Addr} {l : List Opx} (h : Ops w A l) (hn : 0 < l.length) : ∃ b off, A = some ⟨b, off, none⟩ ∧ ∀ q (hq : q < l.length), w.cell? ⟨b, off + q * 5, none⟩ = some (.int .i64 l[q].kind) ∧ w.cell? ⟨b, off + q * 5 + 1, none⟩ = some (.int .i64 l[q].dev) ∧ w.cell? ⟨b, off + q * 5 + 2, none⟩ = some (.int .i64 l[q].n) ∧ w.cell? ⟨b, off + q * 5 + 3, none⟩ = some (.int .u8 (l[q].b : Int)) ∧ w.cell? ⟨b, off + q * 5 + 4, none⟩ = some (.slice l[q].A l[q].m l[q].c) := by
  obtain ⟨b, off, e, hc⟩ := RowAt.cells h Opx.vlen hn
  exact ⟨b, off, e, fun q hq => ⟨hc q hq 0 _ (by omega) rfl, hc q hq 1 _ (by omega) rfl, hc q hq 2 _ (by omega) rfl, hc q hq 3 _ (by omega) rfl, hc q hq 4 _ (by omega) rfl⟩⟩
def Opx.arr (o : Opx) : Array Value := #[.int .i64 o.kind, .int .i64 o.dev, .int .i64 o.n, .int .u8 (o.b : Int), .slice o.A o.m o.c]
/-- Neither many acts nor much kept. -/
def Short (l : List Opx) : Prop := l.length ≤ 81 ∧ ∀ o ∈ l, o.m ≤ 60
end Go.Proofs.Ytjmjehhmkjhalaa

/- DevArmed: the law. -/
namespace Go.Proofs.Ytjmjehhmkjhalaa
set_option maxRecDepth 100000
open Go.RowKit

/-- The power, armed for s steps. -/
structure Arms (s q : Nat) (p : Pw) : Prop where
  ia : p.ia = true
  few : p.steps ≤ q
  arm : p.armed ≤ s
  live : p.gone = false → p.armed + p.steps = s
  dead : p.gone = true → p.steps = s
theorem Arms.next {s q : Nat} {p : Pw} (h : Arms s q p) : Arms s (q + 1) p := ⟨h.ia, Nat.le_succ_of_le h.few, h.arm, h.live, h.dead⟩
theorem Arms.step {s q : Nat} {p : Pw} (h : Arms s q p) : Arms s (q + 1) (stepP p).2 ∧ (p.gone = true → (stepP p).2.steps = p.steps) := by
  obtain ⟨st, ar, ia, gn⟩ := p
  obtain ⟨h1, h2, h3, h4, h5⟩ := h
  simp only at h1 h2 h3 h4 h5
  subst h1
  unfold stepP
  cases gn with
  | true => exact ⟨⟨rfl, Nat.le_succ_of_le h2, h3, (fun h => by cases h), fun _ => h5 rfl⟩, fun _ => rfl⟩
  | false =>
    have h6 := h4 rfl
    by_cases h0 : ar = 0
    · subst h0
      simp
      exact ⟨rfl, by show st ≤ q + 1; omega, h3, (fun h => by cases h), fun _ => by show st = s; omega⟩
    · simp [h0]
      exact ⟨rfl, by show st + 1 ≤ q + 1; omega, by show ar - 1 ≤ s; omega, fun _ => by show ar - 1 + (st + 1) = s; omega, fun h => by cases h⟩
theorem Ops.later {w w' : World} {A : Option Addr} {l : List Opx} {F : Nat → Prop} (h : Ops w A l) (hc : Chg w w' (fun _ => False) F) : Ops w' A l := RowAt.ext h fun _ hp => hc.cell' hp fun e => e
end Go.Proofs.Ytjmjehhmkjhalaa
