/- DSure, DKept, DCrash, DDown: put together. -/
import Derived.Test.YtjmjehhmkjhalaaQb16
/- Sure. -/
namespace Go.Proofs.Ytjmjehhmkjhalaa
set_option maxRecDepth 100000
open Go.RowKit

section
variable {w : World} {F : Nat → Prop} {g : Nat} {p : Pw} {v : Value} {L : List DM}
end
end Go.Proofs.Ytjmjehhmkjhalaa

/- What is kept of a write. -/
namespace Go.Proofs.Ytjmjehhmkjhalaa
set_option maxRecDepth 100000
open Go.RowKit

structure Kp where
  dev : Int
  n : Int
  tear : Int
def Kp.vals (k : Kp) : List Value := [.int .i64 k.dev, .int .i64 k.n, .int .i64 k.tear]
theorem Kp.vlen (k : Kp) : k.vals.length = 3 := rfl
abbrev Kps (w : World) (A : Option Addr) (l : List Kp) : Prop := RowAt Kp.vals 3 w A l.length l
def tornM (k : Kp) : Int := if 0 < k.tear ∧ k.tear < 64 then k.tear else 64
def isK (d n : Int) (k : Kp) : Bool := k.dev == d && k.n == n
def keptM (l : List Kp) (d n : Int) : Int := match l.find? (isK d n) with
  | none => 0
  | some k => tornM k
theorem Kps.cell {w : World} {A : Option Addr} {l : List Kp} (h : Kps w A l) (hn : 0 < l.length) : ∃ b off, A = some ⟨b, off, none⟩ ∧ ∀ q (hq : q < l.length), w.cell? ⟨b, off + q * 3, none⟩ = some (.int .i64 l[q].dev) ∧ w.cell? ⟨b, off + q * 3 + 1, none⟩ = some (.int .i64 l[q].n) ∧ w.cell? ⟨b, off + q * 3 + 2, none⟩ = some (.int .i64 l[q].tear) := by
  obtain ⟨b, off, e, hc⟩ := RowAt.cells h Kp.vlen hn
  exact ⟨b, off, e, fun q hq => ⟨hc q hq 0 _ (by omega) rfl, hc q hq 1 _ (by omega) rfl, hc q hq 2 _ (by omega) rfl⟩⟩
end Go.Proofs.Ytjmjehhmkjhalaa

/- Crash. -/
namespace Go.Proofs.Ytjmjehhmkjhalaa
set_option maxRecDepth 100000
open Go.RowKit

/-- The first bytes of one sector, the rest of another. -/
def mixL (a b : List Nat) (k : Nat) : List Nat := b.take k ++ a.drop k
def mixS (x y : Sx) (k : Nat) : Sx := ⟨y.l.take k ++ x.l.drop k, by rw [List.length_append, List.length_take, List.length_drop, x.len, y.len]; omega, fun z hz => by
  rcases List.mem_append.1 hz with h | h
  · exact y.small z (List.mem_of_mem_take h)
  · exact x.small z (List.mem_of_mem_drop h)⟩
/-- What a crash makes of what is sure, by the first q writes. -/
def crashW (kf : Nat → Nat) (f : Int → Sx) (l : List Wx) : Nat → Int → Sx
  | 0 => f
  | q + 1 => if kf q = 0 then crashW kf f l q else upd (crashW kf f l q) (l.getD q ⟨0, Sx.zero⟩).i (mixS (crashW kf f l q (l.getD q ⟨0, Sx.zero⟩).i) (l.getD q ⟨0, Sx.zero⟩).x (kf q))
section
variable {w : World} {F : Nat → Prop} {g : Nat} {p : Pw} {L : List DM}
end
end Go.Proofs.Ytjmjehhmkjhalaa

/- The set's Crash. -/
namespace Go.Proofs.Ytjmjehhmkjhalaa
set_option maxRecDepth 100000
open Go.RowKit

def kfOf (l : List Kp) (j : Nat) (q : Nat) : Nat := (keptM l (j : Int) (q : Int)).toNat
/-- What a crash makes of a device. -/
def crashDk (l : List Kp) (j : Nat) (d : Dk) : Dk := ⟨d.size, crashW (kfOf l j) d.sure d.waits d.waits.length, []⟩
/-- The first q devices have crashed. -/
def Crashed (l : List Kp) (L L' : List DM) (q : Nat) : Prop :=
  L'.length = L.length ∧ ∀ i (h : i < L.length) (h' : i < L'.length), (i < q → L'[i].dk = crashDk l i L[i].dk ∧ L'[i].n ≤ L[i].n + L[i].dk.waits.length) ∧ (q ≤ i → L'[i] = L[i])
theorem Crashed.next {l : List Kp} {L L' : List DM} {q : Nat} (h : Crashed l L L' q) (hq : q < L.length) (d : DM) (h1 : d.dk = crashDk l q L[q].dk) (h2 : d.n ≤ L[q].n + L[q].dk.waits.length) : Crashed l L (L'.set q d) (q + 1) := by
  refine ⟨by rw [List.length_set]; exact h.1, fun i hi hi' => ?_⟩
  rw [List.length_set] at hi'
  rw [List.getElem_set]
  by_cases e : q = i
  · subst e
    rw [if_pos rfl]
    exact ⟨fun _ => ⟨h1, h2⟩, fun e => by omega⟩
  · rw [if_neg e]
    have := h.2 i hi hi'
    exact ⟨fun e2 => this.1 (by omega), fun e2 => this.2 (by omega)⟩
section
variable {w : World} {F : Nat → Prop} {g : Nat} {p : Pw} {v : Value} {L : List DM}
end
end Go.Proofs.Ytjmjehhmkjhalaa
