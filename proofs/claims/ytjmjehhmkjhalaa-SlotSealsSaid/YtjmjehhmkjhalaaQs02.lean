/- DDoes: put together. -/
import Derived.Test.YtjmjehhmkjhalaaQb15
import Derived.Test.YtjmjehhmkjhalaaQb22
/- Operations of a region that draws its order, by what they come to. -/
namespace Go.Proofs.Ytjmjehhmkjhalaa
open Go Go.RowKit

section
variable {P : Program} {ops : Array Oper} {Q : Exit → Act → World → Prop} {o : Oper} {w : World} {d : List Past} {a : Act}
theorem does_is {v : Value} (hw : Region.wanted o (yielded ops a.tmps) = true) (h : (execOp a.eval o).run P w = .ok (.value v) w) : Does P ops Q o (Say.is v).fact w d a := fun K hK => by
  rw [if_pos hw]
  unfold Oper.wp
  rw [h]
  exact hK v w rfl (Below.refl _ _)
end
section
variable {ops : Array Oper} {Q : Exit → Act → World → Prop} {o : Oper} {w : World} {d : List Past} {a : Act}
theorem does_load {ty : TypeId} {b off : Nat} {v : Value} (x : Operand) (hw : Region.wanted o (yielded ops a.tmps) = true) (ho : o.op = .load ty x) (hx : a.eval x = .pointer (some ⟨b, off, none⟩)) (hv : (loadVar ty ⟨b, off, none⟩).run Try.prog w = .ok v w) : Does Try.prog ops Q o (Say.is v).fact w d a := fun K hK => by
  rw [if_pos hw]
  exact wp_load_val x ho hx v hv (hK v w rfl (Below.refl _ _))
theorem does_neq {x y : Operand} (z : Sx) (hw : Region.wanted o (yielded ops a.tmps) = true) (ho : o.op = .binOp .neq 75 x y 75) (hx : a.eval x = z.val) (hy : a.eval y = z.val) : Does Try.prog ops Q o (Say.is (.bool false)).fact w d a := by
  have he1 := neq_sx z z w
  rw [decide_eq_true rfl] at he1
  have he2 := guard_sx .neq x y z z w
  refine does_is hw ?_
  unfold execOp
  simp only [ho, hx, hy, Sem.run_bind, he1, he2, Result.andThen_ok]
  rfl
end
end Go.Proofs.Ytjmjehhmkjhalaa
