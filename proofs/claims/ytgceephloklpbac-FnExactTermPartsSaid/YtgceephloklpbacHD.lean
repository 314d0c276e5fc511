/- The model's first word of a term. -/
import Derived.Test.YtgceephloklpbacU1
namespace Go.Proofs.Ytgceephloklpbac
set_option linter.unusedVariables false
open Go.RowKit

/-- The first word of a term. -/
def hdOf : Tm → List UInt8
  | .var _ => []
  | .lam _ _ => sLam
  | .app _ _ => sApp
theorem l1Head_tm (t : Tm) (hok : t.ok) (v : Value) (w : World) (P : Nat → Prop) (ht : TAt w P (tmTr t) v) (hP : ∀ b, P b → b < w.heap.size) :
    Calls Try.prog 46 #[v] w fun e w' => e = .returned (.string ⟨(hdOf t).toArray⟩) ∧ Below w.heap.size w w' := by
  have h := l1Head_any (tmTr t) v w P ht hP
  cases t with
  | var x =>
    have hx := isNm_ne x hok
    refine h.mono fun e w' he => ⟨?_, he.2⟩
    rw [he.1]
    exact congrArg (fun l : List UInt8 => Ending.returned (.string ⟨l.toArray⟩)) (if_pos hx)
  | lam x b => exact h
  | app f a => exact h

end Go.Proofs.Ytgceephloklpbac
