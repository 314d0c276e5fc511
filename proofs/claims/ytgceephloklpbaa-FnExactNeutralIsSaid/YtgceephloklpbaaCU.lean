/- What the canonical text of a term answers. -/
import Derived.Test.YtgceephloklpbaaC3
import Derived.Test.YtgceephloklpbaaB
import Derived.Test.YtgceephloklpbaaL
namespace Go.Proofs.Ytgceephloklpbaa
set_option linter.unusedVariables false
open Go.RowKit

/-- The text of a term, if there is one. -/
def ctS : Option Tm → List UInt8
  | some t => wrTm t
  | none => []
def canO (t : Tm) : Option Tm := if t.atoms ≤ 400 then some (canT t) else none
def CtPost (o : Option Tm) (w : World) (e : Ending) (w' : World) : Prop :=
  e = .returned (.tuple #[.string ⟨(ctS o).toArray⟩, .bool o.isSome]) ∧ Below w.heap.size w w'

def cnO (o : Option Tm) : Option Tm := o.map canT
end Go.Proofs.Ytgceephloklpbaa
