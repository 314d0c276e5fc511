/- Terms with depths outlive draws. -/
import Derived.Test.YtjcdclnaplojcaaGreatDoorL
import Derived.Test.YtjcdclnaplojcaaGreatDoorO
namespace Go.Proofs.YtjcdclnaplojcaaGreatDoor
set_option linter.unusedVariables false
open Go.RowKit

theorem DAt.drewN {w : World} {P : Nat → Prop} {t : DB} {v : Value} (h : DAt w P t v) (n : Nat) : DAt (w.drewN n) P t v := DAt.mono (w := w) (w' := w.drewN n) (P := P) (Q := P) (fun q hq => ⟨hq, rfl⟩) h

theorem below_drewN' {B : Nat} {a w : World} (h : Below B a w) (n : Nat) : Below B a (w.drewN n) := ⟨h.os, h.tape, h.output, h.size, h.block⟩

end Go.Proofs.YtjcdclnaplojcaaGreatDoor
