/- What the adding of names to a list answers. -/
import Derived.Test.YtjcdclnaplojcaaGreatDoorW0
import Derived.Test.YtjcdclnaplojcaaGreatDoorX
import Derived.Test.YtjcdclnaplojcaaGreatDoorT0
namespace Go.Proofs.YtjcdclnaplojcaaGreatDoor
set_option linter.unusedVariables false
open Go.RowKit

/-- What the adding of free names to a list answers. -/
def FnPost (res : List (List UInt8)) (base : Nat) (lv : Value) (w : World) (e : Ending) (w' : World) : Prop :=
  ∃ v', e = .returned v' ∧ SRow w' base v' res ∧ w.grownBy w' lv.ownBlock ∧ (v'.ownBlock = lv.ownBlock ∨ ∃ b, v'.ownBlock = some b ∧ w.heap.size ≤ b)

theorem grown_two {w w1 w2 : World} {r1 r2 : Option Nat} (h1 : w.grownBy w1 r1) (h2 : w1.grownBy w2 r2) (h : r2 = r1 ∨ ∃ b, r2 = some b ∧ w.heap.size ≤ b) : w.grownBy w2 r1 := by
  rcases h with rfl | ⟨b, rfl, hb⟩
  · exact h1.trans h2
  · refine ⟨h2.os.trans h1.os, h2.tape.trans h1.tape, h2.output.trans h1.output, Nat.le_trans h1.size h2.size, fun k hk hne => ?_⟩
    rw [h2.block k (Nat.lt_of_lt_of_le hk h1.size) (by intro e; injection e with e; omega)]
    exact h1.block k hk hne

theorem DAt.far {w w' : World} {P : Nat → Prop} {t : DB} {v : Value} {r : Option Nat} (h : DAt w P t v) (hP : ∀ b, P b → b < w.heap.size ∧ some b ≠ r) (hg : w.grownBy w' r) : DAt w' P t v :=
  h.mono fun b hb => ⟨hb, hg.block b (hP b hb).1 (hP b hb).2⟩

theorem FnPost.drew {res : List (List UInt8)} {base : Nat} {lv : Value} {w : World} {e : Ending} {w' : World} (h : FnPost res base lv w.drew e w') : FnPost res base lv w e w' := by
  obtain ⟨v', rfl, h1, h2, h3⟩ := h
  exact ⟨v', rfl, h1, ⟨h2.os, h2.tape, h2.output, h2.size, h2.block⟩, h3⟩

end Go.Proofs.YtjcdclnaplojcaaGreatDoor
