/- The three parts of a tree, kept while calls make memory. -/
import Derived.Test.YtjcdclnaplojcaaGreatDoorG
import Derived.Test.YtjcdclnaplojcaaGreatDoorO
namespace Go.Proofs.YtjcdclnaplojcaaGreatDoor
set_option linter.unusedVariables false
open Go.RowKit

/-- The three parts of a boxed tree, kept while calls make memory. -/
structure BKeep (w : World) (P : Nat → Prop) (g cap b : Nat) (p0 p1 p2 : Tr) (A0 A1 A2 : Option Addr) (n0 c0 n1 c1 n2 c2 : Nat) (w' : World) : Prop where
  box : Blk w' b 51 #[.string ⟨#[]⟩, .slice (some ⟨g, 0, none⟩) 3 cap]
  three : Three w' P g p0 p1 p2 A0 A1 A2 n0 c0 n1 c1 n2 c2
  all : ∀ q, P q → q < w'.heap.size
  below : Below w.heap.size w w'
  le : w.heap.size ≤ w'.heap.size
section
variable {w w' w2 : World} {P : Nat → Prop} {g cap b : Nat} {p0 p1 p2 : Tr} {A0 A1 A2 : Option Addr} {n0 c0 n1 c1 n2 c2 : Nat}
theorem BKeep.drew (h : BKeep w P g cap b p0 p1 p2 A0 A1 A2 n0 c0 n1 c1 n2 c2 w') : BKeep w P g cap b p0 p1 p2 A0 A1 A2 n0 c0 n1 c1 n2 c2 w'.drew :=
  ⟨h.box, h.three.mono fun _ hb => ⟨hb, fun _ => rfl⟩, h.all, h.below.drew, h.le⟩
theorem BKeep.more (h : BKeep w P g cap b p0 p1 p2 A0 A1 A2 n0 c0 n1 c1 n2 c2 w') (hb : Below w'.heap.size w' w2) : BKeep w P g cap b p0 p1 p2 A0 A1 A2 n0 c0 n1 c1 n2 c2 w2 :=
  ⟨h.box.below hb h.box.lt, h.three.below hb h.all, fun q hq => by have := h.all q hq; have := hb.size; omega, h.below.trans (hb.mono h.le), by have := h.le; have := hb.size; omega⟩
theorem BKeep.s (h : BKeep w P g cap b p0 p1 p2 A0 A1 A2 n0 c0 n1 c1 n2 c2 w') :
    w'.cell? ⟨b, 1, none⟩ = some (.slice (some ⟨g, 0, none⟩) 3 cap) ∧ w'.cell? ⟨g, 2, none⟩ = some (.string ⟨p1.atom.toArray⟩) ∧ w'.cell? ⟨g, 3, none⟩ = some (.slice A1 n1 c1) ∧
    w'.cell? ⟨g, 4, none⟩ = some (.string ⟨p2.atom.toArray⟩) ∧ w'.cell? ⟨g, 5, none⟩ = some (.slice A2 n2 c2) ∧ BKeep w P g cap b p0 p1 p2 A0 A1 A2 n0 c0 n1 c1 n2 c2 w' := by
  have := h.box.cell 1
  simp at this
  exact ⟨this, h.three.k2, h.three.k3, h.three.k4, h.three.k5, h⟩
end

end Go.Proofs.YtjcdclnaplojcaaGreatDoor
