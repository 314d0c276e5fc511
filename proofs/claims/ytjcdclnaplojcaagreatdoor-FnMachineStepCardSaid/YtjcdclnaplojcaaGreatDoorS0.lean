/- Lists of texts in memory. -/
import Derived.Test.YtjcdclnaplojcaaGreatDoorH
namespace Go.Proofs.YtjcdclnaplojcaaGreatDoor
set_option linter.unusedVariables false
open Go.RowKit

def strV (x : List UInt8) : Value := .string ⟨x.toArray⟩

/-- A list of texts, as a slice of strings that the call owns. -/
abbrev SRow (w : World) (base : Nat) (v : Value) (l : List (List UInt8)) : Prop := w.ownsRow base 9 1 v l.length (l.map strV)

theorem SRow.cell {w : World} {base : Nat} {A : Option Addr} {n c : Nat} {l : List (List UInt8)} (h : SRow w base (.slice A n c) l) {k : Nat} (hk : k < l.length) : ∃ g, A = some ⟨g, 0, none⟩ ∧ n = l.length ∧ base ≤ g ∧ g < w.heap.size ∧ w.cell? ⟨g, k, none⟩ = some (.string ⟨(l[k]).toArray⟩) := by
  rcases h.2 with ⟨_, h0⟩ | ⟨g, cap, cur, hv, hb, hg, _⟩
  · omega
  · injection hv with h1 h2 h3
    subst h1
    refine ⟨g, rfl, h2, hb, (Array.getElem?_eq_some_iff.1 hg).1, ?_⟩
    have := h.cells (g := g) rfl k (.string ⟨(l[k]).toArray⟩) (by
      rw [List.getElem?_map, List.getElem?_eq_getElem hk]
      rfl)
    rwa [add_off] at this
theorem SRow.len {w : World} {base : Nat} {A : Option Addr} {n c : Nat} {l : List (List UInt8)} (h : SRow w base (.slice A n c) l) : n = l.length := by
  obtain ⟨A', c', e⟩ := own_shape h
  injection e
end Go.Proofs.YtjcdclnaplojcaaGreatDoor
