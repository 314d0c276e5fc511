/- The model's machine looks a name up. -/
import Derived.Test.YtjcdclnaplojcaaGreatDoorYB
import Derived.Test.YtjcdclnaplojcaaGreatDoorH
import Derived.Deep.LoopGhost
import Derived.Deep.RegionWith
namespace Go.Proofs.YtjcdclnaplojcaaGreatDoor
set_option linter.unusedVariables false
open Go.RowKit

theorem own_pos {w : World} {base e size n : Nat} {v : Value} {xs : List Value} (h : w.ownsRow base e size v n xs) (hn : 0 < n) : ∃ g c, v = .slice (some ⟨g, 0, none⟩) n c ∧ base ≤ g ∧ g < w.heap.size ∧ n ≤ c := by
  rcases h.2 with ⟨_, h0⟩ | ⟨g, cap, cur, hv, hb, hh, hc, _⟩
  · omega
  · exact ⟨g, cap, hv, hb, (Array.getElem?_eq_some_iff.1 hh).1, hc⟩
theorem own_cell {w : World} {base e size n g c : Nat} {xs : List Value} (h : w.ownsRow base e size (.slice (some ⟨g, 0, none⟩) n c) n xs) {j : Nat} {u : Value} (hj : xs[j]? = some u) : w.cell? ⟨g, j, none⟩ = some u := by
  have := h.cells (g := g) rfl j u hj
  rwa [add_off] at this
theorem En.at0 (e : En) : e.cells[0]? = some (.string ⟨e.x.toArray⟩) := by unfold En.cells; split <;> rfl
theorem En.at6 (e : En) : e.cells[6]? = some (.int .i64 e.r) := by unfold En.cells; split <;> rfl

theorem Blk.apart {w : World} {b t e : Nat} {cs : Array Value} (h : Blk w b t cs) (hte : t ≠ e) {base size k : Nat} {v : Value} {xs : List Value} (hr : w.ownsRow base e size v k xs) : some b ≠ v.ownBlock := by
  rcases hr.2 with ⟨rfl, _⟩ | ⟨g, cap, cur, rfl, _, hgb, _⟩
  · simp [Value.ownBlock]
  · intro e'
    obtain rfl : b = g := by simpa [Value.ownBlock] using e'
    have := (show w.heap[b]? = _ from h).symm.trans hgb
    simp at this
    exact hte this.2
theorem letter_on (l : List UInt8) (c : UInt8) : (⟨l.toArray⟩ ++ ⟨#[c]⟩ : ByteArray) = ⟨(l ++ [c]).toArray⟩ := by
  apply ByteArray.ext
  rw [ByteArray.data_append]
  simp
/-- Rows of two types lie in two blocks. -/
theorem rows_apart {w : World} {b1 b2 e1 e2 s1 s2 n1 n2 : Nat} {v1 v2 : Value} {x1 x2 : List Value} (h1 : w.ownsRow b1 e1 s1 v1 n1 x1) (h2 : w.ownsRow b2 e2 s2 v2 n2 x2) (hne : e1 ≠ e2) : v1.ownBlock = none ∨ v1.ownBlock ≠ v2.ownBlock := by
  rcases h1.2 with ⟨rfl, _⟩ | ⟨g, cap, cur, rfl, _, hg, _⟩
  · exact .inl rfl
  · refine .inr (Blk.apart (t := e1) (e := e2) (cs := cur) hg hne h2)
theorem ownsRow_set {w : World} {base e size n : Nat} {v : Value} {xs : List Value} (h : w.ownsRow base e size v n xs) {b t : Nat} {cs : Array Value} (hb : Blk w b t cs) (hte : t ≠ e) (o : Nat) (u : Value) : (w.setCell ⟨b, o, none⟩ u).ownsRow base e size v n xs :=
  h.kept (Lib.grownBy_setCell w b o u) (.inr fun e' => hb.apart hte h e'.symm)
theorem ClOk.below {w w' : World} {P : Nat → Prop} {c : Cl} {base : Nat} (h : ClOk w P c) (hb : Below base w w') (hP : ∀ b, P b → b < base) : ClOk w' P c := h.mono fun b h o => hb.cell (p := ⟨b, o, none⟩) (hP b h)

theorem RE.ix {E : List En} {e : Env} {i : Nat} (h : RE E e i) : (e = .nil ∧ i = 0) ∨ (0 < i ∧ ∃ z, E[i]? = some z ∧ e.names = z.x :: e.out.names ∧ RE E e.out z.r ∧ (∀ x, e.look x = if z.x = x then e else e.out.look x)) := by
  cases e with
  | nil => exact .inl ⟨rfl, h⟩
  | clo x t e r => obtain ⟨h0, c, j, h1, h2, h3, h4⟩ := h; exact .inr ⟨h0, _, h1, rfl, h4, fun y => by simp only [Env.look, Env.out]⟩
  | opn x k r => obtain ⟨h0, j, h1, h2⟩ := h; exact .inr ⟨h0, _, h1, rfl, h2, fun y => by simp only [Env.look, Env.out]⟩
end Go.Proofs.YtjcdclnaplojcaaGreatDoor
