/- The model's machine in memory. -/
import Derived.Test.YtjcdclnaplojcaaGreatDoorG
import Derived.Test.YtjcdclnaplojcaaGreatDoorR0
import Derived.Test.YtjcdclnaplojcaaGreatDoorYA
import Derived.WalkSmall
import Derived.RangeFuncBox
namespace Go.Proofs.YtjcdclnaplojcaaGreatDoor
set_option linter.unusedVariables false
open Go.RowKit

/-- A closure of the model: a term, where its parts lie, the index of its environment. -/
structure Cl where
  t : Tm
  A : Option Addr
  n : Nat
  c : Nat
  i : Nat
def Cl.cells (c : Cl) : List Value := [.string ⟨(tmTr c.t).atom.toArray⟩, .slice c.A c.n c.c, .int .i64 c.i]
/-- A name of an environment of the model. -/
structure En where
  x : List UInt8
  c : Option Cl
  k : Nat
  r : Nat
def En.cells (e : En) : List Value :=
  match e.c with
  | some c => [.string ⟨e.x.toArray⟩, .bool true, .string ⟨(tmTr c.t).atom.toArray⟩, .slice c.A c.n c.c, .int .i64 c.i, .int .i64 e.k, .int .i64 e.r]
  | none => [.string ⟨e.x.toArray⟩, .bool false, .string ⟨#[]⟩, .slice none 0 0, .int .i64 0, .int .i64 e.k, .int .i64 e.r]
theorem En.cells_len (e : En) : e.cells.length = 7 := by unfold En.cells; split <;> rfl
theorem Cl.cells_len (c : Cl) : c.cells.length = 3 := rfl

/-- The environment with this index is this one. -/
def RE (E : List En) : Env → Nat → Prop
  | .nil, i => i = 0
  | .clo x t e r, i => 0 < i ∧ ∃ c j, E[i]? = some ⟨x, some c, 0, j⟩ ∧ c.t = t ∧ RE E e c.i ∧ RE E r j
  | .opn x k r, i => 0 < i ∧ ∃ j, E[i]? = some ⟨x, none, k, j⟩ ∧ RE E r j
theorem RE.more {E : List En} (n : En) : ∀ {e : Env} {i : Nat}, RE E e i → RE (E ++ [n]) e i := by
  have hm : ∀ (i : Nat) (z : En), E[i]? = some z → (E ++ [n])[i]? = some z := by
    intro i z h
    obtain ⟨hl, _⟩ := List.getElem?_eq_some_iff.1 h
    rw [List.getElem?_append_left hl]; exact h
  intro e
  induction e with
  | nil => intro i h; exact h
  | clo x t e r ihe ihr => intro i h; obtain ⟨h0, c, j, h1, h2, h3, h4⟩ := h; exact ⟨h0, c, j, hm _ _ h1, h2, ihe h3, ihr h4⟩
  | opn x k r ih => intro i h; obtain ⟨h0, j, h1, h2⟩ := h; exact ⟨h0, j, hm _ _ h1, ih h2⟩
theorem RE.lt {E : List En} : ∀ {e : Env} {i : Nat}, RE E e i → 0 < E.length → i < E.length := by
  intro e i h h0
  cases e with
  | nil => cases h; exact h0
  | clo x t e r => obtain ⟨_, c, j, h1, _⟩ := h; exact (List.getElem?_eq_some_iff.1 h1).1
  | opn x k r => obtain ⟨_, j, h1, _⟩ := h; exact (List.getElem?_eq_some_iff.1 h1).1
/-- The closure's term is a term in memory. -/
def ClOk (w : World) (P : Nat → Prop) (c : Cl) : Prop := c.t.ok ∧ TAt w P (tmTr c.t) (.agg #[.string ⟨(tmTr c.t).atom.toArray⟩, .slice c.A c.n c.c])
theorem ClOk.mono {w w' : World} {P : Nat → Prop} {c : Cl} (h : ClOk w P c) (hm : ∀ b, P b → ∀ o, w'.cell? ⟨b, o, none⟩ = w.cell? ⟨b, o, none⟩) : ClOk w' P c := ⟨h.1, h.2.mono fun b hb => ⟨hb, hm b hb⟩⟩

/-- The letters of moves. -/
def letters (m : List Mv) : List UInt8 := m.map Mv.letter

/-- A stack of the model, its top first. -/
def RS (E : List En) : List (Tm × Env) → List Cl → Prop
  | [], l => l = []
  | (t, e) :: st, l => ∃ c r, l = c :: r ∧ c.t = t ∧ RE E e c.i ∧ RS E st r
theorem RS.more {E : List En} (n : En) : ∀ {st : List (Tm × Env)} {l : List Cl}, RS E st l → RS (E ++ [n]) st l := by
  intro st
  induction st with
  | nil => intro l h; exact h
  | cons p st ih => intro l h; obtain ⟨c, r, h1, h2, h3, h4⟩ := h; exact ⟨c, r, h1, h2, h3.more n, ih h4⟩
theorem RS.len {E : List En} : ∀ {st : List (Tm × Env)} {l : List Cl}, RS E st l → l.length = st.length := by
  intro st
  induction st with
  | nil => intro l h; cases h; rfl
  | cons p st ih => intro l h; obtain ⟨c, r, rfl, _, _, h4⟩ := h; simp [ih h4]

/-- The cells of closures, of names. -/
def clCells (l : List Cl) : List Value := l.flatMap Cl.cells
def enCells (l : List En) : List Value := l.flatMap En.cells
theorem clCells_len (l : List Cl) : (clCells l).length = l.length * 3 := by
  induction l with
  | nil => rfl
  | cons c l ih => unfold clCells at *; rw [List.flatMap_cons, List.length_append, ih, Cl.cells_len, List.length_cons]; omega
theorem enCells_len (l : List En) : (enCells l).length = l.length * 7 := by
  induction l with
  | nil => rfl
  | cons c l ih => unfold enCells at *; rw [List.flatMap_cons, List.length_append, ih, En.cells_len, List.length_cons]; omega
theorem enCells_at (l : List En) : ∀ (i j : Nat) (e : En), l[i]? = some e → j < 7 → (enCells l)[i * 7 + j]? = e.cells[j]? := by
  induction l with
  | nil => intro i j e h; simp at h
  | cons z l ih =>
    intro i j e h hj
    unfold enCells at *
    rw [List.flatMap_cons]
    cases i with
    | zero =>
      simp at h; subst h
      rw [List.getElem?_append_left (by rw [En.cells_len]; omega)]
      simp
    | succ i =>
      rw [List.getElem?_append_right (by rw [En.cells_len]; omega), En.cells_len, show (i + 1) * 7 + j - 7 = i * 7 + j from by omega]
      exact ih i j e (by simpa using h) hj
theorem clCells_last (l : List Cl) (c : Cl) (j : Nat) (hj : j < 3) : (clCells (l ++ [c]))[l.length * 3 + j]? = c.cells[j]? := by
  unfold clCells
  rw [List.flatMap_append, List.getElem?_append_right (by have := clCells_len l; unfold clCells at this; omega)]
  have := clCells_len l
  unfold clCells at this
  rw [this, show l.length * 3 + j - l.length * 3 = j from by omega]
  simp

/-- What the memory of the model's machine holds besides its box. -/
structure MS (w : World) (P : Nat → Prop) (base sb : Nat) (S : St) (m : List Mv) (a : Cl) (l : List Cl) (E : List En) (sv ev : Value) : Prop where
  box : Blk w sb 65 #[.string ⟨(tmTr a.t).atom.toArray⟩, .slice a.A a.n a.c, .int .i64 a.i, sv, ev,
    .int .i64 (mvN .p m : Nat), .int .i64 (mvN .t m : Nat), .int .i64 (mvN .o m : Nat), .int .i64 (mvN .l m : Nat), .string ⟨#[]⟩, .int .i64 0, .int .i64 (mvN .o m : Nat), .string ⟨(letters m).toArray⟩]
  stk : w.ownsRow base 61 3 sv l.length (clCells l.reverse)
  env : w.ownsRow base 109 7 ev E.length (enCells E)
  at_ : a.t = S.t
  re : RE E S.e a.i
  rs : RS E S.st l
  e0 : E[0]? = some ⟨[], none, 0, 0⟩
  aok : ClOk w P a
  lok : ∀ c, c ∈ l → ClOk w P c
  eok : ∀ (i : Nat) (z : En) (c : Cl), E[i]? = some z → z.c = some c → ClOk w P c
  eln : E.length ≤ m.length + 1
  ok : StOk S m
  lo : ∀ b, P b → b < base
  bs : base ≤ sb
end Go.Proofs.YtjcdclnaplojcaaGreatDoor
