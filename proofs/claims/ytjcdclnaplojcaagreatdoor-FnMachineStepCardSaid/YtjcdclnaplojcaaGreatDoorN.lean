/- Terms with depths: plain mathematics. -/
import Derived.Test.YtjcdclnaplojcaaGreatDoorM
namespace Go.Proofs.YtjcdclnaplojcaaGreatDoor
set_option linter.unusedVariables false

def appO (o q : Option Tm) : Option Tm := match o with
  | none => none
  | some f => q.map (.app f)
theorem appO_def (o q : Option Tm) : (match o with
      | none => none
      | some f => q.map (.app f)) = appO o q := rfl
theorem trTm_app (p0 p1 p2 : Tr) (h : p0.atom ≠ sLam) (h2 : p0.atom = sApp) : trTm (.mk [] [p0, p1, p2]) = appO (trTm p1) (trTm p2) := by
  rw [trTm_three, if_neg h, if_pos h2]
  rfl
theorem trTm_lam (p0 p1 p2 : Tr) (h : p0.atom = sLam) : trTm (.mk [] [p0, p1, p2]) = if isNm p1.atom = true then (trTm p2).map (.lam p1.atom) else none := by
  rw [trTm_three, if_pos h]
theorem trTm_none (p0 p1 p2 : Tr) (h : p0.atom ≠ sLam) (h2 : p0.atom ≠ sApp) : trTm (.mk [] [p0, p1, p2]) = none := by
  rw [trTm_three, if_neg h, if_neg h2]

inductive DB where
  | free (x : List UInt8)
  | bnd (i : Nat)
  | lam (x : List UInt8) (b : DB)
  | app (f a : DB)

/-- The place of a name, the innermost one first. -/
def lk : List (List UInt8) → List UInt8 → Option Nat
  | [], _ => none
  | y :: r, x => if y = x then some 0 else (lk r x).map (· + 1)

def toDB : List (List UInt8) → Tm → DB
  | rs, .var x => match lk rs x with
    | some i => .bnd i
    | none => .free x
  | rs, .lam x b => .lam x (toDB (x :: rs) b)
  | rs, .app f a => .app (toDB rs f) (toDB rs a)

def DB.size : DB → Nat
  | .free _ => 0
  | .bnd _ => 0
  | .lam _ b => 1 + b.size
  | .app f a => 1 + f.size + a.size
def DB.uses (x : List UInt8) : DB → Nat
  | .free y => if y = x then 1 else 0
  | .bnd _ => 0
  | .lam _ b => b.uses x
  | .app f a => f.uses x + a.uses x
def Tm.uses (x : List UInt8) : Tm → Nat
  | .var y => if y = x then 1 else 0
  | .lam y b => if y = x then 0 else b.uses x
  | .app f a => f.uses x + a.uses x

theorem toDB_size (t : Tm) : ∀ rs, (toDB rs t).size = t.size := by
  induction t with
  | var x => intro rs; unfold toDB; split <;> rfl
  | lam x b ih => intro rs; simp [toDB, DB.size, Tm.size, ih]
  | app f a ihf iha => intro rs; simp [toDB, DB.size, Tm.size, ihf, iha]

theorem lk_none (rs : List (List UInt8)) (x : List UInt8) : lk rs x = none ↔ x ∉ rs := by
  induction rs with
  | nil => simp [lk]
  | cons y r ih =>
    unfold lk
    split
    · rename_i h; subst h; simp
    · rename_i h
      simp [ih, Ne.symm h]
theorem toDB_uses (t : Tm) (x : List UInt8) : ∀ rs, (toDB rs t).uses x = if x ∈ rs then 0 else t.uses x := by
  induction t with
  | var y =>
    intro rs
    unfold toDB
    cases h : lk rs y with
    | some i =>
      simp only [DB.uses, Tm.uses]
      by_cases hx : x ∈ rs
      · simp [hx]
      · have : y ≠ x := by
          rintro rfl
          rw [(lk_none rs y).2 hx] at h
          cases h
        simp [this]
    | none =>
      have hy := (lk_none rs y).1 h
      simp only [DB.uses, Tm.uses]
      by_cases hx : x ∈ rs
      · have : y ≠ x := by rintro rfl; exact hy hx
        simp [hx, this]
      · simp [hx]
  | lam y b ih =>
    intro rs
    simp only [toDB, DB.uses, Tm.uses, ih, List.mem_cons]
    by_cases hy : y = x
    · subst hy; simp
    · simp [hy, Ne.symm hy]
  | app f a ihf iha =>
    intro rs
    simp only [toDB, DB.uses, Tm.uses, ihf, iha]
    split <;> simp
theorem lk_first (rs : List (List UInt8)) (x : List UInt8) : ∀ (k : Nat), (∀ j, j < k → rs[j]? ≠ some x) → rs[k]? = some x → lk rs x = some k := by
  induction rs with
  | nil => intro k _ h; simp at h
  | cons y r ih =>
    intro k h1 h2
    cases k with
    | zero => simp at h2; simp [lk, h2]
    | succ k =>
      have h0 := h1 0 (by omega)
      simp at h0
      have := ih k (fun j hj => by have := h1 (j + 1) (by omega); simpa using this) (by simpa using h2)
      simp [lk, h0, this]
theorem lk_no (rs : List (List UInt8)) (x : List UInt8) (h : ∀ j, j < rs.length → rs[j]? ≠ some x) : lk rs x = none := by
  rw [lk_none]
  intro hx
  obtain ⟨j, hj, e⟩ := List.getElem_of_mem hx
  exact h j hj (by rw [List.getElem?_eq_getElem hj, e])
end Go.Proofs.YtjcdclnaplojcaaGreatDoor
