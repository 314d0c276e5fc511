/- A term's text, its body, first term and second terms: plain mathematics. -/
import Derived.Test.YtjcdclnaplojcaaGreatDoorX
import Derived.Test.YtjcdclnaplojcaaGreatDoorO
namespace Go.Proofs.YtjcdclnaplojcaaGreatDoor
set_option linter.unusedVariables false

/-- The text of a term. -/
def wrTm : Tm → List UInt8
  | .var x => x
  | .lam x b => [40, 108, 97, 109, 32] ++ x ++ [32] ++ wrTm b ++ [41]
  | .app f a => [40, 97, 112, 112, 32] ++ wrTm f ++ [32] ++ wrTm a ++ [41]
/-- .. of a term with depths, where the innermost name stands first. -/
def wrD : List (List UInt8) → DB → List UInt8
  | _, .free x => x
  | rs, .bnd i => rs[i]?.getD []
  | rs, .lam x b => [40, 108, 97, 109, 32] ++ x ++ [32] ++ wrD (x :: rs) b ++ [41]
  | rs, .app f a => [40, 97, 112, 112, 32] ++ wrD rs f ++ [32] ++ wrD rs a ++ [41]
theorem lk_some (rs : List (List UInt8)) (x : List UInt8) : ∀ i, lk rs x = some i → rs[i]? = some x := by
  induction rs with
  | nil => intro i h; simp [lk] at h
  | cons y r ih =>
    intro i h
    unfold lk at h
    split at h
    · rename_i e
      injection h with h
      subst h
      simp [e]
    · cases hl : lk r x with
      | none => rw [hl] at h; simp at h
      | some j =>
        rw [hl] at h
        simp at h
        subst h
        simpa using ih j hl
theorem wrD_toDB (t : Tm) : ∀ rs, wrD rs (toDB rs t) = wrTm t := by
  induction t with
  | var x =>
    intro rs
    unfold toDB
    cases h : lk rs x with
    | some i => simp only [wrD, wrTm]; rw [lk_some rs x i h]; rfl
    | none => rfl
  | lam x b ih => intro rs; simp only [toDB, wrD, wrTm, ih]
  | app f a ihf iha => intro rs; simp only [toDB, wrD, wrTm, ihf, iha]

/-- The names of the lam around, and what stands behind them. -/
def lamsOf : Tm → List (List UInt8)
  | .lam x b => x :: lamsOf b
  | _ => []
def bodyOf : Tm → Tm
  | .lam _ b => bodyOf b
  | t => t
/-- The first term on the left, and the second terms from the innermost one on. -/
def firstOf : Tm → Tm
  | .app f _ => firstOf f
  | t => t
def argsOf : Tm → List Tm
  | .app f a => argsOf f ++ [a]
  | _ => []
def dBody : DB → DB
  | .lam _ b => dBody b
  | t => t
def dLams : DB → List (List UInt8)
  | .lam x b => x :: dLams b
  | _ => []
def dFirst : DB → DB
  | .app f _ => dFirst f
  | t => t
def dArgs : DB → List DB
  | .app f a => dArgs f ++ [a]
  | _ => []
theorem dBody_toDB (t : Tm) : ∀ rs, dBody (toDB rs t) = toDB ((lamsOf t).reverse ++ rs) (bodyOf t) := by
  induction t with
  | var x =>
    intro rs
    simp only [lamsOf, bodyOf, List.reverse_nil, List.nil_append]
    unfold toDB
    cases lk rs x <;> rfl
  | lam x b ih => intro rs; simp [toDB, dBody, lamsOf, bodyOf, ih]
  | app f a _ _ => intro rs; simp [toDB, dBody, lamsOf, bodyOf]
theorem dLams_toDB (t : Tm) : ∀ rs, dLams (toDB rs t) = lamsOf t := by
  induction t with
  | var x =>
    intro rs
    unfold toDB
    cases lk rs x <;> rfl
  | lam x b ih => intro rs; simp [toDB, dLams, lamsOf, ih]
  | app f a _ _ => intro rs; rfl
theorem dFirst_toDB (t : Tm) : ∀ rs, dFirst (toDB rs t) = toDB rs (firstOf t) := by
  induction t with
  | var x =>
    intro rs
    simp only [firstOf]
    unfold toDB
    cases lk rs x <;> rfl
  | lam x b _ => intro rs; rfl
  | app f a ihf _ => intro rs; simp [toDB, dFirst, firstOf, ihf]
theorem dArgs_toDB (t : Tm) : ∀ rs, dArgs (toDB rs t) = (argsOf t).map (toDB rs) := by
  induction t with
  | var x =>
    intro rs
    unfold toDB
    cases lk rs x <;> rfl
  | lam x b _ => intro rs; rfl
  | app f a ihf _ => intro rs; simp [toDB, dArgs, argsOf, ihf]
/-- A text is bounded by what the names in it take. -/
theorem wrTm_length (n : Nat) (t : Tm) : (∀ x, x.length ≤ n ∨ ¬ (isNm x = true)) → t.ok → (wrTm t).length ≤ (n + 8) * t.atoms := by
  intro hn
  induction t with
  | var x =>
    intro hok
    have : x.length ≤ n := (hn x).resolve_right (fun h => h hok)
    simp only [wrTm, Tm.atoms]
    omega
  | lam x b ih =>
    intro hok
    have : x.length ≤ n := (hn x).resolve_right (fun h => h hok.1)
    have := ih hok.2
    simp only [wrTm, Tm.atoms, List.length_append, List.length_cons, List.length_nil]
    rw [Nat.mul_add]
    omega
  | app f a ihf iha =>
    intro hok
    have := ihf hok.1
    have := iha hok.2
    simp only [wrTm, Tm.atoms, List.length_append, List.length_cons, List.length_nil]
    rw [Nat.mul_add, Nat.mul_add]
    omega
end Go.Proofs.YtjcdclnaplojcaaGreatDoor
