/- The model's kinds. -/
import Derived.Test.YtbabdjcpmjfeoaaGreatDoorB
namespace Go.Proofs.YtbabdjcpmjfeoaaGreatDoor
set_option linter.unusedVariables false
open Go.RowKit

def kindT (k : Bool) : List UInt8 := if k then [104, 101, 97, 100] else [102, 117, 108, 108]
def rdKind (x : List UInt8) : Option Bool := if x = [104, 101, 97, 100] then some true else if x = [102, 117, 108, 108] then some false else none
theorem rdKind_some (x : List UInt8) (k : Bool) (h : rdKind x = some k) : x = kindT k := by
  unfold rdKind at h
  split at h
  · injection h with h; subst h; assumption
  · split at h
    · injection h with h; subst h; assumption
    · cases h
theorem rdKind_beq (x : List UInt8) (k : Bool) (h : rdKind x = some k) : (x == [104, 101, 97, 100]) = k ∧ (x == [102, 117, 108, 108]) = !k := by
  have := rdKind_some x k h
  subst this
  cases k <;> exact ⟨rfl, rfl⟩
theorem rdKind_no (x : List UInt8) (h : rdKind x = none) : (x == [104, 101, 97, 100]) = false ∧ (x == [102, 117, 108, 108]) = false := by
  unfold rdKind at h
  split at h
  · cases h
  · split at h
    · cases h
    · exact ⟨beq_eq_false_iff_ne.2 (by assumption), beq_eq_false_iff_ne.2 (by assumption)⟩
theorem l2Kind_any (x : List UInt8) (w : World) :
    Calls Tryz.prog 31 #[.string ⟨x.toArray⟩] w fun e w' => e = .returned (.bool (rdKind x).isSome) ∧ w' = w := by
  cases h : rdKind x with
  | none =>
    obtain ⟨h1, h2⟩ := rdKind_no x h
    go_enter Tryz.func31, Tryz.ntmps31
    go_wp2
    go_ret
    exact ⟨rfl, rfl⟩
  | some k =>
    obtain ⟨h1, h2⟩ := rdKind_beq x k h
    cases k
    all_goals
      simp only [Bool.not_true, Bool.not_false] at h1 h2
      go_enter Tryz.func31, Tryz.ntmps31
      go_wp2
      go_ret
      exact ⟨rfl, rfl⟩
end Go.Proofs.YtbabdjcpmjfeoaaGreatDoor
