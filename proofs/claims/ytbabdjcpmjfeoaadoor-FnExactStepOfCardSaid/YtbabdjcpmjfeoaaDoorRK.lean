/- The program reads a kind. -/
import Derived.Test.YtbabdjcpmjfeoaaDoorKD
namespace Go.Proofs.YtbabdjcpmjfeoaaDoor
set_option linter.unusedVariables false
open Go.RowKit

theorem readKind_any (x : List UInt8) (w : World) :
    Calls Tryd.prog 56 #[.string ⟨x.toArray⟩] w fun e w' => e = .returned (.tuple #[.string ⟨x.toArray⟩, .bool (rdKind x).isSome]) ∧ w' = w := by
  cases h : rdKind x with
  | none =>
    obtain ⟨h1, h2⟩ := rdKind_no x h
    go_enter Tryd.func56, Tryd.ntmps56
    go_wp2
    go_ret2
    exact ⟨rfl, rfl⟩
  | some k =>
    obtain ⟨h1, h2⟩ := rdKind_beq x k h
    cases k
    all_goals
      simp only [Bool.not_true, Bool.not_false] at h1 h2
      go_enter Tryd.func56, Tryd.ntmps56
      go_wp2
      go_ret2
      exact ⟨rfl, rfl⟩
end Go.Proofs.YtbabdjcpmjfeoaaDoor
