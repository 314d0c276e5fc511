/- The program reads a kind. -/
import Derived.Test.YtbabdjcpmjfeoaaGreatDoorKD
namespace Go.Proofs.YtbabdjcpmjfeoaaGreatDoor
set_option linter.unusedVariables false
open Go.RowKit

theorem readKind_any (x : List UInt8) (w : World) :
    Calls Tryz.prog 25 #[.string ⟨x.toArray⟩] w fun e w' => e = .returned (.tuple #[.string ⟨x.toArray⟩, .bool (rdKind x).isSome]) ∧ w' = w := by
  cases h : rdKind x with
  | none =>
    obtain ⟨h1, h2⟩ := rdKind_no x h
    go_enter Tryz.func25, Tryz.ntmps25
    go_wp2
    go_ret2
    exact ⟨rfl, rfl⟩
  | some k =>
    obtain ⟨h1, h2⟩ := rdKind_beq x k h
    cases k
    all_goals
      simp only [Bool.not_true, Bool.not_false] at h1 h2
      go_enter Tryz.func25, Tryz.ntmps25
      go_wp2
      go_ret2
      exact ⟨rfl, rfl⟩
end Go.Proofs.YtbabdjcpmjfeoaaGreatDoor
