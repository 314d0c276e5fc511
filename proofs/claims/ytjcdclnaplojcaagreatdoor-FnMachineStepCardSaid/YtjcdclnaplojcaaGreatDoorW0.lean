/- Lists of texts in memory: whether one is among them, for the model. -/
import Derived.Test.YtjcdclnaplojcaaGreatDoorL
import Derived.Test.YtjcdclnaplojcaaGreatDoorS0
namespace Go.Proofs.YtjcdclnaplojcaaGreatDoor
set_option linter.unusedVariables false
open Go.RowKit

theorem l1Has_any (l : List (List UInt8)) (x : List UInt8) (base : Nat) (v : Value) (w : World) (hl : SRow w base v l) (hn : l.length ≤ 10000) :
    Calls Tryz.prog 60 #[v, .string ⟨x.toArray⟩] w fun e w' => e = .returned (.bool (decide (x ∈ l))) ∧ w = w' := by
  obtain ⟨A, c, rfl⟩ := own_shape hl
  have HL := Lib.hid hl
  clear hl
  go_enter Tryz.func60, Tryz.ntmps60
  go_wp2
  go_loop [5] (fun i => ∃ k : Nat, k ≤ l.length ∧ i = .int .i64 k ∧ Hid (∀ j, j < k → l[j]? ≠ some x)) (fun i => l.length - (intOf i).toNat)
  case atStart => exact ⟨0, by omega, rfl, Lib.hid (fun j hj => by omega)⟩
  case round =>
    obtain ⟨k, hk, rfl, HA⟩ := hrel
    by_cases hlt : k < l.length
    · obtain ⟨g, rfl, _, _, _, hcell⟩ := HL.out.cell hlt
      go_wp2
      all_goals first
        | (go_round
           case rel =>
             have hne : (l[k] == x) = false := by assumption
             refine ⟨k + 1, by omega, by go_num, Lib.hid (fun j hj => ?_)⟩
             by_cases hjk : j = k
             · rw [hjk, List.getElem?_eq_getElem hlt]
               intro e
               injection e with e
               rw [e] at hne
               simp at hne
             · exact HA.out j (by omega)
           case measure => simp [intOf]; omega)
        | (have heq : (l[k] == x) = true := by assumption
           go_ret
           refine ⟨ret_bool ?_, rfl⟩
           rw [eq_comm, decide_eq_true_eq, ← beq_iff_eq.1 heq]
           exact List.getElem_mem _)
    · go_wp2
      go_ret
      refine ⟨ret_bool ?_, rfl⟩
      rw [eq_comm, decide_eq_false_iff_not]
      intro hx
      obtain ⟨j, hj, e⟩ := List.getElem_of_mem hx
      exact HA.out j (by omega) (by rw [List.getElem?_eq_getElem hj, e])

end Go.Proofs.YtjcdclnaplojcaaGreatDoor
