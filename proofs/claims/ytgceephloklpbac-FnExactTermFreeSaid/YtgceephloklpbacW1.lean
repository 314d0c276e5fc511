/- Whether a text is among some, for the program. -/
import Derived.Test.YtgceephloklpbacW0
namespace Go.Proofs.Ytgceephloklpbac
set_option linter.unusedVariables false
open Go.RowKit

/-- What slices.Index answers. -/
def IxPost (l : List (List UInt8)) (x : List UInt8) (w : World) (e : Ending) (w' : World) : Prop :=
  w = w' ∧ ((x ∈ l ∧ ∃ k : Nat, e = .returned (.int .i64 k)) ∨ (x ∉ l ∧ e = .returned (.int .i64 (-1))))

theorem sIndex_any (l : List (List UInt8)) (x : List UInt8) (base : Nat) (v : Value) (w : World) (hl : SRow w base v l) (hn : l.length ≤ 10000) :
    Calls Try.prog 61 #[v, .string ⟨x.toArray⟩] w (IxPost l x w) := by
  obtain ⟨A, c, rfl⟩ := own_shape hl
  have HL := Lib.hid hl
  clear hl
  go_enter Try.func61, Try.ntmps61
  go_wp2
  go_loop [8] (fun i => ∃ k : Nat, k ≤ l.length ∧ i = .int .i64 k ∧ Hid (∀ j, j < k → l[j]? ≠ some x)) (fun i => l.length - (intOf i).toNat)
  case atStart => exact ⟨0, by omega, rfl, Lib.hid (fun j hj => by omega)⟩
  case round =>
    obtain ⟨k, hk, rfl, HA⟩ := hrel
    by_cases hlt : k < l.length
    · obtain ⟨g, rfl, _, _, _, hcell⟩ := HL.out.cell hlt
      go_wp2
      all_goals first
        | (go_round
           case rel =>
             have hne : (x == l[k]) = false := by assumption
             refine ⟨k + 1, by omega, by go_num, Lib.hid (fun j hj => ?_)⟩
             by_cases hjk : j = k
             · rw [hjk, List.getElem?_eq_getElem hlt]
               intro e
               injection e with e
               rw [e] at hne
               simp at hne
             · exact HA.out j (by omega)
           case measure => simp [intOf]; omega)
        | (have heq : (x == l[k]) = true := by assumption
           go_ret
           refine ⟨rfl, .inl ⟨?_, k, rfl⟩⟩
           rw [beq_iff_eq.1 heq]
           exact List.getElem_mem _)
    · go_wp2
      go_ret
      refine ⟨rfl, .inr ⟨?_, rfl⟩⟩
      intro hx
      obtain ⟨j, hj, e⟩ := List.getElem_of_mem hx
      exact HA.out j (by omega) (by rw [List.getElem?_eq_getElem hj, e])

theorem sContains_any (l : List (List UInt8)) (x : List UInt8) (base : Nat) (v : Value) (w : World) (hl : SRow w base v l) (hn : l.length ≤ 10000) :
    Calls Try.prog 48 #[v, .string ⟨x.toArray⟩] w fun e w' => e = .returned (.bool (decide (x ∈ l))) ∧ w = w' := by
  have HL := Lib.hid hl
  clear hl
  go_enter Try.func48, Try.ntmps48
  go_wp2_with fail
  refine (sIndex_any l x base v _ HL.out hn).mono ?_
  rintro e w1 ⟨rfl, ⟨hx, k, rfl⟩ | ⟨hx, rfl⟩⟩
  · have HX := Lib.hid hx
    clear hx
    go_wp2_with fail
    go_ret
    exact ⟨ret_bool (by simp [HX.out]), rfl⟩
  · have HX := Lib.hid hx
    clear hx
    go_wp2_with fail
    go_ret
    exact ⟨ret_bool (by simp [HX.out]), rfl⟩

end Go.Proofs.Ytgceephloklpbac
