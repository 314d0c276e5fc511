/- Contracts of the small functions on bytes and numbers of both programs: what each returns, with no change of the world. -/
import Derived.Test.YtjcdclnaplojcaaGreatDoorChecked
import Derived.Test.YtjcdclnaplojcaaGreatDoorM
import Derived.WalkKit
import Derived.Handy
import Derived.BigQuiet
import Derived.Deep.QuietTactic
import Derived.Lib.Hide
namespace Go.Proofs.YtjcdclnaplojcaaGreatDoor
set_option linter.unusedVariables false
open Go.RowKit

theorem ret_bool {a b : Bool} (h : a = b) : Ending.returned (.bool a) = .returned (.bool b) := by rw [h]
theorem ret_int {k : IntKind} {a b : Int} (h : a = b) : Ending.returned (.int k a) = .returned (.int k b) := by rw [h]

theorem isLetter_any (c : UInt8) (w : World) :
    Calls Tryz.prog 131 #[.int .u8 c.toNat] w fun e w' => e = .returned (.bool (isLetB c)) ∧ w = w' := by
  go_enter Tryz.func131, Tryz.ntmps131
  go_wp2
  all_goals (go_ret; refine ⟨ret_bool ?_, rfl⟩; rw [Bool.eq_iff_iff]; simp [isLetB]; omega)

theorem isDigit_any (c : UInt8) (w : World) :
    Calls Tryz.prog 132 #[.int .u8 c.toNat] w fun e w' => e = .returned (.bool (isDigB c)) ∧ w = w' := by
  go_enter Tryz.func132, Tryz.ntmps132
  go_wp2
  all_goals (go_ret; refine ⟨ret_bool ?_, rfl⟩; rw [Bool.eq_iff_iff]; simp [isDigB]; omega)

theorem l1Byte_any (c : UInt8) (w : World) :
    Calls Tryz.prog 114 #[.int .u8 c.toNat] w fun e w' => e = .returned (.bool (isAtomB c)) ∧ w = w' := by
  go_enter Tryz.func114, Tryz.ntmps114
  go_wp2
  all_goals (go_ret; refine ⟨ret_bool ?_, rfl⟩; rw [Bool.eq_iff_iff]; simp [isAtomB]; omega)

theorem isAtomByte_any (c : UInt8) (w : World) :
    Calls Tryz.prog 136 #[.int .u8 c.toNat] w fun e w' => e = .returned (.bool (isAtomB c)) ∧ w = w' := by
  go_enter Tryz.func136, Tryz.ntmps136
  go_wp2_with (first
    | (go_at_call 131; refine (isLetter_any _ _).mono ?_; rintro e w' ⟨rfl, rfl⟩)
    | (go_at_call 132; refine (isDigit_any _ _).mono ?_; rintro e w' ⟨rfl, rfl⟩))
  all_goals (go_ret; refine ⟨ret_bool ?_, rfl⟩; rw [Bool.eq_iff_iff]; simp [isAtomB, isLetB, isDigB] at *; omega)

def digFrom (l : List UInt8) : Bool := l.all isDigB
theorem isNm_at (s : ByteArray) (h : 0 < s.size) : isNm s.data.toList = (isLetB s[0] && decide (s.size ≤ 4) && (s.data.toList.drop 1).all isDigB) := by
  obtain ⟨⟨l⟩⟩ := s
  cases l with
  | nil => simp [ByteArray.size] at h
  | cons c r =>
    have : (ByteArray.mk ⟨c :: r⟩)[0]'h = c := rfl
    rw [this]
    simp [isNm, ByteArray.size]

theorem isNm_none (s : ByteArray) (h : ¬ 0 < s.size) : isNm s.data.toList = false := by
  obtain ⟨⟨l⟩⟩ := s
  cases l with
  | nil => rfl
  | cons c r => simp [ByteArray.size] at h
theorem digs_step (s : ByteArray) (k : Nat) (h1 : 1 ≤ k) (h : k < s.size) : ((s.data.toList.take (k + 1)).drop 1).all isDigB = (((s.data.toList.take k).drop 1).all isDigB && isDigB s[k]) := by
  have e : s.data.toList.take (k + 1) = s.data.toList.take k ++ [s[k]] := by
    rw [List.take_succ_eq_append_getElem (by simpa using h)]; rfl
  have hl : 1 ≤ (s.data.toList.take k).length := by simp; omega
  rw [e, List.drop_append_of_le_length hl, List.all_append]
  simp
theorem digs_bad (s : ByteArray) (k : Nat) (h1 : 1 ≤ k) (h : k < s.size) (hb : isDigB s[k] = false) : (s.data.toList.drop 1).all isDigB = false := by
  rw [List.all_eq_false]
  refine ⟨s[k], ?_, by simp [hb]⟩
  have : (s.data.toList.drop 1)[k - 1]? = some s[k] := by
    rw [List.getElem?_drop, show 1 + (k - 1) = k from by omega, List.getElem?_eq_getElem (by simpa using h)]; rfl
  exact List.mem_of_getElem? this

end Go.Proofs.YtjcdclnaplojcaaGreatDoor
