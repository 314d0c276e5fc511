/- Contracts of the functions that tell names, in both programs. -/
import Derived.Test.YtjcdclnaplojcaaGreatDoorA
namespace Go.Proofs.YtjcdclnaplojcaaGreatDoor
set_option linter.unusedVariables false
open Go.RowKit

theorem l6In_any (n lo hi : Int) (w : World) :
    Calls Tryz.prog 108 #[.int .i64 n, .int .i64 lo, .int .i64 hi] w fun e w' => e = .returned (.bool (decide (lo ≤ n ∧ n ≤ hi))) ∧ w = w' := by
  go_enter Tryz.func108, Tryz.ntmps108
  go_wp2
  all_goals (go_ret; refine ⟨ret_bool ?_, rfl⟩; rw [Bool.eq_iff_iff]; simp; omega)

theorem l1Name_any (s : ByteArray) (w : World) (hs : s.size ≤ maxLen) :
    Calls Tryz.prog 94 #[.string s] w fun e w' => e = .returned (.bool (isNm s.data.toList)) ∧ w = w' := by
  unfold maxLen at hs
  by_cases h0 : 0 < s.size
  · have hat := Lib.hid (isNm_at s h0)
    go_enter Tryz.func94, Tryz.ntmps94
    go_wp2_with (first
      | (go_at_call 108; refine (l6In_any _ _ _ _).mono ?_; rintro e w' ⟨rfl, rfl⟩))
    all_goals first
      | (go_ret; refine ⟨ret_bool ?_, rfl⟩; rw [hat.out, Bool.eq_iff_iff]; simp [isLetB] at *; omega)
      | skip
    go_loop [3] (fun i => ∃ k : Nat, 1 ≤ k ∧ k ≤ s.size ∧ i = .int .i64 k ∧ ((s.data.toList.take k).drop 1).all isDigB = true) (fun i => s.size - (intOf i).toNat)
    case atStart => exact ⟨1, by omega, by omega, rfl, by simp⟩
    case round =>
      obtain ⟨k, hk1, hk, rfl, hall⟩ := hrel
      have HA := Lib.hid hall
      clear hall
      by_cases hlt : k < s.size
      · have hst := Lib.hid (digs_step s k hk1 hlt)
        have hbad := Lib.hid (digs_bad s k hk1 hlt)
        go_wp2
        all_goals first
          | (go_round
             case rel => exact ⟨k + 1, by omega, by omega, by go_num, by rw [hst.out, HA.out]; simp [isDigB]; omega⟩
             case measure => simp [intOf]; omega)
          | (go_ret; refine ⟨ret_bool ?_, rfl⟩; rw [hat.out, hbad.out (by simp [isDigB]; omega)]; simp)
      · go_wp2
        go_ret
        refine ⟨ret_bool ?_, rfl⟩
        have := HA.out
        rw [List.take_of_length_le (by simp; omega)] at this
        rw [hat.out, this]
        simp [isLetB]; omega
  · have hz : isNm s.data.toList = false := isNm_none s h0
    have HZ := Lib.hid hz
    clear hz
    go_enter Tryz.func94, Tryz.ntmps94
    have hd : decide ((1 : Int) ≤ (s.size : Int) ∧ (s.size : Int) ≤ 4) = false := by simp; omega
    go_wp2_with (first
      | (go_at_call 108; refine (l6In_any _ _ _ _).mono ?_; rintro e w' ⟨rfl, rfl⟩))
    all_goals first
      | (exfalso; omega)
      | (go_ret; exact ⟨ret_bool (by rw [HZ.out]), rfl⟩)

theorem isName_any (s : ByteArray) (w : World) (hs : s.size ≤ maxLen) :
    Calls Tryz.prog 119 #[.string s] w fun e w' => e = .returned (.bool (isNm s.data.toList)) ∧ w = w' := by
  unfold maxLen at hs
  by_cases h0 : 0 < s.size
  · have hat := Lib.hid (isNm_at s h0)
    have hne : ((s.size : Int) == 0) = false := beq_eq_false_iff_ne.2 (by omega)
    by_cases hl : isLetB s[0] = true ∧ s.size ≤ 4
    · obtain ⟨hl, h4⟩ := hl
      have h4b : decide (4 < (s.size : Int)) = false := by simp; omega
      go_enter Tryz.func119, Tryz.ntmps119
      go_wp2_with (first
        | (go_at_call 131; refine (isLetter_any _ _).mono ?_; rintro e w' ⟨rfl, rfl⟩))
      go_loop [3] (fun i => ∃ k : Nat, 1 ≤ k ∧ k ≤ s.size ∧ i = .int .i64 k ∧ ((s.data.toList.take k).drop 1).all isDigB = true) (fun i => s.size - (intOf i).toNat)
      case atStart => exact ⟨1, by omega, by omega, rfl, by simp⟩
      case round =>
        obtain ⟨k, hk1, hk, rfl, hall⟩ := hrel
        have HA := Lib.hid hall
        clear hall
        by_cases hlt : k < s.size
        · have hst := Lib.hid (digs_step s k hk1 hlt)
          have hbad := Lib.hid (digs_bad s k hk1 hlt)
          go_wp2_with (first
            | (go_at_call 132; refine (isDigit_any _ _).mono ?_; rintro e w' ⟨rfl, rfl⟩))
          all_goals first
            | (go_round
               case rel => exact ⟨k + 1, by omega, by omega, by go_num, by
                 have hx : (!isDigB s[k]) = false := by assumption
                 simp at hx
                 rw [hst.out, HA.out, hx]; rfl⟩
               case measure => simp [intOf]; omega)
            | (go_ret
               have hx : (!isDigB s[k]) = true := by assumption
               simp at hx
               refine ⟨ret_bool ?_, rfl⟩; rw [hat.out, hbad.out hx]; simp)
        · go_wp2
          go_ret
          refine ⟨ret_bool ?_, rfl⟩
          have := HA.out
          rw [List.take_of_length_le (by simp; omega)] at this
          rw [hat.out, this, hl]
          simp; omega
    · have HZ : Hid (isNm s.data.toList = false) := by
        refine Lib.hid ?_
        rw [hat.out, Bool.eq_false_iff]
        intro h
        simp only [Bool.and_eq_true, decide_eq_true_eq] at h
        exact hl h.1
      have HL := Lib.hid hl
      clear hl
      go_enter Tryz.func119, Tryz.ntmps119
      go_wp2_with (first
        | (go_at_call 131; refine (isLetter_any _ _).mono ?_; rintro e w' ⟨rfl, rfl⟩))
      all_goals first
        | (go_ret; exact ⟨ret_bool (by rw [HZ.out]), rfl⟩)
        | (exfalso
           have hx : (s.size : Int) ≤ 4 ∧ (!isLetB s[0]) = false := by assumption
           obtain ⟨hx1, hx2⟩ := hx
           simp at hx2
           exact HL.out ⟨hx2, by omega⟩)
  · have hz : isNm s.data.toList = false := isNm_none s h0
    have HZ := Lib.hid hz
    clear hz
    go_enter Tryz.func119, Tryz.ntmps119
    have hd : ((s.size : Int) == 0) = true := beq_iff_eq.2 (by omega)
    go_wp2_with fail
    all_goals first
      | (exfalso; omega)
      | (go_ret; exact ⟨ret_bool (by rw [HZ.out]), rfl⟩)

end Go.Proofs.YtjcdclnaplojcaaGreatDoor
