/- The model compares two texts. -/
import Derived.Test.YtnnnphammfeemaaGreatB
import Derived.Test.YtnnnphammfeemaaGreatBG
import Derived.WalkSpells
namespace Go.Proofs.YtnnnphammfeemaaGreat
set_option linter.unusedVariables false
open Go.RowKit

theorem less_at (a b : List UInt8) : ∀ (k : Nat) (x y : UInt8), a.take k = b.take k → a[k]? = some x → b[k]? = some y → x ≠ y → (a < b ↔ x < y) := by
  induction a generalizing b with
  | nil => intro k x y _ h; simp at h
  | cons c a ih =>
    intro k x y ht hx hy hne
    cases b with
    | nil => simp at hy
    | cons d b =>
      cases k with
      | zero =>
        simp at hx hy
        subst hx hy
        rw [List.cons_lt_cons_iff]
        simp [hne]
      | succ k =>
        simp only [List.take_succ_cons, List.cons.injEq] at ht
        simp at hx hy
        rw [List.cons_lt_cons_iff, ← ht.1, ← ih b k x y ht.2 hx hy hne]
        simp
theorem less_end (a b : List UInt8) : ∀ (k : Nat), a.take k = b.take k → (k = a.length ∧ k ≤ b.length ∨ k = b.length ∧ k ≤ a.length) → (a < b ↔ a.length < b.length) := by
  induction a generalizing b with
  | nil =>
    intro k _ _
    cases b with
    | nil => simp
    | cons d b => simp
  | cons c a ih =>
    intro k ht hk
    cases b with
    | nil => simp
    | cons d b =>
      cases k with
      | zero => simp at hk
      | succ k =>
        simp only [List.take_succ_cons, List.cons.injEq] at ht
        rw [List.cons_lt_cons_iff, ← ht.1, ih b k ht.2 (by simp at hk; omega)]
        simp
theorem take_next (a b : List UInt8) (k : Nat) (x : UInt8) (ht : a.take k = b.take k) (hx : a[k]? = some x) (hy : b[k]? = some x) : a.take (k + 1) = b.take (k + 1) := by
  rw [List.take_add_one, List.take_add_one, hx, hy, ht]
theorem ba_get (s : ByteArray) (k : Nat) (h : k < s.size) : s.data.toList[k]? = some s[k] := by
  rw [List.getElem?_eq_getElem (by simpa using h)]; rfl

set_option maxRecDepth 100000 in
theorem l3Less_any (a b : ByteArray) (w : World) (ha : a.size ≤ maxLen) (hb : b.size ≤ maxLen) :
    Calls Tryz.prog 125 #[.string a, .string b] w fun e w' => e = .returned (.bool (decide (a.data.toList < b.data.toList))) ∧ ∃ n, w' = w.drewN n := by
  unfold maxLen at ha hb
  go_enter Tryz.func125, Tryz.ntmps125
  go_wp2
  go_loopw [5] (fun i wr => ∃ k n : Nat, k ≤ a.size ∧ k ≤ b.size ∧ i = .int .i64 k ∧ Hid (a.data.toList.take k = b.data.toList.take k) ∧ wr = w.drewN n) (fun i _ => a.size - (intOf i).toNat)
  case atStart => exact ⟨0, 0, by omega, by omega, rfl, Lib.hid rfl, rfl⟩
  case round =>
    obtain ⟨k, n, hka, hkb, rfl, HT, rfl⟩ := hrel
    by_cases h1 : k < a.size
    · by_cases h2 : k < b.size
      · have HA := Lib.hid (ba_get a k h1)
        have HB := Lib.hid (ba_get b k h2)
        by_cases he : a[k] = b[k]
        · have hx : ((a[k].toNat : Int) != (b[k].toNat : Int)) = false := by rw [he]; simp
          have HE := Lib.hid he
          clear he
          go_wp2
          go_quiet (fail)
          go_wp2
          go_roundw
          case rel =>
            exact ⟨k + 1, _, by omega, by omega, by go_num, Lib.hid (take_next _ _ k b[k] HT.out (by rw [HA.out, HE.out]) HB.out), rfl⟩
          case measure => simp [intOf]; omega
        · have hx : ((a[k].toNat : Int) != (b[k].toNat : Int)) = true := by
            simp only [bne_iff_ne, ne_eq]
            intro e
            exact he (UInt8.toNat_inj.1 (by omega))
          have HL := Lib.hid (less_at _ _ k a[k] b[k] HT.out HA.out HB.out he)
          clear he
          go_wp2
          go_quiet (fail)
          go_wp2
          go_quiet (fail)
          go_wp2
          go_ret
          refine ⟨ret_bool ?_, _, by rw [World.drewN_drewN, World.drewN_drewN]⟩
          rw [Bool.eq_iff_iff]
          simp only [decide_eq_true_eq]
          rw [HL.out, UInt8.lt_iff_toNat_lt]
      · have HL := Lib.hid (less_end _ _ k HT.out (by rw [Array.length_toList, Array.length_toList]; right; exact ⟨by show k = b.size; omega, hka⟩))
        go_wp2
        go_ret
        refine ⟨ret_bool ?_, _, rfl⟩
        rw [Bool.eq_iff_iff]
        simp only [decide_eq_true_eq]
        rw [HL.out, Array.length_toList, Array.length_toList]
        show _ ↔ a.size < b.size
        omega
    · have HL := Lib.hid (less_end _ _ k HT.out (by rw [Array.length_toList, Array.length_toList]; left; exact ⟨by show k = a.size; omega, hkb⟩))
      go_wp2
      go_ret
      refine ⟨ret_bool ?_, _, rfl⟩
      rw [Bool.eq_iff_iff]
      simp only [decide_eq_true_eq]
      rw [HL.out, Array.length_toList, Array.length_toList]
      show _ ↔ a.size < b.size
      omega
end Go.Proofs.YtnnnphammfeemaaGreat
