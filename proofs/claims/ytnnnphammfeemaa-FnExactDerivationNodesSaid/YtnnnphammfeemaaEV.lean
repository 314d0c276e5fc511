/- The program's answers: DerivationValid, DerivationNodes. -/
import Derived.Test.YtnnnphammfeemaaER
import Derived.Test.YtnnnphammfeemaaIA
namespace Go.Proofs.Ytnnnphammfeemaa
set_option linter.unusedVariables false
open Go.RowKit

theorem implDerivationValid_any (x : List UInt8) (s : ByteArray) (w : World) (hm : s.size ≤ maxLen) :
    Calls Try.prog 6 #[.string ⟨x.toArray⟩, .string s] w fun e w' => e = .returned (.bool (rdDv x s.data.toList).isSome) ∧ Below w.heap.size w w' := by
  go_enter Try.func6, Try.ntmps6
  go_wp2_with fail
  refine (readDerivation_any x s _ hm).mono ?_
  rintro e w1 ⟨hb1, ⟨t, u, hrd, rfl, hu⟩ | ⟨hrd, rfl⟩⟩
  · obtain ⟨T, q, rfl, _⟩ := hu.shape
    have HR := Lib.hid hrd
    clear hrd hu
    go_wp2
    go_ret
    exact ⟨ret_bool (by rw [HR.out]; rfl), hb1⟩
  · have HR := Lib.hid hrd
    clear hrd
    go_wp2
    go_ret
    exact ⟨ret_bool (by rw [HR.out]; rfl), hb1⟩
theorem implDerivationNodes_any (x : List UInt8) (s : ByteArray) (w : World) (hm : s.size ≤ maxLen) :
    Calls Try.prog 8 #[.string ⟨x.toArray⟩, .string s] w fun e w' => e = .returned (.int .i64 (noR x s.data.toList)) ∧ Below w.heap.size w w' := by
  go_enter Try.func8, Try.ntmps8
  go_wp2_with fail
  refine (readDerivation_any x s _ hm).mono ?_
  rintro e w1 ⟨hb1, ⟨t, u, hrd, rfl, hu⟩ | ⟨hrd, rfl⟩⟩
  · obtain ⟨k, hk, hrt, hd, hn⟩ := rdDv_spec _ _ _ hrd
    have C := Lib.hid (countNodes_any t _ w1 _ hu (fun q hq => hq.2) (by omega))
    obtain ⟨T, q, rfl, _⟩ := hu.shape
    have HR : Hid (noR x s.data.toList = ((dvN t : Nat) : Int)) := Lib.hid (by unfold noR; rw [hrd])
    have hz1 := hb1.size
    have HB1 := Lib.hid hb1
    clear hrd hu hk hrt hd hn hb1
    go_wp2_with fail
    refine C.out.mono ?_
    rintro e w2 ⟨rfl, hb2⟩
    have HB2 := Lib.hid (HB1.out.trans (hb2.mono hz1))
    clear hb2
    go_wp2_with fail
    go_ret
    exact ⟨ret_int (by rw [HR.out]), HB2.out⟩
  · have HR : Hid (noR x s.data.toList = -1) := Lib.hid (by unfold noR; rw [hrd])
    clear hrd
    go_wp2
    go_ret
    exact ⟨ret_int (by rw [HR.out]), hb1⟩
end Go.Proofs.Ytnnnphammfeemaa
