/- The program's TermValid. -/
import Derived.Test.YtgceephloklpbacQ
namespace Go.Proofs.Ytgceephloklpbac
set_option linter.unusedVariables false
open Go.RowKit

theorem implTermValid_any (s : ByteArray) (w : World) (hm : s.size ≤ maxLen) :
    Calls Try.prog 10 #[.string s] w fun e w' => e = .returned (.bool (rdTerm s.data.toList).isSome) ∧ Below w.heap.size w w' := by
  go_enter Try.func10, Try.ntmps10
  go_wp2_with fail
  refine (readTerm_any s _ hm).mono ?_
  rintro e w1 ⟨hb1, ⟨t, v, hrd, rfl, htr⟩ | ⟨hrd, rfl⟩⟩
  · have HR := Lib.hid hrd
    clear hrd htr
    go_wp2
    go_ret
    exact ⟨ret_bool (by rw [HR.out]; rfl), hb1⟩
  · have HR := Lib.hid hrd
    clear hrd
    go_wp2
    go_ret
    exact ⟨ret_bool (by rw [HR.out]; rfl), hb1⟩
end Go.Proofs.Ytgceephloklpbac
