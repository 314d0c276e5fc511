/- The model's answers: DerivationValid, DerivationNodes. -/
import Derived.Test.YtnnnphammfeemaaI9
namespace Go.Proofs.Ytnnnphammfeemaa
set_option linter.unusedVariables false
open Go.RowKit

/-- How many nodes the derivation has that a text is, or -1. -/
def noR (x l : List UInt8) : Int := match rdDv x l with
  | some t => ((dvN t : Nat) : Int)
  | none => -1
theorem rdDv_spec (x l : List UInt8) (t : Tr) (h : rdDv x l = some t) : ∃ k, rdKind x = some k ∧ rdText l = some t ∧ isDv k t = true ∧ dvN t ≤ 600 := by
  unfold rdDv at h
  split at h
  · cases h
  · rename_i k hk
    split at h
    · cases h
    · rename_i u hu
      split at h
      · rename_i hc
        injection h with h
        subst h
        exact ⟨k, hk, hu, hc.1, hc.2⟩
      · cases h
theorem specDerivationValid_any (x : List UInt8) (s : ByteArray) (w : World) (hm : s.size ≤ maxLen) :
    Calls Try.prog 5 #[.string ⟨x.toArray⟩, .string s] w fun e w' => e = .returned (.bool (rdDv x s.data.toList).isSome) ∧ Below w.heap.size w w' := by
  go_enter Try.func5, Try.ntmps5
  go_wp2_with fail
  refine (l4Read_any x s _ hm).mono ?_
  rintro e w1 ⟨hb1, ⟨t, v, hrd, rfl, htr⟩ | ⟨hrd, b, A, n, c, rfl⟩⟩
  · obtain ⟨A, n, c, rfl⟩ := htr.shape
    have HR := Lib.hid hrd
    have hz := hb1.size
    clear hrd htr
    go_wp2
    go_ret
    exact ⟨ret_bool (by rw [HR.out]; rfl), hb1.alloc hz _⟩
  · have HR := Lib.hid hrd
    have hz := hb1.size
    clear hrd
    go_wp2
    go_ret
    exact ⟨ret_bool (by rw [HR.out]; rfl), hb1.alloc hz _⟩
theorem specDerivationNodes_any (x : List UInt8) (s : ByteArray) (w : World) (hm : s.size ≤ maxLen) :
    Calls Try.prog 7 #[.string ⟨x.toArray⟩, .string s] w fun e w' => e = .returned (.int .i64 (noR x s.data.toList)) ∧ Below w.heap.size w w' := by
  go_enter Try.func7, Try.ntmps7
  go_wp2_with fail
  refine (l4Read_any x s _ hm).mono ?_
  rintro e w1 ⟨hb1, ⟨t, v, hrd, rfl, htr⟩ | ⟨hrd, b, A, n, c, rfl⟩⟩
  · obtain ⟨A, n, c, rfl⟩ := htr.shape
    obtain ⟨k, hk, hrt, hd, hn⟩ := rdDv_spec _ _ _ hrd
    have HR : Hid (noR x s.data.toList = ((dvN t : Nat) : Int)) := Lib.hid (by unfold noR; rw [hrd])
    have hz := hb1.size
    have hT := htr.alloc (fun q hq => hq.2) (.cells #[.string ⟨t.atom.toArray⟩, .slice A n c] 26)
    have C := Lib.hid (l4Nodes_any k t hd _ _ _ hT (fun q hq => by have := hq.2; simp; omega) (by omega))
    clear hrd htr hT hk hrt hd hn
    go_wp2_with fail
    refine C.out.mono ?_
    rintro e w2 ⟨rfl, hb2⟩
    have HB2 := Lib.hid ((hb1.alloc hz (.cells #[.string ⟨t.atom.toArray⟩, .slice A n c] 26)).trans (hb2.mono (by simp; omega)))
    clear hb2
    go_wp2_with fail
    go_ret
    exact ⟨ret_int (by rw [HR.out]), HB2.out⟩
  · have HR : Hid (noR x s.data.toList = -1) := Lib.hid (by unfold noR; rw [hrd])
    have hz := hb1.size
    clear hrd
    go_wp2
    go_ret
    exact ⟨ret_int (by rw [HR.out]), hb1.alloc hz _⟩
end Go.Proofs.Ytnnnphammfeemaa
