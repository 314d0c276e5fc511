/- The program reads a text that has not too many atoms. -/
import Derived.Test.YtljkmeloleeopaaPC
namespace Go.Proofs.Ytljkmeloleeopaa
set_option linter.unusedVariables false
open Go.RowKit

/-- What is answered: the parts of a text with at most n atoms, or none. -/
def RaPost (n : Nat) (s : ByteArray) (w : World) (e : Ending) (w' : World) : Prop :=
  Below w.heap.size w w' ∧ ((∃ t v, rdText s.data.toList = some t ∧ trAtoms t ≤ n ∧ e = .returned (.tuple #[v, .bool true]) ∧ PAt w' (fun b => w.heap.size ≤ b ∧ b < w'.heap.size) t v) ∨
    ((∀ t, rdText s.data.toList = some t → n < trAtoms t) ∧ e = .returned (.tuple #[.pointer none, .bool false])))
set_option maxRecDepth 100000 in
theorem readAtMost_any (n : Nat) (hn : n ≤ 1000) (s : ByteArray) (w : World) (hm : s.size ≤ maxLen) :
    Calls Try.prog 40 #[.string s, .int .i64 n] w (RaPost n s w) := by
  go_enter Try.func40, Try.ntmps40
  go_wp2_with fail
  refine (readText_any s _ hm).mono ?_
  rintro e w1 ⟨hb1, ⟨t, v, hrd, rfl, hpt⟩ | ⟨hrd, rfl⟩⟩
  · obtain ⟨b, rfl, _⟩ := hpt.shape
    have hok := rdText_ok _ _ hrd
    have ha : trAtoms t ≤ 10000 := by omega
    have HC := Lib.hid (countAtoms_any t _ w1 _ hpt ha)
    have HR := Lib.hid hrd
    have HP := Lib.hid hpt
    have HB := Lib.hid hb1
    clear hrd hpt hok hb1
    by_cases hle : trAtoms t ≤ n
    · have hd : decide ((n : Int) < (trAtoms t : Int)) = false := by simp; omega
      have hd2 : ¬ ((n : Int) < (trAtoms t : Int)) := by omega
      go_wp2_with fail
      refine HC.out.mono ?_
      rintro e w2 ⟨rfl, rfl⟩
      go_wp2_with fail
      go_ret2
      exact ⟨HB.out, .inl ⟨t, _, HR.out, hle, rfl, HP.out⟩⟩
    · have hd : decide ((n : Int) < (trAtoms t : Int)) = true := by simp; omega
      have hd2 : ((n : Int) < (trAtoms t : Int)) := by omega
      go_wp2_with fail
      refine HC.out.mono ?_
      rintro e w2 ⟨rfl, rfl⟩
      go_wp2_with fail
      go_ret2
      refine ⟨HB.out, .inr ⟨fun u hu => ?_, rfl⟩⟩
      rw [HR.out] at hu
      injection hu with hu
      subst hu
      omega
  · have HR := Lib.hid hrd
    clear hrd
    go_wp2_with fail
    go_ret2
    refine ⟨hb1, .inr ⟨fun u hu => ?_, rfl⟩⟩
    rw [HR.out] at hu
    cases hu
end Go.Proofs.Ytljkmeloleeopaa
