/- The program's reading of a term. -/
import Derived.Test.YtljkmeloleeopaaP
import Derived.Test.YtljkmeloleeopaaRA
namespace Go.Proofs.Ytljkmeloleeopaa
set_option linter.unusedVariables false
open Go.RowKit

/-- What the program's reading of a term answers. -/
def RtPost (s : ByteArray) (w : World) (e : Ending) (w' : World) : Prop :=
  Below w.heap.size w w' ∧
  ((∃ tm v, rdTerm s.data.toList = some tm ∧ e = .returned (.tuple #[v, .bool true]) ∧ DAt w' (fun b => w.heap.size ≤ b ∧ b < w'.heap.size) (toDB [] tm) v) ∨
   (rdTerm s.data.toList = none ∧ e = .returned (.tuple #[.pointer none, .bool false])))

theorem rdTerm_few (s : ByteArray) (h : ∀ t, rdText s.data.toList = some t → 400 < trAtoms t) : rdTerm s.data.toList = none := by
  unfold rdTerm
  cases hr : rdText s.data.toList with
  | none => rfl
  | some t =>
    have := h t hr
    simp only
    rw [if_neg (by omega)]
theorem readTerm_any (s : ByteArray) (w : World) (hm : s.size ≤ maxLen) :
    Calls Try.prog 29 #[.string s] w (RtPost s w) := by
  go_enter Try.func29, Try.ntmps29
  go_wp2_with fail
  refine (readAtMost_any 400 (by omega) s _ hm).mono ?_
  rintro e w1 ⟨hb1, ⟨t, v, hrd, hat, rfl, htr⟩ | ⟨hrd, rfl⟩⟩
  · obtain ⟨b, rfl, hbP⟩ := htr.shape
    obtain ⟨hwf, hta, _⟩ := rdText_ok _ _ hrd
    have ha : trAtoms t ≤ 10000 := by omega
    have HT := Lib.hid htr
    have hrt : rdTerm s.data.toList = trTm t := by unfold rdTerm; rw [hrd]; simp only [hat, if_true]
    have HRT := Lib.hid hrt
    clear htr hrd hwf hta hrt
    go_wp2_with fail
    refine (termOf_any t _ [] (.slice none 0 0) _ _ HT.out (fun q hq => ⟨hq.2, by simp [Value.ownBlock]⟩) (World.ownsRow_nil _ _ _ _) (by simpa using ha)).mono ?_
    rintro e w3 ⟨hg3, _, ⟨tm, v, htm, rfl, hd⟩ | ⟨htm, rfl⟩⟩
    · have HM := Lib.hid htm
      have HD := Lib.hid hd
      clear htm hd
      go_wp2_with fail
      go_ret2
      have hz1 := hb1.size
      exact ⟨hb1.grown hg3 hz1 (by simp [Value.ownBlock]), .inl ⟨tm, v, by rw [HRT.out, HM.out], rfl, HD.out.mono fun q hq => ⟨⟨by omega, hq.2⟩, rfl⟩⟩⟩
    · have HM := Lib.hid htm
      clear htm
      go_wp2_with fail
      go_ret2
      have hz1 := hb1.size
      exact ⟨hb1.grown hg3 hz1 (by simp [Value.ownBlock]), .inr ⟨by rw [HRT.out, HM.out], rfl⟩⟩
  · have HN := Lib.hid (rdTerm_few s hrd)
    clear hrd
    go_wp2
    go_ret2
    exact ⟨hb1, .inr ⟨HN.out, rfl⟩⟩

end Go.Proofs.Ytljkmeloleeopaa
