/- TermFree of the model and of the program. -/
import Derived.Test.YtgceephloklpbacQ
import Derived.Test.YtgceephloklpbacF3
import Derived.Test.YtgceephloklpbacZ
namespace Go.Proofs.Ytgceephloklpbac
set_option linter.unusedVariables false
open Go.RowKit

def frOf : Option Tm → List (List UInt8)
  | some t => freeS [] t []
  | none => []
theorem frOf_length (l : List UInt8) : (frOf (rdTerm l)).length ≤ 400 := by
  cases h : rdTerm l with
  | none => simp [frOf]
  | some t =>
    have := (rdTerm_good _ _ h).2
    have := freeS_length t [] []
    simp only [frOf]
    simp at this
    omega

/-- A new list of the free names, and whether the text was read. -/
def TfPost (o : Option Tm) (w : World) (e : Ending) (w' : World) : Prop :=
  ∃ v, e = .returned (.tuple #[v, .bool o.isSome]) ∧ SRow w' w.heap.size v (frOf o) ∧ Below w.heap.size w w'

theorem specTermFree_any (s : ByteArray) (w : World) (hm : s.size ≤ maxLen) :
    Calls Try.prog 11 #[.string s] w (TfPost (rdTerm s.data.toList) w) := by
  go_enter Try.func11, Try.ntmps11
  go_wp2_with fail
  refine (l1Term_any s _ hm).mono ?_
  rintro e w1 ⟨hb1, ⟨t, v, hrd, rfl, htr⟩ | ⟨hrd, b, A, n, c, rfl⟩⟩
  · obtain ⟨A, n, c, rfl⟩ := htr.shape
    obtain ⟨hok, hat⟩ := rdTerm_good _ _ hrd
    have HR := Lib.hid hrd
    have HAT := Lib.hid hat
    have HT := Lib.hid htr
    have HK := Lib.hid hok
    have HB := Lib.hid hb1
    have hz := hb1.size
    clear hrd htr hok hat hb1
    go_wp2_with fail
    have a1 := HT.out.alloc (fun q hq => hq.2) (.cells #[.string ⟨(tmTr t).atom.toArray⟩, .slice A n c] 35)
    have a2 := a1.alloc (fun q hq => by have := hq.2; simp; omega) (.cells #[] 9)
    have a3 := a2.alloc (fun q hq => by have := hq.2; simp; omega) (.cells #[] 9)
    have r1 : SRow ((((w1.alloc (.cells #[.string ⟨(tmTr t).atom.toArray⟩, .slice A n c] 35)).alloc (.cells #[] 9)).alloc (.cells #[] 9))) w1.heap.size (.slice (some ⟨w1.heap.size + 1, 0, none⟩) 0 0) [] := by
      have h := World.ownsRow_made (base := w1.heap.size) (e := 9) (size := 1) (w1.alloc (.cells #[.string ⟨(tmTr t).atom.toArray⟩, .slice A n c] 35)) #[] 0 (by simp) (Nat.zero_le _) rfl
      have h2 := h.alloc (.cells #[] 9)
      unfold SRow
      simpa using h2
    have r2 : SRow ((((w1.alloc (.cells #[.string ⟨(tmTr t).atom.toArray⟩, .slice A n c] 35)).alloc (.cells #[] 9)).alloc (.cells #[] 9))) w.heap.size (.slice (some ⟨w1.heap.size + 1 + 1, 0, none⟩) 0 0) [] := by
      have h := World.ownsRow_made (base := w.heap.size) (e := 9) (size := 1) ((w1.alloc (.cells #[.string ⟨(tmTr t).atom.toArray⟩, .slice A n c] 35)).alloc (.cells #[] 9)) #[] 0 (by simp; omega) (Nat.zero_le _) rfl
      unfold SRow
      simpa using h
    have hat := HAT.out
    refine (l1Free_any t [] [] w1.heap.size (w1.heap.size + 1) 0 w.heap.size _ _ _ _ HK.out a3 (fun q hq => ⟨by have := hq.2; simp; omega, by intro e; simp [Value.ownBlock] at e; have := hq.2; omega⟩) r1 (by simp [Value.ownBlock]) r2 (by simp; omega) (by simp; omega) (by simp; omega)).mono ?_
    rintro e w2 ⟨v2, rfl, g1, g2, g3⟩
    have HE : Hid (SRow w2 w.heap.size v2 (frOf (rdTerm s.data.toList)) ∧ Below w.heap.size w w2) := Lib.hid ⟨by rw [HR.out]; exact g1, (((HB.out.alloc hz _).alloc (by simp; omega) _).alloc (by simp; omega) _).grown g2 (by simp; omega) (fun k e => by simp [Value.ownBlock] at e; omega)⟩
    clear g1 g2 g3 a1 a2 a3 r1 r2
    go_wp2_with fail
    go_ret2
    exact ⟨v2, by rw [HR.out]; rfl, HE.out.1, HE.out.2⟩
  · have HR := Lib.hid hrd
    have hz := hb1.size
    clear hrd
    go_wp2
    go_ret2
    have h := World.ownsRow_made (base := w.heap.size) (e := 9) (size := 1) (w1.alloc (.cells #[.string b, .slice A n c] 35)) #[] 0 (by simp; omega) (Nat.zero_le _) rfl
    have hr : SRow (((w1.alloc (.cells #[.string b, .slice A n c] 35)).alloc (.cells #[] 9))) w.heap.size (.slice (some ⟨w1.heap.size + 1, 0, none⟩) 0 0) [] := by
      unfold SRow
      simpa using h
    exact ⟨_, by rw [HR.out]; rfl, by rw [HR.out]; exact hr, (hb1.alloc hz _).alloc (by simp; omega) _⟩

theorem implTermFree_any (s : ByteArray) (w : World) (hm : s.size ≤ maxLen) :
    Calls Try.prog 12 #[.string s] w (TfPost (rdTerm s.data.toList) w) := by
  go_enter Try.func12, Try.ntmps12
  go_wp2_with fail
  refine (readTerm_any s _ hm).mono ?_
  rintro e w1 ⟨hb1, ⟨t, v, hrd, rfl, hd⟩ | ⟨hrd, rfl⟩⟩
  · obtain ⟨d, rfl, _⟩ := hd.shape
    obtain ⟨hok, hat⟩ := rdTerm_good _ _ hrd
    have hfr : freeD (toDB [] t) [] = freeS [] t [] := freeD_toDB t [] []
    have hle := freeS_length t [] []
    have HFR := Lib.hid hfr
    have HLE : Hid ((freeS [] t []).length ≤ 9000) := Lib.hid (by simp at hle; omega)
    have HR := Lib.hid hrd
    have HD := Lib.hid hd
    have HB := Lib.hid hb1
    have hz := hb1.size
    clear hrd hd hok hat hb1 hfr hle
    go_wp2_with fail
    refine (freeNames_any (toDB [] t) [] w.heap.size _ (.slice none 0 0) _ _ HD.out (fun q hq => ⟨hq.2, by simp [Value.ownBlock]⟩) (World.ownsRow_nil _ _ _ _) hz (by rw [HFR.out]; exact HLE.out) (by simp)).mono ?_
    rintro e w2 ⟨v2, rfl, g1, g2, g3⟩
    have HE : Hid (SRow w2 w.heap.size v2 (frOf (rdTerm s.data.toList)) ∧ Below w.heap.size w w2) := Lib.hid ⟨by rw [HR.out]; rw [HFR.out] at g1; exact g1, HB.out.grown g2 hz (fun k e => by simp [Value.ownBlock] at e)⟩
    clear g1 g2 g3
    go_wp2_with fail
    go_ret2
    exact ⟨v2, by rw [HR.out]; rfl, HE.out.1, HE.out.2⟩
  · have HR := Lib.hid hrd
    clear hrd
    go_wp2
    go_ret2
    exact ⟨_, by rw [HR.out]; rfl, by rw [HR.out]; exact World.ownsRow_nil _ _ _ _, hb1⟩
end Go.Proofs.Ytgceephloklpbac
