/- The model's answers on sizes and uses. -/
import Derived.Test.YtgceephloklpbacS
import Derived.Test.YtgceephloklpbacR
namespace Go.Proofs.Ytgceephloklpbac
set_option linter.unusedVariables false
open Go.RowKit

def szOf (o : Option Tm) : Int := match o with
  | some t => t.size
  | none => -1
def usOf (x : List UInt8) (o : Option Tm) : Int := if isNm x = true then (match o with
  | some t => t.uses x
  | none => -1) else -1

set_option maxRecDepth 100000 in
theorem specTermSize_any (s : ByteArray) (w : World) (hm : s.size ≤ maxLen) :
    Calls Try.prog 18 #[.string s] w fun e w' => e = .returned (.int .i64 (szOf (rdTerm s.data.toList))) ∧ Below w.heap.size w w' := by
  go_enter Try.func18, Try.ntmps18
  go_wp2_with fail
  refine (l1Term_any s _ hm).mono ?_
  rintro e w1 ⟨hb1, ⟨t, v, hrd, rfl, htr⟩ | ⟨hrd, b, A, n, c, rfl⟩⟩
  · obtain ⟨A, n, c, rfl⟩ := htr.shape
    obtain ⟨hok, hat⟩ := rdTerm_good _ _ hrd
    have hsa := size_atoms t
    have HR := Lib.hid hrd
    have HT := Lib.hid (htr.alloc (fun q hq => hq.2) (.cells #[.string ⟨(tmTr t).atom.toArray⟩, .slice A n c] 35))
    have HK := Lib.hid hok
    have hz := hb1.size
    clear hrd htr hok
    go_wp2_with fail
    refine (l1Size_any t _ _ _ HK.out HT.out (fun q hq => by simp; omega) (by omega)).mono ?_
    rintro e w2 ⟨rfl, hb2⟩
    go_wp2_with fail
    go_ret
    exact ⟨ret_int (by rw [HR.out]; rfl), (hb1.alloc hz _).trans (hb2.mono (by simp; omega))⟩
  · have HR := Lib.hid hrd
    clear hrd
    go_wp2
    go_ret
    exact ⟨ret_int (by rw [HR.out]; rfl), hb1.alloc hb1.size _⟩

set_option maxRecDepth 100000 in
theorem specTermUses_any (s : ByteArray) (x : List UInt8) (w : World) (hm : s.size ≤ maxLen) (hx : x.length ≤ maxLen) :
    Calls Try.prog 16 #[.string s, .string ⟨x.toArray⟩] w fun e w' => e = .returned (.int .i64 (usOf x (rdTerm s.data.toList))) ∧ Below w.heap.size w w' := by
  go_enter Try.func16, Try.ntmps16
  go_wp2_with fail
  refine (l1Term_any s _ hm).mono ?_
  rintro e w1 ⟨hb1, ⟨t, v, hrd, rfl, htr⟩ | ⟨hrd, b, A, n, c, rfl⟩⟩
  · obtain ⟨A, n, c, rfl⟩ := htr.shape
    obtain ⟨hok, hat⟩ := rdTerm_good _ _ hrd
    have hsa := uses_atoms x t
    have HR := Lib.hid hrd
    have HT := Lib.hid (htr.alloc (fun q hq => hq.2) (.cells #[.string ⟨(tmTr t).atom.toArray⟩, .slice A n c] 35))
    have HK := Lib.hid hok
    have hz := hb1.size
    clear hrd htr hok
    go_wp2_with fail
    refine (l1Name_any _ _ (by simpa [ByteArray.size] using hx)).mono ?_
    rintro e w2 ⟨rfl, rfl⟩
    rw [toNil]
    cases hn : isNm x with
    | true =>
      have HN := Lib.hid hn
      clear hn
      go_wp2_with fail
      refine (l1Uses_any x t _ _ _ HK.out HT.out (fun q hq => by simp; omega) (by omega)).mono ?_
      rintro e w2 ⟨rfl, hb2⟩
      go_wp2_with fail
      go_ret
      exact ⟨ret_int (by unfold usOf; rw [HR.out, if_pos HN.out]), (hb1.alloc hz _).trans (hb2.mono (by simp; omega))⟩
    | false =>
      have HN := Lib.hid hn
      clear hn
      go_wp2_with fail
      go_ret
      exact ⟨ret_int (by unfold usOf; rw [if_neg (by rw [HN.out]; decide)]), hb1.alloc hz _⟩
  · have HR := Lib.hid hrd
    clear hrd
    go_wp2
    go_ret
    exact ⟨ret_int (by unfold usOf; rw [HR.out]; split <;> rfl), hb1.alloc hb1.size _⟩
end Go.Proofs.Ytgceephloklpbac
