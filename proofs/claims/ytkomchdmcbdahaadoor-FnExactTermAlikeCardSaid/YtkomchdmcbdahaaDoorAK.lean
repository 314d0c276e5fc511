/- TermAlike of the model and of the program. -/
import Derived.Test.YtkomchdmcbdahaaDoorAP
namespace Go.Proofs.YtkomchdmcbdahaaDoor
set_option linter.unusedVariables false
open Go.RowKit

/-- Both were read, and have one canonical text. -/
def alk (o1 o2 : Option Tm) : Bool := o1.isSome && o2.isSome && (ctS o1 == ctS o2)

theorem specTermAlike_any (s1 s2 : ByteArray) (w : World) (hm1 : s1.size ≤ maxLen) (hm2 : s2.size ≤ maxLen) :
    Calls Tryd.prog 12 #[.string s1, .string s2] w fun e w' => e = .returned (.bool (alk (cnO (rdTerm s1.data.toList)) (cnO (rdTerm s2.data.toList)))) ∧ Below w.heap.size w w' := by
  have C1 := Lib.hid (fun w => specTermCanon_any s1 w hm1)
  have C2 := Lib.hid (fun w => specTermCanon_any s2 w hm2)
  skip
  skip
  unfold CtPost at C1 C2
  unfold alk
  generalize ctS (cnO (rdTerm s1.data.toList)) = n1 at C1 ⊢
  generalize ctS (cnO (rdTerm s2.data.toList)) = n2 at C2 ⊢
  generalize (cnO (rdTerm s1.data.toList)).isSome = o1 at C1 ⊢
  generalize (cnO (rdTerm s2.data.toList)).isSome = o2 at C2 ⊢
  have hc : (n1 == n2) = true ∨ (n1 == n2) = false := by cases (n1 == n2) <;> simp
  cases o1 <;> cases o2 <;> rcases hc with hc | hc
  all_goals
    go_enter Tryd.func12, Tryd.ntmps12
    go_wp2_with fail
    refine (C1.out _).mono ?_
    rintro e w1 ⟨rfl, hb1⟩
    go_wp2_with fail
    refine (C2.out _).mono ?_
    rintro e w2 ⟨rfl, hb2⟩
    have hz1 := hb1.size
    have HB := Lib.hid (hb1.trans (hb2.mono hz1))
    clear hb1 hb2
    go_wp2_with fail
    go_ret
    exact ⟨by simp [hc], HB.out⟩

theorem implTermAlike_any (s1 s2 : ByteArray) (w : World) (hm1 : s1.size ≤ maxLen) (hm2 : s2.size ≤ maxLen) (ht : Tab w) :
    Calls Tryd.prog 13 #[.string s1, .string s2] w fun e w' => e = .returned (.bool (alk (cnO (rdTerm s1.data.toList)) (cnO (rdTerm s2.data.toList)))) ∧ Below w.heap.size w w' := by
  have C1 := Lib.hid (fun w (ht : Tab w) => implTermCanon_any s1 w hm1 ht)
  have C2 := Lib.hid (fun w (ht : Tab w) => implTermCanon_any s2 w hm2 ht)
  have HT := Lib.hid ht
  clear ht
  unfold CtPost at C1 C2
  unfold alk
  generalize ctS (cnO (rdTerm s1.data.toList)) = n1 at C1 ⊢
  generalize ctS (cnO (rdTerm s2.data.toList)) = n2 at C2 ⊢
  generalize (cnO (rdTerm s1.data.toList)).isSome = o1 at C1 ⊢
  generalize (cnO (rdTerm s2.data.toList)).isSome = o2 at C2 ⊢
  have hc : (n1 == n2) = true ∨ (n1 == n2) = false := by cases (n1 == n2) <;> simp
  cases o1 <;> cases o2 <;> rcases hc with hc | hc
  all_goals
    go_enter Tryd.func13, Tryd.ntmps13
    go_wp2_with fail
    refine (C1.out _ HT.out).mono ?_
    rintro e w1 ⟨rfl, hb1⟩
    go_wp2_with fail
    refine (C2.out _ (HT.out.below hb1)).mono ?_
    rintro e w2 ⟨rfl, hb2⟩
    have hz1 := hb1.size
    have HB := Lib.hid (hb1.trans (hb2.mono hz1))
    clear hb1 hb2
    go_wp2_with fail
    go_ret
    exact ⟨by simp [hc], HB.out⟩
end Go.Proofs.YtkomchdmcbdahaaDoor
