/- For every text, the exact law of TermFree answers true: the program and its model report the same names, in the same order, of memory that the program makes anew at each call. No condition. -/
import Derived.Test.YtgceephloklpbacY
import Derived.Test.YtgceephloklpbacW2
import Derived.Test.YtgceephloklpbacLaw
import Derived.Test.YtgceephloklpbacF4
namespace Go.Proofs.Ytgceephloklpbac
set_option linter.unusedVariables false
open Go.ChangeShapes Go.WideShapes Go.ChangeAt Go.RowKit
open Go.ChangeMaps (open_string shut_string)

theorem own4 : ownKnob Try.prog.godebug = none := by kernel_rfl

theorem eqS_same (l : List (List UInt8)) (b1 b2 : Nat) (v1 v2 : Value) (w : World) (h1 : SRow w b1 v1 l) (h2 : SRow w b2 v2 l) (hn : l.length ≤ 400) :
    Calls Try.prog 13 #[v1, v2] w fun e w' => e = .returned (.bool true) ∧ Below w.heap.size w w' :=
  (eqS_any l l b1 b2 v1 v2 w h1 h2 (by omega) (by omega)).mono fun e w' ⟨he, n, hw⟩ => ⟨by rw [he]; simp, by rw [hw]; exact below_drewN' (Below.refl _ _) n⟩

theorem free_walk (a0 : ByteArray) (w0 : a0.size ≤ maxLen) (w : World) :
    Calls Try.prog 4 #[.string a0] w fun e w' => e = .returned (.bool true) ∧ Below w.heap.size w w' := by
  have hm := w0
  unfold maxLen at w0
  by_cases hs : a0.size ≤ 1048576
  · have hL := frOf_length a0.data.toList
    have S1 := Lib.hid (fun w => specTermFree_any a0 w hm)
    have I1 := Lib.hid (fun w => implTermFree_any a0 w hm)
    unfold TfPost at S1 I1
    generalize frOf (rdTerm a0.data.toList) = L at hL S1 I1
    generalize (rdTerm a0.data.toList).isSome = ok at S1 I1
    obtain ⟨k, hk⟩ : ∃ k : Nat, k = 1 + L.length := ⟨_, rfl⟩
    have HL := Lib.hid hL
    have HK := Lib.hid hk
    have hk1 : 1 ≤ k ∧ k ≤ 401 := by omega
    clear hL hk
    cases ok
    all_goals
      go_enter Try.func4, Try.ntmps4
      go_wp2_with fail
      refine (S1.out _).mono ?_
      rintro e w1 ⟨v1, rfl, r1, hb1⟩
      have R1 := Lib.hid r1
      have B1 := Lib.hid hb1
      clear r1 hb1
      go_wp2_with fail
      refine (I1.out _).mono ?_
      rintro e w2 ⟨v2, rfl, r2, hb2⟩
      have R2 := Lib.hid r2
      have B2 := Lib.hid hb2
      have R12 := Lib.hid (R1.out.below hb2)
      clear r2 hb2
      go_wp2_with fail
      refine (eqS_same L _ _ v2 v1 _ R2.out R12.out HL.out).mono ?_
      rintro e w3 ⟨rfl, hb3⟩
      have B3 := Lib.hid hb3
      have R23 := Lib.hid (R2.out.below hb3)
      have R13 := Lib.hid (R12.out.below hb3)
      clear hb3
      go_wp2_with fail
      refine (markS_any L 1 _ v2 _ R23.out (by omega) (by have := HL.out; omega)).mono ?_
      rw [← HK.out]
      rintro e w4 ⟨rfl, hg4, r4⟩
      have R24 := Lib.hid r4
      have R14 : Hid (SRow w4 w.heap.size v1 L) := Lib.hid (R13.out.kept hg4 (by
        cases h1 : v1.ownBlock with
        | none => exact .inl rfl
        | some q =>
          refine .inr fun e => ?_
          have := (R1.out.lt q h1).2
          have := (R2.out.lt q e.symm).1
          omega))
      have B4 : Hid (Below w1.heap.size w3 w4) := Lib.hid ((Below.refl _ _).grown hg4 (by have := B2.out.size; have := B3.out.size; omega) (fun q e => (R2.out.lt q e).1))
      clear r4 hg4
      go_wp2_with fail
      refine (heldS_any 1 L.length _ v2 _ R24.out (by omega) (by have := HL.out; omega)).mono ?_
      rw [← HK.out]
      rintro e w5 ⟨rfl, hb5⟩
      have R25 := Lib.hid (R24.out.below hb5)
      have R15 := Lib.hid (R14.out.below hb5)
      have B5 := Lib.hid hb5
      clear hb5
      go_wp2_with fail
      refine (I1.out _).mono ?_
      rintro e w6 ⟨v6, rfl, r6, hb6⟩
      have R6 := Lib.hid r6
      have R26 := Lib.hid (R25.out.below hb6)
      have R16 := Lib.hid (R15.out.below hb6)
      have B6 := Lib.hid hb6
      clear r6 hb6
      go_wp2_with fail
      refine (eqS_same L _ _ v6 v1 _ R6.out R16.out HL.out).mono ?_
      rintro e w7 ⟨rfl, hb7⟩
      have R27 := Lib.hid (R26.out.below hb7)
      have B7 := Lib.hid hb7
      clear hb7
      go_wp2_with fail
      refine (heldS_any 1 L.length _ v2 _ R27.out (by omega) (by have := HL.out; omega)).mono ?_
      rw [← HK.out]
      rintro e w8 ⟨rfl, hb8⟩
      have HB : Hid (Below w.heap.size w w8) := Lib.hid (by
        have z1 := B1.out.size
        have z2 := B2.out.size
        have z3 := B3.out.size
        have z4 := B4.out.size
        have z5 := B5.out.size
        have z6 := B6.out.size
        have z7 := B7.out.size
        exact B1.out.trans ((B2.out.mono (by omega)).trans ((B3.out.mono (by omega)).trans ((B4.out.mono (by omega)).trans ((B5.out.mono (by omega)).trans ((B6.out.mono (by omega)).trans ((B7.out.mono (by omega)).trans (hb8.mono (by omega)))))))) )
      clear hb8
      go_wp2_with fail
      go_ret
      exact ⟨rfl, HB.out⟩
  · go_enter Try.func4, Try.ntmps4
    go_wp2
    go_ret
    exact ⟨rfl, Below.refl _ _⟩

set_option maxRecDepth 100000 in
theorem free_lifted (os : Os) (started : os.Started) (H : Type) (enc : TypeId × Value → H) :
    ReturnsInHanded {} Try.checked os 4 .any (Rows.fnExactTermFreeSpec.pre6 enc Try.prog Try.f4 Rows.fnExactTermFreeRow.domain false) (Rows.fnExactTermFreeSpec.post enc Try.prog Try.f4 false true false false) := by
  refine returnsInHanded_of_change (C := Try.checked) own4 started (by kernel_rfl) Try.func4
    (ChangeSpec.witness6 (enc := enc) (C := Try.checked) false ⟨#[], #[.string ByteArray.empty], []⟩ 8 (by kernel_rfl) (by kernel_rfl) (by kernel_rfl) (by kernel_rfl)) ?_
  intro W base args ds gs before hval0 hW hcnd _
  have hval : ∀ (j : Nat) t v, Try.f4.params[j]? = some t → args[j]? = some v → Value.okWide Try.prog W .any base t v := hval0
  have hW' := hW
  obtain ⟨p, q, hA0, hV, rfl, hfz, hnd⟩ := hW
  have hA : DataW.TrodAll enc Try.prog W 0 (fun _ => true) true Try.f4.params.toList args.toList ds p := hA0
  rw [Try.params4] at hA hval
  obtain ⟨v0, vs0, d0, ds0, p0, q0, hargs, rfl, rfl, h0, r0⟩ := trodAll_cons hA
  obtain ⟨rfl, rfl, rfl⟩ := trodAll_nil r0
  obtain rfl : args = #[v0] := by cases args; simp_all
  obtain ⟨rfl, rfl⟩ := trodVars_none hV
  obtain ⟨a0, rfl, rfl, rfl, w0⟩ := open_string Try.underlying9 (hval 0 9 v0 rfl rfl) h0
  clear hA0 hval0
  simp only [List.append_nil] at hW'
  refine (free_walk a0 w0 W).mono fun e W' ⟨he, hg⟩ => ?_
  subst he
  exact ⟨_, rfl, post_law hW' (fun _ _ _ => (trodAll_cons_mk (shut_bool Try.underlying4 _) trodAll_mk0)) (fun sp => (trodAll_cons_mk (shut_string Try.underlying9 w0) trodAll_mk0)) (fun _ => rfl) hg⟩

/-- The exact law of TermFree. -/
theorem termFree_holds : Rows.FnExactTermFreeSaid :=
  OpenClaim.holds_of_wide 4 Try.f4 rfl rfl rfl rfl rfl rfl rfl ⟨rfl, rfl, rfl, rfl, rfl⟩ rfl rfl rfl rfl rfl (by kernel_rfl) Try.func4 (by kernel_rfl)
    (of_decide_eq_true (by kernel_rfl)) (by unfold Func.isWrapper; first | (rw [if_pos (by decide +kernel)]; kernel_rfl) | (rw [if_neg (by decide +kernel)]; exact ⟨rfl, rfl⟩))
    (fun os started H enc _ => free_lifted os started H enc)
end Go.Proofs.Ytgceephloklpbac
