/- For every two texts, the exact law of DeriveTypes answers true: the program and its model report the same types, in the same order, in memory that the program makes anew at each call. No condition. -/
import Derived.Test.YtnnnphammfeemaaGreatLaw
import Derived.Test.YtnnnphammfeemaaGreatJ2
import Derived.Test.YtnnnphammfeemaaGreatW2
import Derived.Test.YtnnnphammfeemaaGreatY
namespace Go.Proofs.YtnnnphammfeemaaGreat
set_option linter.unusedVariables false
open Go.ChangeShapes Go.WideShapes Go.ChangeAt Go.RowKit
open Go.ChangeMaps (open_string shut_string)

theorem ownGD : ownKnob Tryz.prog.godebug = none := by kernel_rfl

theorem SRow.after {w w' : World} {base : Nat} {v : Value} {l : List (List UInt8)} (h : SRow w base v l) (hb : Below w.heap.size w w') : SRow w' base v l :=
  h.kept (show w.grownBy w' none from ⟨hb.os, hb.tape, hb.output, hb.size, fun k hk _ => hb.block k hk⟩) (by cases v.ownBlock <;> simp)
theorem eqS_same (l : List (List UInt8)) (b1 b2 : Nat) (v1 v2 : Value) (w : World) (h1 : SRow w b1 v1 l) (h2 : SRow w b2 v2 l) (hn : l.length ≤ 600) :
    Calls Tryz.prog 19 #[v1, v2] w fun e w' => e = .returned (.bool true) ∧ Below w.heap.size w w' :=
  (eqS_any l l b1 b2 v1 v2 w h1 h2 (by omega) (by omega)).mono fun e w' ⟨he, n, hw⟩ => ⟨by rw [he]; simp, by rw [hw]; exact ⟨rfl, rfl, rfl, Nat.le_refl _, fun _ _ => rfl⟩⟩

theorem bytes_list (a : ByteArray) : ∃ l : List UInt8, a = ⟨l.toArray⟩ := ⟨a.data.toList, by cases a; simp⟩

theorem drTypes_walk (a0 a1 : ByteArray) (w0 : a0.size ≤ maxLen) (w1 : a1.size ≤ maxLen) (w : World) :
    Calls Tryz.prog 5 #[.string a0, .string a1] w fun e w' => e = .returned (.bool true) ∧ Below w.heap.size w w' := by
  have hm := w1
  obtain ⟨l0, rfl⟩ := bytes_list a0
  have hs1 : (ByteArray.mk l0.toArray).size = l0.length := by simp [ByteArray.size]
  rw [hs1] at w0
  unfold maxLen at w0 w1
  by_cases hs : l0.length ≤ 1048576
  · by_cases hs2 : a1.size ≤ 1048576
    · have HS1 := Lib.hid hs1
      clear hs1
      have hL : ((dtR l0 a1.data.toList).getD []).length ≤ 600 := by
        unfold dtR
        cases hr : rdDv l0 a1.data.toList with
        | none => simp
        | some t =>
          obtain ⟨k, _, _, hd, hn⟩ := rdDv_spec _ _ _ hr
          have := dvA_len k t hd
          simp only [Option.map_some, Option.getD_some]
          omega
      have S1 := Lib.hid (fun w => specDeriveTypes_any l0 a1 w hm)
      have I1 := Lib.hid (fun w => implDeriveTypes_any l0 a1 w hm)
      generalize (dtR l0 a1.data.toList).getD [] = L at hL S1 I1
      generalize (dtR l0 a1.data.toList).isSome = ok at S1 I1
      obtain ⟨k, hk⟩ : ∃ k : Nat, k = 1 + L.length := ⟨_, rfl⟩
      have HL := Lib.hid hL
      have HK := Lib.hid hk
      have hk1 : 1 ≤ k ∧ k ≤ 601 := by omega
      clear hL hk
      cases ok
      all_goals
        go_enter Tryz.func5, Tryz.ntmps5
        go_wp2_with fail
        refine (S1.out _).mono ?_
        rintro e w1 ⟨v1, rfl, r1, hb1⟩
        have R1 := Lib.hid r1
        have B1 := Lib.hid hb1
        clear r1 hb1
        go_wp2_with fail
        refine (I1.out _).mono ?_
        rintro e w2 ⟨v2, rfl, r2, hb2⟩
        have R2 := Lib.hid r2
        have B2 := Lib.hid hb2
        have R12 := Lib.hid (R1.out.after hb2)
        clear r2 hb2
        go_wp2_with fail
        refine (eqS_same L _ _ v2 v1 _ R2.out R12.out HL.out).mono ?_
        rintro e w3 ⟨rfl, hb3⟩
        have B3 := Lib.hid hb3
        have R23 := Lib.hid (R2.out.after hb3)
        have R13 := Lib.hid (R12.out.after hb3)
        clear hb3
        go_wp2_with fail
        refine (markS_any L 1 _ v2 _ R23.out (by omega) (by have := HL.out; omega)).mono ?_
        rw [← HK.out]
        rintro e w4 ⟨rfl, hg4, r4⟩
        have R24 := Lib.hid r4
        have R14 : Hid (SRow w4 w.heap.size v1 L) := Lib.hid (R13.out.kept hg4 (by
          cases h1 : v1.ownBlock with
          | none => exact .inl rfl
          | some q =>
            refine .inr fun e => ?_
            have := (R1.out.lt q h1).2
            have := (R2.out.lt q e.symm).1
            omega))
        have B4 : Hid (Below w1.heap.size w3 w4) := Lib.hid ((Below.refl _ _).grown hg4 (by have := B2.out.size; have := B3.out.size; omega) (fun q e => (R2.out.lt q e).1))
        clear r4 hg4
        go_wp2_with fail
        refine (heldS_any 1 L.length _ v2 _ R24.out (by omega) (by have := HL.out; omega)).mono ?_
        rw [← HK.out]
        rintro e w5 ⟨rfl, hb5⟩
        have R25 := Lib.hid (R24.out.after hb5)
        have R15 := Lib.hid (R14.out.after hb5)
        have B5 := Lib.hid hb5
        clear hb5
        go_wp2_with fail
        refine (I1.out _).mono ?_
        rintro e w6 ⟨v6, rfl, r6, hb6⟩
        have R6 := Lib.hid r6
        have R26 := Lib.hid (R25.out.after hb6)
        have R16 := Lib.hid (R15.out.after hb6)
        have B6 := Lib.hid hb6
        clear r6 hb6
        go_wp2_with fail
        refine (eqS_same L _ _ v6 v1 _ R6.out R16.out HL.out).mono ?_
        rintro e w7 ⟨rfl, hb7⟩
        have R27 := Lib.hid (R26.out.after hb7)
        have B7 := Lib.hid hb7
        clear hb7
        go_wp2_with fail
        refine (heldS_any 1 L.length _ v2 _ R27.out (by omega) (by have := HL.out; omega)).mono ?_
        rw [← HK.out]
        rintro e w8 ⟨rfl, hb8⟩
        have HB : Hid (Below w.heap.size w w8) := Lib.hid (by
          have z1 := B1.out.size
          have z2 := B2.out.size
          have z3 := B3.out.size
          have z4 := B4.out.size
          have z5 := B5.out.size
          have z6 := B6.out.size
          have z7 := B7.out.size
          exact B1.out.trans ((B2.out.mono (by omega)).trans ((B3.out.mono (by omega)).trans ((B4.out.mono (by omega)).trans ((B5.out.mono (by omega)).trans ((B6.out.mono (by omega)).trans ((B7.out.mono (by omega)).trans (hb8.mono (by omega)))))))) )
        clear hb8
        go_wp2_with fail
        go_ret
        exact ⟨rfl, HB.out⟩
    · have HS1 := Lib.hid hs1
      clear hs1
      go_enter Tryz.func5, Tryz.ntmps5
      go_wp2
      go_ret
      exact ⟨rfl, Below.refl _ _⟩
  · have HS1 := Lib.hid hs1
    clear hs1
    go_enter Tryz.func5, Tryz.ntmps5
    go_wp2
    go_ret
    exact ⟨rfl, Below.refl _ _⟩

set_option maxRecDepth 100000 in
theorem drTypes_lifted (os : Os) (started : os.Started) (H : Type) (enc : TypeId × Value → H) :
    ReturnsInHanded {} Tryz.checked os 5 .any (Rows.fnExactDeriveTypesSpec.pre6 enc Tryz.prog Tryz.f5 Rows.fnExactDeriveTypesRow.domain false) (Rows.fnExactDeriveTypesSpec.post enc Tryz.prog Tryz.f5 false true false false) := by
  refine returnsInHanded_of_change (C := Tryz.checked) ownGD started (by kernel_rfl) Tryz.func5
    (ChangeSpec.witness6 (enc := enc) (C := Tryz.checked) false ⟨#[], #[.string ByteArray.empty, .string ByteArray.empty], []⟩ 8 (by kernel_rfl) (by kernel_rfl) (by kernel_rfl) (by kernel_rfl)) ?_
  intro W base args ds gs before hval0 hW hcnd _
  have hval : ∀ (j : Nat) t v, Tryz.f5.params[j]? = some t → args[j]? = some v → Value.okWide Tryz.prog W .any base t v := hval0
  have hW' := hW
  obtain ⟨p, q, hA0, hV, rfl, hfz, hnd⟩ := hW
  have hA : DataW.TrodAll enc Tryz.prog W 0 (fun _ => true) true Tryz.f5.params.toList args.toList ds p := hA0
  rw [Tryz.params5] at hA hval
  obtain ⟨v0, vs0, d0, ds0, p0, q0, hargs, rfl, rfl, h0, r0⟩ := trodAll_cons hA
  obtain ⟨v1, vs1, d1, ds1, p1, q1, rfl, rfl, rfl, h1, r1⟩ := trodAll_cons r0
  obtain ⟨rfl, rfl, rfl⟩ := trodAll_nil r1
  obtain rfl : args = #[v0, v1] := by cases args; simp_all
  obtain ⟨rfl, rfl⟩ := trodVars_none hV
  obtain ⟨a0, rfl, rfl, rfl, w0⟩ := open_string Tryz.underlying9 (hval 0 9 v0 rfl rfl) h0
  obtain ⟨a1, rfl, rfl, rfl, w1⟩ := open_string Tryz.underlying9 (hval 1 9 v1 rfl rfl) h1
  clear hA0 hval0
  simp only [List.append_nil] at hW'
  refine (drTypes_walk a0 a1 w0 w1 W).mono fun e W' ⟨he, hg⟩ => ?_
  subst he
  exact ⟨_, rfl, post_law hW' (fun _ _ _ => (trodAll_cons_mk (shut_bool Tryz.underlying4 _) trodAll_mk0)) (fun sp => (trodAll_cons_mk (shut_string Tryz.underlying9 w0) (trodAll_cons_mk (shut_string Tryz.underlying9 w1) trodAll_mk0))) (fun _ => rfl) hg⟩

/-- The exact law of DeriveTypes. -/
theorem drTypes_holds : Rows.FnExactDeriveTypesSaid :=
  OpenClaim.holds_of_wide 5 Tryz.f5 rfl rfl rfl rfl rfl rfl rfl ⟨rfl, rfl, rfl, rfl, rfl⟩ rfl rfl rfl rfl rfl (by kernel_rfl) Tryz.func5 (by kernel_rfl)
    (of_decide_eq_true (by kernel_rfl)) (by unfold Func.isWrapper; first | (rw [if_pos (by decide +kernel)]; kernel_rfl) | (rw [if_neg (by decide +kernel)]; exact ⟨rfl, rfl⟩))
    (fun os started H enc _ => drTypes_lifted os started H enc)
end Go.Proofs.YtnnnphammfeemaaGreat
