/- For every text and every number, the exact law of MachineTrace answers true: the program and its model report the same, and what they were given reads afterwards as before. No condition. -/
import Derived.Test.YtljkmeloleeopaaLaw
import Derived.Test.YtljkmeloleeopaaYV
namespace Go.Proofs.Ytljkmeloleeopaa
set_option linter.unusedVariables false
open Go.ChangeShapes Go.WideShapes Go.ChangeAt Go.RowKit
open Go.ChangeMaps (open_string shut_string)

theorem ownYW : ownKnob Try.prog.godebug = none := by kernel_rfl

theorem mcTrace_walk (a0 : ByteArray) (a1 : Int) (w0 : a0.size ≤ maxLen) (w : World) :
    Calls Try.prog 6 #[.string a0, .int .i64 a1] w fun e w' => e = .returned (.bool true) ∧ Below w.heap.size w w' := by
  have hm0 := w0
  unfold maxLen at w0
  by_cases hs0 : a0.size ≤ 1048576
  · obtain ⟨x, b, hx⟩ : ∃ x b, trE a1 (mcR a0.data.toList) = .returned (.tuple #[.string x, .bool b]) := by
      cases hr : mcR a0.data.toList with
      | none => exact ⟨_, _, rfl⟩
      | some p =>
        by_cases hn : 0 ≤ a1 ∧ a1 ≤ 300
        · exact ⟨⟨((letters p.2 ++ [46]).take a1.toNat).toArray⟩, true, by simp only [trE, if_pos hn]⟩
        · exact ⟨⟨#[]⟩, false, by simp only [trE, if_neg hn]⟩
    have S1 := Lib.hid (fun w => specMachineTrace_any a0 a1 w hm0)
    have I1 := Lib.hid (fun w => implMachineTrace_any a0 a1 w hm0)
    rw [hx] at S1 I1
    clear hx
    go_enter Try.func6, Try.ntmps6
    go_wp2_with fail
    refine (S1.out _).mono ?_
    rintro e z1 ⟨rfl, hb1⟩
    go_wp2_with fail
    refine (I1.out _).mono ?_
    rintro e z2 ⟨rfl, hb2⟩
    have hz1 := hb1.size
    have HB := Lib.hid (hb1.trans (hb2.mono hz1))
    clear hb1 hb2
    cases b
    all_goals
      go_wp2_with fail
      go_ret
      exact ⟨rfl, HB.out⟩
  · go_enter Try.func6, Try.ntmps6
    go_wp2
    go_ret
    exact ⟨rfl, Below.refl _ _⟩

set_option maxRecDepth 100000 in
theorem mcTrace_lifted (os : Os) (started : os.Started) (H : Type) (enc : TypeId × Value → H) :
    ReturnsInHanded {} Try.checked os 6 .any (Rows.fnExactMachineTraceSpec.pre6 enc Try.prog Try.f6 Rows.fnExactMachineTraceRow.domain false) (Rows.fnExactMachineTraceSpec.post enc Try.prog Try.f6 false true false false) := by
  refine returnsInHanded_of_change (C := Try.checked) ownYW started (by kernel_rfl) Try.func6
    (ChangeSpec.witness6 (enc := enc) (C := Try.checked) false ⟨#[], #[.string ByteArray.empty, .int .i64 0], []⟩ 8 (by kernel_rfl) (by kernel_rfl) (by kernel_rfl) (by kernel_rfl)) ?_
  intro W base args ds gs before hval0 hW hcnd _
  have hval : ∀ (j : Nat) t v, Try.f6.params[j]? = some t → args[j]? = some v → Value.okWide Try.prog W .any base t v := hval0
  have hW' := hW
  obtain ⟨p, q, hA0, hV, rfl, hfz, hnd⟩ := hW
  have hA : DataW.TrodAll enc Try.prog W 0 (fun _ => true) true Try.f6.params.toList args.toList ds p := hA0
  rw [Try.params6] at hA hval
  obtain ⟨v0, vs0, d0, ds0, p0, q0, hargs, rfl, rfl, h0, r0⟩ := trodAll_cons hA
  obtain ⟨v1, vs1, d1, ds1, p1, q1, hargs1, rfl, rfl, h1, r1⟩ := trodAll_cons r0
  obtain ⟨rfl, rfl, rfl⟩ := trodAll_nil r1
  obtain rfl : args = #[v0, v1] := by cases args; simp_all
  obtain ⟨rfl, rfl⟩ := trodVars_none hV
  obtain ⟨a0, rfl, rfl, rfl, w0⟩ := open_string Try.underlying9 (hval 0 9 v0 rfl rfl) h0
  obtain ⟨a1, rfl, rfl, rfl, w1⟩ := open_int Try.underlying3 (hval 1 3 v1 rfl rfl) h1
  clear hA0 hval0
  simp only [List.append_nil] at hW'
  refine (mcTrace_walk a0 a1 w0 W).mono fun e W' ⟨he, hg⟩ => ?_
  subst he
  exact ⟨_, rfl, post_law hW' (fun _ _ _ => (trodAll_cons_mk (shut_bool Try.underlying4 _) trodAll_mk0)) (fun sp => (trodAll_cons_mk (shut_string Try.underlying9 w0) (trodAll_cons_mk (shut_int Try.underlying3 w1) trodAll_mk0))) (fun _ => rfl) hg⟩

/-- The exact law of MachineTrace. -/
theorem mcTrace_holds : Rows.FnExactMachineTraceSaid :=
  OpenClaim.holds_of_wide 6 Try.f6 rfl rfl rfl rfl rfl rfl rfl ⟨rfl, rfl, rfl, rfl, rfl⟩ rfl rfl rfl rfl rfl (by kernel_rfl) Try.func6 (by kernel_rfl)
    (of_decide_eq_true (by kernel_rfl)) (by unfold Func.isWrapper; first | (rw [if_pos (by decide +kernel)]; kernel_rfl) | (rw [if_neg (by decide +kernel)]; exact ⟨rfl, rfl⟩))
    (fun os started H enc _ => mcTrace_lifted os started H enc)
end Go.Proofs.Ytljkmeloleeopaa
