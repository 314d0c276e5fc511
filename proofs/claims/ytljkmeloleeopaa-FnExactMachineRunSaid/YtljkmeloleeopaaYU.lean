/- For every text, the exact law of MachineRun answers true: the program and its model report the same, and what they were given reads afterwards as before. No condition. -/
import Derived.Test.YtljkmeloleeopaaLaw
import Derived.Test.YtljkmeloleeopaaYR
namespace Go.Proofs.Ytljkmeloleeopaa
set_option linter.unusedVariables false
open Go.ChangeShapes Go.WideShapes Go.ChangeAt Go.RowKit
open Go.ChangeMaps (open_string shut_string)

theorem ownYU : ownKnob Try.prog.godebug = none := by kernel_rfl

set_option maxRecDepth 100000 in
theorem eqRun_same (p t o l : Nat) (x : List UInt8) (a s : Nat) (w : World) :
    Calls Try.prog 12 #[.agg #[.int .i64 p, .int .i64 t, .int .i64 o, .int .i64 l, .string ⟨x.toArray⟩, .int .i64 a, .int .i64 s], .agg #[.int .i64 p, .int .i64 t, .int .i64 o, .int .i64 l, .string ⟨x.toArray⟩, .int .i64 a, .int .i64 s]] w fun q w' => q = .returned (.bool true) ∧ Below w.heap.size w w' := by
  go_enter Try.func12, Try.ntmps12
  go_wp2_with fail
  go_ret
  exact ⟨rfl, ((Below.refl _ _).alloc (Nat.le_refl _) _).alloc (by simp) _⟩

theorem mcRun_walk (a0 : ByteArray) (w0 : a0.size ≤ maxLen) (w : World) :
    Calls Try.prog 4 #[.string a0] w fun e w' => e = .returned (.bool true) ∧ Below w.heap.size w w' := by
  have hm0 := w0
  unfold maxLen at w0
  by_cases hs0 : a0.size ≤ 1048576
  · skip
    have S1 := Lib.hid (fun w => specMachineRun_any a0 w hm0)
    have I1 := Lib.hid (fun w => implMachineRun_any a0 w hm0)
    cases hr : mcR a0.data.toList with
    | none =>
      rw [hr] at S1 I1
      have S2 := Lib.hid S1.out
      have I2 := Lib.hid I1.out
      clear S1 I1 hr
      simp only [rnE, rnV] at S2 I2
      go_enter Try.func4, Try.ntmps4
      go_wp2_with fail
      refine (S2.out _).mono ?_
      rintro e z1 ⟨rfl, hb1⟩
      have hz1 := hb1.size
      have HB1 := Lib.hid hb1
      clear hb1
      go_wp2_with fail
      refine (I2.out _).mono ?_
      rintro e z2 ⟨rfl, hb2⟩
      have hr := (Blk.new z1 25 #[.int .i64 0, .int .i64 0, .int .i64 0, .int .i64 0, .string ⟨#[]⟩, .int .i64 0, .int .i64 0]).below hb2 (by simp)
      have r0 := hr.cell 0
      have r1 := hr.cell 1
      have r2 := hr.cell 2
      have r3 := hr.cell 3
      have r4 := hr.cell 4
      have r5 := hr.cell 5
      have r6 := hr.cell 6
      have rl := hr.lt
      simp only [List.getElem?_toArray, List.getElem?_cons_zero, List.getElem?_cons_succ] at r0 r1 r2 r3 r4 r5 r6
      have HB := Lib.hid ((HB1.out.alloc hz1 _).trans (hb2.mono (by simp; omega)))
      have hz2 := HB.out.size
      clear hb2 hr
      go_wp2_with fail
      refine (eqRun_same 0 0 0 0 [] 0 0 _).mono ?_
      rintro e z3 ⟨rfl, hb3⟩
      have HB3 := Lib.hid ((HB.out.alloc hz2 _).trans (hb3.mono (by simp; omega)))
      clear hb3
      go_wp2_with fail
      go_ret
      exact ⟨rfl, HB3.out⟩
    | some p =>
      obtain ⟨S, m⟩ := p
      rw [hr] at S1 I1
      have S2 := Lib.hid S1.out
      have I2 := Lib.hid I1.out
      clear S1 I1 hr
      simp only [rnE, rnV] at S2 I2
      generalize mvN .p m = np at *
      generalize mvN .t m = nt at *
      generalize mvN .o m = no at *
      generalize mvN .l m = nl at *
      generalize S.name = nm at *
      generalize S.st.length = na at *
      go_enter Try.func4, Try.ntmps4
      go_wp2_with fail
      refine (S2.out _).mono ?_
      rintro e z1 ⟨rfl, hb1⟩
      have hz1 := hb1.size
      have HB1 := Lib.hid hb1
      clear hb1
      go_wp2_with fail
      refine (I2.out _).mono ?_
      rintro e z2 ⟨rfl, hb2⟩
      have hr := (Blk.new z1 25 #[.int .i64 (np : Nat), .int .i64 (nt : Nat), .int .i64 (no : Nat), .int .i64 (nl : Nat), .string ⟨nm.toArray⟩, .int .i64 (na : Nat), .int .i64 (no : Nat)]).below hb2 (by simp)
      have r0 := hr.cell 0
      have r1 := hr.cell 1
      have r2 := hr.cell 2
      have r3 := hr.cell 3
      have r4 := hr.cell 4
      have r5 := hr.cell 5
      have r6 := hr.cell 6
      have rl := hr.lt
      simp only [List.getElem?_toArray, List.getElem?_cons_zero, List.getElem?_cons_succ] at r0 r1 r2 r3 r4 r5 r6
      have HB := Lib.hid ((HB1.out.alloc hz1 _).trans (hb2.mono (by simp; omega)))
      have hz2 := HB.out.size
      clear hb2 hr
      go_wp2_with fail
      refine (eqRun_same np nt no nl nm na no _).mono ?_
      rintro e z3 ⟨rfl, hb3⟩
      have HB3 := Lib.hid ((HB.out.alloc hz2 _).trans (hb3.mono (by simp; omega)))
      clear hb3
      go_wp2_with fail
      go_ret
      exact ⟨rfl, HB3.out⟩
  · go_enter Try.func4, Try.ntmps4
    go_wp2
    go_ret
    exact ⟨rfl, Below.refl _ _⟩

set_option maxRecDepth 100000 in
theorem mcRun_lifted (os : Os) (started : os.Started) (H : Type) (enc : TypeId × Value → H) :
    ReturnsInHanded {} Try.checked os 4 .any (Rows.fnExactMachineRunSpec.pre6 enc Try.prog Try.f4 Rows.fnExactMachineRunRow.domain false) (Rows.fnExactMachineRunSpec.post enc Try.prog Try.f4 false true false false) := by
  refine returnsInHanded_of_change (C := Try.checked) ownYU started (by kernel_rfl) Try.func4
    (ChangeSpec.witness6 (enc := enc) (C := Try.checked) false ⟨#[], #[.string ByteArray.empty], []⟩ 8 (by kernel_rfl) (by kernel_rfl) (by kernel_rfl) (by kernel_rfl)) ?_
  intro W base args ds gs before hval0 hW hcnd _
  have hval : ∀ (j : Nat) t v, Try.f4.params[j]? = some t → args[j]? = some v → Value.okWide Try.prog W .any base t v := hval0
  have hW' := hW
  obtain ⟨p, q, hA0, hV, rfl, hfz, hnd⟩ := hW
  have hA : DataW.TrodAll enc Try.prog W 0 (fun _ => true) true Try.f4.params.toList args.toList ds p := hA0
  rw [Try.params4] at hA hval
  obtain ⟨v0, vs0, d0, ds0, p0, q0, hargs, rfl, rfl, h0, r0⟩ := trodAll_cons hA
  obtain ⟨rfl, rfl, rfl⟩ := trodAll_nil r0
  obtain rfl : args = #[v0] := by cases args; simp_all
  obtain ⟨rfl, rfl⟩ := trodVars_none hV
  obtain ⟨a0, rfl, rfl, rfl, w0⟩ := open_string Try.underlying9 (hval 0 9 v0 rfl rfl) h0
  clear hA0 hval0
  simp only [List.append_nil] at hW'
  refine (mcRun_walk a0 w0 W).mono fun e W' ⟨he, hg⟩ => ?_
  subst he
  exact ⟨_, rfl, post_law hW' (fun _ _ _ => (trodAll_cons_mk (shut_bool Try.underlying4 _) trodAll_mk0)) (fun sp => (trodAll_cons_mk (shut_string Try.underlying9 w0) trodAll_mk0)) (fun _ => rfl) hg⟩

/-- The exact law of MachineRun. -/
theorem mcRun_holds : Rows.FnExactMachineRunSaid :=
  OpenClaim.holds_of_wide 4 Try.f4 rfl rfl rfl rfl rfl rfl rfl ⟨rfl, rfl, rfl, rfl, rfl⟩ rfl rfl rfl rfl rfl (by kernel_rfl) Try.func4 (by kernel_rfl)
    (of_decide_eq_true (by kernel_rfl)) (by unfold Func.isWrapper; first | (rw [if_pos (by decide +kernel)]; kernel_rfl) | (rw [if_neg (by decide +kernel)]; exact ⟨rfl, rfl⟩))
    (fun os started H enc _ => mcRun_lifted os started H enc)
end Go.Proofs.Ytljkmeloleeopaa
