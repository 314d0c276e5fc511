/- For every list of texts, the exact law of BagOf answers true: the program and its model report the same bag, or none, and the list reads afterwards as before. No condition. -/
import Derived.Test.YtmkjkoelpngicaaLaw
import Derived.Test.YtmkjkoelpngicaaLS
import Derived.Test.YtmkjkoelpngicaaMJ
import Derived.Test.YtmkjkoelpngicaaPJ
import Derived.Test.YtmkjkoelpngicaaW2
namespace Go.Proofs.Ytmkjkoelpngicaa
set_option linter.unusedVariables false
open Go.ChangeShapes Go.WideShapes Go.ChangeAt Go.RowKit

theorem ownEC : ownKnob Try.prog.godebug = none := by kernel_rfl
theorem laidEC : laidOutB Try.prog = true := by kernel_rfl

theorem SRow.afterEC {w w' : World} {base : Nat} {v : Value} {l : List (List UInt8)} (h : SRow w base v l) (hb : Below w.heap.size w w') : SRow w' base v l :=
  h.kept (show w.grownBy w' none from ⟨hb.os, hb.tape, hb.output, hb.size, fun k hk _ => hb.block k hk⟩) (by cases v.ownBlock <;> simp)
theorem eqS_sameEC (l : List (List UInt8)) (b1 b2 : Nat) (v1 v2 : Value) (w : World) (h1 : SRow w b1 v1 l) (h2 : SRow w b2 v2 l) (hn : l.length ≤ 2000000) :
    Calls Try.prog 22 #[v1, v2] w fun e w' => e = .returned (.bool true) ∧ Below w.heap.size w w' :=
  (eqS_any l l b1 b2 v1 v2 w h1 h2 hn hn).mono fun e w' ⟨he, n, hw⟩ => ⟨by rw [he]; simp, by rw [hw]; exact ⟨rfl, rfl, rfl, Nat.le_refl _, fun _ _ => rfl⟩⟩

set_option maxRecDepth 100000 in
set_option maxHeartbeats 1000000 in
theorem bgOfLaw_walk (Xs : List ByteArray) (v : Value) (w : World) (h : RdS w v Xs) (hn : Xs.length ≤ maxLen) (hs : ∀ X ∈ Xs, X.size ≤ maxLen) :
    Calls Try.prog 5 #[v] w fun e w' => e = .returned (.bool true) ∧ Below w.heap.size w w' := by
  have H := Lib.hid h
  have HSZ := Lib.hid (szS_any Xs v w h hn hs)
  clear h hn hs
  go_enter Try.func5, Try.ntmps5
  go_wp2_with fail
  refine HSZ.out.mono ?_
  rintro e w1 ⟨hb1, rfl | ⟨m, rfl, hm, hn, hs⟩⟩
  · have HB := Lib.hid hb1
    clear hb1
    go_wp2_with fail
    go_ret
    exact ⟨rfl, HB.out⟩
  · have hz1 := hb1.size
    have hc0 : decide ((m : Int) < 0) = false := by simp
    have hlen : (Xs.map (·.data.toList)).length ≤ 2000000 := by rw [List.length_map]; omega
    have HSL : Hid (∀ x ∈ Xs.map (·.data.toList), x.length ≤ 2000000) := Lib.hid fun x hx => by
      obtain ⟨X, hX, rfl⟩ := List.mem_map.1 hx
      have h1 := hs X hX
      have h2 : X.data.toList.length = X.size := by rw [Array.length_toList]; rfl
      omega
    have TS := Lib.hid (fun w' (h : RdS w' v Xs) => toS_any Xs v w' h hn hs)
    generalize Xs.map (·.data.toList) = l at hlen HSL TS
    have HL := Lib.hid hlen
    have SP := Lib.hid (fun v' base w' (h : SRow w' base v' l) => specBagOf_any l v' base w' h hlen HSL.out)
    have IM := Lib.hid (fun v' w' (h : SRow w' 0 v' l) => implBagOf_any l v' w' h hlen HSL.out)
    unfold txS at SP
    unfold txR at IM
    generalize ((bgOf l).getD []).toArray = x at SP IM
    generalize (bgOf l).isSome = q at SP IM
    have HB1 := Lib.hid hb1
    have R1 := Lib.hid (H.out.below hb1)
    clear hb1 hn hs hlen
    cases q
    all_goals
      go_wp2_with fail
      refine (TS.out _ R1.out).mono ?_
      rintro e w2 ⟨v2, rfl, hrow2, hb2⟩
      have HB2 := Lib.hid (HB1.out.trans (hb2.mono hz1))
      have hz2 := HB2.out.size
      have R2 := Lib.hid (R1.out.below hb2)
      have ROW2 := Lib.hid hrow2
      clear hb2 hrow2
      go_wp2_with fail
      refine (SP.out v2 _ _ ROW2.out).mono ?_
      rintro e w3 ⟨rfl, hb3⟩
      have HB3 := Lib.hid (HB2.out.trans (hb3.mono hz2))
      have hz3 := HB3.out.size
      have R3 := Lib.hid (R2.out.below hb3)
      clear hb3
      go_wp2_with fail
      refine (TS.out _ R3.out).mono ?_
      rintro e w4 ⟨v4, rfl, hrow4, hb4⟩
      have HB4 := Lib.hid (HB3.out.trans (hb4.mono hz3))
      have hz4 := HB4.out.size
      have R4 := Lib.hid (R3.out.below hb4)
      have ROW4 := Lib.hid hrow4
      clear hb4 hrow4
      go_wp2_with fail
      refine (IM.out v4 _ (row_low ROW4.out (Nat.zero_le _))).mono ?_
      rintro e w5 ⟨rfl, hb5⟩
      have HB5 := Lib.hid (HB4.out.trans (hb5.mono hz4))
      have hz5 := HB5.out.size
      have R5 := Lib.hid (R4.out.below hb5)
      have ROW5 := Lib.hid (ROW4.out.afterEC hb5)
      clear hb5
      go_wp2_with fail
      refine (TS.out _ R5.out).mono ?_
      rintro e w6 ⟨v6, rfl, hrow6, hb6⟩
      have HB6 := Lib.hid (HB5.out.trans (hb6.mono hz5))
      have hz6 := HB6.out.size
      have ROW6 := Lib.hid hrow6
      have ROW56 := Lib.hid (ROW5.out.afterEC hb6)
      clear hb6 hrow6
      go_wp2_with fail
      refine (eqS_sameEC l _ _ v4 v6 _ ROW56.out ROW6.out HL.out).mono ?_
      rintro e w7 ⟨rfl, hb7⟩
      have HB7 := Lib.hid (HB6.out.trans (hb7.mono hz6))
      clear hb7
      go_wp2_with fail
      go_ret
      exact ⟨rfl, HB7.out⟩


theorem rdS_open {H : Type} {enc : TypeId × Value → H} {W : World} {a0 : Option Addr} {len cap fuel : Nat} {x : DataW H × List MemPlace}
    (hf : DataW.trod enc Try.prog W 0 (fun _ => true) true fuel 23 [.slice a0 len cap] = some x) :
    ∃ Xs : List ByteArray, RdS W (.slice a0 len cap) Xs ∧ Xs.length ≤ maxLen ∧ ∀ X ∈ Xs, X.size ≤ maxLen := by
  rcases open_strings Try.underlying23 Try.underlying9 (by kernel_rfl) hf with ⟨hcs, hx⟩ | ⟨a, len', cap', ss, hcs, _, hl, hm, hz, hx, hcell, hws⟩
  · simp at hcs
    obtain ⟨rfl, rfl, rfl⟩ := hcs
    exact ⟨[], ⟨none, 0, 0, 0, rfl, fun h => absurd h (by simp), fun j X h => by simp at h⟩, by simp, fun X h => by cases h⟩
  · simp at hcs
    obtain ⟨rfl, rfl, rfl⟩ := hcs
    simp only [if_true] at hz
    obtain ⟨b, off, spot⟩ := a
    have hlen : (ss.take len).length = len := by simp; omega
    refine ⟨ss.take len, ⟨_, b, off, cap, by rw [hlen], fun h0 => ?_, fun j X hX => ?_⟩, by omega, fun X hX => hws X (List.mem_of_mem_take hX)⟩
    · have hspot : spot = none := by simpa [Addr.add] using World.cell?_spot (hcell 0 (by omega))
      subst hspot
      exact ⟨rfl, by
        have h := hcell 0 (by omega)
        unfold World.cell? at h
        rcases Nat.lt_or_ge b W.heap.size with h1 | h1
        · exact h1
        · have e : W.heap[b]? = none := by simp [h1]
          simp [Addr.add, e] at h⟩
    · have hj : j < len := by
        have := (List.getElem?_eq_some_iff.1 hX).1
        simp at this
        omega
      have hspot : spot = none := by simpa [Addr.add] using World.cell?_spot (hcell 0 (by omega))
      subst hspot
      have hX' : ss.getD j ByteArray.empty = X := by
        rw [List.getElem?_take_of_lt hj] at hX
        simp [List.getD, hX]
      have h := hcell j (by omega)
      rw [hX', WideShapes.add_plain] at h
      exact h

set_option maxRecDepth 100000 in
theorem bgOfLaw_lifted (os : Os) (started : os.Started) (H : Type) (enc : TypeId × Value → H) :
    ReturnsInHanded {} Try.checked os 5 .any (Rows.fnExactBagOfSpec.pre6 enc Try.prog Try.f5 Rows.fnExactBagOfRow.domain false) (Rows.fnExactBagOfSpec.post enc Try.prog Try.f5 false true false false) := by
  refine returnsInHanded_of_change (C := Try.checked) ownEC started (by kernel_rfl) Try.func5
    (ChangeSpec.witness6 (enc := enc) (C := Try.checked) false ⟨#[], #[.slice none 0 0], []⟩ 8 (by kernel_rfl) (by kernel_rfl) (by kernel_rfl) (by kernel_rfl)) ?_
  intro W base args ds gs before hval0 hW hcnd _
  have hval : ∀ (j : Nat) t v, Try.f5.params[j]? = some t → args[j]? = some v → Value.okWide Try.prog W .any base t v := hval0
  have hW' := hW
  obtain ⟨p, q, hA0, hV, rfl, hfz, hnd⟩ := hW
  have hA : DataW.TrodAll enc Try.prog W 0 (fun _ => true) true Try.f5.params.toList args.toList ds p := hA0
  rw [Try.params5] at hA hval
  obtain ⟨v0, vs0, d0, ds0, p0, q0, hargs, rfl, rfl, h0, r0⟩ := trodAll_cons hA
  obtain ⟨rfl, rfl, rfl⟩ := trodAll_nil r0
  obtain rfl : args = #[v0] := by cases args; simp_all
  obtain ⟨rfl, rfl⟩ := trodVars_none hV
  obtain ⟨a0, len, cap, rfl⟩ := okWide_slice Try.underlying23 (hval 0 23 v0 rfl rfl)
  have h0k := h0
  obtain ⟨fuel, hf⟩ := h0
  obtain ⟨Xs, hrd, hxn, hxs⟩ := rdS_open hf
  clear hA0 hval0
  simp only [List.append_nil] at hW'
  refine (bgOfLaw_walk Xs _ W hrd hxn hxs).mono fun e W' ⟨he, hg⟩ => ?_
  subst he
  have hlt : ∀ x ∈ p0, x.block < W.heap.size := fun x hx => by simpa using hW'.lt x hx
  exact ⟨_, rfl, _, _, _, [], p0, [], hW', trodAll_cons_mk (shut_bool Try.underlying4 _) trodAll_mk0, by
    have h := trodAll_cons_mk (Below.trod laidEC (by kernel_rfl) (of_decide_eq_true (by kernel_rfl)) h0k hg hlt) trodAll_mk0
    rw [List.append_nil] at h
    exact h, rfl, hg.frame _, fun h => by cases h⟩

/-- The exact law of BagOf. -/
theorem bgOfLaw_holds : Rows.FnExactBagOfSaid :=
  OpenClaim.holds_of_wide 5 Try.f5 rfl rfl rfl rfl rfl rfl rfl ⟨rfl, rfl, rfl, rfl, rfl⟩ rfl rfl rfl rfl rfl (by kernel_rfl) Try.func5 (by kernel_rfl)
    (of_decide_eq_true (by kernel_rfl)) (by unfold Func.isWrapper; first | (rw [if_pos (by decide +kernel)]; kernel_rfl) | (rw [if_neg (by decide +kernel)]; exact ⟨rfl, rfl⟩))
    (fun os started H enc _ => bgOfLaw_lifted os started H enc)

end Go.Proofs.Ytmkjkoelpngicaa
