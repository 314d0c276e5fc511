/- The model's bag of a list of types. -/
import Derived.Test.YtmkjkoelpngicaaMI
namespace Go.Proofs.Ytmkjkoelpngicaa
set_option linter.unusedVariables false
open Go.RowKit

theorem bgOf_badS (L : List (List UInt8)) (x : List UInt8) (hx : x ∈ L) (h : (rdTy x).isSome = false) : bgOf L = none := by
  unfold bgOf
  rw [if_neg]
  rintro ⟨h1, _⟩
  have := (all_types L).1 h1 x hx
  rw [h] at this
  cases this
theorem bgOf_few (L : List (List UInt8)) (h : ∀ x ∈ L, (rdTy x).isSome = true) (hl : 200 < L.length) : bgOf L = none := by
  unfold bgOf
  rw [if_neg]
  rintro ⟨_, h2⟩
  have := sum_low L h
  omega
theorem bgOf_mk (L : List (List UInt8)) (h : ∀ x ∈ L, (rdTy x).isSome = true) : bgOf L = if (rdBg (mkBag (srt L))).isSome = true then some (mkBag (srt L)) else none := by
  unfold bgOf
  rw [(rdBg_mk L h).1, (all_types L).2 h]
  simp

set_option maxRecDepth 100000 in
set_option maxHeartbeats 1000000 in
theorem specBagOf_any (l : List (List UInt8)) (v : Value) (base : Nat) (w : World) (hv : SRow w base v l) (hn : l.length ≤ 2000000) (hs : ∀ x ∈ l, x.length ≤ 2000000) :
    Calls Try.prog 19 #[v] w fun e w' => txS (bgOf l) e ∧ Below w.heap.size w w' := by
  obtain ⟨A, c, rfl⟩ := own_shape hv
  have HV := Lib.hid hv
  have HS := Lib.hid hs
  clear hv hs
  go_enter Try.func19, Try.ntmps19
  go_wp2_with fail
  go_loopw [4] (fun i wr => ∃ k : Nat, k ≤ l.length ∧ i = .int .i64 (k : Nat) ∧ Hid (∀ x ∈ l.take k, (rdTy x).isSome = true) ∧ Hid (SRow wr base (.slice A l.length c) l) ∧ Hid (Below w.heap.size w wr)) (fun i _ => l.length - (intOf i).toNat)
  case atStart => exact ⟨0, by omega, rfl, Lib.hid (by simp), HV, Lib.hid (Below.refl _ _)⟩
  case round =>
    obtain ⟨k, hk, rfl, HT, HR, HW⟩ := hrel
    have hzw := HW.out.size
    by_cases hkl : k < l.length
    · obtain ⟨x, hx⟩ : ∃ x, l[k]? = some x := ⟨l[k], by simp⟩
      have hxm := List.mem_of_getElem? hx
      have hxs := HS.out x hxm
      have HTK := Lib.hid (show l.take (k + 1) = l.take k ++ [x] by rw [List.take_add_one, hx]; rfl)
      obtain ⟨g, rfl, hgl, _, hgs, hcell⟩ := HR.out.cell (k := k) hkl
      have hxe : l[k] = x := (List.getElem?_eq_some_iff.1 hx).2
      rw [hxe] at hcell
      have HC : Hid (Calls Try.prog 14 #[.string ⟨x.toArray⟩] wr fun e w' => e = .returned (.bool (rdTy x).isSome) ∧ Below wr.heap.size wr w') := Lib.hid (specTypeValid_any ⟨x.toArray⟩ wr (by simp [ByteArray.size, maxLen]; omega))
      have HXM := Lib.hid hxm
      obtain ⟨q, hq⟩ : ∃ q, (rdTy x).isSome = q := ⟨_, rfl⟩
      rw [hq] at HC
      have HQ := Lib.hid hq
      clear hx hxm hxe hq
      go_wp2_with fail
      refine HC.out.mono ?_
      rintro e w2 ⟨rfl, hb2⟩
      have hz2 := hb2.size
      have HV2 := Lib.hid (HR.out.kept (grown_of_below hb2 none) (by simp [Value.ownBlock]))
      have HW2 := Lib.hid (HW.out.trans (hb2.mono (by omega)))
      clear hb2
      cases q with
      | true =>
        go_wp2_with fail
        go_roundw
        case rel =>
          refine ⟨k + 1, by omega, by go_num, Lib.hid ?_, HV2, HW2⟩
          rw [HTK.out]
          intro y hy
          rcases List.mem_append.1 hy with h | h
          · exact HT.out y h
          · rw [List.mem_singleton.1 h]; exact HQ.out
        case measure => simp [intOf]; omega
      | false =>
        go_wp2_with fail
        go_ret2
        refine ⟨?_, HW2.out⟩
        rw [bgOf_badS l x HXM.out HQ.out]
        rfl
    · have HE := Lib.hid (show l.take k = l from List.take_of_length_le (by omega))
      have HTA : Hid (∀ x ∈ l, (rdTy x).isSome = true) := Lib.hid (by have := HT.out; rw [HE.out] at this; exact this)
      by_cases hl2 : 200 < l.length
      · have HN := Lib.hid (bgOf_few l HTA.out hl2)
        go_wp2_with fail
        go_ret2
        refine ⟨?_, HW.out⟩
        rw [HN.out]
        rfl
      · have HSH : Hid (∀ x ∈ l, x.length ≤ 1000) := Lib.hid fun x hx => (ty_short x (HTA.out x hx)).1
        have HMK : Hid (∀ w' : World, SRow w' base (.slice A l.length c) l → Calls Try.prog 44 #[.slice A l.length c] w' fun e w2 => e = .returned (.string ⟨(mkBag (srt l)).toArray⟩) ∧ Below w'.heap.size w' w2) :=
          Lib.hid fun w' h => l3Make_any l _ base w' h (by omega) HSH.out
        have hlong : (mkBag (srt l)).length ≤ 300000 := by
          have h1 := bag_long (srt l) 1000 (fun x hx => HSH.out x ((srt_perm l).mem_iff.1 hx))
          have h2 : (srt l).length * 1001 ≤ 200 * 1001 := Nat.mul_le_mul_right _ (by rw [(srt_perm l).length_eq]; omega)
          omega
        have HBV : Hid (∀ w' : World, Calls Try.prog 16 #[.string ⟨(mkBag (srt l)).toArray⟩] w' fun e w2 => e = .returned (.bool (rdBg (mkBag (srt l))).isSome) ∧ Below w'.heap.size w' w2) :=
          Lib.hid fun w' => specBagValid_any ⟨(mkBag (srt l)).toArray⟩ w' (by simp [ByteArray.size, maxLen]; omega)
        have HBM := Lib.hid (bgOf_mk l HTA.out)
        generalize mkBag (srt l) = T at HMK HBV HBM hlong
        obtain ⟨q, hq⟩ : ∃ q, (rdBg T).isSome = q := ⟨_, rfl⟩
        rw [hq] at HBV HBM
        clear hq
        go_wp2_with fail
        refine (HMK.out _ HR.out).mono ?_
        rintro e w2 ⟨rfl, hb2⟩
        have hz2 := hb2.size
        have HV2 := Lib.hid (HR.out.kept (grown_of_below hb2 none) (by
          cases h : (Value.slice A l.length c).ownBlock with
          | none => exact .inl rfl
          | some q => exact .inr (by simp)))
        have HW2 := Lib.hid (HW.out.trans (hb2.mono (by omega)))
        clear hb2
        go_wp2_with fail
        refine (HBV.out _).mono ?_
        rintro e w3 ⟨rfl, hb3⟩
        have hz3 := hb3.size
        have HV3 := Lib.hid (HV2.out.kept (grown_of_below hb3 none) (by
          cases h : (Value.slice A l.length c).ownBlock with
          | none => exact .inl rfl
          | some q => exact .inr (by simp)))
        have HW3 := Lib.hid (HW2.out.trans (hb3.mono (by omega)))
        clear hb3
        cases q with
        | true =>
          go_wp2_with fail
          refine (HMK.out _ HV3.out).mono ?_
          rintro e w4 ⟨rfl, hb4⟩
          have HW4 := Lib.hid (HW3.out.trans (hb4.mono (by omega)))
          clear hb4
          go_wp2_with fail
          go_ret2
          refine ⟨?_, HW4.out⟩
          rw [HBM.out]
          rfl
        | false =>
          go_wp2_with fail
          go_ret2
          refine ⟨?_, HW3.out⟩
          rw [HBM.out]
          rfl
end Go.Proofs.Ytmkjkoelpngicaa
