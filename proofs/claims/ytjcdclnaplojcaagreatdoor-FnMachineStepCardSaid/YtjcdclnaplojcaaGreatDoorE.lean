/- The model's reading of a term. -/
import Derived.Test.YtjcdclnaplojcaaGreatDoorD
import Derived.Test.YtjcdclnaplojcaaGreatDoorA1
namespace Go.Proofs.YtjcdclnaplojcaaGreatDoor
set_option linter.unusedVariables false
open Go.RowKit

set_option maxRecDepth 100000 in
/-- Whether a tree that lies in memory is a term. -/
theorem l1Is_any : ∀ (t : Tr) (v : Value) (w : World) (P : Nat → Prop), TAt w P t v → (∀ b, P b → b < w.heap.size) →
    Calls Tryz.prog 57 #[v] w fun e w' => e = .returned (.bool (trTm t).isSome) ∧ Below w.heap.size w w' := by
  intro t
  refine Tr.all (p := fun t => ∀ (v : Value) (w : World) (P : Nat → Prop), TAt w P t v → (∀ b, P b → b < w.heap.size) →
    Calls Tryz.prog 57 #[v] w fun e w' => e = .returned (.bool (trTm t).isSome) ∧ Below w.heap.size w w') ?_ t
  intro a ps ih v w P ht hP
  obtain ⟨vp, rfl, hle, hle2, hv⟩ := ht.form
  by_cases ha : a = []
  · subst ha
    by_cases h3 : ps.length = 3
    · match ps, h3 with
      | [p0, p1, p2], _ =>
      obtain ⟨g, cap, A0, A1, A2, n0, c0, n1, c1, n2, c2, hve, hcap, h3⟩ := ht.three
      simp at hve
      subst hve
      clear hv
      have IH1 := Lib.hid (ih p1 (by simp))
      have IH2 := Lib.hid (ih p2 (by simp))
      clear ih ht
      have hgb := hP g h3.pg
      have HP := Lib.hid hP
      clear hP
      have hs1 := h3.t1.short
      have HT := Lib.hid (trTm_three p0 p1 p2)
      have a3 := h3.alloc HP.out (.cells #[.string ⟨#[]⟩, .slice (some ⟨g, 0, none⟩) 3 cap] 51)
      by_cases hL : p0.atom = sLam
      · have hLb : (p0.atom == [108, 97, 109]) = true := beq_iff_eq.2 hL
        have HL := Lib.hid hL
        clear hL
        go_enter Tryz.func57, Tryz.ntmps57
        go_wp2_with fail
        refine (l1Head3 _ P g cap p0 p1 p2 A0 A1 A2 n0 c0 n1 c1 n2 c2 a3 (fun b hb => by have := HP.out b hb; simp; omega)).mono ?_
        rintro e w1 ⟨rfl, hb1⟩
        have b3 := a3.below hb1 (fun b hb => by have := HP.out b hb; simp; omega)
        have hr := (Blk.new w 51 #[.string ⟨#[]⟩, .slice (some ⟨g, 0, none⟩) 3 cap]).below hb1 (by simp)
        have hlt := hr.lt
        have r0 := hr.cell 0
        have r1 := hr.cell 1
        simp at r0 r1
        have k2 := b3.k2
        have k4 := b3.k4
        have k5 := b3.k5
        go_wp2_with fail
        refine (l1Name_any _ _ (by simp [ByteArray.size, maxLen]; omega)).mono ?_
        rintro e w2 ⟨rfl, rfl⟩
        rw [toNil]
        go_wp2_with fail
        all_goals first
          | (go_ret
             have hn : ¬ isNm p1.atom = true := by assumption
             exact ⟨ret_bool (by rw [HT.out, if_pos HL.out, if_neg hn]; rfl), ((Below.refl _ _).alloc (Nat.le_refl _) _).trans (hb1.mono (by simp))⟩)
          | skip
        have hn : isNm p1.atom = true := by assumption
        refine (IH2.out _ _ P b3.t2 (fun b hb => by have := HP.out b hb; omega)).mono ?_
        rintro e w3 ⟨rfl, hb3⟩
        have HN := Lib.hid hn
        go_wp2_with fail
        go_ret
        refine ⟨ret_bool ?_, (((Below.refl _ _).alloc (Nat.le_refl _) _).trans (hb1.mono (by simp))).trans (hb3.mono (by omega))⟩
        rw [HT.out, if_pos HL.out, if_pos HN.out]
        simp
      · have hLb : (p0.atom == [108, 97, 109]) = false := beq_eq_false_iff_ne.2 hL
        have HL := Lib.hid hL
        clear hL
        by_cases hA : p0.atom = sApp
        · have hAb : (p0.atom == [97, 112, 112]) = true := beq_iff_eq.2 hA
          have HA := Lib.hid hA
          clear hA
          go_enter Tryz.func57, Tryz.ntmps57
          go_wp2_with fail
          refine (l1Head3 _ P g cap p0 p1 p2 A0 A1 A2 n0 c0 n1 c1 n2 c2 a3 (fun b hb => by have := HP.out b hb; simp; omega)).mono ?_
          rintro e w1 ⟨rfl, hb1⟩
          have hB1 : Below w.heap.size w w1 := ((Below.refl _ _).alloc (Nat.le_refl _) _).trans (hb1.mono (by simp))
          have b3 := a3.below hb1 (fun b hb => by have := HP.out b hb; simp; omega)
          have hr := (Blk.new w 51 #[.string ⟨#[]⟩, .slice (some ⟨g, 0, none⟩) 3 cap]).below hb1 (by simp)
          have hlt := hr.lt
          have r0 := hr.cell 0
          have r1 := hr.cell 1
          simp at r0 r1
          go_wp2_with fail
          refine (l1Head3 _ P g cap p0 p1 p2 A0 A1 A2 n0 c0 n1 c1 n2 c2 b3 (fun b hb => by have := HP.out b hb; omega)).mono ?_
          rintro e w2 ⟨rfl, hb2⟩
          have hB2 := hB1.trans (hb2.mono (by omega))
          have d3 := b3.below hb2 (fun b hb => by have := HP.out b hb; omega)
          have hr2 := hr.below hb2 hr.lt
          clear r0 r1
          have hlt2 := hr2.lt
          have r0 := hr2.cell 0
          have r1 := hr2.cell 1
          simp at r0 r1
          have k2 := d3.k2
          have k3 := d3.k3
          go_wp2_with fail
          refine (IH1.out _ _ P d3.t1 (fun b hb => by have := HP.out b hb; omega)).mono ?_
          rintro e w3 ⟨rfl, hb3⟩
          have hB3 := hB2.trans (hb3.mono (by omega))
          have e3 := d3.below hb3 (fun b hb => by have := HP.out b hb; omega)
          have hr3 := hr2.below hb3 hr2.lt
          clear r0 r1 k2 k3
          have hlt3 := hr3.lt
          have r0 := hr3.cell 0
          have r1 := hr3.cell 1
          simp at r0 r1
          have k4 := e3.k4
          have k5 := e3.k5
          have hne : ¬ p0.atom = sLam := HL.out
          by_cases hf : (trTm p1).isSome = true
          · go_wp2_with fail
            refine (IH2.out _ _ P e3.t2 (fun b hb => by have := HP.out b hb; omega)).mono ?_
            rintro e w4 ⟨rfl, hb4⟩
            have HF := Lib.hid hf
            clear hf
            go_wp2_with fail
            go_ret
            refine ⟨ret_bool ?_, hB3.trans (hb4.mono (by omega))⟩
            rw [HT.out, if_neg HL.out, if_pos HA.out]
            obtain ⟨f, hf⟩ := Option.isSome_iff_exists.1 HF.out
            rw [hf]
            simp
          · have hf0 : (trTm p1).isSome = false := by simpa using hf
            clear hf
            go_wp2_with fail
            go_ret
            refine ⟨ret_bool ?_, hB3⟩
            rw [HT.out, if_neg HL.out, if_pos HA.out]
            have : trTm p1 = none := by simpa using hf0
            rw [this]
            rfl
        · have hAb : (p0.atom == [97, 112, 112]) = false := beq_eq_false_iff_ne.2 hA
          have HA := Lib.hid hA
          clear hA
          go_enter Tryz.func57, Tryz.ntmps57
          go_wp2_with fail
          refine (l1Head3 _ P g cap p0 p1 p2 A0 A1 A2 n0 c0 n1 c1 n2 c2 a3 (fun b hb => by have := HP.out b hb; simp; omega)).mono ?_
          rintro e w1 ⟨rfl, hb1⟩
          have hB1 : Below w.heap.size w w1 := ((Below.refl _ _).alloc (Nat.le_refl _) _).trans (hb1.mono (by simp))
          have b3 := a3.below hb1 (fun b hb => by have := HP.out b hb; simp; omega)
          have hr := (Blk.new w 51 #[.string ⟨#[]⟩, .slice (some ⟨g, 0, none⟩) 3 cap]).below hb1 (by simp)
          have hlt := hr.lt
          have r0 := hr.cell 0
          have r1 := hr.cell 1
          simp at r0 r1
          go_wp2_with fail
          refine (l1Head3 _ P g cap p0 p1 p2 A0 A1 A2 n0 c0 n1 c1 n2 c2 b3 (fun b hb => by have := HP.out b hb; omega)).mono ?_
          rintro e w2 ⟨rfl, hb2⟩
          have hB2 := hB1.trans (hb2.mono (by omega))
          go_wp2_with fail
          go_ret
          exact ⟨ret_bool (by rw [HT.out, if_neg HL.out, if_neg HA.out]; rfl), hB2⟩
    · have hl : ((ps.length : Int) != 3) = true := by rw [bne_iff_ne]; omega
      rw [trTm_few ps h3]
      rcases hv with ⟨rfl, rfl⟩ | ⟨hne, g, cap, xs, rfl, hcap, hPg, hc, hvs⟩
      · clear ih hl h3
        go_enter Tryz.func57, Tryz.ntmps57
        go_wp2
        go_ret
        exact ⟨rfl, by go_grown⟩
      · clear ih hc hvs h3 ht
        go_enter Tryz.func57, Tryz.ntmps57
        go_wp2
        go_ret
        exact ⟨rfl, by go_grown⟩
  · have hae : (!a.isEmpty) = true := by cases a with
      | nil => exact absurd rfl ha
      | cons => rfl
    have HX := Lib.hid (trTm_atom a ps ha)
    clear ih hv ht
    go_enter Tryz.func57, Tryz.ntmps57
    go_wp2_with fail
    refine (l1Name_any _ _ (by simp [ByteArray.size, maxLen]; omega)).mono ?_
    rintro e w2 ⟨rfl, rfl⟩
    rw [toNil]
    go_wp2_with fail
    go_ret
    refine ⟨ret_bool ?_, by go_grown⟩
    rw [HX.out]
    cases isNm a <;> rfl
end Go.Proofs.YtjcdclnaplojcaaGreatDoor
