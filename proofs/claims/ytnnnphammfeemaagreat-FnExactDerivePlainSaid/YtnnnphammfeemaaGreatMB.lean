/- The model tells types and bags. -/
import Derived.Test.YtnnnphammfeemaaGreatML
import Derived.Test.YtnnnphammfeemaaGreatU1
import Derived.Deep.RegionHeld3
import Derived.Deep.RegionWith
namespace Go.Proofs.YtnnnphammfeemaaGreat
set_option linter.unusedVariables false
open Go.RowKit

/-- What the model says of a tree: whether it is a type, and whether it is a bag. -/
def TySaid (t : Tr) : Prop := ∀ (v : Value) (w : World) (P : Nat → Prop), TAt w P t v → (∀ b, P b → b < w.heap.size) → (wrTr t).length ≤ 1000000 →
    Calls Tryz.prog 104 #[v] w fun e w' => e = .returned (.bool (isTy t)) ∧ Below w.heap.size w w'
def BgSaid (t : Tr) : Prop := ∀ (v : Value) (w : World) (P : Nat → Prop), TAt w P t v → (∀ b, P b → b < w.heap.size) → (wrTr t).length ≤ 1000000 →
    Calls Tryz.prog 124 #[v] w fun e w' => e = .returned (.bool (isBag t)) ∧ Below w.heap.size w w'

theorem isLet1_at (a : List UInt8) : isLet1 a = (decide (a.length = 1) && (match a with | [] => false | c :: _ => isLetB c)) := by
  match a with
  | [] => rfl
  | [c] => simp [isLet1]
  | c :: d :: r => simp [isLet1]
theorem wrTr_mem (t : Tr) (ps : List Tr) (h : t ∈ ps) : (wrTr t).length + 1 ≤ (wrSp ps).length := by
  induction ps with
  | nil => cases h
  | cons p ps ih =>
    simp only [wrSp, List.length_cons, List.length_append]
    rcases List.mem_cons.1 h with rfl | h
    · omega
    · have := ih h; omega
theorem wrTr_part (t : Tr) (ps : List Tr) (h : t ∈ ps) : (wrTr t).length ≤ (wrTr (.mk [] ps)).length := by
  have h1 := wrTr_mem t ps h
  rw [wrTr_list_length ps (by rintro rfl; cases h)]
  omega

theorem isLet1_ba (s : ByteArray) (h : s.size = 1) (h0 : 0 < s.size) : isLet1 s.data.toList = isLetB (s[0]'h0) := by
  obtain ⟨⟨l⟩⟩ := s
  match l, h with
  | [c], _ => rfl
theorem isLet1_no (s : ByteArray) (h : s.size ≠ 1) : isLet1 s.data.toList = false := by
  obtain ⟨⟨l⟩⟩ := s
  match l, h with
  | [], _ => rfl
  | [c], h => exact absurd rfl h
  | c :: d :: r, _ => rfl

set_option maxRecDepth 100000 in
set_option maxHeartbeats 1000000 in
theorem l3Is_atom (a : List UInt8) (ps : List Tr) (ha : a ≠ []) : TySaid (.mk a ps) := by
  intro v w P ht hP hl
  obtain ⟨vp, rfl, hle, hle2, hv⟩ := ht.form
  have hone : isTy (.mk a ps) = isLet1 a := by simp [isTy, ha]
  obtain ⟨s, rfl⟩ : ∃ s : ByteArray, s.data.toList = a := ⟨⟨a.toArray⟩, rfl⟩
  have hs : (⟨s.data.toList.toArray⟩ : ByteArray) = s := rfl
  rw [hs]
  have hae : (!s.data.toList.isEmpty) = true := by
    cases h : s.data.toList with
    | nil => exact absurd h ha
    | cons => rfl
  have hae2 : (!s.toList.isEmpty) = true := by rw [Lib.toList_data]; exact hae
  rw [hone]
  have hle' : s.size ≤ 8000 := by rw [ba_size]; exact hle
  clear hv ht hone hP hl hs hle
  by_cases h1 : s.size = 1
  · have hlt : 0 < s.size := by omega
    have HL := Lib.hid (isLet1_ba s h1 hlt)
    have hb : ((s.size : Int) == 1) = true := beq_iff_eq.2 (by omega)
    have H1 := Lib.hid h1
    clear h1
    go_enter Tryz.func104, Tryz.ntmps104
    go_wp2
    all_goals
      go_ret
      refine ⟨ret_bool ?_, by go_grown⟩
      rw [HL.out, Bool.eq_iff_iff]
      simp [isLetB] at *
      try omega
  · have HL := Lib.hid (isLet1_no s h1)
    have hb : ((s.size : Int) == 1) = false := beq_eq_false_iff_ne.2 (by omega)
    have H1 := Lib.hid h1
    clear h1
    go_enter Tryz.func104, Tryz.ntmps104
    go_wp2
    all_goals
      go_ret
      refine ⟨ret_bool ?_, by go_grown⟩
      rw [HL.out]

theorem isTy_few (ps : List Tr) (h : ps.length ≠ 3) : isTy (.mk [] ps) = false := by
  simp only [isTy, if_true]
  match ps, h with
  | [], _ => rfl
  | [_], _ => rfl
  | [_, _], _ => rfl
  | _ :: _ :: _ :: _ :: _, _ => rfl
theorem isTy_three (p0 p1 p2 : Tr) : isTy (.mk [] [p0, p1, p2]) = (decide (p0.atom = [62]) && isBag p1 && isTy p2) := by
  simp [isTy, isTy3]

set_option maxRecDepth 100000 in
set_option maxHeartbeats 2000000 in
theorem l3Is_list (ps : List Tr) (ih1 : ∀ t ∈ ps, BgSaid t) (ih2 : ∀ t ∈ ps, TySaid t) : TySaid (.mk [] ps) := by
  intro v w P ht hP hl
  by_cases h3 : ps.length = 3
  · match ps, h3 with
    | [p0, p1, p2], _ =>
    obtain ⟨g, cap, A0, A1, A2, n0, c0, n1, c1, n2, c2, rfl, hcap, h3⟩ := ht.three
    have IH1 := Lib.hid (ih1 p1 (by simp))
    have IH2 := Lib.hid (ih2 p2 (by simp))
    have L1 := Lib.hid (wrTr_part p1 [p0, p1, p2] (by simp))
    have L2 := Lib.hid (wrTr_part p2 [p0, p1, p2] (by simp))
    have hgb := hP g h3.pg
    have HP := Lib.hid hP
    have HL := Lib.hid hl
    have HT := Lib.hid (isTy_three p0 p1 p2)
    have a3 := h3.alloc HP.out (.cells #[.string ⟨#[]⟩, .slice (some ⟨g, 0, none⟩) 3 cap] 52)
    clear ih1 ih2 hP ht hl
    by_cases hA : p0.atom = [62]
    · have hAb : (p0.atom == [62]) = true := beq_iff_eq.2 hA
      have HA := Lib.hid hA
      clear hA
      go_enter Tryz.func104, Tryz.ntmps104
      go_wp2_with fail
      refine (l1Head3 _ P g cap p0 p1 p2 A0 A1 A2 n0 c0 n1 c1 n2 c2 a3 (fun b hb => by have := HP.out b hb; simp; omega)).mono ?_
      rintro e w1 ⟨rfl, hb1⟩
      have hB1 : Below w.heap.size w w1 := ((Below.refl _ _).alloc (Nat.le_refl _) _).trans (hb1.mono (by simp))
      have b3 := a3.below hb1 (fun b hb => by have := HP.out b hb; simp; omega)
      have hr := (Blk.new w 52 #[.string ⟨#[]⟩, .slice (some ⟨g, 0, none⟩) 3 cap]).below hb1 (by simp)
      have hlt := hr.lt
      have r1 := hr.cell 1
      simp at r1
      have k2 := b3.k2
      have k3 := b3.k3
      go_wp2_with fail
      refine (IH1.out _ _ P b3.t1 (fun b hb => by have := HP.out b hb; omega) (by have := L1.out; have := HL.out; omega)).mono ?_
      rintro e w2 ⟨rfl, hb2⟩
      have hB2 := hB1.trans (hb2.mono (by omega))
      have d3 := b3.below hb2 (fun b hb => by have := HP.out b hb; omega)
      have hr2 := hr.below hb2 hr.lt
      have hlt2 := hr2.lt
      clear r1 k2 k3
      have r1 := hr2.cell 1
      simp at r1
      have k4 := d3.k4
      have k5 := d3.k5
      by_cases hf : isBag p1 = true
      · go_wp2_with fail
        refine (IH2.out _ _ P d3.t2 (fun b hb => by have := HP.out b hb; omega) (by have := L2.out; have := HL.out; omega)).mono ?_
        rintro e w3 ⟨rfl, hb3⟩
        have HF := Lib.hid hf
        clear hf
        go_wp2_with fail
        go_ret
        exact ⟨ret_bool (by rw [HT.out, HF.out, decide_eq_true HA.out]; rfl), hB2.trans (hb3.mono (by omega))⟩
      · have hf0 : isBag p1 = false := by simpa using hf
        have HF := Lib.hid hf0
        clear hf
        go_wp2_with fail
        go_ret
        exact ⟨ret_bool (by rw [HT.out, HF.out]; simp), hB2⟩
    · have hAb : (p0.atom == [62]) = false := beq_eq_false_iff_ne.2 hA
      have HA := Lib.hid hA
      clear hA
      go_enter Tryz.func104, Tryz.ntmps104
      go_wp2_with fail
      refine (l1Head3 _ P g cap p0 p1 p2 A0 A1 A2 n0 c0 n1 c1 n2 c2 a3 (fun b hb => by have := HP.out b hb; simp; omega)).mono ?_
      rintro e w1 ⟨rfl, hb1⟩
      have hB1 : Below w.heap.size w w1 := ((Below.refl _ _).alloc (Nat.le_refl _) _).trans (hb1.mono (by simp))
      go_wp2_with fail
      go_ret
      exact ⟨ret_bool (by rw [HT.out, decide_eq_false HA.out]; rfl), hB1⟩
  · obtain ⟨vp, rfl, hle, hle2, hv⟩ := ht.form
    have HT := Lib.hid (isTy_few ps h3)
    have hb : ((ps.length : Int) == 3) = false := beq_eq_false_iff_ne.2 (by omega)
    have H3 := Lib.hid h3
    clear ih1 ih2 hP ht hl h3
    rcases hv with ⟨rfl, rfl⟩ | ⟨hne, g, cap, xs, rfl, hcap, hPg, hc, hvs⟩
    · go_enter Tryz.func104, Tryz.ntmps104
      go_wp2
      go_ret
      exact ⟨ret_bool (by rw [HT.out]), by go_grown⟩
    · clear hc hvs
      go_enter Tryz.func104, Tryz.ntmps104
      go_wp2
      go_ret
      exact ⟨ret_bool (by rw [HT.out]), by go_grown⟩
end Go.Proofs.YtnnnphammfeemaaGreat
