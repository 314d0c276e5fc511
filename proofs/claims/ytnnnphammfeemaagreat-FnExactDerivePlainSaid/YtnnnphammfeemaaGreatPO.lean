/- The program's types and bags of what was read. -/
import Derived.Test.YtnnnphammfeemaaGreatPE
import Derived.Test.YtnnnphammfeemaaGreatPC
import Derived.Test.YtnnnphammfeemaaGreatMB
import Derived.Sort.Walk0
namespace Go.Proofs.YtnnnphammfeemaaGreat
set_option linter.unusedVariables false
open Go.RowKit Go.Maps

/-- What making a type answers. -/
def TfPost (t : Tr) (w : World) (e : Ending) (w' : World) : Prop :=
  Below w.heap.size w w' ∧ ((isTy t = true ∧ e = .returned (.tuple #[.string ⟨(wrTr t).toArray⟩, .bool true])) ∨ (isTy t = false ∧ e = .returned (.tuple #[.string ⟨#[]⟩, .bool false])))
/-- What making a bag answers. -/
def BfPost (t : Tr) (w : World) (e : Ending) (w' : World) : Prop :=
  Below w.heap.size w w' ∧ ((isBag t = true ∧ ∃ b, e = .returned (.tuple #[.map (some b), .bool true]) ∧ w.heap.size ≤ b ∧ BagIs w' b (bagL t)) ∨ (isBag t = false ∧ e = .returned (.tuple #[.map none, .bool false])))
/-- What taking a type of functions apart answers. -/
def FfPost (t : Tr) (w : World) (e : Ending) (w' : World) : Prop :=
  Below w.heap.size w w' ∧ ((∃ bt tt b, t = .mk [] [.mk [62] [], bt, tt] ∧ isBag bt = true ∧ isTy tt = true ∧ e = .returned (.tuple #[.map (some b), .string ⟨(wrTr tt).toArray⟩, .bool true]) ∧ w.heap.size ≤ b ∧ BagIs w' b (bagL bt)) ∨
    (isTy3 t.parts = false ∧ ∃ m, e = .returned (.tuple #[.map m, .string ⟨#[]⟩, .bool false])))
def TfSaid (t : Tr) : Prop := ∀ (v : Value) (w : World) (P : Nat → Prop), PAt w P t v → (∀ b, P b → b < w.heap.size) → Wf t → (wrTr t).length ≤ 8000 →
  Calls Tryz.prog 135 #[v] w (TfPost t w)
def BfSaid (t : Tr) : Prop := ∀ (v : Value) (w : World) (P : Nat → Prop), PAt w P t v → (∀ b, P b → b < w.heap.size) → Wf t → (wrTr t).length ≤ 8000 →
  Calls Tryz.prog 172 #[v] w (BfPost t w)

set_option maxRecDepth 100000 in
theorem letterOf_yes (s : ByteArray) (w : World) (hs : s.size ≤ 8000) (h : isLet1 s.data.toList = true) :
    Calls Tryz.prog 155 #[.string s] w fun e w' => e = .returned (.tuple #[.string s, .bool true]) ∧ w = w' := by
  by_cases h1 : s.size = 1
  · have hlt : 0 < s.size := by omega
    have hb : ((s.size : Int) != 1) = false := by simp [h1]
    have hl : isLetB (s[0]'hlt) = true := by rw [← isLet1_ba s h1 hlt]; exact h
    have H1 := Lib.hid h1
    clear h1 h
    go_enter Tryz.func155, Tryz.ntmps155
    go_wp2_with (first
      | (go_at_call 78; refine (isLetter_any _ _).mono ?_; rintro e w' ⟨rfl, rfl⟩))
    go_ret2
    exact ⟨rfl, rfl⟩
  · rw [isLet1_no s h1] at h
    cases h
set_option maxRecDepth 100000 in
theorem letterOf_no (s : ByteArray) (w : World) (hs : s.size ≤ 8000) (h : isLet1 s.data.toList = false) :
    Calls Tryz.prog 155 #[.string s] w fun e w' => e = .returned (.tuple #[.string ⟨#[]⟩, .bool false]) ∧ w = w' := by
  by_cases h1 : s.size = 1
  · have hlt : 0 < s.size := by omega
    have hb : ((s.size : Int) != 1) = false := by simp [h1]
    have hl : isLetB (s[0]'hlt) = false := by rw [← isLet1_ba s h1 hlt]; exact h
    have H1 := Lib.hid h1
    clear h1 h
    go_enter Tryz.func155, Tryz.ntmps155
    go_wp2_with (first
      | (go_at_call 78; refine (isLetter_any _ _).mono ?_; rintro e w' ⟨rfl, rfl⟩))
    go_ret2
    exact ⟨rfl, rfl⟩
  · have hb : ((s.size : Int) != 1) = true := by simp; omega
    have H1 := Lib.hid h1
    clear h1 h
    go_enter Tryz.func155, Tryz.ntmps155
    go_wp2
    go_ret2
    exact ⟨rfl, rfl⟩

/-- Three parts in memory. -/
theorem PAt.three {w : World} {P : Nat → Prop} {a : List UInt8} {p0 p1 p2 : Tr} {v : Value} (h : PAt w P (.mk a [p0, p1, p2]) v) :
    ∃ b g cap b0 b1 b2, v = .pointer (some ⟨b, 0, none⟩) ∧ P b ∧ P g ∧ P b0 ∧ 3 ≤ cap ∧ w.cell? ⟨b, 0, none⟩ = some (.string ⟨a.toArray⟩) ∧ w.cell? ⟨b, 1, none⟩ = some (.slice (some ⟨g, 0, none⟩) 3 cap) ∧
      w.cell? ⟨g, 0, none⟩ = some (.pointer (some ⟨b0, 0, none⟩)) ∧ w.cell? ⟨g, 1, none⟩ = some (.pointer (some ⟨b1, 0, none⟩)) ∧ w.cell? ⟨g, 2, none⟩ = some (.pointer (some ⟨b2, 0, none⟩)) ∧ w.cell? ⟨b0, 0, none⟩ = some (.string ⟨p0.atom.toArray⟩) ∧
      PAt w P p1 (.pointer (some ⟨b1, 0, none⟩)) ∧ PAt w P p2 (.pointer (some ⟨b2, 0, none⟩)) := by
  obtain ⟨b, vp, rfl, hb, h0, h1, _, _, ⟨h, _⟩ | ⟨_, g, cap, xs, rfl, hcap, hg, hc, hq⟩⟩ := h.form
  · cases h
  · obtain ⟨x0, e0, q0⟩ := hq.at_ 0 p0 rfl
    obtain ⟨x1, e1, q1⟩ := hq.at_ 1 p1 rfl
    obtain ⟨x2, e2, q2⟩ := hq.at_ 2 p2 rfl
    obtain ⟨b0, rfl, hb0⟩ := q0.shape
    obtain ⟨b1, rfl, _⟩ := q1.shape
    obtain ⟨b2, rfl, _⟩ := q2.shape
    obtain ⟨a0, ps0⟩ := p0
    obtain ⟨b0', _, e, _, hk0, _⟩ := q0.form
    obtain rfl : b0 = b0' := by simpa using e
    exact ⟨b, g, cap, b0, b1, b2, rfl, hb, hg, hb0, hcap, h0, h1, hc _ _ e0, hc _ _ e1, hc _ _ e2, hk0, q1, q2⟩
theorem PAt.below {w w' : World} {P : Nat → Prop} {t : Tr} {v : Value} {B : Nat} (h : PAt w P t v) (hb : Below B w w') (hP : ∀ b, P b → b < B) : PAt w' P t v :=
  h.mono fun b hq => ⟨hq, fun o => hb.cell (p := ⟨b, o, none⟩) (hP b hq)⟩
theorem isTy3_few (ps : List Tr) (h : ps.length ≠ 3) : isTy3 ps = false := by
  match ps, h with
  | [], _ => rfl
  | [_], _ => rfl
  | [_, _], _ => rfl
  | _ :: _ :: _ :: _ :: _, _ => rfl

set_option maxRecDepth 100000 in
set_option maxHeartbeats 2000000 in
theorem functionsOf_any (t : Tr) (ih1 : ∀ u ∈ t.parts, BfSaid u) (ih2 : ∀ u ∈ t.parts, TfSaid u) (v : Value) (w : World) (P : Nat → Prop) (ht : PAt w P t v) (hP : ∀ b, P b → b < w.heap.size) (hw : Wf t) (hl : (wrTr t).length ≤ 8000) :
    Calls Tryz.prog 156 #[v] w (FfPost t w) := by
  obtain ⟨a, ps⟩ := t
  by_cases h3 : ps.length = 3
  · match ps, h3 with
    | [p0, p1, p2], _ =>
    have ha : a = [] := by
      rcases Classical.em (a = []) with h | h
      · exact h
      · have := wf_atom a _ hw h; cases this
    subst ha
    obtain ⟨hne, hws⟩ := wf_list _ hw
    have w0 := Wfs_mem p0 _ (by simp) hws
    have w1' := Wfs_mem p1 _ (by simp) hws
    have w2' := Wfs_mem p2 _ (by simp) hws
    obtain ⟨b, g, cap, b0, b1, b2, rfl, hPb, hPg, hPb0, hcap, k0, k1, c0, c1, c2, k3, t1, t2⟩ := ht.three
    have hgl := hP g hPg
    have hbl := hP b hPb
    have IH1 := Lib.hid (ih1 p1 (by simp [Tr.parts]))
    have IH2 := Lib.hid (ih2 p2 (by simp [Tr.parts]))
    have L1 := wrTr_part p1 [p0, p1, p2] (by simp)
    have L2 := wrTr_part p2 [p0, p1, p2] (by simp)
    have HP := Lib.hid hP
    have HT1 := Lib.hid t1
    have HT2 := Lib.hid t2
    have HW1 := Lib.hid w1'
    have HW2 := Lib.hid w2'
    have HI := Lib.hid (show isTy3 [p0, p1, p2] = (decide (p0.atom = [62]) && isBag p1 && isTy p2) by simp [isTy3])
    clear ht hP ih1 ih2 hws hne t1 t2 w1' w2' hw
    by_cases hA : p0.atom = [62]
    · have hAb : (p0.atom != [62]) = false := by rw [hA]; rfl
      have hAb2 : (p0.atom == [62]) = true := by rw [hA]; rfl
      have HE0 := Lib.hid (wf_one p0 [62] (by simp) w0 hA)
      have HA := Lib.hid hA
      clear hA w0
      go_enter Tryz.func156, Tryz.ntmps156
      go_wp2_with fail
      refine (IH1.out _ _ P HT1.out HP.out HW1.out (by omega)).mono ?_
      rintro e w1 ⟨hb1, ⟨hbg, bb, rfl, hge, hbag⟩ | ⟨hbg, rfl⟩⟩
      · have d1 := (hb1.cell (p := ⟨b, 1, none⟩) hbl).trans k1
        have d2 := (hb1.cell (p := ⟨g, 2, none⟩) hgl).trans c2
        have hz1 := hb1.size
        have HB1 := Lib.hid hb1
        have HBG := Lib.hid hbg
        have HBAG := Lib.hid hbag
        clear hb1 hbg hbag k0 k1 c0 c1 c2 k3
        go_wp2_with fail
        refine (IH2.out _ _ P (HT2.out.below HB1.out HP.out) (fun b hb => by have := HP.out b hb; omega) HW2.out (by omega)).mono ?_
        rintro e w2 ⟨hb2, ⟨hty, rfl⟩ | ⟨hty, rfl⟩⟩
        · have HTY := Lib.hid hty
          have HB2 := Lib.hid hb2
          clear hty hb2
          go_wp2_with fail
          go_ret3
          refine ⟨HB1.out.trans (HB2.out.mono hz1), .inl ⟨p1, p2, bb, by rw [HE0.out], HBG.out, HTY.out, rfl, hge, HBAG.out.below HB2.out HBAG.out.lt⟩⟩
        · have HTY := Lib.hid hty
          have HB2 := Lib.hid hb2
          clear hty hb2
          go_wp2_with fail
          go_ret3
          exact ⟨HB1.out.trans (HB2.out.mono hz1), .inr ⟨by show isTy3 [p0, p1, p2] = false; rw [HI.out, HTY.out]; simp, _, rfl⟩⟩
      · have HBG := Lib.hid hbg
        have HB1 := Lib.hid hb1
        clear hbg hb1
        go_wp2_with fail
        go_ret3
        exact ⟨HB1.out, .inr ⟨by show isTy3 [p0, p1, p2] = false; rw [HI.out, HBG.out]; simp, _, rfl⟩⟩
    · have hAb : (p0.atom != [62]) = true := by simpa using hA
      have hAb2 : (p0.atom == [62]) = false := by simpa using hA
      have HA := Lib.hid hA
      clear hA w0
      go_enter Tryz.func156, Tryz.ntmps156
      go_wp2_with fail
      go_ret3
      exact ⟨Below.refl _ _, .inr ⟨by show isTy3 [p0, p1, p2] = false; rw [HI.out, decide_eq_false HA.out]; simp, _, rfl⟩⟩
  · have HI : Hid (isTy3 (Tr.mk a ps).parts = false) := Lib.hid (isTy3_few ps h3)
    obtain ⟨b, rfl, hb⟩ := ht.shape
    obtain ⟨A, n, c, k0, k1, hn, _⟩ := ht.cells
    have hbt : ((n : Int) != 3) = true := by rw [hn]; simp; omega
    have HN := Lib.hid hn
    clear ht hP ih1 ih2 h3 hn hw hl
    go_enter Tryz.func156, Tryz.ntmps156
    go_wp2_with fail
    go_ret3
    exact ⟨Below.refl _ _, .inr ⟨HI.out, _, rfl⟩⟩
end Go.Proofs.YtnnnphammfeemaaGreat
