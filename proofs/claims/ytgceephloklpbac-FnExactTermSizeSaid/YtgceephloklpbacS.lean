/- The model's uses of a name. -/
import Derived.Test.YtgceephloklpbacR0
namespace Go.Proofs.Ytgceephloklpbac
set_option linter.unusedVariables false
open Go.RowKit

set_option maxRecDepth 100000 in
set_option maxHeartbeats 4000000 in
theorem l1Uses_any (x : List UInt8) : ∀ (t : Tm) (v : Value) (w : World) (P : Nat → Prop), t.ok → TAt w P (tmTr t) v → (∀ b, P b → b < w.heap.size) → t.uses x ≤ 10000 →
    Calls Try.prog 30 #[v, .string ⟨x.toArray⟩] w fun e w' => e = .returned (.int .i64 (t.uses x)) ∧ Below w.heap.size w w' := by
  intro t
  induction t with
  | var y =>
    intro v w P hok ht hP hsz
    have hne := isNm_ne y hok
    have hae : (!y.isEmpty) = true := by cases y with
      | nil => exact absurd rfl hne
      | cons => rfl
    obtain ⟨vp, rfl, _⟩ := ht.form
    clear ht hne hok
    by_cases h : y = x
    · have hb : (y == x) = true := beq_iff_eq.2 h
      have HU : Hid ((Tm.var y).uses x = 1) := Lib.hid (by simp [Tm.uses, h])
      clear h
      go_enter Try.func30, Try.ntmps30
      go_wp2
      go_ret
      exact ⟨ret_int (by rw [HU.out]; rfl), by go_grown⟩
    · have hb : (y == x) = false := beq_eq_false_iff_ne.2 h
      have HU : Hid ((Tm.var y).uses x = 0) := Lib.hid (by simp [Tm.uses, h])
      clear h
      go_enter Try.func30, Try.ntmps30
      go_wp2
      go_ret
      exact ⟨ret_int (by rw [HU.out]; rfl), by go_grown⟩
  | lam y d ih =>
    intro v w P hok ht hP hsz
    obtain ⟨g, cap, A0, A1, A2, n0, c0, n1, c1, n2, c2, rfl, hcap, h3⟩ := ht.three
    have hgb := hP g h3.pg
    have HP := Lib.hid hP
    have IH := Lib.hid ih
    have HOK := Lib.hid hok.2
    have a3 := h3.alloc HP.out (.cells #[.string ⟨#[]⟩, .slice (some ⟨g, 0, none⟩) 3 cap] 35)
    have HU := Lib.hid (show (Tm.lam y d).uses x = if y = x then 0 else d.uses x from rfl)
    have HSZ := Lib.hid hsz
    clear ih hP ht hok hsz
    go_enter Try.func30, Try.ntmps30
    go_wp2_with fail
    refine (l1Head3 _ P g cap (.mk sLam []) (.mk y []) (tmTr d) A0 A1 A2 n0 c0 n1 c1 n2 c2 a3 (fun b hb => by have := HP.out b hb; simp; omega)).mono ?_
    rintro e w1 ⟨rfl, hb1⟩
    have hB1 : Below w.heap.size w w1 := ((Below.refl _ _).alloc (Nat.le_refl _) _).trans (hb1.mono (by simp))
    have b3 := a3.below hb1 (fun b hb => by have := HP.out b hb; simp; omega)
    have hr := (Blk.new w 35 #[.string ⟨#[]⟩, .slice (some ⟨g, 0, none⟩) 3 cap]).below hb1 (by simp)
    have hlt := hr.lt
    have r1 := hr.cell 1
    simp at r1
    have k4 := b3.k4
    have k5 := b3.k5
    have hl : (sLam == [108, 97, 109]) = true := rfl
    have k2 := b3.k2
    simp only [Tr.atom] at k2
    simp only [Tr.atom]
    by_cases h : y = x
    · have hb : (y == x) = true := beq_iff_eq.2 h
      have HY := Lib.hid h
      clear h
      go_wp2_with fail
      go_ret
      exact ⟨ret_int (by rw [HU.out, if_pos HY.out]; rfl), hB1⟩
    · have hb : (y == x) = false := beq_eq_false_iff_ne.2 h
      have HY := Lib.hid h
      clear h
      go_wp2_with fail
      refine (IH.out _ _ P HOK.out b3.t2 (fun b hb => by have := HP.out b hb; omega) (by have := HSZ.out; rw [HU.out, if_neg HY.out] at this; exact this)).mono ?_
      rintro e w3 ⟨rfl, hb3⟩
      go_wp2_with fail
      go_ret
      exact ⟨ret_int (by rw [HU.out, if_neg HY.out]), hB1.trans (hb3.mono (by omega))⟩
  | app f a ihf iha =>
    intro v w P hok ht hP hsz
    obtain ⟨g, cap, A0, A1, A2, n0, c0, n1, c1, n2, c2, rfl, hcap, h3⟩ := ht.three
    have hgb := hP g h3.pg
    have HP := Lib.hid hP
    have IHF := Lib.hid ihf
    have IHA := Lib.hid iha
    have HOK := Lib.hid hok
    have a3 := h3.alloc HP.out (.cells #[.string ⟨#[]⟩, .slice (some ⟨g, 0, none⟩) 3 cap] 35)
    have hsz' : f.uses x + a.uses x ≤ 10000 := by simp only [Tm.uses] at hsz; omega
    clear ihf iha hP ht hok hsz
    go_enter Try.func30, Try.ntmps30
    go_wp2_with fail
    refine (l1Head3 _ P g cap (.mk sApp []) (tmTr f) (tmTr a) A0 A1 A2 n0 c0 n1 c1 n2 c2 a3 (fun b hb => by have := HP.out b hb; simp; omega)).mono ?_
    rintro e w1 ⟨rfl, hb1⟩
    have hB1 : Below w.heap.size w w1 := ((Below.refl _ _).alloc (Nat.le_refl _) _).trans (hb1.mono (by simp))
    have b3 := a3.below hb1 (fun b hb => by have := HP.out b hb; simp; omega)
    have hr := (Blk.new w 35 #[.string ⟨#[]⟩, .slice (some ⟨g, 0, none⟩) 3 cap]).below hb1 (by simp)
    have hlt := hr.lt
    have hk : BKeep w P g cap w.heap.size (.mk sApp []) (tmTr f) (tmTr a) A0 A1 A2 n0 c0 n1 c1 n2 c2 w1 := ⟨hr, b3, fun q hq => by have := HP.out q hq; omega, hB1, by omega⟩
    have C1 : Hid (∀ w', BKeep w P g cap w.heap.size (.mk sApp []) (tmTr f) (tmTr a) A0 A1 A2 n0 c0 n1 c1 n2 c2 w' → Calls Try.prog 30 #[.agg #[.string ⟨(tmTr f).atom.toArray⟩, .slice A1 n1 c1], .string ⟨x.toArray⟩] w' fun e w2 => e = .returned (.int .i64 (f.uses x)) ∧ BKeep w P g cap w.heap.size (.mk sApp []) (tmTr f) (tmTr a) A0 A1 A2 n0 c0 n1 c1 n2 c2 w2) :=
      Lib.hid (fun w' h => (IHF.out _ _ P HOK.out.1 h.three.t1 h.all (by omega)).mono fun _ _ ⟨he, hb⟩ => ⟨he, h.more hb⟩)
    have C2 : Hid (∀ w', BKeep w P g cap w.heap.size (.mk sApp []) (tmTr f) (tmTr a) A0 A1 A2 n0 c0 n1 c1 n2 c2 w' → Calls Try.prog 30 #[.agg #[.string ⟨(tmTr a).atom.toArray⟩, .slice A2 n2 c2], .string ⟨x.toArray⟩] w' fun e w2 => e = .returned (.int .i64 (a.uses x)) ∧ BKeep w P g cap w.heap.size (.mk sApp []) (tmTr f) (tmTr a) A0 A1 A2 n0 c0 n1 c1 n2 c2 w2) :=
      Lib.hid (fun w' h => (IHA.out _ _ P HOK.out.2 h.three.t2 h.all (by omega)).mono fun _ _ ⟨he, hb⟩ => ⟨he, h.more hb⟩)
    have hl : (sApp == [108, 97, 109]) = false := rfl
    simp only [Tr.atom]
    go_wp2_with fail
    go_region_held3 (fun w' => w'.cell? ⟨w.heap.size, 1, none⟩ = some (.slice (some ⟨g, 0, none⟩) 3 cap) ∧ w'.cell? ⟨g, 2, none⟩ = some (.string ⟨(tmTr f).atom.toArray⟩) ∧ w'.cell? ⟨g, 3, none⟩ = some (.slice A1 n1 c1) ∧
        w'.cell? ⟨g, 4, none⟩ = some (.string ⟨(tmTr a).atom.toArray⟩) ∧ w'.cell? ⟨g, 5, none⟩ = some (.slice A2 n2 c2) ∧ BKeep w P g cap w.heap.size (.mk sApp []) (tmTr f) (tmTr a) A0 A1 A2 n0 c0 n1 c1 n2 c2 w')
      (first | exact hk.drew.s | exact BKeep.s (by assumption) | exact (BKeep.drew (by assumption)).s)
      (first
        | (go_at_call 30; with_reducible refine (C1.out _ ?_).mono ?_; (first | assumption | exact hk.drew); rintro e w2 ⟨rfl, hk2⟩)
        | (go_at_call 30; with_reducible refine (C2.out _ ?_).mono ?_; (first | assumption | exact hk.drew); rintro e w3 ⟨rfl, hk3⟩))
    all_goals
      go_wp2
      go_ret
      refine ⟨ret_int ?_, hk3.below⟩
      simp (disch := omega) only [IntWalk.i64_in, Tm.uses]
      omega

end Go.Proofs.Ytgceephloklpbac
