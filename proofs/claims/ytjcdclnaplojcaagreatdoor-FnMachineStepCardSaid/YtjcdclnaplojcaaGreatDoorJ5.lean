/- The model's first word of a term. The model's redexes. The model's uses of a name. What a redex becomes, in the model. The model's head step. The model's full step. The model's kinds, steps of a kind, normal terms, measures, counts of redexes. -/
import Derived.Test.YtjcdclnaplojcaaGreatDoorJ4
import Derived.Test.YtjcdclnaplojcaaGreatDoorJ0
import Derived.Test.YtjcdclnaplojcaaGreatDoorR0
import Derived.Test.YtjcdclnaplojcaaGreatDoorG
namespace Go.Proofs.YtjcdclnaplojcaaGreatDoor
set_option linter.unusedVariables false
open Go.RowKit

/-- The first word of a term. -/
def hdOf : Tm → List UInt8
  | .var _ => []
  | .lam _ _ => sLam
  | .app _ _ => sApp
theorem l1Head_tm (t : Tm) (hok : t.ok) (v : Value) (w : World) (P : Nat → Prop) (ht : TAt w P (tmTr t) v) (hP : ∀ b, P b → b < w.heap.size) :
    Calls Tryz.prog 59 #[v] w fun e w' => e = .returned (.string ⟨(hdOf t).toArray⟩) ∧ Below w.heap.size w w' := by
  have h := l1Head_any (tmTr t) v w P ht hP
  cases t with
  | var x =>
    have hx := isNm_ne x hok
    refine h.mono fun e w' he => ⟨?_, he.2⟩
    rw [he.1]
    exact congrArg (fun l : List UInt8 => Ending.returned (.string ⟨l.toArray⟩)) (if_pos hx)
  | lam x b => exact h
  | app f a => exact h

end Go.Proofs.YtjcdclnaplojcaaGreatDoor

namespace Go.Proofs.YtjcdclnaplojcaaGreatDoor
set_option linter.unusedVariables false
open Go.RowKit

/-- A redex. -/
def Tm.isRdx : Tm → Bool
  | .app f _ => f.isLam
  | _ => false
theorem hd_lam (t : Tm) : (hdOf t == [108, 97, 109]) = t.isLam := by cases t <;> rfl
theorem l2Redex_any (t : Tm) (hok : t.ok) (v : Value) (w : World) (P : Nat → Prop) (ht : TAt w P (tmTr t) v) (hP : ∀ b, P b → b < w.heap.size) :
    Calls Tryz.prog 133 #[v] w fun e w' => e = .returned (.bool t.isRdx) ∧ Below w.heap.size w w' := by
  cases t with
  | var x =>
    obtain ⟨A, n, c, rfl⟩ := ht.shape
    have C1 := Lib.hid (l1Head_tm (.var x) hok _ _ P (ht.alloc hP (.cells #[.string ⟨(tmTr (.var x)).atom.toArray⟩, .slice A n c] 51)) (fun b hb => by have := hP b hb; simp; omega))
    have hh : (hdOf (.var x) == [97, 112, 112]) = false := rfl
    clear ht hP hok
    go_enter Tryz.func133, Tryz.ntmps133
    go_wp2_with fail
    refine C1.out.mono ?_
    rintro e w1 ⟨rfl, hb1⟩
    go_wp2_with fail
    go_ret
    exact ⟨rfl, ((Below.refl _ _).alloc (Nat.le_refl _) _).trans (hb1.mono (by simp))⟩
  | lam x d =>
    obtain ⟨A, n, c, rfl⟩ := ht.shape
    have C1 := Lib.hid (l1Head_tm (.lam x d) hok _ _ P (ht.alloc hP (.cells #[.string ⟨(tmTr (.lam x d)).atom.toArray⟩, .slice A n c] 51)) (fun b hb => by have := hP b hb; simp; omega))
    have hh : (hdOf (.lam x d) == [97, 112, 112]) = false := rfl
    clear ht hP hok
    go_enter Tryz.func133, Tryz.ntmps133
    go_wp2_with fail
    refine C1.out.mono ?_
    rintro e w1 ⟨rfl, hb1⟩
    go_wp2_with fail
    go_ret
    exact ⟨rfl, ((Below.refl _ _).alloc (Nat.le_refl _) _).trans (hb1.mono (by simp))⟩
  | app f a =>
    obtain ⟨g, cap, A0, A1, A2, n0, c0, n1, c1, n2, c2, rfl, hcap, h3⟩ := ht.three
    have a3 := h3.alloc hP (.cells #[.string ⟨#[]⟩, .slice (some ⟨g, 0, none⟩) 3 cap] 51)
    have C1 := Lib.hid (l1Head_tm (.app f a) hok _ _ P (ht.alloc hP (.cells #[.string ⟨#[]⟩, .slice (some ⟨g, 0, none⟩) 3 cap] 51)) (fun b hb => by have := hP b hb; simp; omega))
    have hh : (hdOf (.app f a) == [97, 112, 112]) = true := rfl
    have hlam : (hdOf f == [108, 97, 109]) = f.isLam := hd_lam f
    have HF : Hid (∀ v w' (hT : TAt w' P (tmTr f) v) (hP' : ∀ b, P b → b < w'.heap.size), _) := Lib.hid (fun v w' hT hP' => l1Head_tm f hok.1 v w' P hT hP')
    have A3 := Lib.hid a3
    have HP := Lib.hid hP
    clear ht hP hok h3 a3
    go_enter Tryz.func133, Tryz.ntmps133
    go_wp2_with fail
    refine C1.out.mono ?_
    rintro e w1 ⟨rfl, hb1⟩
    have hB1 : Below w.heap.size w w1 := ((Below.refl _ _).alloc (Nat.le_refl _) _).trans (hb1.mono (by simp))
    have b3 := A3.out.below hb1 (fun b hb => by have := HP.out b hb; simp; omega)
    have hr := (Blk.new w 51 #[.string ⟨#[]⟩, .slice (some ⟨g, 0, none⟩) 3 cap]).below hb1 (by simp)
    have r1 := hr.cell 1
    simp only [List.getElem?_toArray, List.getElem?_cons_zero, List.getElem?_cons_succ] at r1
    have k2 := b3.k2
    have k3 := b3.k3
    have T1 := Lib.hid b3.t1
    have HB1 := Lib.hid hB1
    clear hb1 hB1 b3 hr
    go_wp2_with fail
    refine (HF.out _ _ T1.out (fun b hb => by have := HP.out b hb; have := HB1.out.size; omega)).mono ?_
    rintro e w2 ⟨rfl, hb2⟩
    have HB2 := Lib.hid (HB1.out.trans (hb2.mono HB1.out.size))
    clear hb2
    have hc : f.isLam = true ∨ f.isLam = false := by cases f.isLam <;> simp
    rcases hc with hc | hc
    all_goals
      rw [hc] at hlam
      go_wp2_with fail
      go_ret
      exact ⟨by simp [Tm.isRdx, hc], HB2.out⟩
end Go.Proofs.YtjcdclnaplojcaaGreatDoor

namespace Go.Proofs.YtjcdclnaplojcaaGreatDoor
set_option linter.unusedVariables false
open Go.RowKit

set_option maxRecDepth 100000 in
set_option maxHeartbeats 4000000 in
theorem l1Uses_any (x : List UInt8) : ∀ (t : Tm) (v : Value) (w : World) (P : Nat → Prop), t.ok → TAt w P (tmTr t) v → (∀ b, P b → b < w.heap.size) → t.uses x ≤ 10000 →
    Calls Tryz.prog 138 #[v, .string ⟨x.toArray⟩] w fun e w' => e = .returned (.int .i64 (t.uses x)) ∧ Below w.heap.size w w' := by
  intro t
  induction t with
  | var y =>
    intro v w P hok ht hP hsz
    have hne := isNm_ne y hok
    have hae : (!y.isEmpty) = true := by cases y with
      | nil => exact absurd rfl hne
      | cons => rfl
    obtain ⟨vp, rfl, _⟩ := ht.form
    clear ht hne hok
    by_cases h : y = x
    · have hb : (y == x) = true := beq_iff_eq.2 h
      have HU : Hid ((Tm.var y).uses x = 1) := Lib.hid (by simp [Tm.uses, h])
      clear h
      go_enter Tryz.func138, Tryz.ntmps138
      go_wp2
      go_ret
      exact ⟨ret_int (by rw [HU.out]; rfl), by go_grown⟩
    · have hb : (y == x) = false := beq_eq_false_iff_ne.2 h
      have HU : Hid ((Tm.var y).uses x = 0) := Lib.hid (by simp [Tm.uses, h])
      clear h
      go_enter Tryz.func138, Tryz.ntmps138
      go_wp2
      go_ret
      exact ⟨ret_int (by rw [HU.out]; rfl), by go_grown⟩
  | lam y d ih =>
    intro v w P hok ht hP hsz
    obtain ⟨g, cap, A0, A1, A2, n0, c0, n1, c1, n2, c2, rfl, hcap, h3⟩ := ht.three
    have hgb := hP g h3.pg
    have HP := Lib.hid hP
    have IH := Lib.hid ih
    have HOK := Lib.hid hok.2
    have a3 := h3.alloc HP.out (.cells #[.string ⟨#[]⟩, .slice (some ⟨g, 0, none⟩) 3 cap] 51)
    have HU := Lib.hid (show (Tm.lam y d).uses x = if y = x then 0 else d.uses x from rfl)
    have HSZ := Lib.hid hsz
    clear ih hP ht hok hsz
    go_enter Tryz.func138, Tryz.ntmps138
    go_wp2_with fail
    refine (l1Head3 _ P g cap (.mk sLam []) (.mk y []) (tmTr d) A0 A1 A2 n0 c0 n1 c1 n2 c2 a3 (fun b hb => by have := HP.out b hb; simp; omega)).mono ?_
    rintro e w1 ⟨rfl, hb1⟩
    have hB1 : Below w.heap.size w w1 := ((Below.refl _ _).alloc (Nat.le_refl _) _).trans (hb1.mono (by simp))
    have b3 := a3.below hb1 (fun b hb => by have := HP.out b hb; simp; omega)
    have hr := (Blk.new w 51 #[.string ⟨#[]⟩, .slice (some ⟨g, 0, none⟩) 3 cap]).below hb1 (by simp)
    have hlt := hr.lt
    have r1 := hr.cell 1
    simp at r1
    have k4 := b3.k4
    have k5 := b3.k5
    have hl : (sLam == [108, 97, 109]) = true := rfl
    have k2 := b3.k2
    simp only [Tr.atom] at k2
    simp only [Tr.atom]
    by_cases h : y = x
    · have hb : (y == x) = true := beq_iff_eq.2 h
      have HY := Lib.hid h
      clear h
      go_wp2_with fail
      go_ret
      exact ⟨ret_int (by rw [HU.out, if_pos HY.out]; rfl), hB1⟩
    · have hb : (y == x) = false := beq_eq_false_iff_ne.2 h
      have HY := Lib.hid h
      clear h
      go_wp2_with fail
      refine (IH.out _ _ P HOK.out b3.t2 (fun b hb => by have := HP.out b hb; omega) (by have := HSZ.out; rw [HU.out, if_neg HY.out] at this; exact this)).mono ?_
      rintro e w3 ⟨rfl, hb3⟩
      go_wp2_with fail
      go_ret
      exact ⟨ret_int (by rw [HU.out, if_neg HY.out]), hB1.trans (hb3.mono (by omega))⟩
  | app f a ihf iha =>
    intro v w P hok ht hP hsz
    obtain ⟨g, cap, A0, A1, A2, n0, c0, n1, c1, n2, c2, rfl, hcap, h3⟩ := ht.three
    have hgb := hP g h3.pg
    have HP := Lib.hid hP
    have IHF := Lib.hid ihf
    have IHA := Lib.hid iha
    have HOK := Lib.hid hok
    have a3 := h3.alloc HP.out (.cells #[.string ⟨#[]⟩, .slice (some ⟨g, 0, none⟩) 3 cap] 51)
    have hsz' : f.uses x + a.uses x ≤ 10000 := by simp only [Tm.uses] at hsz; omega
    clear ihf iha hP ht hok hsz
    go_enter Tryz.func138, Tryz.ntmps138
    go_wp2_with fail
    refine (l1Head3 _ P g cap (.mk sApp []) (tmTr f) (tmTr a) A0 A1 A2 n0 c0 n1 c1 n2 c2 a3 (fun b hb => by have := HP.out b hb; simp; omega)).mono ?_
    rintro e w1 ⟨rfl, hb1⟩
    have hB1 : Below w.heap.size w w1 := ((Below.refl _ _).alloc (Nat.le_refl _) _).trans (hb1.mono (by simp))
    have b3 := a3.below hb1 (fun b hb => by have := HP.out b hb; simp; omega)
    have hr := (Blk.new w 51 #[.string ⟨#[]⟩, .slice (some ⟨g, 0, none⟩) 3 cap]).below hb1 (by simp)
    have hlt := hr.lt
    have hk : BKeep w P g cap w.heap.size (.mk sApp []) (tmTr f) (tmTr a) A0 A1 A2 n0 c0 n1 c1 n2 c2 w1 := ⟨hr, b3, fun q hq => by have := HP.out q hq; omega, hB1, by omega⟩
    have C1 : Hid (∀ w', BKeep w P g cap w.heap.size (.mk sApp []) (tmTr f) (tmTr a) A0 A1 A2 n0 c0 n1 c1 n2 c2 w' → Calls Tryz.prog 138 #[.agg #[.string ⟨(tmTr f).atom.toArray⟩, .slice A1 n1 c1], .string ⟨x.toArray⟩] w' fun e w2 => e = .returned (.int .i64 (f.uses x)) ∧ BKeep w P g cap w.heap.size (.mk sApp []) (tmTr f) (tmTr a) A0 A1 A2 n0 c0 n1 c1 n2 c2 w2) :=
      Lib.hid (fun w' h => (IHF.out _ _ P HOK.out.1 h.three.t1 h.all (by omega)).mono fun _ _ ⟨he, hb⟩ => ⟨he, h.more hb⟩)
    have C2 : Hid (∀ w', BKeep w P g cap w.heap.size (.mk sApp []) (tmTr f) (tmTr a) A0 A1 A2 n0 c0 n1 c1 n2 c2 w' → Calls Tryz.prog 138 #[.agg #[.string ⟨(tmTr a).atom.toArray⟩, .slice A2 n2 c2], .string ⟨x.toArray⟩] w' fun e w2 => e = .returned (.int .i64 (a.uses x)) ∧ BKeep w P g cap w.heap.size (.mk sApp []) (tmTr f) (tmTr a) A0 A1 A2 n0 c0 n1 c1 n2 c2 w2) :=
      Lib.hid (fun w' h => (IHA.out _ _ P HOK.out.2 h.three.t2 h.all (by omega)).mono fun _ _ ⟨he, hb⟩ => ⟨he, h.more hb⟩)
    have hl : (sApp == [108, 97, 109]) = false := rfl
    simp only [Tr.atom]
    go_wp2_with fail
    go_region_held3 (fun w' => w'.cell? ⟨w.heap.size, 1, none⟩ = some (.slice (some ⟨g, 0, none⟩) 3 cap) ∧ w'.cell? ⟨g, 2, none⟩ = some (.string ⟨(tmTr f).atom.toArray⟩) ∧ w'.cell? ⟨g, 3, none⟩ = some (.slice A1 n1 c1) ∧
        w'.cell? ⟨g, 4, none⟩ = some (.string ⟨(tmTr a).atom.toArray⟩) ∧ w'.cell? ⟨g, 5, none⟩ = some (.slice A2 n2 c2) ∧ BKeep w P g cap w.heap.size (.mk sApp []) (tmTr f) (tmTr a) A0 A1 A2 n0 c0 n1 c1 n2 c2 w')
      (first | exact hk.drew.s | exact BKeep.s (by assumption) | exact (BKeep.drew (by assumption)).s)
      (first
        | (go_at_call 138; with_reducible refine (C1.out _ ?_).mono ?_; (first | assumption | exact hk.drew); rintro e w2 ⟨rfl, hk2⟩)
        | (go_at_call 138; with_reducible refine (C2.out _ ?_).mono ?_; (first | assumption | exact hk.drew); rintro e w3 ⟨rfl, hk3⟩))
    all_goals
      go_wp2
      go_ret
      refine ⟨ret_int ?_, hk3.below⟩
      simp (disch := omega) only [IntWalk.i64_in, Tm.uses]
      omega

end Go.Proofs.YtjcdclnaplojcaaGreatDoor

namespace Go.Proofs.YtjcdclnaplojcaaGreatDoor
set_option linter.unusedVariables false
open Go.RowKit

def TuPost (P : Nat → Prop) (b : Tm) (x : List UInt8) (a : Tm) (w : World) (e : Ending) (w' : World) : Prop :=
  ∃ (s : List UInt8) (A : Option Addr) (m c : Nat), e = .returned (.tuple #[.agg #[.string ⟨s.toArray⟩, .slice A m c], .bool (turnT b x a).isSome]) ∧
    TNew P w.heap.size w' (tmTr ((turnT b x a).getD (.app (.lam x b) a))) (.agg #[.string ⟨s.toArray⟩, .slice A m c]) ∧ Below w.heap.size w w'

/-- What is kept while a redex is turned. -/
structure UKp (w0 : World) (P : Nat → Prop) (g cap g' cap' : Nat) (x : List UInt8) (b a : Tm) (A0 A1 A2 : Option Addr) (n0 c0 n1 c1 n2 c2 : Nat) (B0 B1 B2 : Option Addr) (j0 d0 j1 d1 j2 d2 : Nat) (w' : World) : Prop where
  bt : Blk w' w0.heap.size 51 #[.string ⟨#[]⟩, .slice (some ⟨g, 0, none⟩) 3 cap]
  br : Blk w' (w0.heap.size + 1) 51 #[.string ⟨#[]⟩, .slice none 0 0]
  bf : Blk w' (w0.heap.size + 2) 51 #[.string ⟨#[]⟩, .slice (some ⟨g', 0, none⟩) 3 cap']
  h3 : Three w' P g (.mk sApp []) (tmTr (.lam x b)) (tmTr a) A0 A1 A2 n0 c0 n1 c1 n2 c2
  h4 : Three w' P g' (.mk sLam []) (.mk x []) (tmTr b) B0 B1 B2 j0 d0 j1 d1 j2 d2
  all : ∀ q, P q → q < w0.heap.size
  grown : Below w0.heap.size w0 w'
section
variable {w0 : World} {P : Nat → Prop} {g cap g' cap' : Nat} {x : List UInt8} {b a : Tm} {A0 A1 A2 : Option Addr} {n0 c0 n1 c1 n2 c2 : Nat} {B0 B1 B2 : Option Addr} {j0 d0 j1 d1 j2 d2 : Nat} {w' w2 : World}
theorem UKp.start {w : World} (h3 : Three w P g (.mk sApp []) (tmTr (.lam x b)) (tmTr a) A0 A1 A2 n0 c0 n1 c1 n2 c2) (h4 : Three w P g' (.mk sLam []) (.mk x []) (tmTr b) B0 B1 B2 j0 d0 j1 d1 j2 d2) (hP : ∀ q, P q → q < w.heap.size) :
    UKp w P g cap g' cap' x b a A0 A1 A2 n0 c0 n1 c1 n2 c2 B0 B1 B2 j0 d0 j1 d1 j2 d2 (((w.alloc (.cells #[.string ⟨#[]⟩, .slice (some ⟨g, 0, none⟩) 3 cap] 51)).alloc (.cells #[.string ⟨#[]⟩, .slice none 0 0] 51)).alloc (.cells #[.string ⟨#[]⟩, .slice (some ⟨g', 0, none⟩) 3 cap'] 51)) := by
  have hB : Below w.heap.size w (((w.alloc (.cells #[.string ⟨#[]⟩, .slice (some ⟨g, 0, none⟩) 3 cap] 51)).alloc (.cells #[.string ⟨#[]⟩, .slice none 0 0] 51)).alloc (.cells #[.string ⟨#[]⟩, .slice (some ⟨g', 0, none⟩) 3 cap'] 51)) := (((Below.refl _ _).alloc (Nat.le_refl _) _).alloc (by simp) _).alloc (by simp; omega) _
  refine ⟨((Blk.new w _ _).alloc _).alloc _, ?_, ?_, h3.below hB hP, h4.below hB hP, hP, hB⟩
  · have := (Blk.new (w.alloc (.cells #[.string ⟨#[]⟩, .slice (some ⟨g, 0, none⟩) 3 cap] 51)) 51 #[.string ⟨#[]⟩, .slice none 0 0]).alloc (.cells #[.string ⟨#[]⟩, .slice (some ⟨g', 0, none⟩) 3 cap'] 51)
    simpa using this
  · have := Blk.new ((w.alloc (.cells #[.string ⟨#[]⟩, .slice (some ⟨g, 0, none⟩) 3 cap] 51)).alloc (.cells #[.string ⟨#[]⟩, .slice none 0 0] 51)) 51 #[.string ⟨#[]⟩, .slice (some ⟨g', 0, none⟩) 3 cap']
    simpa using this
theorem UKp.below (h : UKp w0 P g cap g' cap' x b a A0 A1 A2 n0 c0 n1 c1 n2 c2 B0 B1 B2 j0 d0 j1 d1 j2 d2 w') (hb : Below w'.heap.size w' w2) : UKp w0 P g cap g' cap' x b a A0 A1 A2 n0 c0 n1 c1 n2 c2 B0 B1 B2 j0 d0 j1 d1 j2 d2 w2 :=
  have hz := h.grown.size
  ⟨h.bt.below hb h.bt.lt, h.br.below hb h.br.lt, h.bf.below hb h.bf.lt, h.h3.below hb (fun q hq => Nat.lt_of_lt_of_le (h.all q hq) hz), h.h4.below hb (fun q hq => Nat.lt_of_lt_of_le (h.all q hq) hz), h.all, h.grown.trans (hb.mono hz)⟩
theorem UKp.drew (h : UKp w0 P g cap g' cap' x b a A0 A1 A2 n0 c0 n1 c1 n2 c2 B0 B1 B2 j0 d0 j1 d1 j2 d2 w') : UKp w0 P g cap g' cap' x b a A0 A1 A2 n0 c0 n1 c1 n2 c2 B0 B1 B2 j0 d0 j1 d1 j2 d2 w'.drew := h.below (Below.refl _ _).drew
theorem UKp.s (h : UKp w0 P g cap g' cap' x b a A0 A1 A2 n0 c0 n1 c1 n2 c2 B0 B1 B2 j0 d0 j1 d1 j2 d2 w') :
    w'.cell? ⟨w0.heap.size, 1, none⟩ = some (.slice (some ⟨g, 0, none⟩) 3 cap) ∧ w'.cell? ⟨g, 4, none⟩ = some (.string ⟨(tmTr a).atom.toArray⟩) ∧ w'.cell? ⟨g, 5, none⟩ = some (.slice A2 n2 c2) ∧ w'.cell? ⟨w0.heap.size + 2, 1, none⟩ = some (.slice (some ⟨g', 0, none⟩) 3 cap') ∧
    w'.cell? ⟨g', 2, none⟩ = some (.string ⟨x.toArray⟩) ∧ w'.cell? ⟨g', 3, none⟩ = some (.slice B1 j1 d1) ∧ w'.cell? ⟨g', 4, none⟩ = some (.string ⟨(tmTr b).atom.toArray⟩) ∧ w'.cell? ⟨g', 5, none⟩ = some (.slice B2 j2 d2) := by
  have h1 := h.bt.cell 1
  have h2 := h.bf.cell 1
  simp at h1 h2
  exact ⟨h1, h.h3.k4, h.h3.k5, h2, h.h4.k2, h.h4.k3, h.h4.k4, h.h4.k5⟩
theorem UKp.lo (h : UKp w0 P g cap g' cap' x b a A0 A1 A2 n0 c0 n1 c1 n2 c2 B0 B1 B2 j0 d0 j1 d1 j2 d2 w') : ∀ q, P q → q < w'.heap.size := fun q hq => Nat.lt_of_lt_of_le (h.all q hq) h.grown.size
theorem UKp.sput (h : UKp w0 P g cap g' cap' x b a A0 A1 A2 n0 c0 n1 c1 n2 c2 B0 B1 B2 j0 d0 j1 d1 j2 d2 w') {u v : Value} :
    ((w'.setCell ⟨w0.heap.size + 1, 0, none⟩ u).setCell ⟨w0.heap.size + 1, 1, none⟩ v).cell? ⟨w0.heap.size, 1, none⟩ = some (.slice (some ⟨g, 0, none⟩) 3 cap) ∧ ((w'.setCell ⟨w0.heap.size + 1, 0, none⟩ u).setCell ⟨w0.heap.size + 1, 1, none⟩ v).cell? ⟨g, 4, none⟩ = some (.string ⟨(tmTr a).atom.toArray⟩) ∧ ((w'.setCell ⟨w0.heap.size + 1, 0, none⟩ u).setCell ⟨w0.heap.size + 1, 1, none⟩ v).cell? ⟨g, 5, none⟩ = some (.slice A2 n2 c2) ∧ ((w'.setCell ⟨w0.heap.size + 1, 0, none⟩ u).setCell ⟨w0.heap.size + 1, 1, none⟩ v).cell? ⟨w0.heap.size + 2, 1, none⟩ = some (.slice (some ⟨g', 0, none⟩) 3 cap') ∧
    ((w'.setCell ⟨w0.heap.size + 1, 0, none⟩ u).setCell ⟨w0.heap.size + 1, 1, none⟩ v).cell? ⟨g', 2, none⟩ = some (.string ⟨x.toArray⟩) ∧ ((w'.setCell ⟨w0.heap.size + 1, 0, none⟩ u).setCell ⟨w0.heap.size + 1, 1, none⟩ v).cell? ⟨g', 3, none⟩ = some (.slice B1 j1 d1) ∧ ((w'.setCell ⟨w0.heap.size + 1, 0, none⟩ u).setCell ⟨w0.heap.size + 1, 1, none⟩ v).cell? ⟨g', 4, none⟩ = some (.string ⟨(tmTr b).atom.toArray⟩) ∧ ((w'.setCell ⟨w0.heap.size + 1, 0, none⟩ u).setCell ⟨w0.heap.size + 1, 1, none⟩ v).cell? ⟨g', 5, none⟩ = some (.slice B2 j2 d2) := by
  have hs := h.s
  have hg := h.all g h.h3.pg
  have hg' := h.all g' h.h4.pg
  have e : ∀ q i, q ≠ w0.heap.size + 1 → ((w'.setCell ⟨w0.heap.size + 1, 0, none⟩ u).setCell ⟨w0.heap.size + 1, 1, none⟩ v).cell? ⟨q, i, none⟩ = w'.cell? ⟨q, i, none⟩ := by
    intro q i hq
    rw [World.cell?_setCell_other _ _ _ _ (by intro e; injection e with e; omega), World.cell?_setCell_other _ _ _ _ (by intro e; injection e with e; omega)]
  rw [e _ _ (by omega), e _ _ (by omega), e _ _ (by omega), e _ _ (by omega), e _ _ (by omega), e _ _ (by omega), e _ _ (by omega), e _ _ (by omega)]
  exact hs
theorem ut_done {w5 : World} (K : UKp w0 P g cap g' cap' x b a A0 A1 A2 n0 c0 n1 c1 n2 c2 B0 B1 B2 j0 d0 j1 d1 j2 d2 w5) {r : Tr} {u v : Value} (hT : PTr P w0 w5 r (.agg #[u, v])) :
    Blk ((w5.setCell ⟨w0.heap.size + 1, 0, none⟩ u).setCell ⟨w0.heap.size + 1, 1, none⟩ v) (w0.heap.size + 1) 51 #[u, v] ∧
    TNew P w0.heap.size ((w5.setCell ⟨w0.heap.size + 1, 0, none⟩ u).setCell ⟨w0.heap.size + 1, 1, none⟩ v) r (.agg #[u, v]) ∧
    Below w0.heap.size w0 ((w5.setCell ⟨w0.heap.size + 1, 0, none⟩ u).setCell ⟨w0.heap.size + 1, 1, none⟩ v) := by
  refine ⟨res_set K.br _ _, hT.mono fun q hq => ⟨hq.imp id (fun h => ⟨by omega, by simpa [World.setCell] using h.2⟩), fun o => ?_⟩, (K.grown.setCell (p := ⟨w0.heap.size + 1, 0, none⟩) (by simp) _).setCell (p := ⟨w0.heap.size + 1, 1, none⟩) (by simp) _⟩
  have hne : q ≠ w0.heap.size + 1 := by
    rcases hq with h | h
    · have := K.all q h; omega
    · omega
  rw [World.cell?_setCell_other _ _ _ _ (by intro e; injection e with e; omega), World.cell?_setCell_other _ _ _ _ (by intro e; injection e with e; omega)]
end

set_option maxRecDepth 100000 in
set_option maxHeartbeats 4000000 in
theorem l2Turn_any (b : Tm) (x : List UInt8) (a : Tm) (hok : (Tm.app (.lam x b) a).ok) (hat : (Tm.app (.lam x b) a).atoms ≤ 400) (v : Value) (w : World) (P : Nat → Prop) (ht : TAt w P (tmTr (.app (.lam x b) a)) v) (hP : ∀ q, P q → q < w.heap.size) :
    Calls Tryz.prog 134 #[v] w (TuPost P b x a w) := by
  obtain ⟨g, cap, A0, A1, A2, n0, c0, n1, c1, n2, c2, rfl, hcap, h3⟩ := ht.three
  obtain ⟨g', cap', B0, B1, B2, j0, d0, j1, d1, j2, d2, e, hcap', h4⟩ := h3.t1.three
  simp at e
  obtain ⟨-, hA, hN, hC⟩ := e
  subst hA hN hC
  have q2 : w.cell? ⟨g, 2, none⟩ = some (.string ⟨#[]⟩) := h3.k2
  have q3 := h3.k3
  have hx := hok.1.1
  have hat' : b.atoms ≤ 400 ∧ a.atoms ≤ 400 ∧ 1 ≤ a.atoms := by
    have := atoms_pos a
    simp only [Tm.atoms] at hat
    omega
  have hub := uses_atoms x b
  have K0 : Hid (UKp w P g cap g' c1 x b a A0 (some ⟨g', 0, none⟩) A2 n0 c0 3 c1 n2 c2 B0 B1 B2 j0 d0 j1 d1 j2 d2 _) := Lib.hid (UKp.start h3 h4 hP)
  have CU : Hid (∀ w' (k : UKp w P g cap g' c1 x b a A0 (some ⟨g', 0, none⟩) A2 n0 c0 3 c1 n2 c2 B0 B1 B2 j0 d0 j1 d1 j2 d2 w'), _) := Lib.hid (fun w' k => l1Uses_any x b _ w' P hok.1.2 k.h4.t2 k.lo (by omega))
  have CB : Hid (∀ w' (k : UKp w P g cap g' c1 x b a A0 (some ⟨g', 0, none⟩) A2 n0 c0 3 c1 n2 c2 B0 B1 B2 j0 d0 j1 d1 j2 d2 w'), _) := Lib.hid (fun w' k => l1Atoms_any (tmTr b) _ w' P k.h4.t2 k.lo (by rw [tmTr_atoms b hok.1.2]; omega))
  have CC : Hid (∀ w' (k : UKp w P g cap g' c1 x b a A0 (some ⟨g', 0, none⟩) A2 n0 c0 3 c1 n2 c2 B0 B1 B2 j0 d0 j1 d1 j2 d2 w'), _) := Lib.hid (fun w' k => l1Atoms_any (tmTr a) _ w' P k.h3.t2 k.lo (by rw [tmTr_atoms a hok.2]; omega))
  have CS : Hid (∀ w' (k : UKp w P g cap g' c1 x b a A0 (some ⟨g', 0, none⟩) A2 n0 c0 3 c1 n2 c2 B0 B1 B2 j0 d0 j1 d1 j2 d2 w'), _) := Lib.hid (fun w' k => l1Sub_any b a x hx hok.1.2 hat'.1 hok.2 hat'.2.1 _ _ w' P k.h4.t2 k.h3.t2 k.lo)
  rw [tmTr_atoms b hok.1.2] at CB
  rw [tmTr_atoms a hok.2] at CC
  have HT := Lib.hid ht
  have HTR : Hid (turnT b x a = if 400 < b.atoms + b.uses x * (a.atoms - 1) then none else some (subT b x a)) := Lib.hid rfl
  have hkk : b.uses x * (a.atoms - 1) ≤ 400 * 400 := Nat.mul_le_mul (by omega) (by omega)
  have e1 : IntKind.i64.wrap ((a.atoms : Int) - 1) = (a.atoms : Int) - 1 := IntWalk.i64_in _ (by omega)
  have e2 : IntKind.i64.wrap ((b.uses x : Int) * ((a.atoms : Int) - 1)) = ((b.uses x * (a.atoms - 1) : Nat) : Int) := by
    have : (b.uses x : Int) * ((a.atoms : Int) - 1) = ((b.uses x * (a.atoms - 1) : Nat) : Int) := by
      rw [Int.natCast_mul]
      congr 1
      omega
    rw [this]
    exact IntWalk.i64_in _ (by omega)
  generalize b.uses x * (a.atoms - 1) = kk at hkk e2 HTR
  have e3 : IntKind.i64.wrap ((b.atoms : Int) + (kk : Int)) = ((b.atoms + kk : Nat) : Int) := by rw [IntWalk.i64_in _ (by omega)]; omega
  have gl := hP g h3.pg
  have gl' := hP g' h4.pg
  clear hok hat ht hP h3 h4 hx hat' hub
  by_cases hbig : 400 < b.atoms + kk
  · have HE : Hid (turnT b x a = none) := Lib.hid (by rw [HTR.out, if_pos hbig])
    have hcmp : decide ((400 : Int) < ((b.atoms + kk : Nat) : Int)) = true := decide_eq_true (by omega)
    go_enter Tryz.func134, Tryz.ntmps134
    go_wp2_with fail
    have hk := K0.out
    have hkd := hk.drew
    go_region_held3 (fun w' => w'.cell? ⟨w.heap.size, 1, none⟩ = some (.slice (some ⟨g, 0, none⟩) 3 cap) ∧ w'.cell? ⟨g, 4, none⟩ = some (.string ⟨(tmTr a).atom.toArray⟩) ∧ w'.cell? ⟨g, 5, none⟩ = some (.slice A2 n2 c2) ∧ w'.cell? ⟨w.heap.size + 2, 1, none⟩ = some (.slice (some ⟨g', 0, none⟩) 3 c1) ∧ w'.cell? ⟨g', 2, none⟩ = some (.string ⟨x.toArray⟩) ∧ w'.cell? ⟨g', 3, none⟩ = some (.slice B1 j1 d1) ∧ w'.cell? ⟨g', 4, none⟩ = some (.string ⟨(tmTr b).atom.toArray⟩) ∧ w'.cell? ⟨g', 5, none⟩ = some (.slice B2 j2 d2))
      (with_reducible first | exact hkd.s | exact UKp.s (by assumption))
      (first
        | (go_at_call 138; (refine (CU.out _ hkd).mono ?_); rintro e w1 ⟨rfl, hb1⟩; have hk1 := hkd.below hb1; clear hb1))
    all_goals
      have hkd1 := hk1.drew
      go_wp2_with fail
      go_region_held3 (fun w' => w'.cell? ⟨w.heap.size, 1, none⟩ = some (.slice (some ⟨g, 0, none⟩) 3 cap) ∧ w'.cell? ⟨g, 4, none⟩ = some (.string ⟨(tmTr a).atom.toArray⟩) ∧ w'.cell? ⟨g, 5, none⟩ = some (.slice A2 n2 c2) ∧ w'.cell? ⟨w.heap.size + 2, 1, none⟩ = some (.slice (some ⟨g', 0, none⟩) 3 c1) ∧ w'.cell? ⟨g', 2, none⟩ = some (.string ⟨x.toArray⟩) ∧ w'.cell? ⟨g', 3, none⟩ = some (.slice B1 j1 d1) ∧ w'.cell? ⟨g', 4, none⟩ = some (.string ⟨(tmTr b).atom.toArray⟩) ∧ w'.cell? ⟨g', 5, none⟩ = some (.slice B2 j2 d2))
        (with_reducible first | exact hkd1.s | exact UKp.s (by assumption))
        (first
          | (go_at_call 32; (with_reducible refine (CB.out _ hkd1).mono ?_); rintro e w2 ⟨rfl, hb2⟩; have hk2 := hkd1.below hb2; clear hb2)
          | (go_at_call 32; (with_reducible refine (CC.out _ hk2).mono ?_); rintro e w3 ⟨rfl, hb3⟩; have hk3 := hk2.below hb3; clear hb3))
      all_goals
        have t0 := hk3.bt.cell 0
        have t1 := hk3.bt.cell 1
        have r0 := hk3.br.cell 0
        have r1 := hk3.br.cell 1
        have rf0 := hk3.br.frozen 0
        have rf1 := hk3.br.frozen 1
        have rl := hk3.br.lt
        simp only [List.getElem?_toArray, List.getElem?_cons_zero, List.getElem?_cons_succ] at t0 t1 r0 r1
        have HK3 := Lib.hid hk3
        clear hk3
        go_wp2_with fail
        obtain ⟨hd1, hd2, hd3⟩ := ut_done HK3.out (r := tmTr (.app (.lam x b) a)) (u := .string ⟨#[]⟩) (v := .slice (some ⟨g, 0, none⟩) 3 cap) ((HT.out.below HK3.out.grown HK3.out.all).mono fun q hq => ⟨.inl hq, fun _ => rfl⟩)
        have y0 := hd1.cell 0
        have y1 := hd1.cell 1
        simp only [List.getElem?_toArray, List.getElem?_cons_zero, List.getElem?_cons_succ] at y0 y1
        refine bodyPost_ret (v := .tuple #[.agg #[.string ⟨#[]⟩, .slice (some ⟨g, 0, none⟩) 3 cap], .bool false]) (by simp [results, Tryz.results134, go_sem, y0, y1]) rfl ?_
        exact ⟨[], _, _, _, by rw [HE.out]; rfl, by rw [HE.out]; exact hd2, hd3⟩
  · have HE : Hid (turnT b x a = some (subT b x a)) := Lib.hid (by rw [HTR.out, if_neg hbig])
    have hcmp : decide ((400 : Int) < ((b.atoms + kk : Nat) : Int)) = false := decide_eq_false (by omega)
    go_enter Tryz.func134, Tryz.ntmps134
    go_wp2_with fail
    have hk := K0.out
    have hkd := hk.drew
    go_region_held3 (fun w' => w'.cell? ⟨w.heap.size, 1, none⟩ = some (.slice (some ⟨g, 0, none⟩) 3 cap) ∧ w'.cell? ⟨g, 4, none⟩ = some (.string ⟨(tmTr a).atom.toArray⟩) ∧ w'.cell? ⟨g, 5, none⟩ = some (.slice A2 n2 c2) ∧ w'.cell? ⟨w.heap.size + 2, 1, none⟩ = some (.slice (some ⟨g', 0, none⟩) 3 c1) ∧ w'.cell? ⟨g', 2, none⟩ = some (.string ⟨x.toArray⟩) ∧ w'.cell? ⟨g', 3, none⟩ = some (.slice B1 j1 d1) ∧ w'.cell? ⟨g', 4, none⟩ = some (.string ⟨(tmTr b).atom.toArray⟩) ∧ w'.cell? ⟨g', 5, none⟩ = some (.slice B2 j2 d2))
      (with_reducible first | exact hkd.s | exact UKp.s (by assumption))
      (first
        | (go_at_call 138; (refine (CU.out _ hkd).mono ?_); rintro e w1 ⟨rfl, hb1⟩; have hk1 := hkd.below hb1; clear hb1))
    all_goals
      have hkd1 := hk1.drew
      go_wp2_with fail
      go_region_held3 (fun w' => w'.cell? ⟨w.heap.size, 1, none⟩ = some (.slice (some ⟨g, 0, none⟩) 3 cap) ∧ w'.cell? ⟨g, 4, none⟩ = some (.string ⟨(tmTr a).atom.toArray⟩) ∧ w'.cell? ⟨g, 5, none⟩ = some (.slice A2 n2 c2) ∧ w'.cell? ⟨w.heap.size + 2, 1, none⟩ = some (.slice (some ⟨g', 0, none⟩) 3 c1) ∧ w'.cell? ⟨g', 2, none⟩ = some (.string ⟨x.toArray⟩) ∧ w'.cell? ⟨g', 3, none⟩ = some (.slice B1 j1 d1) ∧ w'.cell? ⟨g', 4, none⟩ = some (.string ⟨(tmTr b).atom.toArray⟩) ∧ w'.cell? ⟨g', 5, none⟩ = some (.slice B2 j2 d2))
        (with_reducible first | exact hkd1.s | exact UKp.s (by assumption))
        (first
          | (go_at_call 32; (with_reducible refine (CB.out _ hkd1).mono ?_); rintro e w2 ⟨rfl, hb2⟩; have hk2 := hkd1.below hb2; clear hb2)
          | (go_at_call 32; (with_reducible refine (CC.out _ hk2).mono ?_); rintro e w3 ⟨rfl, hb3⟩; have hk3 := hk2.below hb3; clear hb3))
      all_goals
        have hkd3 := hk3.drew
        go_wp2_with fail
        go_region_held3 (fun w' => w'.cell? ⟨w.heap.size, 1, none⟩ = some (.slice (some ⟨g, 0, none⟩) 3 cap) ∧ w'.cell? ⟨g, 4, none⟩ = some (.string ⟨(tmTr a).atom.toArray⟩) ∧ w'.cell? ⟨g, 5, none⟩ = some (.slice A2 n2 c2) ∧ w'.cell? ⟨w.heap.size + 2, 1, none⟩ = some (.slice (some ⟨g', 0, none⟩) 3 c1) ∧ w'.cell? ⟨g', 2, none⟩ = some (.string ⟨x.toArray⟩) ∧ w'.cell? ⟨g', 3, none⟩ = some (.slice B1 j1 d1) ∧ w'.cell? ⟨g', 4, none⟩ = some (.string ⟨(tmTr b).atom.toArray⟩) ∧ w'.cell? ⟨g', 5, none⟩ = some (.slice B2 j2 d2))
          (with_reducible first | exact hkd3.s | exact UKp.s (by assumption) | exact UKp.sput (by assumption))
          (first
            | (go_at_call 139; (with_reducible refine (CS.out _ hkd3).mono ?_); rintro e w5 ⟨u5, A5, m5, n5, rfl, ht5', hb5⟩; have hk5 := hkd3.below hb5; have ht5 : PTr P w w5 (tmTr (subT b x a)) (.agg #[.string ⟨u5.toArray⟩, .slice A5 m5 n5]) := ht5'.mono (fun q hq => ⟨hq.imp id (fun h => ⟨Nat.le_trans hkd3.bf.lt h.1, h.2⟩), fun _ => rfl⟩); have s0 := hk5.br.cell 0; have s1 := hk5.br.cell 1; have sf0 := hk5.br.frozen 0; have sf1 := hk5.br.frozen 1; have sl := hk5.br.lt; simp only [List.getElem?_toArray, List.getElem?_cons_zero, List.getElem?_cons_succ] at s0 s1))
        all_goals
          obtain ⟨hd1, hd2, hd3⟩ := ut_done hk5 ht5
          have y0 := hd1.cell 0
          have y1 := hd1.cell 1
          simp only [List.getElem?_toArray, List.getElem?_cons_zero, List.getElem?_cons_succ] at y0 y1
          have HD2 := Lib.hid hd2
          have HD3 := Lib.hid hd3
          clear hd1 hd2 hd3 ht5 hk5
          go_wp2_with fail
          refine bodyPost_ret (v := .tuple #[.agg #[.string ⟨u5.toArray⟩, .slice A5 m5 n5], .bool true]) (by simp [results, Tryz.results134, go_sem, y0, y1]) rfl ?_
          exact ⟨_, _, _, _, by rw [HE.out]; rfl, by rw [HE.out]; exact HD2.out, HD3.out⟩
end Go.Proofs.YtjcdclnaplojcaaGreatDoor

namespace Go.Proofs.YtjcdclnaplojcaaGreatDoor
set_option linter.unusedVariables false
open Go.RowKit

/-- What a step of the model answers: a tree and a number. -/
def StPost (P : Nat → Prop) (r : Tr) (n : Nat) (w : World) (e : Ending) (w' : World) : Prop :=
  ∃ (a : List UInt8) (A : Option Addr) (m c : Nat), e = .returned (.tuple #[.agg #[.string ⟨a.toArray⟩, .slice A m c], .int .i64 n]) ∧ TNew P w.heap.size w' r (.agg #[.string ⟨a.toArray⟩, .slice A m c]) ∧ Below w.heap.size w w'
def HdSaid (t : Tm) : Prop := ∀ (v : Value) (w : World) (P : Nat → Prop), t.ok → t.atoms ≤ 400 → TAt w P (tmTr t) v → (∀ b, P b → b < w.heap.size) →
  Calls Tryz.prog 122 #[v] w (StPost P (tmTr (headT t).1) (headT t).2 w)

/-- The argument's box and the result's; what was there. -/
structure HKp (w0 : World) (P : Nat → Prop) (t : Tr) (a : List UInt8) (A : Option Addr) (n c : Nat) (w' : World) : Prop where
  box : Blk w' w0.heap.size 51 #[.string ⟨a.toArray⟩, .slice A n c]
  res : Blk w' (w0.heap.size + 1) 51 #[.string ⟨#[]⟩, .slice none 0 0]
  tr : TAt w' P t (.agg #[.string ⟨a.toArray⟩, .slice A n c])
  all : ∀ q, P q → q < w0.heap.size
  grown : Below w0.heap.size w0 w'
section
variable {w0 : World} {P : Nat → Prop} {t : Tr} {a : List UInt8} {A : Option Addr} {n c : Nat} {w' w2 : World}
theorem HKp.start {w : World} (ht : TAt w P t (.agg #[.string ⟨a.toArray⟩, .slice A n c])) (hP : ∀ q, P q → q < w.heap.size) :
    HKp w P t a A n c ((w.alloc (.cells #[.string ⟨a.toArray⟩, .slice A n c] 51)).alloc (.cells #[.string ⟨#[]⟩, .slice none 0 0] 51)) := by
  have hB : Below w.heap.size w ((w.alloc (.cells #[.string ⟨a.toArray⟩, .slice A n c] 51)).alloc (.cells #[.string ⟨#[]⟩, .slice none 0 0] 51)) := ((Below.refl _ _).alloc (Nat.le_refl _) _).alloc (by simp) _
  refine ⟨(Blk.new w _ _).alloc _, ?_, ht.below hB hP, hP, hB⟩
  have := Blk.new (w.alloc (.cells #[.string ⟨a.toArray⟩, .slice A n c] 51)) 51 #[.string ⟨#[]⟩, .slice none 0 0]
  simpa using this
theorem HKp.lo (h : HKp w0 P t a A n c w') : ∀ q, P q → q < w'.heap.size := fun q hq => Nat.lt_of_lt_of_le (h.all q hq) h.grown.size
theorem HKp.below (h : HKp w0 P t a A n c w') (hb : Below w'.heap.size w' w2) : HKp w0 P t a A n c w2 :=
  ⟨h.box.below hb h.box.lt, h.res.below hb h.res.lt, h.tr.below hb h.lo, h.all, h.grown.trans (hb.mono h.grown.size)⟩
theorem HKp.drew (h : HKp w0 P t a A n c w') : HKp w0 P t a A n c w'.drew := h.below (Below.refl _ _).drew
theorem HKp.new (h : HKp w0 P t a A n c w') (o : Obj) : HKp w0 P t a A n c (w'.alloc o) := h.below ((Below.refl _ _).alloc (Nat.le_refl _) _)
/-- A tree of what was there and of new blocks. -/
abbrev HTr (P : Nat → Prop) (w0 w : World) (t : Tr) (v : Value) : Prop := TAt w (fun b => P b ∨ (w0.heap.size + 2 ≤ b ∧ b < w.heap.size)) t v
theorem HKp.hlo (h : HKp w0 P t a A n c w') : ∀ b, (P b ∨ (w0.heap.size + 2 ≤ b ∧ b < w'.heap.size)) → b < w'.heap.size := by
  rintro b (hb | hb)
  · exact h.lo b hb
  · exact hb.2
theorem HTr.below {u : Tr} {v : Value} (K : HKp w0 P t a A n c w') (h : HTr P w0 w' u v) (hb : Below w'.heap.size w' w2) : HTr P w0 w2 u v :=
  have hz := hb.size
  h.mono fun b hb' => ⟨hb'.imp id (fun h => ⟨h.1, by omega⟩), fun o => hb.cell (p := ⟨b, o, none⟩) (K.hlo b hb')⟩
theorem HTr.of_new {u : Tr} {v : Value} (K : HKp w0 P t a A n c w') (h : TNew P w'.heap.size w2 u v) : HTr P w0 w2 u v :=
  have hz := K.res.lt
  h.mono fun b hb => ⟨hb.imp id (fun h => ⟨by omega, h.2⟩), fun _ => rfl⟩
theorem HKp.own (K : HKp w0 P t a A n c w') : HTr P w0 w' t (.agg #[.string ⟨a.toArray⟩, .slice A n c]) := K.tr.mono fun b hb => ⟨.inl hb, fun _ => rfl⟩
/-- The result is stored. -/
theorem HKp.done {w5 : World} (K : HKp w0 P t a A n c w5) {r : Tr} {u v : Value} (hT : HTr P w0 w5 r (.agg #[u, v])) :
    Blk ((w5.setCell ⟨w0.heap.size + 1, 0, none⟩ u).setCell ⟨w0.heap.size + 1, 1, none⟩ v) (w0.heap.size + 1) 51 #[u, v] ∧
    TNew P w0.heap.size ((w5.setCell ⟨w0.heap.size + 1, 0, none⟩ u).setCell ⟨w0.heap.size + 1, 1, none⟩ v) r (.agg #[u, v]) ∧
    Below w0.heap.size w0 ((w5.setCell ⟨w0.heap.size + 1, 0, none⟩ u).setCell ⟨w0.heap.size + 1, 1, none⟩ v) := by
  refine ⟨res_set K.res _ _, hT.mono fun q hq => ⟨hq.imp id (fun h => ⟨by omega, by simpa [World.setCell] using h.2⟩), fun o => ?_⟩, (K.grown.setCell (p := ⟨w0.heap.size + 1, 0, none⟩) (by simp) _).setCell (p := ⟨w0.heap.size + 1, 1, none⟩) (by simp) _⟩
  have hne : q ≠ w0.heap.size + 1 := by
    rcases hq with h | h
    · have := K.all q h; omega
    · omega
  rw [World.cell?_setCell_other _ _ _ _ (by intro e; injection e with e; omega), World.cell?_setCell_other _ _ _ _ (by intro e; injection e with e; omega)]
/-- The cells of the boxes. -/
theorem HKp.cells (h : HKp w0 P t a A n c w') : w'.cell? ⟨w0.heap.size, 0, none⟩ = some (.string ⟨a.toArray⟩) ∧ w'.cell? ⟨w0.heap.size, 1, none⟩ = some (.slice A n c) ∧ w'.cell? ⟨w0.heap.size + 1, 0, none⟩ = some (.string ⟨#[]⟩) ∧ w'.cell? ⟨w0.heap.size + 1, 1, none⟩ = some (.slice none 0 0) ∧ w'.frozen? ⟨w0.heap.size + 1, 0, none⟩ = false ∧ w'.frozen? ⟨w0.heap.size + 1, 1, none⟩ = false ∧ w0.heap.size + 1 < w'.heap.size := by
  have b0 := h.box.cell 0
  have b1 := h.box.cell 1
  have r0 := h.res.cell 0
  have r1 := h.res.cell 1
  simp only [List.getElem?_toArray, List.getElem?_cons_zero, List.getElem?_cons_succ] at b0 b1 r0 r1
  exact ⟨b0, b1, r0, r1, h.res.frozen 0, h.res.frozen 1, h.res.lt⟩
end

set_option maxRecDepth 100000 in
set_option maxHeartbeats 1000000 in
theorem l2Head_var (x : List UInt8) : HdSaid (.var x) := by
  rintro v w P hok hat ht hP
  obtain ⟨A, m, n, e⟩ := ht.shape
  have e : v = .agg #[.string ⟨x.toArray⟩, .slice A m n] := e
  subst e
  have K0 := Lib.hid (HKp.start ht hP)
  have C1 := Lib.hid (l2Redex_any (.var x) hok _ _ P K0.out.tr K0.out.lo)
  have C2 : Hid (∀ w', HKp w P (tmTr (.var x)) x A m n w' → _) := Lib.hid (fun w' (k : HKp w P (tmTr (.var x)) x A m n w') => l1Head_tm (.var x) hok _ w' P k.tr k.lo)
  clear ht hP hat
  go_enter Tryz.func122, Tryz.ntmps122
  go_wp2_with fail
  refine C1.out.mono ?_
  rintro e w1 ⟨rfl, hb1⟩
  have hk1 := K0.out.below hb1
  obtain ⟨b0, b1, r0, r1, f0, f1, rl⟩ := hk1.cells
  have HK1 := Lib.hid hk1
  have h0 : (Tm.var x).isRdx = false := rfl
  clear hk1 hb1
  simp only [h0]
  go_wp2_with fail
  refine (C2.out _ HK1.out).mono ?_
  rintro e w2 ⟨rfl, hb2⟩
  have hk2 := HK1.out.below hb2
  obtain ⟨b0, b1, r0, r1, f0, f1, rl⟩ := hk2.cells
  have HK2 := Lib.hid hk2
  have h1 : (hdOf (.var x) == [108, 97, 109]) = false := rfl
  have h2 : (hdOf (.var x) == [97, 112, 112]) = false := rfl
  clear hk2 hb2
  go_wp2_with fail
  obtain ⟨hd1, hd2, hd3⟩ := HK2.out.done HK2.out.own
  have y0 := hd1.cell 0
  have y1 := hd1.cell 1
  simp only [List.getElem?_toArray, List.getElem?_cons_zero, List.getElem?_cons_succ] at y0 y1
  refine bodyPost_ret (v := .tuple #[.agg #[.string ⟨x.toArray⟩, .slice A m n], .int .i64 0]) (by simp [results, Tryz.results122, go_sem, y0, y1]) rfl ?_
  exact ⟨x, _, _, _, rfl, hd2, hd3⟩
/-- Three parts in the argument's block. -/
structure HK3 (w0 : World) (P : Nat → Prop) (g cap : Nat) (p0 p1 p2 : Tr) (A0 A1 A2 : Option Addr) (n0 c0 n1 c1 n2 c2 : Nat) (x1 x2 : List UInt8) (w' : World) : Prop where
  k : HKp w0 P (.mk [] [p0, p1, p2]) [] (some ⟨g, 0, none⟩) 3 cap w'
  three : Three w' P g p0 p1 p2 A0 A1 A2 n0 c0 n1 c1 n2 c2
  e1 : p1.atom = x1
  e2 : p2.atom = x2
/-- A step's result lies in a box. -/
structure HKb (w0 : World) (P : Nat → Prop) (g cap : Nat) (p0 p1 p2 : Tr) (A0 A1 A2 : Option Addr) (n0 c0 n1 c1 n2 c2 : Nat) (x1 x2 : List UInt8) (q : Nat) (t2 : Tr) (ub : List UInt8) (Ab : Option Addr) (mb nb : Nat) (w' : World) : Prop where
  k3 : HK3 w0 P g cap p0 p1 p2 A0 A1 A2 n0 c0 n1 c1 n2 c2 x1 x2 w'
  lq : w0.heap.size + 2 ≤ q
  bd : Blk w' q 51 #[.string ⟨ub.toArray⟩, .slice Ab mb nb]
  bt : HTr P w0 w' t2 (.agg #[.string ⟨ub.toArray⟩, .slice Ab mb nb])
section
variable {w0 : World} {P : Nat → Prop} {g cap : Nat} {p0 p1 p2 : Tr} {A0 A1 A2 : Option Addr} {n0 c0 n1 c1 n2 c2 : Nat} {x1 x2 : List UInt8} {q : Nat} {t2 : Tr} {ub : List UInt8} {Ab : Option Addr} {mb nb : Nat} {w' w2 : World}
theorem HK3.below (h : HK3 w0 P g cap p0 p1 p2 A0 A1 A2 n0 c0 n1 c1 n2 c2 x1 x2 w') (hb : Below w'.heap.size w' w2) : HK3 w0 P g cap p0 p1 p2 A0 A1 A2 n0 c0 n1 c1 n2 c2 x1 x2 w2 :=
  ⟨h.k.below hb, h.three.below hb h.k.lo, h.e1, h.e2⟩
theorem HKb.below (h : HKb w0 P g cap p0 p1 p2 A0 A1 A2 n0 c0 n1 c1 n2 c2 x1 x2 q t2 ub Ab mb nb w') (hb : Below w'.heap.size w' w2) : HKb w0 P g cap p0 p1 p2 A0 A1 A2 n0 c0 n1 c1 n2 c2 x1 x2 q t2 ub Ab mb nb w2 :=
  ⟨h.k3.below hb, h.lq, h.bd.below hb h.bd.lt, HTr.below h.k3.k h.bt hb⟩
theorem HKb.drew (h : HKb w0 P g cap p0 p1 p2 A0 A1 A2 n0 c0 n1 c1 n2 c2 x1 x2 q t2 ub Ab mb nb w') : HKb w0 P g cap p0 p1 p2 A0 A1 A2 n0 c0 n1 c1 n2 c2 x1 x2 q t2 ub Ab mb nb w'.drew := h.below (Below.refl _ _).drew
theorem HKb.new (h : HKb w0 P g cap p0 p1 p2 A0 A1 A2 n0 c0 n1 c1 n2 c2 x1 x2 q t2 ub Ab mb nb w') (o : Obj) : HKb w0 P g cap p0 p1 p2 A0 A1 A2 n0 c0 n1 c1 n2 c2 x1 x2 q t2 ub Ab mb nb (w'.alloc o) := h.below ((Below.refl _ _).alloc (Nat.le_refl _) _)
/-- A step's result is put into a new box. -/
theorem HK3.boxed (h : HK3 w0 P g cap p0 p1 p2 A0 A1 A2 n0 c0 n1 c1 n2 c2 x1 x2 w') (ht : HTr P w0 w' t2 (.agg #[.string ⟨ub.toArray⟩, .slice Ab mb nb])) :
    HKb w0 P g cap p0 p1 p2 A0 A1 A2 n0 c0 n1 c1 n2 c2 x1 x2 w'.heap.size t2 ub Ab mb nb (w'.alloc (.cells #[.string ⟨ub.toArray⟩, .slice Ab mb nb] 51)) :=
  have hb : Below w'.heap.size w' (w'.alloc (.cells #[.string ⟨ub.toArray⟩, .slice Ab mb nb] 51)) := (Below.refl _ _).alloc (Nat.le_refl _) _
  ⟨h.below hb, h.k.res.lt, Blk.new _ _ _, HTr.below h.k ht hb⟩
theorem HKb.s (h : HKb w0 P g cap p0 p1 p2 A0 A1 A2 n0 c0 n1 c1 n2 c2 x1 x2 q t2 ub Ab mb nb w') : w'.cell? ⟨w0.heap.size, 1, none⟩ = some (.slice (some ⟨g, 0, none⟩) 3 cap) ∧ w'.cell? ⟨g, 2, none⟩ = some (.string ⟨x1.toArray⟩) ∧ w'.cell? ⟨g, 3, none⟩ = some (.slice A1 n1 c1) ∧ w'.cell? ⟨g, 4, none⟩ = some (.string ⟨x2.toArray⟩) ∧ w'.cell? ⟨g, 5, none⟩ = some (.slice A2 n2 c2) ∧ w'.cell? ⟨q, 0, none⟩ = some (.string ⟨ub.toArray⟩) ∧ w'.cell? ⟨q, 1, none⟩ = some (.slice Ab mb nb) := by
  have h1 := h.k3.k.box.cell 1
  have h2 := h.bd.cell 0
  have h3 := h.bd.cell 1
  simp at h1 h2 h3
  have e1 := h.k3.e1
  have e2 := h.k3.e2
  subst e1 e2
  exact ⟨h1, h.k3.three.k2, h.k3.three.k3, h.k3.three.k4, h.k3.three.k5, h2, h3⟩
theorem HKb.sput (h : HKb w0 P g cap p0 p1 p2 A0 A1 A2 n0 c0 n1 c1 n2 c2 x1 x2 q t2 ub Ab mb nb w') {u v : Value} : ((w'.setCell ⟨w0.heap.size + 1, 0, none⟩ u).setCell ⟨w0.heap.size + 1, 1, none⟩ v).cell? ⟨w0.heap.size, 1, none⟩ = some (.slice (some ⟨g, 0, none⟩) 3 cap) ∧ ((w'.setCell ⟨w0.heap.size + 1, 0, none⟩ u).setCell ⟨w0.heap.size + 1, 1, none⟩ v).cell? ⟨g, 2, none⟩ = some (.string ⟨x1.toArray⟩) ∧ ((w'.setCell ⟨w0.heap.size + 1, 0, none⟩ u).setCell ⟨w0.heap.size + 1, 1, none⟩ v).cell? ⟨g, 3, none⟩ = some (.slice A1 n1 c1) ∧ ((w'.setCell ⟨w0.heap.size + 1, 0, none⟩ u).setCell ⟨w0.heap.size + 1, 1, none⟩ v).cell? ⟨g, 4, none⟩ = some (.string ⟨x2.toArray⟩) ∧ ((w'.setCell ⟨w0.heap.size + 1, 0, none⟩ u).setCell ⟨w0.heap.size + 1, 1, none⟩ v).cell? ⟨g, 5, none⟩ = some (.slice A2 n2 c2) ∧ ((w'.setCell ⟨w0.heap.size + 1, 0, none⟩ u).setCell ⟨w0.heap.size + 1, 1, none⟩ v).cell? ⟨q, 0, none⟩ = some (.string ⟨ub.toArray⟩) ∧ ((w'.setCell ⟨w0.heap.size + 1, 0, none⟩ u).setCell ⟨w0.heap.size + 1, 1, none⟩ v).cell? ⟨q, 1, none⟩ = some (.slice Ab mb nb) := by
  have hs := h.s
  have hg := h.k3.k.all g h.k3.three.pg
  have hq := h.lq
  have e : ∀ b i, b ≠ w0.heap.size + 1 → ((w'.setCell ⟨w0.heap.size + 1, 0, none⟩ u).setCell ⟨w0.heap.size + 1, 1, none⟩ v).cell? ⟨b, i, none⟩ = w'.cell? ⟨b, i, none⟩ := by
    intro b i hb
    rw [World.cell?_setCell_other _ _ _ _ (by intro e; injection e with e; omega), World.cell?_setCell_other _ _ _ _ (by intro e; injection e with e; omega)]
  rw [e _ _ (by omega), e _ _ (by omega), e _ _ (by omega), e _ _ (by omega), e _ _ (by omega), e _ _ (by omega), e _ _ (by omega)]
  exact hs
theorem hl_call (hd : List UInt8) (hhd : hd.length ≤ 8000) {W : World} (K : HKb w0 P g cap p0 p1 p2 A0 A1 A2 n0 c0 n1 c1 n2 c2 x1 x2 q t2 ub Ab mb nb W) {r1 r2 : Tr} {u1 v1 u2 v2 : Value}
    (hT1 : HTr P w0 W r1 (.agg #[u1, v1])) (hT2 : HTr P w0 W r2 (.agg #[u2, v2])) :
    Calls Tryz.prog 30 #[.string ⟨hd.toArray⟩, .slice (some ⟨W.heap.size, 0, none⟩) 2 2] (W.alloc (.cells #[u1, v1, u2, v2] 51)) fun e w'' =>
      ∃ A' m' c', e = .returned (.agg #[.string ⟨#[]⟩, .slice A' m' c']) ∧ HTr P w0 w'' (.mk [] [.mk hd [], r1, r2]) (.agg #[.string ⟨#[]⟩, .slice A' m' c']) ∧ HKb w0 P g cap p0 p1 p2 A0 A1 A2 n0 c0 n1 c1 n2 c2 x1 x2 q t2 ub Ab mb nb w'' := by
  have hz := K.k3.k.res.lt
  have hP := K.k3.k.hlo
  have hbk := Blk.new W 51 #[u1, v1, u2, v2]
  have h := l1List_any hd hhd [r1, r2] (by simp) (fun b => P b ∨ (w0.heap.size + 2 ≤ b ∧ b < W.heap.size)) W.heap.size 2 [u1, v1, u2, v2] (W.alloc (.cells #[u1, v1, u2, v2] 51)) (by simp)
    (fun j u hu => by rw [hbk.cell j]; simpa using hu) (VsAt.cons' (hT1.alloc hP _) (VsAt.cons' (hT2.alloc hP _) (by unfold VsAt; rfl))) (fun b hb => by have := hP b hb; simp; omega)
  refine h.mono ?_
  rintro e w'' ⟨A', m', c', rfl, h1, h2⟩
  have hz2 := h2.size
  simp at hz2
  refine ⟨A', m', c', rfl, h1.mono fun b hb => ⟨?_, fun _ => rfl⟩, (K.new _).below h2⟩
  rcases hb with (h | h) | h
  · exact .inl h
  · exact .inr ⟨h.1, by omega⟩
  · have := h.1
    simp at this
    exact .inr ⟨by omega, h.2⟩
theorem hl_drew (hd : List UInt8) (hhd : hd.length ≤ 8000) {W : World} (K : HKb w0 P g cap p0 p1 p2 A0 A1 A2 n0 c0 n1 c1 n2 c2 x1 x2 q t2 ub Ab mb nb W) {r1 r2 : Tr} {u1 v1 u2 v2 : Value}
    (hT1 : HTr P w0 W r1 (.agg #[u1, v1])) (hT2 : HTr P w0 W r2 (.agg #[u2, v2])) :
    Calls Tryz.prog 30 #[.string ⟨hd.toArray⟩, .slice (some ⟨W.heap.size, 0, none⟩) 2 2] (W.alloc (.cells #[u1, v1, u2, v2] 51)).drew fun e w'' =>
      ∃ A' m' c', e = .returned (.agg #[.string ⟨#[]⟩, .slice A' m' c']) ∧ HTr P w0 w'' (.mk [] [.mk hd [], r1, r2]) (.agg #[.string ⟨#[]⟩, .slice A' m' c']) ∧ HKb w0 P g cap p0 p1 p2 A0 A1 A2 n0 c0 n1 c1 n2 c2 x1 x2 q t2 ub Ab mb nb w'' :=
  hl_call hd hhd K.drew (HTr.below K.k3.k hT1 (Below.refl _ _).drew) (HTr.below K.k3.k hT2 (Below.refl _ _).drew)
end

set_option maxRecDepth 100000 in
set_option maxHeartbeats 4000000 in
theorem l2Head_lam (x : List UInt8) (b : Tm) (ih : HdSaid b) : HdSaid (.lam x b) := by
  rintro v w P hok hat ht hP
  obtain ⟨g, cap, A0, A1, A2, n0, c0, n1, c1, n2, c2, rfl, hcap, h3⟩ := ht.three
  have hz0 : w.heap.size ≤ ((w.alloc (.cells #[.string ⟨#[]⟩, .slice (some ⟨g, 0, none⟩) 3 cap] 51)).alloc (.cells #[.string ⟨#[]⟩, .slice none 0 0] 51)).heap.size := by simp; omega
  have k0 := HKp.start ht hP
  have K0 : Hid (HK3 w P g cap (.mk sLam []) (.mk x []) (tmTr b) A0 A1 A2 n0 c0 n1 c1 n2 c2 x (tmTr b).atom _) := Lib.hid ⟨k0, h3.below k0.grown hP, rfl, rfl⟩
  have C1 := Lib.hid (l2Redex_any (.lam x b) hok _ _ P k0.tr k0.lo)
  have C2 : Hid (∀ w', HK3 w P g cap (.mk sLam []) (.mk x []) (tmTr b) A0 A1 A2 n0 c0 n1 c1 n2 c2 x (tmTr b).atom w' → _) := Lib.hid (fun w' (k : HK3 w P g cap (.mk sLam []) (.mk x []) (tmTr b) A0 A1 A2 n0 c0 n1 c1 n2 c2 x (tmTr b).atom w') => l1Head_tm (.lam x b) hok _ w' P k.k.tr k.k.lo)
  have hat' : b.atoms ≤ 400 := by simp only [Tm.atoms] at hat; omega
  have C3 : Hid (∀ w', HK3 w P g cap (.mk sLam []) (.mk x []) (tmTr b) A0 A1 A2 n0 c0 n1 c1 n2 c2 x (tmTr b).atom w' → _) := Lib.hid (fun w' (k : HK3 w P g cap (.mk sLam []) (.mk x []) (tmTr b) A0 A1 A2 n0 c0 n1 c1 n2 c2 x (tmTr b).atom w') => ih _ w' P hok.2 hat' k.three.t2 k.k.lo)
  have gl := hP g h3.pg
  have HE : Hid ((headT (.lam x b)).1 = .lam x (headT b).1 ∧ (headT (.lam x b)).2 = (headT b).2) := Lib.hid ⟨rfl, rfl⟩
  clear ht hP hat ih h3 k0
  generalize hr : headT b = r at C3 HE
  obtain ⟨r1, r2⟩ := r
  generalize headT (.lam x b) = rr at HE
  clear hr
  go_enter Tryz.func122, Tryz.ntmps122
  go_wp2_with fail
  refine C1.out.mono ?_
  rintro e w1 ⟨rfl, hb1⟩
  have hk1 := K0.out.below hb1
  obtain ⟨b0, b1, s0, s1, f0, f1, rl⟩ := hk1.k.cells
  have HK1 := Lib.hid hk1
  have h0 : (Tm.lam x b).isRdx = false := rfl
  clear hk1 hb1
  simp only [h0]
  go_wp2_with fail
  refine (C2.out _ HK1.out).mono ?_
  rintro e w2 ⟨rfl, hb2⟩
  have hk2 := HK1.out.below hb2
  obtain ⟨b0, b1, s0, s1, f0, f1, rl⟩ := hk2.k.cells
  have k4 := hk2.three.k4
  have k5 := hk2.three.k5
  have HK2 := Lib.hid hk2
  have h1 : (hdOf (.lam x b) == [108, 97, 109]) = true := rfl
  clear hk2 hb2
  go_wp2_with fail
  refine (C3.out _ HK2.out).mono ?_
  rintro e w3 ⟨ub, Ab, mb, nb, rfl, ht3, hb3⟩
  have hk3 := HK2.out.below hb3
  have hkb := hk3.boxed (HTr.of_new HK2.out.k ht3)
  have HKB := Lib.hid hkb
  clear hk3 hb3 ht3 hkb
  go_wp2_with fail
  generalize w3.heap.size = q at HKB ⊢
  generalize w3.alloc (.cells #[.string ⟨ub.toArray⟩, .slice Ab mb nb] 51) = W at HKB ⊢
  have hk := HKB.out
  have hkd := HKB.out.drew
  have hx1 : HTr P w W (.mk x []) (.agg #[.string ⟨x.toArray⟩, .slice A1 n1 c1]) := hk.k3.three.t1.mono fun b hb => ⟨.inl hb, fun _ => rfl⟩
  go_region_held3 (fun w' => w'.cell? ⟨w.heap.size, 1, none⟩ = some (.slice (some ⟨g, 0, none⟩) 3 cap) ∧ w'.cell? ⟨g, 2, none⟩ = some (.string ⟨x.toArray⟩) ∧ w'.cell? ⟨g, 3, none⟩ = some (.slice A1 n1 c1) ∧ w'.cell? ⟨g, 4, none⟩ = some (.string ⟨(tmTr b).atom.toArray⟩) ∧ w'.cell? ⟨g, 5, none⟩ = some (.slice A2 n2 c2) ∧ w'.cell? ⟨q, 0, none⟩ = some (.string ⟨ub.toArray⟩) ∧ w'.cell? ⟨q, 1, none⟩ = some (.slice Ab mb nb))
    (with_reducible first | exact hkd.s | exact hk.s | exact HKb.s (by assumption) | exact HKb.s (HKb.new (by assumption) _) | exact HKb.sput (by assumption))
    (first
      | (go_at_call 30; (with_reducible refine (hl_drew [108, 97, 109] (by simp) hk hx1 hk.bt).mono ?_); rintro e w5 ⟨A5, m5, c5, rfl, ht5, hk5⟩; obtain ⟨-, -, s0, s1, sf0, sf1, sl⟩ := hk5.k3.k.cells))
  all_goals
    obtain ⟨hd1, hd2, hd3⟩ := hk5.k3.k.done ht5
    have y0 := hd1.cell 0
    have y1 := hd1.cell 1
    simp only [List.getElem?_toArray, List.getElem?_cons_zero, List.getElem?_cons_succ] at y0 y1
    have HD2 := Lib.hid hd2
    have HD3 := Lib.hid hd3
    clear hd1 hd2 hd3 ht5 hk5
    go_wp2_with fail
    refine bodyPost_ret (v := .tuple #[.agg #[.string ⟨#[]⟩, .slice A5 m5 c5], .int .i64 r2]) (by simp [results, Tryz.results122, go_sem, y0, y1]) rfl ?_
    exact ⟨[], _, _, _, by rw [HE.out.2], by rw [HE.out.1]; exact HD2.out, HD3.out⟩
set_option maxRecDepth 100000 in
set_option maxHeartbeats 4000000 in
theorem l2Head_app (f a : Tm) (hl : f.isLam = false) (ih : HdSaid f) : HdSaid (.app f a) := by
  rintro v w P hok hat ht hP
  obtain ⟨g, cap, A0, A1, A2, n0, c0, n1, c1, n2, c2, rfl, hcap, h3⟩ := ht.three
  have hz0 : w.heap.size ≤ ((w.alloc (.cells #[.string ⟨#[]⟩, .slice (some ⟨g, 0, none⟩) 3 cap] 51)).alloc (.cells #[.string ⟨#[]⟩, .slice none 0 0] 51)).heap.size := by simp; omega
  have k0 := HKp.start ht hP
  have K0 : Hid (HK3 w P g cap (.mk sApp []) (tmTr f) (tmTr a) A0 A1 A2 n0 c0 n1 c1 n2 c2 (tmTr f).atom (tmTr a).atom _) := Lib.hid ⟨k0, h3.below k0.grown hP, rfl, rfl⟩
  have C1 := Lib.hid (l2Redex_any (.app f a) hok _ _ P k0.tr k0.lo)
  have C2 : Hid (∀ w', HK3 w P g cap (.mk sApp []) (tmTr f) (tmTr a) A0 A1 A2 n0 c0 n1 c1 n2 c2 (tmTr f).atom (tmTr a).atom w' → _) := Lib.hid (fun w' (k : HK3 w P g cap (.mk sApp []) (tmTr f) (tmTr a) A0 A1 A2 n0 c0 n1 c1 n2 c2 (tmTr f).atom (tmTr a).atom w') => l1Head_tm (.app f a) hok _ w' P k.k.tr k.k.lo)
  have hat' : f.atoms ≤ 400 := by simp only [Tm.atoms] at hat; omega
  have C3 : Hid (∀ w', HK3 w P g cap (.mk sApp []) (tmTr f) (tmTr a) A0 A1 A2 n0 c0 n1 c1 n2 c2 (tmTr f).atom (tmTr a).atom w' → _) := Lib.hid (fun w' (k : HK3 w P g cap (.mk sApp []) (tmTr f) (tmTr a) A0 A1 A2 n0 c0 n1 c1 n2 c2 (tmTr f).atom (tmTr a).atom w') => ih _ w' P hok.1 hat' k.three.t1 k.k.lo)
  have gl := hP g h3.pg
  have HE : Hid ((headT (.app f a)).1 = .app (headT f).1 a ∧ (headT (.app f a)).2 = (headT f).2) := Lib.hid (by rw [headT_app f a hl]; exact ⟨rfl, rfl⟩)
  clear ht hP hat ih h3 k0
  generalize hr : headT f = r at C3 HE
  obtain ⟨r1, r2⟩ := r
  generalize headT (.app f a) = rr at HE
  clear hr
  go_enter Tryz.func122, Tryz.ntmps122
  go_wp2_with fail
  refine C1.out.mono ?_
  rintro e w1 ⟨rfl, hb1⟩
  have hk1 := K0.out.below hb1
  obtain ⟨b0, b1, s0, s1, f0, f1, rl⟩ := hk1.k.cells
  have HK1 := Lib.hid hk1
  have h0 : (Tm.app f a).isRdx = false := hl
  clear hk1 hb1
  simp only [h0]
  go_wp2_with fail
  refine (C2.out _ HK1.out).mono ?_
  rintro e w2 ⟨rfl, hb2⟩
  have hk2 := HK1.out.below hb2
  obtain ⟨b0, b1, s0, s1, f0, f1, rl⟩ := hk2.k.cells
  have k2 := hk2.three.k2
  have k3 := hk2.three.k3
  have HK2 := Lib.hid hk2
  have h1 : (hdOf (.app f a) == [108, 97, 109]) = false := rfl
  have h2 : (hdOf (.app f a) == [97, 112, 112]) = true := rfl
  clear hk2 hb2
  go_wp2_with fail
  refine (C3.out _ HK2.out).mono ?_
  rintro e w3 ⟨ub, Ab, mb, nb, rfl, ht3, hb3⟩
  have hk3 := HK2.out.below hb3
  have hkb := hk3.boxed (HTr.of_new HK2.out.k ht3)
  have HKB := Lib.hid hkb
  clear hk3 hb3 ht3 hkb
  go_wp2_with fail
  generalize w3.heap.size = q at HKB ⊢
  generalize w3.alloc (.cells #[.string ⟨ub.toArray⟩, .slice Ab mb nb] 51) = W at HKB ⊢
  have hk := HKB.out
  have hkd := HKB.out.drew
  have hx1 : HTr P w W (tmTr a) (.agg #[.string ⟨(tmTr a).atom.toArray⟩, .slice A2 n2 c2]) := hk.k3.three.t2.mono fun b hb => ⟨.inl hb, fun _ => rfl⟩
  go_region_held3 (fun w' => w'.cell? ⟨w.heap.size, 1, none⟩ = some (.slice (some ⟨g, 0, none⟩) 3 cap) ∧ w'.cell? ⟨g, 2, none⟩ = some (.string ⟨(tmTr f).atom.toArray⟩) ∧ w'.cell? ⟨g, 3, none⟩ = some (.slice A1 n1 c1) ∧ w'.cell? ⟨g, 4, none⟩ = some (.string ⟨(tmTr a).atom.toArray⟩) ∧ w'.cell? ⟨g, 5, none⟩ = some (.slice A2 n2 c2) ∧ w'.cell? ⟨q, 0, none⟩ = some (.string ⟨ub.toArray⟩) ∧ w'.cell? ⟨q, 1, none⟩ = some (.slice Ab mb nb))
    (with_reducible first | exact hkd.s | exact hk.s | exact HKb.s (by assumption) | exact HKb.s (HKb.new (by assumption) _) | exact HKb.sput (by assumption))
    (first
      | (go_at_call 30; (with_reducible refine (hl_drew [97, 112, 112] (by simp) hk hk.bt hx1).mono ?_); rintro e w5 ⟨A5, m5, c5, rfl, ht5, hk5⟩; obtain ⟨-, -, s0, s1, sf0, sf1, sl⟩ := hk5.k3.k.cells))
  all_goals
    obtain ⟨hd1, hd2, hd3⟩ := hk5.k3.k.done ht5
    have y0 := hd1.cell 0
    have y1 := hd1.cell 1
    simp only [List.getElem?_toArray, List.getElem?_cons_zero, List.getElem?_cons_succ] at y0 y1
    have HD2 := Lib.hid hd2
    have HD3 := Lib.hid hd3
    clear hd1 hd2 hd3 ht5 hk5
    go_wp2_with fail
    refine bodyPost_ret (v := .tuple #[.agg #[.string ⟨#[]⟩, .slice A5 m5 c5], .int .i64 r2]) (by simp [results, Tryz.results122, go_sem, y0, y1]) rfl ?_
    exact ⟨[], _, _, _, by rw [HE.out.2], by rw [HE.out.1]; exact HD2.out, HD3.out⟩

set_option maxRecDepth 100000 in
set_option maxHeartbeats 4000000 in
theorem l2Head_turn (x : List UInt8) (b a : Tm) : HdSaid (.app (.lam x b) a) := by
  rintro v w P hok hat ht hP
  obtain ⟨A, m, n, e⟩ := ht.shape
  have e : v = .agg #[.string ⟨#[]⟩, .slice A m n] := e
  subst e
  have k0 := HKp.start (a := []) ht hP
  have K0 := Lib.hid k0
  have C1 := Lib.hid (l2Redex_any (.app (.lam x b) a) hok _ _ P k0.tr k0.lo)
  have C2 : Hid (∀ w', HKp w P (tmTr (.app (.lam x b) a)) [] A m n w' → _) := Lib.hid (fun w' (k : HKp w P (tmTr (.app (.lam x b) a)) [] A m n w') => l2Turn_any b x a hok hat _ w' P k.tr k.lo)
  have HE : Hid ((headT (.app (.lam x b) a)).1 = (turnT b x a).getD (.app (.lam x b) a) ∧ (headT (.app (.lam x b) a)).2 = if (turnT b x a).isSome = true then 1 else 2) := Lib.hid (by simp only [headT, turnR]; cases turnT b x a <;> exact ⟨rfl, rfl⟩)
  clear ht hP hat k0
  generalize headT (.app (.lam x b) a) = rr at HE
  go_enter Tryz.func122, Tryz.ntmps122
  go_wp2_with fail
  refine C1.out.mono ?_
  rintro e w1 ⟨rfl, hb1⟩
  have hk1 := K0.out.below hb1
  obtain ⟨b0, b1, s0, s1, f0, f1, rl⟩ := hk1.cells
  have HK1 := Lib.hid hk1
  have h0 : (Tm.app (.lam x b) a).isRdx = true := rfl
  clear hk1 hb1
  simp only [h0]
  go_wp2_with fail
  refine (C2.out _ HK1.out).mono ?_
  rintro e w2 ⟨u, B, p, q, rfl, ht2, hb2⟩
  have hk2 := HK1.out.below hb2
  have hr2 := HTr.of_new HK1.out ht2
  clear ht2
  have hnew : Below w2.heap.size w2 (w2.alloc (.cells #[.string ⟨u.toArray⟩, .slice B p q] 51)) := (Below.refl _ _).alloc (Nat.le_refl _) _
  have hk3 := hk2.below hnew
  have hr3 := HTr.below hk2 hr2 hnew
  have hbx := Blk.new w2 51 #[.string ⟨u.toArray⟩, .slice B p q]
  obtain ⟨b0, b1, s0, s1, f0, f1, rl⟩ := hk3.cells
  have x0 := hbx.cell 0
  have x1 := hbx.cell 1
  have xl := hbx.lt
  simp only [List.getElem?_toArray, List.getElem?_cons_zero, List.getElem?_cons_succ] at x0 x1
  have HK3 := Lib.hid hk3
  have HR3 := Lib.hid hr3
  clear hk2 hb2 hnew hk3 hr2 hr3 hbx
  cases ho : turnT b x a with
  | none =>
    rw [ho] at HE
    have HO := Lib.hid ho
    clear ho
    simp only [Option.isSome]
    go_wp2_with fail
    obtain ⟨hd1, hd2, hd3⟩ := HK3.out.done HK3.out.own
    have y0 := hd1.cell 0
    have y1 := hd1.cell 1
    simp only [List.getElem?_toArray, List.getElem?_cons_zero, List.getElem?_cons_succ] at y0 y1
    refine bodyPost_ret (v := .tuple #[.agg #[.string ⟨#[]⟩, .slice A m n], .int .i64 2]) (by simp [results, Tryz.results122, go_sem, y0, y1]) rfl ?_
    exact ⟨[], _, _, _, by rw [HE.out.2]; rfl, by rw [HE.out.1]; exact hd2, hd3⟩
  | some o =>
    rw [ho] at HE HR3
    have HO := Lib.hid ho
    clear ho
    simp only [Option.isSome]
    go_wp2_with fail
    obtain ⟨hd1, hd2, hd3⟩ := HK3.out.done HR3.out
    have y0 := hd1.cell 0
    have y1 := hd1.cell 1
    simp only [List.getElem?_toArray, List.getElem?_cons_zero, List.getElem?_cons_succ] at y0 y1
    refine bodyPost_ret (v := .tuple #[.agg #[.string ⟨u.toArray⟩, .slice B p q], .int .i64 1]) (by simp [results, Tryz.results122, go_sem, y0, y1]) rfl ?_
    exact ⟨_, _, _, _, by rw [HE.out.2]; rfl, by rw [HE.out.1]; exact hd2, hd3⟩
theorem l2Head_any (t : Tm) : HdSaid t := by
  induction t with
  | var x => exact l2Head_var x
  | lam x b ih => exact l2Head_lam x b ih
  | app f a ihf _ =>
    cases hl : f.isLam with
    | true => obtain ⟨x, b, rfl⟩ := Tm.lam_of hl; exact l2Head_turn x b a
    | false => exact l2Head_app f a hl ihf
end Go.Proofs.YtjcdclnaplojcaaGreatDoor

namespace Go.Proofs.YtjcdclnaplojcaaGreatDoor
set_option linter.unusedVariables false
open Go.RowKit

def FlSaid (t : Tm) : Prop := ∀ (v : Value) (w : World) (P : Nat → Prop), t.ok → t.atoms ≤ 400 → TAt w P (tmTr t) v → (∀ b, P b → b < w.heap.size) →
  Calls Tryz.prog 123 #[v] w (StPost P (tmTr (fullT t).1) (fullT t).2 w)
set_option maxRecDepth 100000 in
set_option maxHeartbeats 1000000 in
theorem l2Full_var (x : List UInt8) : FlSaid (.var x) := by
  rintro v w P hok hat ht hP
  obtain ⟨A, m, n, e⟩ := ht.shape
  have e : v = .agg #[.string ⟨x.toArray⟩, .slice A m n] := e
  subst e
  have K0 := Lib.hid (HKp.start ht hP)
  have C1 := Lib.hid (l2Redex_any (.var x) hok _ _ P K0.out.tr K0.out.lo)
  have C2 : Hid (∀ w', HKp w P (tmTr (.var x)) x A m n w' → _) := Lib.hid (fun w' (k : HKp w P (tmTr (.var x)) x A m n w') => l1Head_tm (.var x) hok _ w' P k.tr k.lo)
  clear ht hP hat
  go_enter Tryz.func123, Tryz.ntmps123
  go_wp2_with fail
  refine C1.out.mono ?_
  rintro e w1 ⟨rfl, hb1⟩
  have hk1 := K0.out.below hb1
  obtain ⟨b0, b1, r0, r1, f0, f1, rl⟩ := hk1.cells
  have HK1 := Lib.hid hk1
  have h0 : (Tm.var x).isRdx = false := rfl
  clear hk1 hb1
  simp only [h0]
  go_wp2_with fail
  refine (C2.out _ HK1.out).mono ?_
  rintro e w2 ⟨rfl, hb2⟩
  have hk2 := HK1.out.below hb2
  obtain ⟨b0, b1, r0, r1, f0, f1, rl⟩ := hk2.cells
  have HK2 := Lib.hid hk2
  have h1 : (hdOf (.var x) == [108, 97, 109]) = false := rfl
  have h2 : (hdOf (.var x) == [97, 112, 112]) = false := rfl
  clear hk2 hb2
  go_wp2_with fail
  obtain ⟨hd1, hd2, hd3⟩ := HK2.out.done HK2.out.own
  have y0 := hd1.cell 0
  have y1 := hd1.cell 1
  simp only [List.getElem?_toArray, List.getElem?_cons_zero, List.getElem?_cons_succ] at y0 y1
  refine bodyPost_ret (v := .tuple #[.agg #[.string ⟨x.toArray⟩, .slice A m n], .int .i64 0]) (by simp [results, Tryz.results123, go_sem, y0, y1]) rfl ?_
  exact ⟨x, _, _, _, rfl, hd2, hd3⟩

set_option maxRecDepth 100000 in
set_option maxHeartbeats 4000000 in
theorem l2Full_lam (x : List UInt8) (b : Tm) (ih : FlSaid b) : FlSaid (.lam x b) := by
  rintro v w P hok hat ht hP
  obtain ⟨g, cap, A0, A1, A2, n0, c0, n1, c1, n2, c2, rfl, hcap, h3⟩ := ht.three
  have hz0 : w.heap.size ≤ ((w.alloc (.cells #[.string ⟨#[]⟩, .slice (some ⟨g, 0, none⟩) 3 cap] 51)).alloc (.cells #[.string ⟨#[]⟩, .slice none 0 0] 51)).heap.size := by simp; omega
  have k0 := HKp.start ht hP
  have K0 : Hid (HK3 w P g cap (.mk sLam []) (.mk x []) (tmTr b) A0 A1 A2 n0 c0 n1 c1 n2 c2 x (tmTr b).atom _) := Lib.hid ⟨k0, h3.below k0.grown hP, rfl, rfl⟩
  have C1 := Lib.hid (l2Redex_any (.lam x b) hok _ _ P k0.tr k0.lo)
  have C2 : Hid (∀ w', HK3 w P g cap (.mk sLam []) (.mk x []) (tmTr b) A0 A1 A2 n0 c0 n1 c1 n2 c2 x (tmTr b).atom w' → _) := Lib.hid (fun w' (k : HK3 w P g cap (.mk sLam []) (.mk x []) (tmTr b) A0 A1 A2 n0 c0 n1 c1 n2 c2 x (tmTr b).atom w') => l1Head_tm (.lam x b) hok _ w' P k.k.tr k.k.lo)
  have hat' : b.atoms ≤ 400 := by simp only [Tm.atoms] at hat; omega
  have C3 : Hid (∀ w', HK3 w P g cap (.mk sLam []) (.mk x []) (tmTr b) A0 A1 A2 n0 c0 n1 c1 n2 c2 x (tmTr b).atom w' → _) := Lib.hid (fun w' (k : HK3 w P g cap (.mk sLam []) (.mk x []) (tmTr b) A0 A1 A2 n0 c0 n1 c1 n2 c2 x (tmTr b).atom w') => ih _ w' P hok.2 hat' k.three.t2 k.k.lo)
  have gl := hP g h3.pg
  have HE : Hid ((fullT (.lam x b)).1 = .lam x (fullT b).1 ∧ (fullT (.lam x b)).2 = (fullT b).2) := Lib.hid ⟨rfl, rfl⟩
  clear ht hP hat ih h3 k0
  generalize hr : fullT b = r at C3 HE
  obtain ⟨r1, r2⟩ := r
  generalize fullT (.lam x b) = rr at HE
  clear hr
  go_enter Tryz.func123, Tryz.ntmps123
  go_wp2_with fail
  refine C1.out.mono ?_
  rintro e w1 ⟨rfl, hb1⟩
  have hk1 := K0.out.below hb1
  obtain ⟨b0, b1, s0, s1, f0, f1, rl⟩ := hk1.k.cells
  have HK1 := Lib.hid hk1
  have h0 : (Tm.lam x b).isRdx = false := rfl
  clear hk1 hb1
  simp only [h0]
  go_wp2_with fail
  refine (C2.out _ HK1.out).mono ?_
  rintro e w2 ⟨rfl, hb2⟩
  have hk2 := HK1.out.below hb2
  obtain ⟨b0, b1, s0, s1, f0, f1, rl⟩ := hk2.k.cells
  have k4 := hk2.three.k4
  have k5 := hk2.three.k5
  have HK2 := Lib.hid hk2
  have h1 : (hdOf (.lam x b) == [108, 97, 109]) = true := rfl
  clear hk2 hb2
  go_wp2_with fail
  refine (C3.out _ HK2.out).mono ?_
  rintro e w3 ⟨ub, Ab, mb, nb, rfl, ht3, hb3⟩
  have hk3 := HK2.out.below hb3
  have hkb := hk3.boxed (HTr.of_new HK2.out.k ht3)
  have HKB := Lib.hid hkb
  clear hk3 hb3 ht3 hkb
  go_wp2_with fail
  generalize w3.heap.size = q at HKB ⊢
  generalize w3.alloc (.cells #[.string ⟨ub.toArray⟩, .slice Ab mb nb] 51) = W at HKB ⊢
  have hk := HKB.out
  have hkd := HKB.out.drew
  have hx1 : HTr P w W (.mk x []) (.agg #[.string ⟨x.toArray⟩, .slice A1 n1 c1]) := hk.k3.three.t1.mono fun b hb => ⟨.inl hb, fun _ => rfl⟩
  go_region_held3 (fun w' => w'.cell? ⟨w.heap.size, 1, none⟩ = some (.slice (some ⟨g, 0, none⟩) 3 cap) ∧ w'.cell? ⟨g, 2, none⟩ = some (.string ⟨x.toArray⟩) ∧ w'.cell? ⟨g, 3, none⟩ = some (.slice A1 n1 c1) ∧ w'.cell? ⟨g, 4, none⟩ = some (.string ⟨(tmTr b).atom.toArray⟩) ∧ w'.cell? ⟨g, 5, none⟩ = some (.slice A2 n2 c2) ∧ w'.cell? ⟨q, 0, none⟩ = some (.string ⟨ub.toArray⟩) ∧ w'.cell? ⟨q, 1, none⟩ = some (.slice Ab mb nb))
    (with_reducible first | exact hkd.s | exact hk.s | exact HKb.s (by assumption) | exact HKb.s (HKb.new (by assumption) _) | exact HKb.sput (by assumption))
    (first
      | (go_at_call 30; (with_reducible refine (hl_drew [108, 97, 109] (by simp) hk hx1 hk.bt).mono ?_); rintro e w5 ⟨A5, m5, c5, rfl, ht5, hk5⟩; obtain ⟨-, -, s0, s1, sf0, sf1, sl⟩ := hk5.k3.k.cells))
  all_goals
    obtain ⟨hd1, hd2, hd3⟩ := hk5.k3.k.done ht5
    have y0 := hd1.cell 0
    have y1 := hd1.cell 1
    simp only [List.getElem?_toArray, List.getElem?_cons_zero, List.getElem?_cons_succ] at y0 y1
    have HD2 := Lib.hid hd2
    have HD3 := Lib.hid hd3
    clear hd1 hd2 hd3 ht5 hk5
    go_wp2_with fail
    refine bodyPost_ret (v := .tuple #[.agg #[.string ⟨#[]⟩, .slice A5 m5 c5], .int .i64 r2]) (by simp [results, Tryz.results123, go_sem, y0, y1]) rfl ?_
    exact ⟨[], _, _, _, by rw [HE.out.2], by rw [HE.out.1]; exact HD2.out, HD3.out⟩

set_option maxRecDepth 100000 in
set_option maxHeartbeats 4000000 in
theorem l2Full_app (f a : Tm) (hl : f.isLam = false) (ih : FlSaid f) (iha : FlSaid a) : FlSaid (.app f a) := by
  rintro v w P hok hat ht hP
  obtain ⟨g, cap, A0, A1, A2, n0, c0, n1, c1, n2, c2, rfl, hcap, h3⟩ := ht.three
  have hz0 : w.heap.size ≤ ((w.alloc (.cells #[.string ⟨#[]⟩, .slice (some ⟨g, 0, none⟩) 3 cap] 51)).alloc (.cells #[.string ⟨#[]⟩, .slice none 0 0] 51)).heap.size := by simp; omega
  have k0 := HKp.start ht hP
  have K0 : Hid (HK3 w P g cap (.mk sApp []) (tmTr f) (tmTr a) A0 A1 A2 n0 c0 n1 c1 n2 c2 (tmTr f).atom (tmTr a).atom _) := Lib.hid ⟨k0, h3.below k0.grown hP, rfl, rfl⟩
  have C1 := Lib.hid (l2Redex_any (.app f a) hok _ _ P k0.tr k0.lo)
  have C2 : Hid (∀ w', HK3 w P g cap (.mk sApp []) (tmTr f) (tmTr a) A0 A1 A2 n0 c0 n1 c1 n2 c2 (tmTr f).atom (tmTr a).atom w' → _) := Lib.hid (fun w' (k : HK3 w P g cap (.mk sApp []) (tmTr f) (tmTr a) A0 A1 A2 n0 c0 n1 c1 n2 c2 (tmTr f).atom (tmTr a).atom w') => l1Head_tm (.app f a) hok _ w' P k.k.tr k.k.lo)
  have hat' : f.atoms ≤ 400 := by simp only [Tm.atoms] at hat; omega
  have C3 : Hid (∀ w', HK3 w P g cap (.mk sApp []) (tmTr f) (tmTr a) A0 A1 A2 n0 c0 n1 c1 n2 c2 (tmTr f).atom (tmTr a).atom w' → _) := Lib.hid (fun w' (k : HK3 w P g cap (.mk sApp []) (tmTr f) (tmTr a) A0 A1 A2 n0 c0 n1 c1 n2 c2 (tmTr f).atom (tmTr a).atom w') => ih _ w' P hok.1 hat' k.three.t1 k.k.lo)
  have gl := hP g h3.pg
  have hat2 : a.atoms ≤ 400 := by simp only [Tm.atoms] at hat; omega
  have C4 : Hid (∀ w', HK3 w P g cap (.mk sApp []) (tmTr f) (tmTr a) A0 A1 A2 n0 c0 n1 c1 n2 c2 (tmTr f).atom (tmTr a).atom w' → _) := Lib.hid (fun w' (k : HK3 w P g cap (.mk sApp []) (tmTr f) (tmTr a) A0 A1 A2 n0 c0 n1 c1 n2 c2 (tmTr f).atom (tmTr a).atom w') => iha _ w' P hok.2 hat2 k.three.t2 k.k.lo)
  have HE : Hid (fullT (.app f a) = if 0 < (fullT f).2 then (.app (fullT f).1 a, (fullT f).2) else (.app f (fullT a).1, (fullT a).2)) := Lib.hid (fullT_app f a hl)
  clear ht hP hat ih iha h3 k0
  generalize hr : fullT f = r at C3 HE
  obtain ⟨r1, r2⟩ := r
  generalize hr' : fullT a = r' at C4 HE
  obtain ⟨r1', r2'⟩ := r'
  generalize fullT (.app f a) = rr at HE
  clear hr hr'
  go_enter Tryz.func123, Tryz.ntmps123
  go_wp2_with fail
  refine C1.out.mono ?_
  rintro e w1 ⟨rfl, hb1⟩
  have hk1 := K0.out.below hb1
  obtain ⟨b0, b1, s0, s1, f0, f1, rl⟩ := hk1.k.cells
  have HK1 := Lib.hid hk1
  have h0 : (Tm.app f a).isRdx = false := hl
  clear hk1 hb1
  simp only [h0]
  go_wp2_with fail
  refine (C2.out _ HK1.out).mono ?_
  rintro e w2 ⟨rfl, hb2⟩
  have hk2 := HK1.out.below hb2
  obtain ⟨b0, b1, s0, s1, f0, f1, rl⟩ := hk2.k.cells
  have k2 := hk2.three.k2
  have k3 := hk2.three.k3
  have HK2 := Lib.hid hk2
  have h1 : (hdOf (.app f a) == [108, 97, 109]) = false := rfl
  have h2 : (hdOf (.app f a) == [97, 112, 112]) = true := rfl
  clear hk2 hb2
  go_wp2_with fail
  refine (C3.out _ HK2.out).mono ?_
  rintro e w3 ⟨ub, Ab, mb, nb, rfl, ht3, hb3⟩
  have hk3 := HK2.out.below hb3
  by_cases hgt : 0 < r2
  · have hcmp : decide ((0 : Int) < (r2 : Int)) = true := decide_eq_true (by omega)
    have hkb := hk3.boxed (HTr.of_new HK2.out.k ht3)
    have HKB := Lib.hid hkb
    clear hk3 hb3 ht3 hkb
    go_wp2_with fail
    generalize w3.heap.size = q at HKB ⊢
    generalize w3.alloc (.cells #[.string ⟨ub.toArray⟩, .slice Ab mb nb] 51) = W at HKB ⊢
    have hk := HKB.out
    have hkd := HKB.out.drew
    have hx1 : HTr P w W (tmTr a) (.agg #[.string ⟨(tmTr a).atom.toArray⟩, .slice A2 n2 c2]) := hk.k3.three.t2.mono fun b hb => ⟨.inl hb, fun _ => rfl⟩
    go_region_held3 (fun w' => w'.cell? ⟨w.heap.size, 1, none⟩ = some (.slice (some ⟨g, 0, none⟩) 3 cap) ∧ w'.cell? ⟨g, 2, none⟩ = some (.string ⟨(tmTr f).atom.toArray⟩) ∧ w'.cell? ⟨g, 3, none⟩ = some (.slice A1 n1 c1) ∧ w'.cell? ⟨g, 4, none⟩ = some (.string ⟨(tmTr a).atom.toArray⟩) ∧ w'.cell? ⟨g, 5, none⟩ = some (.slice A2 n2 c2) ∧ w'.cell? ⟨q, 0, none⟩ = some (.string ⟨ub.toArray⟩) ∧ w'.cell? ⟨q, 1, none⟩ = some (.slice Ab mb nb))
      (with_reducible first | exact hkd.s | exact hk.s | exact HKb.s (by assumption) | exact HKb.s (HKb.new (by assumption) _) | exact HKb.sput (by assumption))
      (first
        | (go_at_call 30; (with_reducible refine (hl_drew [97, 112, 112] (by simp) hk hk.bt hx1).mono ?_); rintro e w5 ⟨A5, m5, c5, rfl, ht5, hk5⟩; obtain ⟨-, -, s0, s1, sf0, sf1, sl⟩ := hk5.k3.k.cells))
    all_goals
      obtain ⟨hd1, hd2, hd3⟩ := hk5.k3.k.done ht5
      have y0 := hd1.cell 0
      have y1 := hd1.cell 1
      simp only [List.getElem?_toArray, List.getElem?_cons_zero, List.getElem?_cons_succ] at y0 y1
      have HD2 := Lib.hid hd2
      have HD3 := Lib.hid hd3
      clear hd1 hd2 hd3 ht5 hk5
      go_wp2_with fail
      refine bodyPost_ret (v := .tuple #[.agg #[.string ⟨#[]⟩, .slice A5 m5 c5], .int .i64 r2]) (by simp [results, Tryz.results123, go_sem, y0, y1]) rfl ?_
      exact ⟨[], _, _, _, by rw [HE.out, if_pos hgt], by rw [HE.out, if_pos hgt]; exact HD2.out, HD3.out⟩
  · have hcmp : decide ((0 : Int) < (r2 : Int)) = false := decide_eq_false (by omega)
    have hkb := hk3.boxed (HTr.of_new HK2.out.k ht3)
    have hk4 := hkb.k3
    obtain ⟨b0, b1, s0, s1, f0, f1, rl⟩ := hk4.k.cells
    have k4 := hk4.three.k4
    have k5 := hk4.three.k5
    have HK4 := Lib.hid hk4
    clear hk3 hb3 ht3 hkb hk4
    go_wp2_with fail
    refine (C4.out _ HK4.out).mono ?_
    rintro e w4 ⟨ub', Ab', mb', nb', rfl, ht4, hb4⟩
    have hk5 := HK4.out.below hb4
    have hkb := hk5.boxed (HTr.of_new HK4.out.k ht4)
    have HKB := Lib.hid hkb
    clear hk5 hb4 ht4 hkb
    go_wp2_with fail
    generalize w4.heap.size = q at HKB ⊢
    generalize w4.alloc (.cells #[.string ⟨ub'.toArray⟩, .slice Ab' mb' nb'] 51) = W at HKB ⊢
    have hk := HKB.out
    have hkd := HKB.out.drew
    have hx1 : HTr P w W (tmTr f) (.agg #[.string ⟨(tmTr f).atom.toArray⟩, .slice A1 n1 c1]) := hk.k3.three.t1.mono fun b hb => ⟨.inl hb, fun _ => rfl⟩
    go_region_held3 (fun w' => w'.cell? ⟨w.heap.size, 1, none⟩ = some (.slice (some ⟨g, 0, none⟩) 3 cap) ∧ w'.cell? ⟨g, 2, none⟩ = some (.string ⟨(tmTr f).atom.toArray⟩) ∧ w'.cell? ⟨g, 3, none⟩ = some (.slice A1 n1 c1) ∧ w'.cell? ⟨g, 4, none⟩ = some (.string ⟨(tmTr a).atom.toArray⟩) ∧ w'.cell? ⟨g, 5, none⟩ = some (.slice A2 n2 c2) ∧ w'.cell? ⟨q, 0, none⟩ = some (.string ⟨ub'.toArray⟩) ∧ w'.cell? ⟨q, 1, none⟩ = some (.slice Ab' mb' nb'))
      (with_reducible first | exact hkd.s | exact hk.s | exact HKb.s (by assumption) | exact HKb.s (HKb.new (by assumption) _) | exact HKb.sput (by assumption))
      (first
        | (go_at_call 30; (with_reducible refine (hl_drew [97, 112, 112] (by simp) hk hx1 hk.bt).mono ?_); rintro e w5 ⟨A5, m5, c5, rfl, ht5, hk5⟩; obtain ⟨-, -, s0, s1, sf0, sf1, sl⟩ := hk5.k3.k.cells))
    all_goals
      obtain ⟨hd1, hd2, hd3⟩ := hk5.k3.k.done ht5
      have y0 := hd1.cell 0
      have y1 := hd1.cell 1
      simp only [List.getElem?_toArray, List.getElem?_cons_zero, List.getElem?_cons_succ] at y0 y1
      have HD2 := Lib.hid hd2
      have HD3 := Lib.hid hd3
      clear hd1 hd2 hd3 ht5 hk5
      go_wp2_with fail
      refine bodyPost_ret (v := .tuple #[.agg #[.string ⟨#[]⟩, .slice A5 m5 c5], .int .i64 r2']) (by simp [results, Tryz.results123, go_sem, y0, y1]) rfl ?_
      exact ⟨[], _, _, _, by rw [HE.out, if_neg hgt], by rw [HE.out, if_neg hgt]; exact HD2.out, HD3.out⟩

set_option maxRecDepth 100000 in
set_option maxHeartbeats 4000000 in
theorem l2Full_turn (x : List UInt8) (b a : Tm) : FlSaid (.app (.lam x b) a) := by
  rintro v w P hok hat ht hP
  obtain ⟨A, m, n, e⟩ := ht.shape
  have e : v = .agg #[.string ⟨#[]⟩, .slice A m n] := e
  subst e
  have k0 := HKp.start (a := []) ht hP
  have K0 := Lib.hid k0
  have C1 := Lib.hid (l2Redex_any (.app (.lam x b) a) hok _ _ P k0.tr k0.lo)
  have C2 : Hid (∀ w', HKp w P (tmTr (.app (.lam x b) a)) [] A m n w' → _) := Lib.hid (fun w' (k : HKp w P (tmTr (.app (.lam x b) a)) [] A m n w') => l2Head_any (.app (.lam x b) a) _ w' P hok hat k.tr k.lo)
  have HE : Hid (fullT (.app (.lam x b) a) = headT (.app (.lam x b) a)) := Lib.hid rfl
  clear ht hP hat k0
  generalize fullT (.app (.lam x b) a) = rr at HE
  generalize headT (.app (.lam x b) a) = r at HE C2
  obtain ⟨r1, r2⟩ := r
  go_enter Tryz.func123, Tryz.ntmps123
  go_wp2_with fail
  refine C1.out.mono ?_
  rintro e w1 ⟨rfl, hb1⟩
  have hk1 := K0.out.below hb1
  obtain ⟨b0, b1, s0, s1, f0, f1, rl⟩ := hk1.cells
  have HK1 := Lib.hid hk1
  have h0 : (Tm.app (.lam x b) a).isRdx = true := rfl
  clear hk1 hb1
  simp only [h0]
  go_wp2_with fail
  refine (C2.out _ HK1.out).mono ?_
  rintro e w2 ⟨u, B, p, q, rfl, ht2, hb2⟩
  have hk2 := HK1.out.below hb2
  have hr2 := HTr.of_new HK1.out ht2
  obtain ⟨b0, b1, s0, s1, f0, f1, rl⟩ := hk2.cells
  have HK2 := Lib.hid hk2
  have HR2 := Lib.hid hr2
  clear ht2 hk2 hb2 hr2
  go_wp2_with fail
  obtain ⟨hd1, hd2, hd3⟩ := HK2.out.done HR2.out
  have y0 := hd1.cell 0
  have y1 := hd1.cell 1
  simp only [List.getElem?_toArray, List.getElem?_cons_zero, List.getElem?_cons_succ] at y0 y1
  refine bodyPost_ret (v := .tuple #[.agg #[.string ⟨u.toArray⟩, .slice B p q], .int .i64 r2]) (by simp [results, Tryz.results123, go_sem, y0, y1]) rfl ?_
  exact ⟨_, _, _, _, by rw [HE.out], by rw [HE.out]; exact hd2, hd3⟩
theorem l2Full_any (t : Tm) : FlSaid t := by
  induction t with
  | var x => exact l2Full_var x
  | lam x b ih => exact l2Full_lam x b ih
  | app f a ihf iha =>
    cases hl : f.isLam with
    | true => obtain ⟨x, b, rfl⟩ := Tm.lam_of hl; exact l2Full_turn x b a
    | false => exact l2Full_app f a hl ihf iha
end Go.Proofs.YtjcdclnaplojcaaGreatDoor

namespace Go.Proofs.YtjcdclnaplojcaaGreatDoor
set_option linter.unusedVariables false
open Go.RowKit

set_option maxRecDepth 100000 in
set_option maxHeartbeats 1000000 in
theorem l2Step_any (k : Bool) (x : List UInt8) (hk : rdKind x = some k) (t : Tm) (v : Value) (w : World) (P : Nat → Prop) (hok : t.ok) (hat : t.atoms ≤ 400) (ht : TAt w P (tmTr t) v) (hP : ∀ b, P b → b < w.heap.size) :
    Calls Tryz.prog 110 #[.string ⟨x.toArray⟩, v] w (StPost P (tmTr (stepR k t).1) (stepR k t).2 w) := by
  obtain ⟨A, m, n, e⟩ := ht.shape
  generalize (tmTr t).atom = at0 at e
  subst e
  obtain ⟨h1, h2⟩ := rdKind_beq x k hk
  have K0 := Lib.hid (HKp.start ht hP)
  have CH := Lib.hid (l2Head_any t _ _ P hok hat K0.out.tr K0.out.lo)
  have CF := Lib.hid (l2Full_any t _ _ P hok hat K0.out.tr K0.out.lo)
  clear ht hP hk
  cases k
  · have HE : Hid (stepR false t = fullT t) := Lib.hid rfl
    generalize stepR false t = rr at HE
    generalize fullT t = r at HE CF
    obtain ⟨r1, r2⟩ := r
    simp only [Bool.not_false] at h1 h2
    go_enter Tryz.func110, Tryz.ntmps110
    go_wp2_with fail
    refine CF.out.mono ?_
    rintro e w2 ⟨u, B, p, q, rfl, ht2, hb2⟩
    have hk2 := K0.out.below hb2
    have hr2 := HTr.of_new K0.out ht2
    obtain ⟨b0, b1, s0, s1, f0, f1, rl⟩ := hk2.cells
    have HK2 := Lib.hid hk2
    have HR2 := Lib.hid hr2
    clear ht2 hk2 hb2 hr2
    go_wp2_with fail
    obtain ⟨hd1, hd2, hd3⟩ := HK2.out.done HR2.out
    have y0 := hd1.cell 0
    have y1 := hd1.cell 1
    simp only [List.getElem?_toArray, List.getElem?_cons_zero, List.getElem?_cons_succ] at y0 y1
    refine bodyPost_ret (v := .tuple #[.agg #[.string ⟨u.toArray⟩, .slice B p q], .int .i64 r2]) (by simp [results, Tryz.results110, go_sem, y0, y1]) rfl ?_
    exact ⟨_, _, _, _, by rw [HE.out], by rw [HE.out]; exact hd2, hd3⟩
  · have HE : Hid (stepR true t = headT t) := Lib.hid rfl
    generalize stepR true t = rr at HE
    generalize headT t = r at HE CH
    obtain ⟨r1, r2⟩ := r
    simp only [Bool.not_true] at h1 h2
    go_enter Tryz.func110, Tryz.ntmps110
    go_wp2_with fail
    refine CH.out.mono ?_
    rintro e w2 ⟨u, B, p, q, rfl, ht2, hb2⟩
    have hk2 := K0.out.below hb2
    have hr2 := HTr.of_new K0.out ht2
    obtain ⟨b0, b1, s0, s1, f0, f1, rl⟩ := hk2.cells
    have HK2 := Lib.hid hk2
    have HR2 := Lib.hid hr2
    clear ht2 hk2 hb2 hr2
    go_wp2_with fail
    obtain ⟨hd1, hd2, hd3⟩ := HK2.out.done HR2.out
    have y0 := hd1.cell 0
    have y1 := hd1.cell 1
    simp only [List.getElem?_toArray, List.getElem?_cons_zero, List.getElem?_cons_succ] at y0 y1
    refine bodyPost_ret (v := .tuple #[.agg #[.string ⟨u.toArray⟩, .slice B p q], .int .i64 r2]) (by simp [results, Tryz.results110, go_sem, y0, y1]) rfl ?_
    exact ⟨_, _, _, _, by rw [HE.out], by rw [HE.out]; exact hd2, hd3⟩

/-- Whether a text is a term that is normal for a kind. -/
def nmO (k : Option Bool) (o : Option Tm) : Bool := match k, o with
  | some k, some t => decide ((stepR k t).2 = 0)
  | _, _ => false

set_option maxRecDepth 100000 in
set_option maxHeartbeats 1000000 in
theorem specNormalIs_any (x : List UInt8) (s : ByteArray) (w : World) (hm : s.size ≤ maxLen) :
    Calls Tryz.prog 74 #[.string ⟨x.toArray⟩, .string s] w fun e w' => e = .returned (.bool (nmO (rdKind x) (rdTerm s.data.toList))) ∧ Below w.heap.size w w' := by
  have CK : Hid (∀ w', _) := Lib.hid (fun w' => l2Kind_any x w')
  go_enter Tryz.func74, Tryz.ntmps74
  go_wp2_with fail
  refine (l1Term_any s _ hm).mono ?_
  rintro e w1 ⟨hb1, ⟨t, v, hrd, rfl, htr⟩ | ⟨hrd, b, A, n, c, rfl⟩⟩
  · obtain ⟨A, n, c, rfl⟩ := htr.shape
    obtain ⟨hok, hat⟩ := rdTerm_good _ _ hrd
    have HR := Lib.hid hrd
    have HT := Lib.hid (htr.alloc (fun q hq => hq.2) (.cells #[.string ⟨(tmTr t).atom.toArray⟩, .slice A n c] 51))
    have HK := Lib.hid hok
    have HA := Lib.hid hat
    have hB : Below w.heap.size w (w1.alloc (.cells #[.string ⟨(tmTr t).atom.toArray⟩, .slice A n c] 51)) := hb1.alloc hb1.size _
    have HB := Lib.hid hB
    have hz := hb1.size
    cases hk : rdKind x with
    | none =>
      have HN := Lib.hid hk
      rw [hk] at CK
      clear hrd htr hok hat hb1 hk hB
      go_wp2_with fail
      refine (CK.out _).mono ?_
      rintro e w2 ⟨rfl, rfl⟩
      simp only [Option.isSome]
      go_wp2_with fail
      go_ret
      exact ⟨by rw [HN.out]; rfl, HB.out⟩
    | some k =>
      have HN := Lib.hid hk
      rw [hk] at CK
      clear hrd htr hok hat hb1 hk hB
      go_wp2_with fail
      refine (CK.out _).mono ?_
      rintro e w2 ⟨rfl, rfl⟩
      simp only [Option.isSome]
      go_wp2_with fail
      refine (l2Step_any k x HN.out t _ _ _ HK.out HA.out HT.out (fun q hq => by simp; omega)).mono ?_
      rintro e w3 ⟨u, B, p, q, rfl, ht3, hb3⟩
      have hB3 := HB.out.trans (hb3.mono HB.out.size)
      have HB3 := Lib.hid (hB3.alloc hB3.size (.cells #[.string ⟨u.toArray⟩, .slice B p q] 51))
      have HE : Hid (nmO (some k) (rdTerm s.data.toList) = decide ((stepR k t).2 = 0)) := Lib.hid (by rw [HR.out]; rfl)
      clear ht3 hb3 hB3
      generalize (stepR k t).2 = nn at HE ⊢
      by_cases h0 : nn = 0
      · subst h0
        go_wp2_with fail
        go_ret
        exact ⟨by rw [HN.out, HE.out]; rfl, HB3.out⟩
      · have hne : ((nn : Int) == 0) = false := beq_eq_false_iff_ne.2 (by omega)
        go_wp2_with fail
        go_ret
        exact ⟨by rw [HN.out, HE.out, decide_eq_false h0]; rfl, HB3.out⟩
  · have HR := Lib.hid hrd
    have HE : Hid (nmO (rdKind x) (rdTerm s.data.toList) = false) := Lib.hid (by rw [hrd]; cases rdKind x <;> rfl)
    clear hrd
    go_wp2
    go_ret
    exact ⟨ret_bool (by rw [HE.out]), hb1.alloc hb1.size _⟩
end Go.Proofs.YtjcdclnaplojcaaGreatDoor

