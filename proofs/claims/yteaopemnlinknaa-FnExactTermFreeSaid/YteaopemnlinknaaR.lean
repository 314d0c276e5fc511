/- The model's sizes and uses of a term. -/
import Derived.Test.YteaopemnlinknaaG
import Derived.Test.YteaopemnlinknaaN
namespace Go.Proofs.Yteaopemnlinknaa
set_option linter.unusedVariables false
open Go.RowKit

/-- All names of a term are names. -/
def Tm.ok : Tm → Prop
  | .var x => isNm x = true
  | .lam x b => isNm x = true ∧ b.ok
  | .app f a => f.ok ∧ a.ok
theorem isNm_ne (x : List UInt8) (h : isNm x = true) : x ≠ [] := by rintro rfl; simp [isNm] at h
theorem trTm_good : ∀ (t : Tm) (tr : Tr), trTm tr = some t → t.ok := by
  intro t
  induction t with
  | var x =>
    intro tr h
    obtain ⟨a, ps⟩ := tr
    by_cases ha : a = []
    · subst ha
      by_cases h3 : ps.length = 3
      · match ps, h3 with
        | [p0, p1, p2], _ =>
        rw [trTm_three] at h
        repeat' (split at h)
        all_goals simp at h
      · rw [trTm_few ps h3] at h; cases h
    · rw [trTm_atom a ps ha] at h
      split at h
      · rename_i hn; injection h with h; injection h with h; subst h; exact hn
      · cases h
  | lam x b ih =>
    intro tr h
    obtain ⟨a, ps⟩ := tr
    by_cases ha : a = []
    · subst ha
      by_cases h3 : ps.length = 3
      · match ps, h3 with
        | [p0, p1, p2], _ =>
        rw [trTm_three] at h
        split at h
        · split at h
          · rename_i hn
            simp only [Option.map_eq_some_iff, Tm.lam.injEq] at h
            obtain ⟨b', hb, rfl, rfl⟩ := h
            exact ⟨hn, ih p2 hb⟩
          · cases h
        · split at h
          · split at h
            · cases h
            · simp at h
          · cases h
      · rw [trTm_few ps h3] at h; cases h
    · rw [trTm_atom a ps ha] at h
      split at h
      · simp at h
      · cases h
  | app f a ihf iha =>
    intro tr h
    obtain ⟨a', ps⟩ := tr
    by_cases ha : a' = []
    · subst ha
      by_cases h3 : ps.length = 3
      · match ps, h3 with
        | [p0, p1, p2], _ =>
        rw [trTm_three] at h
        split at h
        · split at h
          · simp at h
          · cases h
        · split at h
          · split at h
            · cases h
            · rename_i f' hf
              simp only [Option.map_eq_some_iff, Tm.app.injEq] at h
              obtain ⟨b', hb, rfl, rfl⟩ := h
              exact ⟨ihf p1 hf, iha p2 hb⟩
          · cases h
      · rw [trTm_few ps h3] at h; cases h
    · rw [trTm_atom a' ps ha] at h
      split at h
      · simp at h
      · cases h
theorem tmTr_atoms (t : Tm) (h : t.ok) : trAtoms (tmTr t) = t.atoms := by
  induction t with
  | var x => simp [tmTr, trAtoms, Tm.atoms, isNm_ne x h]
  | lam x b ih => simp [tmTr, trAtoms, trsAtoms, Tm.atoms, isNm_ne x h.1, ih h.2, sLam]; omega
  | app f a ihf iha => simp [tmTr, trAtoms, trsAtoms, Tm.atoms, ihf h.1, iha h.2, sApp]; omega
theorem size_atoms (t : Tm) : t.size < t.atoms := by
  induction t with
  | var x => simp [Tm.size, Tm.atoms]
  | lam x b ih => simp [Tm.size, Tm.atoms]; omega
  | app f a ihf iha => simp [Tm.size, Tm.atoms]; omega
theorem uses_atoms (x : List UInt8) (t : Tm) : t.uses x ≤ t.atoms := by
  induction t with
  | var y => simp only [Tm.uses, Tm.atoms]; split <;> omega
  | lam y b ih => simp only [Tm.uses, Tm.atoms]; split <;> omega
  | app f a ihf iha => simp only [Tm.uses, Tm.atoms]; omega
theorem rdTerm_good (l : List UInt8) (t : Tm) (h : rdTerm l = some t) : t.ok ∧ t.atoms ≤ 400 := by
  unfold rdTerm at h
  split at h
  · cases h
  · rename_i tr htr
    split at h
    · rename_i h4
      have hok := trTm_good t tr h
      have he := trTm_eq t tr (rdText_ok _ _ htr).1 h
      refine ⟨hok, ?_⟩
      rw [he, tmTr_atoms t hok] at h4
      exact h4
    · cases h

/-- The three parts of a boxed tree, kept while calls make memory. -/
structure BKeep (w : World) (P : Nat → Prop) (g cap b : Nat) (p0 p1 p2 : Tr) (A0 A1 A2 : Option Addr) (n0 c0 n1 c1 n2 c2 : Nat) (w' : World) : Prop where
  box : Blk w' b 35 #[.string ⟨#[]⟩, .slice (some ⟨g, 0, none⟩) 3 cap]
  three : Three w' P g p0 p1 p2 A0 A1 A2 n0 c0 n1 c1 n2 c2
  all : ∀ q, P q → q < w'.heap.size
  below : Below w.heap.size w w'
  le : w.heap.size ≤ w'.heap.size
section
variable {w w' w2 : World} {P : Nat → Prop} {g cap b : Nat} {p0 p1 p2 : Tr} {A0 A1 A2 : Option Addr} {n0 c0 n1 c1 n2 c2 : Nat}
theorem BKeep.drew (h : BKeep w P g cap b p0 p1 p2 A0 A1 A2 n0 c0 n1 c1 n2 c2 w') : BKeep w P g cap b p0 p1 p2 A0 A1 A2 n0 c0 n1 c1 n2 c2 w'.drew :=
  ⟨h.box, h.three.mono fun _ hb => ⟨hb, fun _ => rfl⟩, h.all, h.below.drew, h.le⟩
theorem BKeep.more (h : BKeep w P g cap b p0 p1 p2 A0 A1 A2 n0 c0 n1 c1 n2 c2 w') (hb : Below w'.heap.size w' w2) : BKeep w P g cap b p0 p1 p2 A0 A1 A2 n0 c0 n1 c1 n2 c2 w2 :=
  ⟨h.box.below hb h.box.lt, h.three.below hb h.all, fun q hq => by have := h.all q hq; have := hb.size; omega, h.below.trans (hb.mono h.le), by have := h.le; have := hb.size; omega⟩
theorem BKeep.s (h : BKeep w P g cap b p0 p1 p2 A0 A1 A2 n0 c0 n1 c1 n2 c2 w') :
    w'.cell? ⟨b, 1, none⟩ = some (.slice (some ⟨g, 0, none⟩) 3 cap) ∧ w'.cell? ⟨g, 2, none⟩ = some (.string ⟨p1.atom.toArray⟩) ∧ w'.cell? ⟨g, 3, none⟩ = some (.slice A1 n1 c1) ∧
    w'.cell? ⟨g, 4, none⟩ = some (.string ⟨p2.atom.toArray⟩) ∧ w'.cell? ⟨g, 5, none⟩ = some (.slice A2 n2 c2) ∧ BKeep w P g cap b p0 p1 p2 A0 A1 A2 n0 c0 n1 c1 n2 c2 w' := by
  have := h.box.cell 1
  simp at this
  exact ⟨this, h.three.k2, h.three.k3, h.three.k4, h.three.k5, h⟩
end

set_option maxRecDepth 100000 in
set_option maxHeartbeats 4000000 in
theorem l1Size_any : ∀ (t : Tm) (v : Value) (w : World) (P : Nat → Prop), t.ok → TAt w P (tmTr t) v → (∀ b, P b → b < w.heap.size) → t.size ≤ 10000 →
    Calls Try.prog 33 #[v] w fun e w' => e = .returned (.int .i64 t.size) ∧ Below w.heap.size w w' := by
  intro t
  induction t with
  | var x =>
    intro v w P hok ht hP hsz
    have hne := isNm_ne x hok
    have hae : (!x.isEmpty) = true := by cases x with
      | nil => exact absurd rfl hne
      | cons => rfl
    obtain ⟨vp, rfl, _⟩ := ht.form
    clear ht hne hok
    go_enter Try.func33, Try.ntmps33
    go_wp2
    go_ret
    exact ⟨rfl, by go_grown⟩
  | lam x d ih =>
    intro v w P hok ht hP hsz
    obtain ⟨g, cap, A0, A1, A2, n0, c0, n1, c1, n2, c2, rfl, hcap, h3⟩ := ht.three
    have hgb := hP g h3.pg
    have HP := Lib.hid hP
    have IH := Lib.hid ih
    have HOK := Lib.hid hok.2
    have a3 := h3.alloc HP.out (.cells #[.string ⟨#[]⟩, .slice (some ⟨g, 0, none⟩) 3 cap] 35)
    have hsz' : d.size + 1 ≤ 10000 := by simp only [Tm.size] at hsz; omega
    clear ih hP ht hok hsz
    go_enter Try.func33, Try.ntmps33
    go_wp2_with fail
    refine (l1Head3 _ P g cap (.mk sLam []) (.mk x []) (tmTr d) A0 A1 A2 n0 c0 n1 c1 n2 c2 a3 (fun b hb => by have := HP.out b hb; simp; omega)).mono ?_
    rintro e w1 ⟨rfl, hb1⟩
    have hB1 : Below w.heap.size w w1 := ((Below.refl _ _).alloc (Nat.le_refl _) _).trans (hb1.mono (by simp))
    have b3 := a3.below hb1 (fun b hb => by have := HP.out b hb; simp; omega)
    have hr := (Blk.new w 35 #[.string ⟨#[]⟩, .slice (some ⟨g, 0, none⟩) 3 cap]).below hb1 (by simp)
    have hlt := hr.lt
    have r1 := hr.cell 1
    simp at r1
    have k4 := b3.k4
    have k5 := b3.k5
    have hl : (sLam == [108, 97, 109]) = true := rfl
    simp only [Tr.atom]
    go_wp2_with fail
    refine (IH.out _ _ P HOK.out b3.t2 (fun b hb => by have := HP.out b hb; omega) (by omega)).mono ?_
    rintro e w3 ⟨rfl, hb3⟩
    go_wp2_with fail
    go_ret
    exact ⟨ret_int (by simp only [Tm.size]; omega), hB1.trans (hb3.mono (by omega))⟩
  | app f a ihf iha =>
    intro v w P hok ht hP hsz
    obtain ⟨g, cap, A0, A1, A2, n0, c0, n1, c1, n2, c2, rfl, hcap, h3⟩ := ht.three
    have hgb := hP g h3.pg
    have HP := Lib.hid hP
    have IHF := Lib.hid ihf
    have IHA := Lib.hid iha
    have HOK := Lib.hid hok
    have a3 := h3.alloc HP.out (.cells #[.string ⟨#[]⟩, .slice (some ⟨g, 0, none⟩) 3 cap] 35)
    have hsz' : f.size + a.size + 1 ≤ 10000 := by simp only [Tm.size] at hsz; omega
    clear ihf iha hP ht hok hsz
    go_enter Try.func33, Try.ntmps33
    go_wp2_with fail
    refine (l1Head3 _ P g cap (.mk sApp []) (tmTr f) (tmTr a) A0 A1 A2 n0 c0 n1 c1 n2 c2 a3 (fun b hb => by have := HP.out b hb; simp; omega)).mono ?_
    rintro e w1 ⟨rfl, hb1⟩
    have hB1 : Below w.heap.size w w1 := ((Below.refl _ _).alloc (Nat.le_refl _) _).trans (hb1.mono (by simp))
    have b3 := a3.below hb1 (fun b hb => by have := HP.out b hb; simp; omega)
    have hr := (Blk.new w 35 #[.string ⟨#[]⟩, .slice (some ⟨g, 0, none⟩) 3 cap]).below hb1 (by simp)
    have hlt := hr.lt
    have hk : BKeep w P g cap w.heap.size (.mk sApp []) (tmTr f) (tmTr a) A0 A1 A2 n0 c0 n1 c1 n2 c2 w1 := ⟨hr, b3, fun q hq => by have := HP.out q hq; omega, hB1, by omega⟩
    have C1 : Hid (∀ w', BKeep w P g cap w.heap.size (.mk sApp []) (tmTr f) (tmTr a) A0 A1 A2 n0 c0 n1 c1 n2 c2 w' → Calls Try.prog 33 #[.agg #[.string ⟨(tmTr f).atom.toArray⟩, .slice A1 n1 c1]] w' fun e w2 => e = .returned (.int .i64 f.size) ∧ BKeep w P g cap w.heap.size (.mk sApp []) (tmTr f) (tmTr a) A0 A1 A2 n0 c0 n1 c1 n2 c2 w2) :=
      Lib.hid (fun w' h => (IHF.out _ _ P HOK.out.1 h.three.t1 h.all (by omega)).mono fun _ _ ⟨he, hb⟩ => ⟨he, h.more hb⟩)
    have C2 : Hid (∀ w', BKeep w P g cap w.heap.size (.mk sApp []) (tmTr f) (tmTr a) A0 A1 A2 n0 c0 n1 c1 n2 c2 w' → Calls Try.prog 33 #[.agg #[.string ⟨(tmTr a).atom.toArray⟩, .slice A2 n2 c2]] w' fun e w2 => e = .returned (.int .i64 a.size) ∧ BKeep w P g cap w.heap.size (.mk sApp []) (tmTr f) (tmTr a) A0 A1 A2 n0 c0 n1 c1 n2 c2 w2) :=
      Lib.hid (fun w' h => (IHA.out _ _ P HOK.out.2 h.three.t2 h.all (by omega)).mono fun _ _ ⟨he, hb⟩ => ⟨he, h.more hb⟩)
    have hl : (sApp == [108, 97, 109]) = false := rfl
    simp only [Tr.atom]
    go_wp2_with fail
    go_region_held3 (fun w' => w'.cell? ⟨w.heap.size, 1, none⟩ = some (.slice (some ⟨g, 0, none⟩) 3 cap) ∧ w'.cell? ⟨g, 2, none⟩ = some (.string ⟨(tmTr f).atom.toArray⟩) ∧ w'.cell? ⟨g, 3, none⟩ = some (.slice A1 n1 c1) ∧
        w'.cell? ⟨g, 4, none⟩ = some (.string ⟨(tmTr a).atom.toArray⟩) ∧ w'.cell? ⟨g, 5, none⟩ = some (.slice A2 n2 c2) ∧ BKeep w P g cap w.heap.size (.mk sApp []) (tmTr f) (tmTr a) A0 A1 A2 n0 c0 n1 c1 n2 c2 w')
      (first | exact hk.drew.s | exact BKeep.s (by assumption) | exact (BKeep.drew (by assumption)).s)
      (first
        | (go_at_call 33; with_reducible refine (C1.out _ ?_).mono ?_; (first | assumption | exact hk.drew); rintro e w2 ⟨rfl, hk2⟩)
        | (go_at_call 33; with_reducible refine (C2.out _ ?_).mono ?_; (first | assumption | exact hk.drew); rintro e w3 ⟨rfl, hk3⟩))
    all_goals
      go_wp2
      go_ret
      refine ⟨ret_int ?_, hk3.below⟩
      simp (disch := omega) only [IntWalk.i64_in, Tm.size]
      omega
end Go.Proofs.Yteaopemnlinknaa
