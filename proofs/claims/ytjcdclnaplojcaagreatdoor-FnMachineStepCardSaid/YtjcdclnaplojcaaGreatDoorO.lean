/- Terms all of whose names are names: plain mathematics. -/
import Derived.Test.YtjcdclnaplojcaaGreatDoorN
namespace Go.Proofs.YtjcdclnaplojcaaGreatDoor
set_option linter.unusedVariables false

/-- All names of a term are names. -/
def Tm.ok : Tm → Prop
  | .var x => isNm x = true
  | .lam x b => isNm x = true ∧ b.ok
  | .app f a => f.ok ∧ a.ok
theorem isNm_ne (x : List UInt8) (h : isNm x = true) : x ≠ [] := by rintro rfl; simp [isNm] at h
theorem trTm_good : ∀ (t : Tm) (tr : Tr), trTm tr = some t → t.ok := by
  intro t
  induction t with
  | var x =>
    intro tr h
    obtain ⟨a, ps⟩ := tr
    by_cases ha : a = []
    · subst ha
      by_cases h3 : ps.length = 3
      · match ps, h3 with
        | [p0, p1, p2], _ =>
        rw [trTm_three] at h
        repeat' (split at h)
        all_goals simp at h
      · rw [trTm_few ps h3] at h; cases h
    · rw [trTm_atom a ps ha] at h
      split at h
      · rename_i hn; injection h with h; injection h with h; subst h; exact hn
      · cases h
  | lam x b ih =>
    intro tr h
    obtain ⟨a, ps⟩ := tr
    by_cases ha : a = []
    · subst ha
      by_cases h3 : ps.length = 3
      · match ps, h3 with
        | [p0, p1, p2], _ =>
        rw [trTm_three] at h
        split at h
        · split at h
          · rename_i hn
            simp only [Option.map_eq_some_iff, Tm.lam.injEq] at h
            obtain ⟨b', hb, rfl, rfl⟩ := h
            exact ⟨hn, ih p2 hb⟩
          · cases h
        · split at h
          · split at h
            · cases h
            · simp at h
          · cases h
      · rw [trTm_few ps h3] at h; cases h
    · rw [trTm_atom a ps ha] at h
      split at h
      · simp at h
      · cases h
  | app f a ihf iha =>
    intro tr h
    obtain ⟨a', ps⟩ := tr
    by_cases ha : a' = []
    · subst ha
      by_cases h3 : ps.length = 3
      · match ps, h3 with
        | [p0, p1, p2], _ =>
        rw [trTm_three] at h
        split at h
        · split at h
          · simp at h
          · cases h
        · split at h
          · split at h
            · cases h
            · rename_i f' hf
              simp only [Option.map_eq_some_iff, Tm.app.injEq] at h
              obtain ⟨b', hb, rfl, rfl⟩ := h
              exact ⟨ihf p1 hf, iha p2 hb⟩
          · cases h
      · rw [trTm_few ps h3] at h; cases h
    · rw [trTm_atom a' ps ha] at h
      split at h
      · simp at h
      · cases h
theorem tmTr_atoms (t : Tm) (h : t.ok) : trAtoms (tmTr t) = t.atoms := by
  induction t with
  | var x => simp [tmTr, trAtoms, Tm.atoms, isNm_ne x h]
  | lam x b ih => simp [tmTr, trAtoms, trsAtoms, Tm.atoms, isNm_ne x h.1, ih h.2, sLam]; omega
  | app f a ihf iha => simp [tmTr, trAtoms, trsAtoms, Tm.atoms, ihf h.1, iha h.2, sApp]; omega
theorem size_atoms (t : Tm) : t.size < t.atoms := by
  induction t with
  | var x => simp [Tm.size, Tm.atoms]
  | lam x b ih => simp [Tm.size, Tm.atoms]; omega
  | app f a ihf iha => simp [Tm.size, Tm.atoms]; omega
theorem uses_atoms (x : List UInt8) (t : Tm) : t.uses x ≤ t.atoms := by
  induction t with
  | var y => simp only [Tm.uses, Tm.atoms]; split <;> omega
  | lam y b ih => simp only [Tm.uses, Tm.atoms]; split <;> omega
  | app f a ihf iha => simp only [Tm.uses, Tm.atoms]; omega
theorem rdTerm_good (l : List UInt8) (t : Tm) (h : rdTerm l = some t) : t.ok ∧ t.atoms ≤ 400 := by
  unfold rdTerm at h
  split at h
  · cases h
  · rename_i tr htr
    split at h
    · rename_i h4
      have hok := trTm_good t tr h
      have he := trTm_eq t tr (rdText_ok _ _ htr).1 h
      refine ⟨hok, ?_⟩
      rw [he, tmTr_atoms t hok] at h4
      exact h4
    · cases h

end Go.Proofs.YtjcdclnaplojcaaGreatDoor
