/- Head steps and full steps, with names and with depths: plain mathematics. -/
import Derived.Test.YtbabdjcpmjfeoaaGreatDoorC3
namespace Go.Proofs.YtbabdjcpmjfeoaaGreatDoor
set_option linter.unusedVariables false

def headD : DB → Option DB
  | .free _ => none
  | .bnd _ => none
  | .lam x b => (headD b).map (.lam x)
  | .app (.lam _ b) a => some (putB a 0 b)
  | .app f a => (headD f).map (fun g => .app g a)
def fullD : DB → Option DB
  | .free _ => none
  | .bnd _ => none
  | .lam x b => (fullD b).map (.lam x)
  | .app (.lam _ b) a => some (putB a 0 b)
  | .app f a => match fullD f with
    | some g => some (.app g a)
    | none => (fullD a).map (.app f)
/-- What a redex becomes, if this is not too large. -/
def turnT (b : Tm) (x : List UInt8) (a : Tm) : Option Tm := if 400 < b.atoms + b.uses x * (a.atoms - 1) then none else some (subT b x a)
/-- A step of the model: the term, and 0 for none, 1 for one, 2 if it is too large. -/
def turnR (t b : Tm) (x : List UInt8) (a : Tm) : Tm × Nat := match turnT b x a with
  | some o => (o, 1)
  | none => (t, 2)
def headT : Tm → Tm × Nat
  | .var x => (.var x, 0)
  | .lam x b => (.lam x (headT b).1, (headT b).2)
  | .app (.lam x b) a => turnR (.app (.lam x b) a) b x a
  | .app f a => (.app (headT f).1 a, (headT f).2)
def fullT : Tm → Tm × Nat
  | .var x => (.var x, 0)
  | .lam x b => (.lam x (fullT b).1, (fullT b).2)
  | .app (.lam x b) a => turnR (.app (.lam x b) a) b x a
  | .app f a => if 0 < (fullT f).2 then (.app (fullT f).1 a, (fullT f).2) else (.app f (fullT a).1, (fullT a).2)

def DB.isLam : DB → Bool
  | .lam _ _ => true
  | _ => false
def Tm.isLam : Tm → Bool
  | .lam _ _ => true
  | _ => false
theorem isLam_toDB (t : Tm) (rs : List (List UInt8)) : (toDB rs t).isLam = t.isLam := by
  cases t with
  | var x => unfold toDB; split <;> rfl
  | lam x b => rfl
  | app f a => rfl
theorem headD_app (f a : DB) (h : f.isLam = false) : headD (.app f a) = (headD f).map (fun g => .app g a) := by
  cases f with
  | lam x b => simp [DB.isLam] at h
  | free x => rfl
  | bnd i => rfl
  | app g c => rfl
theorem fullD_app (f a : DB) (h : f.isLam = false) : fullD (.app f a) = match fullD f with
    | some g => some (.app g a)
    | none => (fullD a).map (.app f) := by
  cases f with
  | lam x b => simp [DB.isLam] at h
  | free x => rfl
  | bnd i => rfl
  | app g c => rfl
theorem headT_app (f a : Tm) (h : f.isLam = false) : headT (.app f a) = (.app (headT f).1 a, (headT f).2) := by
  cases f with
  | lam x b => simp [Tm.isLam] at h
  | var x => rfl
  | app g c => rfl
theorem fullT_app (f a : Tm) (h : f.isLam = false) : fullT (.app f a) = if 0 < (fullT f).2 then (.app (fullT f).1 a, (fullT f).2) else (.app f (fullT a).1, (fullT a).2) := by
  cases f with
  | lam x b => simp [Tm.isLam] at h
  | var x => rfl
  | app g c => rfl
theorem Tm.lam_of {f : Tm} (h : f.isLam = true) : ∃ x b, f = .lam x b := by
  cases f with
  | lam x b => exact ⟨x, b, rfl⟩
  | var x => simp [Tm.isLam] at h
  | app g c => simp [Tm.isLam] at h

theorem atoms_pos (t : Tm) : 1 ≤ t.atoms := by cases t <;> simp [Tm.atoms] <;> omega
theorem subT_atoms (b a : Tm) (x : List UInt8) : (subT b x a).atoms = b.atoms + b.uses x * (a.atoms - 1) := by
  have h1 := atoms_subT b a x
  have h2 := atoms_pos a
  obtain ⟨n, hn⟩ : ∃ n, a.atoms = n + 1 := ⟨a.atoms - 1, by omega⟩
  rw [hn] at h1 ⊢
  simp only [Nat.mul_add, Nat.mul_one, Nat.add_sub_cancel] at h1 ⊢
  omega

/-- A step of a term and of the term with depths agree. -/
def Steps (rs : List (List UInt8)) (t : Tm) (r : Tm × Nat) (o : Option DB) : Prop :=
  (r = (t, 0) ∧ o = none) ∨ (r.2 = 1 ∧ ∃ d, o = some d ∧ (toDB rs r.1).bare = d.bare ∧ r.1.ok) ∨ (r.2 = 2 ∧ ∃ d, o = some d ∧ 400 < d.atoms)
theorem Steps.lam {rs : List (List UInt8)} {x : List UInt8} {b : Tm} {r : Tm × Nat} {o : Option DB} (hx : isNm x = true) (h : Steps (x :: rs) b r o) : Steps rs (.lam x b) (.lam x r.1, r.2) (o.map (.lam x)) := by
  rcases h with ⟨rfl, rfl⟩ | ⟨h1, d, rfl, h2, h3⟩ | ⟨h1, d, rfl, h2⟩
  · exact .inl ⟨rfl, rfl⟩
  · exact .inr (.inl ⟨h1, _, rfl, by simp only [toDB, DB.bare, h2], hx, h3⟩)
  · exact .inr (.inr ⟨h1, _, rfl, by simp only [DB.atoms]; omega⟩)
theorem Steps.left {rs : List (List UInt8)} {f a : Tm} {r : Tm × Nat} {o : Option DB} (ha : a.ok) (h : Steps rs f r o) : Steps rs (.app f a) (.app r.1 a, r.2) (o.map fun g => .app g (toDB rs a)) := by
  rcases h with ⟨rfl, rfl⟩ | ⟨h1, d, rfl, h2, h3⟩ | ⟨h1, d, rfl, h2⟩
  · exact .inl ⟨rfl, rfl⟩
  · exact .inr (.inl ⟨h1, _, rfl, by simp only [toDB, DB.bare, h2], h3, ha⟩)
  · exact .inr (.inr ⟨h1, _, rfl, by simp only [DB.atoms]; omega⟩)
theorem Steps.right {rs : List (List UInt8)} {f a : Tm} {r : Tm × Nat} {o : Option DB} (hf : f.ok) (h : Steps rs a r o) : Steps rs (.app f a) (.app f r.1, r.2) (o.map fun g => .app (toDB rs f) g) := by
  rcases h with ⟨rfl, rfl⟩ | ⟨h1, d, rfl, h2, h3⟩ | ⟨h1, d, rfl, h2⟩
  · exact .inl ⟨rfl, rfl⟩
  · exact .inr (.inl ⟨h1, _, rfl, by simp only [toDB, DB.bare, h2], hf, h3⟩)
  · exact .inr (.inr ⟨h1, _, rfl, by simp only [DB.atoms]; omega⟩)
theorem Steps.turn (rs : List (List UInt8)) (x : List UInt8) (b a : Tm) (hok : (Tm.app (.lam x b) a).ok) (hat : (Tm.app (.lam x b) a).atoms ≤ 400) : Steps rs (.app (.lam x b) a) (turnR (.app (.lam x b) a) b x a) (some (putB (toDB rs a) 0 (toDB (x :: rs) b))) := by
  have h1 := toDB_subT_bnd b a x rs
  have h2 := atoms_congr h1
  rw [atoms_toDB, subT_atoms] at h2
  simp only [Tm.atoms] at hat
  unfold turnR turnT
  split
  · rename_i o ho
    split at ho
    · cases ho
    · injection ho with ho
      subst ho
      exact .inr (.inl ⟨rfl, _, rfl, h1, subT_ok b a x hok.1.2 hok.2 (by omega) (by omega)⟩)
  · rename_i ho
    split at ho
    · rename_i hlt
      exact .inr (.inr ⟨rfl, _, rfl, by omega⟩)
    · cases ho
theorem head_steps (t : Tm) : ∀ rs, t.ok → t.atoms ≤ 400 → Steps rs t (headT t) (headD (toDB rs t)) := by
  induction t with
  | var x => intro rs _ _; exact .inl ⟨rfl, by unfold toDB; split <;> rfl⟩
  | lam x b ih =>
    intro rs hok hat
    simp only [Tm.atoms] at hat
    exact (ih (x :: rs) hok.2 (by omega)).lam hok.1
  | app f a ihf iha =>
    intro rs hok hat
    cases hl : f.isLam with
    | true =>
      obtain ⟨x, b, rfl⟩ := Tm.lam_of hl
      exact Steps.turn rs x b a hok hat
    | false =>
      simp only [Tm.atoms] at hat
      rw [headT_app f a hl]
      simp only [toDB]
      rw [headD_app _ _ (by rw [isLam_toDB]; exact hl)]
      exact (ihf rs hok.1 (by omega)).left hok.2
theorem full_steps (t : Tm) : ∀ rs, t.ok → t.atoms ≤ 400 → Steps rs t (fullT t) (fullD (toDB rs t)) := by
  induction t with
  | var x => intro rs _ _; exact .inl ⟨rfl, by unfold toDB; split <;> rfl⟩
  | lam x b ih =>
    intro rs hok hat
    simp only [Tm.atoms] at hat
    exact (ih (x :: rs) hok.2 (by omega)).lam hok.1
  | app f a ihf iha =>
    intro rs hok hat
    cases hl : f.isLam with
    | true =>
      obtain ⟨x, b, rfl⟩ := Tm.lam_of hl
      exact Steps.turn rs x b a hok hat
    | false =>
      simp only [Tm.atoms] at hat
      rw [fullT_app f a hl]
      simp only [toDB]
      rw [fullD_app _ _ (by rw [isLam_toDB]; exact hl)]
      have hf := ihf rs hok.1 (by omega)
      have ha := iha rs hok.2 (by omega)
      rcases hf with ⟨h1, h2⟩ | ⟨h1, d, h2, h3⟩ | ⟨h1, d, h2, h3⟩
      · rw [h1, h2, if_neg (Nat.lt_irrefl 0)]
        exact ha.right hok.1
      · rw [if_pos (by omega), h2]
        exact Steps.left hok.2 (.inr (.inl ⟨h1, d, rfl, h3⟩))
      · rw [if_pos (by omega), h2]
        exact Steps.left hok.2 (.inr (.inr ⟨h1, d, rfl, h3⟩))

/-- The step of a kind: true for head. -/
def stepR (k : Bool) (t : Tm) : Tm × Nat := if k then headT t else fullT t
def stepD (k : Bool) (d : DB) : Option DB := if k then headD d else fullD d
theorem kind_steps (k : Bool) (t : Tm) (rs : List (List UInt8)) (hok : t.ok) (hat : t.atoms ≤ 400) : Steps rs t (stepR k t) (stepD k (toDB rs t)) := by
  cases k
  · exact full_steps t rs hok hat
  · exact head_steps t rs hok hat
/-- The canonical term behind a step. -/
def nextT (k : Bool) (t : Tm) : Option Tm := if (stepR k t).2 = 1 then (if (stepR k t).1.atoms ≤ 400 then some (canT (stepR k t).1) else none) else none
def nextD (k : Bool) (d : DB) : Option DB := match stepD k d with
  | none => none
  | some e => if e.atoms ≤ 400 then some (canD e) else none
theorem next_eq (k : Bool) (t : Tm) (hok : t.ok) (hat : t.atoms ≤ 400) : nextD k (toDB [] t) = (nextT k t).map (toDB []) := by
  unfold nextD nextT
  rcases kind_steps k t [] hok hat with ⟨h1, h2⟩ | ⟨h1, d, h2, h3, h4⟩ | ⟨h1, d, h2, h3⟩
  · rw [h1, h2]; rfl
  · rw [h2, if_pos h1]
    have ha := atoms_congr h3
    rw [atoms_toDB] at ha
    simp only [ha]
    split
    · rw [Option.map_some, toDB_canT, canD_congr h3]
    · rfl
  · rw [h2, if_neg (by omega)]
    simp only
    rw [if_neg (by omega)]
    rfl
theorem next_good (k : Bool) (t : Tm) (hok : t.ok) (hat : t.atoms ≤ 400) (o : Tm) (h : nextT k t = some o) : o.ok ∧ o.atoms ≤ 400 := by
  unfold nextT at h
  split at h
  · rename_i h1
    split at h
    · rename_i h2
      injection h with h
      subst h
      refine ⟨canT_ok _ ?_ h2, by rw [canT_atoms]; exact h2⟩
      rcases kind_steps k t [] hok hat with ⟨h3, _⟩ | ⟨_, _, _, _, h4⟩ | ⟨h3, _⟩
      · rw [h3] at h1; cases h1
      · exact h4
      · omega
    · cases h
  · cases h
/-- Whether no step of a kind is there. -/
theorem norm_eq (k : Bool) (t : Tm) (hok : t.ok) (hat : t.atoms ≤ 400) : (stepD k (toDB [] t)).isNone = decide ((stepR k t).2 = 0) := by
  rcases kind_steps k t [] hok hat with ⟨h1, h2⟩ | ⟨h1, d, h2, h3, h4⟩ | ⟨h1, d, h2, h3⟩
  · rw [h1, h2]; rfl
  · rw [h1, h2]; rfl
  · rw [h1, h2]; rfl

/-- At most n steps of a kind. -/
def manyT (k : Bool) : Nat → Tm → Tm × Nat
  | 0, t => (t, 0)
  | n + 1, t => match nextT k t with
    | none => (t, 0)
    | some o => ((manyT k n o).1, (manyT k n o).2 + 1)
theorem many_good (k : Bool) : ∀ n t, t.ok → t.atoms ≤ 400 → (manyT k n t).1.ok ∧ (manyT k n t).1.atoms ≤ 400 := by
  intro n
  induction n with
  | zero => intro t h1 h2; exact ⟨h1, h2⟩
  | succ n ih =>
    intro t h1 h2
    simp only [manyT]
    split
    · exact ⟨h1, h2⟩
    · rename_i o ho
      obtain ⟨g1, g2⟩ := next_good k t h1 h2 o ho
      exact ih o g1 g2
/-- The redexes of a term. -/
def DB.reds : DB → Nat
  | .free _ => 0
  | .bnd _ => 0
  | .lam _ b => b.reds
  | .app f a => (if f.isLam = true then 1 else 0) + f.reds + a.reds
def Tm.reds : Tm → Nat
  | .var _ => 0
  | .lam _ b => b.reds
  | .app f a => (if f.isLam = true then 1 else 0) + f.reds + a.reds
theorem reds_toDB (t : Tm) : ∀ rs, (toDB rs t).reds = t.reds := by
  induction t with
  | var x => intro rs; unfold toDB; split <;> rfl
  | lam x b ih => intro rs; simp [toDB, DB.reds, Tm.reds, ih]
  | app f a ihf iha => intro rs; simp only [toDB, DB.reds, Tm.reds, ihf, iha, isLam_toDB]
theorem reds_atoms (t : Tm) : t.reds ≤ t.atoms := by
  induction t with
  | var x => simp [Tm.reds, Tm.atoms]
  | lam x b ih => simp only [Tm.reds, Tm.atoms]; omega
  | app f a ihf iha => simp only [Tm.reds, Tm.atoms]; split <;> omega
end Go.Proofs.YtbabdjcpmjfeoaaGreatDoor
