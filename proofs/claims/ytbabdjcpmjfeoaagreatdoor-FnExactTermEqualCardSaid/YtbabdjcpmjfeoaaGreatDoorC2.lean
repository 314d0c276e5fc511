/- Putting a term for a name, with names and with depths: plain mathematics. -/
import Derived.Test.YtbabdjcpmjfeoaaGreatDoorC1
namespace Go.Proofs.YtbabdjcpmjfeoaaGreatDoor
set_option linter.unusedVariables false

/-- A name is bound somewhere in a term. -/
def LV : Tm → List UInt8 → Prop
  | .var _, _ => False
  | .lam y b, x => y = x ∨ LV b x
  | .app f a, x => LV f x ∨ LV a x
theorem LV_renT (fr : List (List UInt8)) (t : Tm) (x : List UInt8) : ∀ rs ts n, LV (renT fr t rs ts n).1 x → x ∉ fr := by
  induction t with
  | var y => intro rs ts n h; exact h.elim
  | lam y b ih =>
    intro rs ts n h
    simp only [renT, LV] at h
    rcases h with rfl | h
    · exact (fresh_spec fr n).2.2.2
    · exact ih _ _ _ h
  | app f a ihf iha =>
    intro rs ts n h
    simp only [renT, LV] at h
    rcases h with h | h
    · exact ihf _ _ _ h
    · exact iha _ _ _ h

/-- A term is put for a name: no bound name is free in it. -/
def putT (x : List UInt8) (by_ : Tm) : Tm → Tm
  | .var y => if y = x then by_ else .var y
  | .lam y b => if y = x then .lam y b else .lam y (putT x by_ b)
  | .app f a => .app (putT x by_ f) (putT x by_ a)
def putD (x : List UInt8) (by_ : DB) : DB → DB
  | .free y => if y = x then by_ else .free y
  | .bnd i => .bnd i
  | .lam y b => .lam y (putD x by_ b)
  | .app f a => .app (putD x by_ f) (putD x by_ a)
/-- Into more lams. -/
def moveD (more : Nat) : Nat → DB → DB
  | _, .free y => .free y
  | own, .bnd i => if own ≤ i then .bnd (i + more) else .bnd i
  | own, .lam y b => .lam y (moveD more (own + 1) b)
  | own, .app f a => .app (moveD more own f) (moveD more own a)
/-- A term is put for the name with a depth, whose lam is gone then. -/
def putB (by_ : DB) : Nat → DB → DB
  | _, .free y => .free y
  | d, .bnd i => if i = d then moveD d 0 by_ else if d < i then .bnd (i - 1) else .bnd i
  | d, .lam y b => .lam y (putB by_ (d + 1) b)
  | d, .app f a => .app (putB by_ d f) (putB by_ d a)

theorem bare_putD (x : List UInt8) (c c' : DB) (h : c.bare = c'.bare) (d : DB) : (putD x c d).bare = (putD x c' d.bare).bare := by
  induction d with
  | free y =>
    simp only [putD, DB.bare]
    split
    · exact h
    · rfl
  | bnd i => rfl
  | lam y b ih => simp [putD, DB.bare, ih]
  | app f a ihf iha => simp [putD, DB.bare, ihf, iha]
theorem bare_moveD (m : Nat) (d : DB) : ∀ k, (moveD m k d).bare = (moveD m k d.bare).bare := by
  induction d with
  | free y => intro k; rfl
  | bnd i => intro k; rfl
  | lam y b ih => intro k; simp only [moveD, DB.bare]; rw [ih]
  | app f a ihf iha => intro k; simp only [moveD, DB.bare]; rw [ihf, iha]
theorem bare_move_congr (m k : Nat) {c c' : DB} (h : c.bare = c'.bare) : (moveD m k c).bare = (moveD m k c').bare := by rw [bare_moveD, h, ← bare_moveD]
theorem bare_putB (c c' : DB) (h : c.bare = c'.bare) (d : DB) : ∀ k, (putB c k d).bare = (putB c' k d.bare).bare := by
  induction d with
  | free y => intro k; rfl
  | bnd i =>
    intro k
    simp only [putB, DB.bare]
    split
    · exact bare_move_congr _ _ h
    · split <;> rfl
  | lam y b ih => intro k; simp only [putB, DB.bare]; rw [ih]
  | app f a ihf iha => intro k; simp only [putB, DB.bare]; rw [ihf, iha]
theorem bare_putD_congr (x : List UInt8) {c c' d d' : DB} (h : c.bare = c'.bare) (hd : d.bare = d'.bare) : (putD x c d).bare = (putD x c' d').bare := by
  rw [bare_putD x c c' h d, hd, ← bare_putD x c' c' rfl d']
theorem bare_putB_congr (k : Nat) {c c' d d' : DB} (h : c.bare = c'.bare) (hd : d.bare = d'.bare) : (putB c k d).bare = (putB c' k d').bare := by
  rw [bare_putB c c' h d, hd, ← bare_putB c' c' rfl d']

theorem toDB_move (us : List (List UInt8)) (os : List (List UInt8)) (t : Tm) : ∀ vs, (∀ x, FV t x → x ∉ vs → x ∉ us) → toDB (vs ++ (us ++ os)) t = moveD us.length vs.length (toDB (vs ++ os) t) := by
  induction t with
  | var x =>
    intro vs h
    simp only [toDB]
    rw [lk_append vs (us ++ os), lk_append vs os]
    cases hv : lk vs x with
    | some i =>
      have := lk_lt vs x i hv
      simp only [moveD]
      rw [if_neg (by omega)]
    | none =>
      have hx := h x rfl ((lk_none vs x).1 hv)
      simp only [lk_append us os, (lk_none us x).2 hx]
      cases lk os x with
      | none => rfl
      | some j =>
        simp only [Option.map_some, moveD]
        rw [if_pos (by omega)]
        congr 1
        omega
  | lam y b ih =>
    intro vs h
    simp only [toDB, moveD]
    have := ih (y :: vs) (fun x hx hxv => h x ⟨fun e => hxv (by simp [e]), hx⟩ (fun hm => hxv (by simp [hm])))
    rw [List.cons_append, List.cons_append] at this
    rw [this]
    rfl
  | app f a ihf iha =>
    intro vs h
    simp only [toDB, moveD]
    rw [ihf vs (fun x hx => h x (.inl hx)), iha vs (fun x hx => h x (.inr hx))]
theorem toDB_move0 (us os : List (List UInt8)) (t : Tm) (h : ∀ x, FV t x → x ∉ us) : toDB (us ++ os) t = moveD us.length 0 (toDB os t) := by
  have := toDB_move us os t [] (fun x hx _ => h x hx)
  simpa using this
theorem move_closed (m : Nat) (t : Tm) : ∀ vs : List (List UInt8), moveD m vs.length (toDB vs t) = toDB vs t := by
  induction t with
  | var x =>
    intro vs
    unfold toDB
    cases h : lk vs x with
    | some i =>
      have := lk_lt vs x i h
      simp only [moveD]
      rw [if_neg (by omega)]
    | none => rfl
  | lam y b ih =>
    intro vs
    simp only [toDB, moveD]
    have := ih (y :: vs)
    rw [List.length_cons] at this
    rw [this]
  | app f a ihf iha => intro vs; simp only [toDB, moveD, ihf, iha]
theorem toDB_apart (us : List (List UInt8)) (t : Tm) (h : ∀ x, FV t x → x ∉ us) : toDB us t = toDB [] t := by
  have h1 := toDB_move0 us [] t h
  rw [List.append_nil] at h1
  rw [h1]
  have h2 := move_closed us.length t []
  exact h2

/-- Putting for a free name. -/
theorem toDB_putT (x : List UInt8) (c : Tm) (t : Tm) : ∀ us, x ∉ us → (∀ y ∈ us, ¬ FV c y) → (∀ y, LV t y → y ≠ x ∧ ¬ FV c y) → toDB us (putT x c t) = putD x (toDB [] c) (toDB us t) := by
  induction t with
  | var y =>
    intro us hx hc _
    simp only [putT]
    split
    · rename_i h
      subst h
      simp only [toDB, (lk_none us y).2 hx, putD, if_pos]
      exact toDB_apart us c (fun z hz hm => hc z hm hz)
    · rename_i h
      simp only [toDB]
      cases lk us y with
      | some i => rfl
      | none => simp only [putD]; rw [if_neg h]
  | lam y b ih =>
    intro us hx hc hl
    obtain ⟨h1, h2⟩ := hl y (.inl rfl)
    simp only [putT, if_neg h1, toDB, putD]
    rw [ih (y :: us) (by simp [hx, Ne.symm h1]) (fun z hz => (List.mem_cons.1 hz).elim (fun e => e ▸ h2) (hc z)) (fun z hz => hl z (.inr hz))]
  | app f a ihf iha =>
    intro us hx hc hl
    simp only [putT, toDB, putD]
    rw [ihf us hx hc (fun z hz => hl z (.inl hz)), iha us hx hc (fun z hz => hl z (.inr hz))]
/-- Putting for a name that was bound. -/
theorem toDB_putT_bnd (x : List UInt8) (c : Tm) (os : List (List UInt8)) (t : Tm) : ∀ us, x ∉ us → (∀ y ∈ us, ¬ FV c y) → (∀ y, LV t y → y ≠ x ∧ ¬ FV c y) → toDB (us ++ os) (putT x c t) = putB (toDB os c) us.length (toDB (us ++ x :: os) t) := by
  induction t with
  | var y =>
    intro us hx hc _
    simp only [putT]
    split
    · rename_i h
      subst h
      simp only [toDB, lk_append us, (lk_none us y).2 hx, lk, if_pos, Option.map_some, Nat.zero_add, putB]
      exact toDB_move0 us os c (fun z hz hm => hc z hm hz)
    · rename_i h
      simp only [toDB, lk_append us]
      cases hu : lk us y with
      | some i =>
        have := lk_lt us y i hu
        simp only [putB]
        rw [if_neg (by omega), if_neg (by omega)]
      | none =>
        have e : lk (x :: os) y = (lk os y).map (· + 1) := by simp [lk, Ne.symm h]
        simp only [e]
        cases lk os y with
        | none => rfl
        | some j =>
          simp only [Option.map_some, putB]
          rw [if_neg (by omega), if_pos (by omega)]
          congr 1
          omega
  | lam y b ih =>
    intro us hx hc hl
    obtain ⟨h1, h2⟩ := hl y (.inl rfl)
    simp only [putT, if_neg h1, toDB, putB]
    have := ih (y :: us) (by simp [hx, Ne.symm h1]) (fun z hz => (List.mem_cons.1 hz).elim (fun e => e ▸ h2) (hc z)) (fun z hz => hl z (.inr hz))
    rw [List.cons_append, List.cons_append, List.length_cons] at this
    rw [this]
  | app f a ihf iha =>
    intro us hx hc hl
    simp only [putT, toDB, putB]
    rw [ihf us hx hc (fun z hz => hl z (.inl hz)), iha us hx hc (fun z hz => hl z (.inr hz))]

/-- The free names of a term, of another one, and a name. -/
def avoid (t c : Tm) (x : List UInt8) : List (List UInt8) := freeS [] t [] ++ freeS [] c [] ++ [x]
/-- A term is put for a name, with bound names renamed. -/
def subT (t : Tm) (x : List UInt8) (c : Tm) : Tm := putT x c (renT (avoid t c x) t [] [] 0).1
theorem mem_avoid (t c : Tm) (x y : List UInt8) : y ∈ avoid t c x ↔ FV t y ∨ FV c y ∨ y = x := by
  simp only [avoid, List.mem_append, List.mem_singleton, mem_freeS]
  simp [or_assoc]
theorem subT_lams (t c : Tm) (x : List UInt8) : ∀ y, LV (renT (avoid t c x) t [] [] 0).1 y → y ≠ x ∧ ¬ FV c y := by
  intro y hy
  have := LV_renT _ t y _ _ _ hy
  rw [mem_avoid] at this
  exact ⟨fun e => this (.inr (.inr e)), fun h => this (.inr (.inl h))⟩
theorem toDB_subT (t c : Tm) (x : List UInt8) : (toDB [] (subT t x c)).bare = (putD x (toDB [] c) (toDB [] t)).bare := by
  unfold subT
  rw [toDB_putT x c _ [] (by simp) (by simp) (subT_lams t c x)]
  refine bare_putD_congr x rfl ?_
  have := (toDB_renT (avoid t c x) [] t [] [] 0 rfl (New.nil _ _) (fun y hy _ => (mem_avoid t c x y).2 (.inl hy))).1
  simp only [List.nil_append] at this
  rw [this, bare_renD]
theorem toDB_subT_bnd (t c : Tm) (x : List UInt8) (os : List (List UInt8)) : (toDB os (subT t x c)).bare = (putB (toDB os c) 0 (toDB (x :: os) t)).bare := by
  unfold subT
  have h1 := toDB_putT_bnd x c os _ [] (by simp) (by simp) (subT_lams t c x)
  simp only [List.nil_append, List.length_nil] at h1
  rw [h1]
  refine bare_putB_congr 0 rfl ?_
  have := (toDB_renT (avoid t c x) (x :: os) t [] [] 0 rfl (New.nil _ _) (fun y hy _ => (mem_avoid t c x y).2 (.inl hy))).1
  simp only [List.nil_append] at this
  rw [this, bare_renD]

/-- Atoms of what was put. -/
theorem atoms_putT (x : List UInt8) (c : Tm) (t : Tm) (hl : ∀ y, LV t y → y ≠ x) : (putT x c t).atoms + t.uses x = t.atoms + t.uses x * c.atoms := by
  induction t with
  | var y =>
    simp only [putT, Tm.uses]
    split
    · simp [Tm.atoms]; omega
    · simp [Tm.atoms]
  | lam y b ih =>
    have h1 := hl y (.inl rfl)
    have := ih (fun z hz => hl z (.inr hz))
    simp only [putT, if_neg h1, Tm.uses, Tm.atoms]
    omega
  | app f a ihf iha =>
    have h1 := ihf (fun z hz => hl z (.inl hz))
    have h2 := iha (fun z hz => hl z (.inr hz))
    simp only [putT, Tm.uses, Tm.atoms, Nat.add_mul]
    omega
theorem atoms_renT (fr : List (List UInt8)) (t : Tm) : ∀ rs ts n, (renT fr t rs ts n).1.atoms = t.atoms := by
  induction t with
  | var x => intro rs ts n; rfl
  | lam x b ih => intro rs ts n; simp [renT, Tm.atoms, ih]
  | app f a ihf iha => intro rs ts n; simp [renT, Tm.atoms, ihf, iha]
theorem uses_FV (x : List UInt8) (t : Tm) : t.uses x = (toDB [] t).uses x := by rw [toDB_uses]; simp
theorem uses_bare (x : List UInt8) (d : DB) : d.bare.uses x = d.uses x := by
  induction d with
  | free y => rfl
  | bnd i => rfl
  | lam y b ih => simp [DB.bare, DB.uses, ih]
  | app f a ihf iha => simp [DB.bare, DB.uses, ihf, iha]
theorem uses_apart (t c : Tm) (x : List UInt8) : (renT (avoid t c x) t [] [] 0).1.uses x = t.uses x := by
  have := (toDB_renT (avoid t c x) [] t [] [] 0 rfl (New.nil _ _) (fun y hy _ => (mem_avoid t c x y).2 (.inl hy))).1
  simp only [List.nil_append] at this
  rw [uses_FV, this, ← uses_bare, bare_renD, uses_bare, ← uses_FV]
theorem atoms_subT (t c : Tm) (x : List UInt8) : (subT t x c).atoms + t.uses x = t.atoms + t.uses x * c.atoms := by
  have := atoms_putT x c (renT (avoid t c x) t [] [] 0).1 (fun y hy => (subT_lams t c x y hy).1)
  rw [uses_apart, atoms_renT] at this
  exact this

/-- All names stay names. -/
theorem ok_putT (x : List UInt8) (c : Tm) (hc : c.ok) (t : Tm) (h : t.ok) : (putT x c t).ok := by
  induction t with
  | var y =>
    simp only [putT]
    split
    · exact hc
    · exact h
  | lam y b ih =>
    simp only [putT]
    split
    · exact h
    · exact ⟨h.1, ih h.2⟩
  | app f a ihf iha => exact ⟨ihf h.1, iha h.2⟩
def Tm.lams : Tm → Nat
  | .var _ => 0
  | .lam _ b => 1 + b.lams
  | .app f a => f.lams + a.lams
theorem renT_next (fr : List (List UInt8)) (t : Tm) : ∀ rs ts n, (renT fr t rs ts n).2 ≤ n + fr.length * t.lams + t.lams := by
  induction t with
  | var x => intro rs ts n; simp [renT, Tm.lams]
  | lam x b ih =>
    intro rs ts n
    have h1 := ih (x :: rs) (zN (fresh fr n) :: ts) (fresh fr n + 1)
    have h2 := (fresh_spec fr n).2.1
    simp only [renT, Tm.lams, Nat.mul_add]
    omega
  | app f a ihf iha =>
    intro rs ts n
    have h1 := ihf rs ts n
    have h2 := iha rs ts (renT fr f rs ts n).2
    simp only [renT, Tm.lams, Nat.mul_add]
    omega
end Go.Proofs.YtbabdjcpmjfeoaaGreatDoor
