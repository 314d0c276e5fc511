/- Putting a term for a name, with names and with depths: plain mathematics. The text of a tree: plain mathematics. What is written is read as it was; new names are names: plain mathematics. Head steps and full steps, with names and with depths: plain mathematics. The model's kinds. -/
import Derived.Test.YtjcdclnaplojcaaGreatDoorC1
import Derived.Test.YtjcdclnaplojcaaGreatDoorU
import Derived.Test.YtjcdclnaplojcaaGreatDoorB
namespace Go.Proofs.YtjcdclnaplojcaaGreatDoor
set_option linter.unusedVariables false

/-- A name is bound somewhere in a term. -/
def LV : Tm → List UInt8 → Prop
  | .var _, _ => False
  | .lam y b, x => y = x ∨ LV b x
  | .app f a, x => LV f x ∨ LV a x
theorem LV_renT (fr : List (List UInt8)) (t : Tm) (x : List UInt8) : ∀ rs ts n, LV (renT fr t rs ts n).1 x → x ∉ fr := by
  induction t with
  | var y => intro rs ts n h; exact h.elim
  | lam y b ih =>
    intro rs ts n h
    simp only [renT, LV] at h
    rcases h with rfl | h
    · exact (fresh_spec fr n).2.2.2
    · exact ih _ _ _ h
  | app f a ihf iha =>
    intro rs ts n h
    simp only [renT, LV] at h
    rcases h with h | h
    · exact ihf _ _ _ h
    · exact iha _ _ _ h

/-- A term is put for a name: no bound name is free in it. -/
def putT (x : List UInt8) (by_ : Tm) : Tm → Tm
  | .var y => if y = x then by_ else .var y
  | .lam y b => if y = x then .lam y b else .lam y (putT x by_ b)
  | .app f a => .app (putT x by_ f) (putT x by_ a)
def putD (x : List UInt8) (by_ : DB) : DB → DB
  | .free y => if y = x then by_ else .free y
  | .bnd i => .bnd i
  | .lam y b => .lam y (putD x by_ b)
  | .app f a => .app (putD x by_ f) (putD x by_ a)
/-- Into more lams. -/
def moveD (more : Nat) : Nat → DB → DB
  | _, .free y => .free y
  | own, .bnd i => if own ≤ i then .bnd (i + more) else .bnd i
  | own, .lam y b => .lam y (moveD more (own + 1) b)
  | own, .app f a => .app (moveD more own f) (moveD more own a)
/-- A term is put for the name with a depth, whose lam is gone then. -/
def putB (by_ : DB) : Nat → DB → DB
  | _, .free y => .free y
  | d, .bnd i => if i = d then moveD d 0 by_ else if d < i then .bnd (i - 1) else .bnd i
  | d, .lam y b => .lam y (putB by_ (d + 1) b)
  | d, .app f a => .app (putB by_ d f) (putB by_ d a)

theorem bare_putD (x : List UInt8) (c c' : DB) (h : c.bare = c'.bare) (d : DB) : (putD x c d).bare = (putD x c' d.bare).bare := by
  induction d with
  | free y =>
    simp only [putD, DB.bare]
    split
    · exact h
    · rfl
  | bnd i => rfl
  | lam y b ih => simp [putD, DB.bare, ih]
  | app f a ihf iha => simp [putD, DB.bare, ihf, iha]
theorem bare_moveD (m : Nat) (d : DB) : ∀ k, (moveD m k d).bare = (moveD m k d.bare).bare := by
  induction d with
  | free y => intro k; rfl
  | bnd i => intro k; rfl
  | lam y b ih => intro k; simp only [moveD, DB.bare]; rw [ih]
  | app f a ihf iha => intro k; simp only [moveD, DB.bare]; rw [ihf, iha]
theorem bare_move_congr (m k : Nat) {c c' : DB} (h : c.bare = c'.bare) : (moveD m k c).bare = (moveD m k c').bare := by rw [bare_moveD, h, ← bare_moveD]
theorem bare_putB (c c' : DB) (h : c.bare = c'.bare) (d : DB) : ∀ k, (putB c k d).bare = (putB c' k d.bare).bare := by
  induction d with
  | free y => intro k; rfl
  | bnd i =>
    intro k
    simp only [putB, DB.bare]
    split
    · exact bare_move_congr _ _ h
    · split <;> rfl
  | lam y b ih => intro k; simp only [putB, DB.bare]; rw [ih]
  | app f a ihf iha => intro k; simp only [putB, DB.bare]; rw [ihf, iha]
theorem bare_putD_congr (x : List UInt8) {c c' d d' : DB} (h : c.bare = c'.bare) (hd : d.bare = d'.bare) : (putD x c d).bare = (putD x c' d').bare := by
  rw [bare_putD x c c' h d, hd, ← bare_putD x c' c' rfl d']
theorem bare_putB_congr (k : Nat) {c c' d d' : DB} (h : c.bare = c'.bare) (hd : d.bare = d'.bare) : (putB c k d).bare = (putB c' k d').bare := by
  rw [bare_putB c c' h d, hd, ← bare_putB c' c' rfl d']

theorem toDB_move (us : List (List UInt8)) (os : List (List UInt8)) (t : Tm) : ∀ vs, (∀ x, FV t x → x ∉ vs → x ∉ us) → toDB (vs ++ (us ++ os)) t = moveD us.length vs.length (toDB (vs ++ os) t) := by
  induction t with
  | var x =>
    intro vs h
    simp only [toDB]
    rw [lk_append vs (us ++ os), lk_append vs os]
    cases hv : lk vs x with
    | some i =>
      have := lk_lt vs x i hv
      simp only [moveD]
      rw [if_neg (by omega)]
    | none =>
      have hx := h x rfl ((lk_none vs x).1 hv)
      simp only [lk_append us os, (lk_none us x).2 hx]
      cases lk os x with
      | none => rfl
      | some j =>
        simp only [Option.map_some, moveD]
        rw [if_pos (by omega)]
        congr 1
        omega
  | lam y b ih =>
    intro vs h
    simp only [toDB, moveD]
    have := ih (y :: vs) (fun x hx hxv => h x ⟨fun e => hxv (by simp [e]), hx⟩ (fun hm => hxv (by simp [hm])))
    rw [List.cons_append, List.cons_append] at this
    rw [this]
    rfl
  | app f a ihf iha =>
    intro vs h
    simp only [toDB, moveD]
    rw [ihf vs (fun x hx => h x (.inl hx)), iha vs (fun x hx => h x (.inr hx))]
theorem toDB_move0 (us os : List (List UInt8)) (t : Tm) (h : ∀ x, FV t x → x ∉ us) : toDB (us ++ os) t = moveD us.length 0 (toDB os t) := by
  have := toDB_move us os t [] (fun x hx _ => h x hx)
  simpa using this
theorem move_closed (m : Nat) (t : Tm) : ∀ vs : List (List UInt8), moveD m vs.length (toDB vs t) = toDB vs t := by
  induction t with
  | var x =>
    intro vs
    unfold toDB
    cases h : lk vs x with
    | some i =>
      have := lk_lt vs x i h
      simp only [moveD]
      rw [if_neg (by omega)]
    | none => rfl
  | lam y b ih =>
    intro vs
    simp only [toDB, moveD]
    have := ih (y :: vs)
    rw [List.length_cons] at this
    rw [this]
  | app f a ihf iha => intro vs; simp only [toDB, moveD, ihf, iha]
theorem toDB_apart (us : List (List UInt8)) (t : Tm) (h : ∀ x, FV t x → x ∉ us) : toDB us t = toDB [] t := by
  have h1 := toDB_move0 us [] t h
  rw [List.append_nil] at h1
  rw [h1]
  have h2 := move_closed us.length t []
  exact h2

/-- Putting for a free name. -/
theorem toDB_putT (x : List UInt8) (c : Tm) (t : Tm) : ∀ us, x ∉ us → (∀ y ∈ us, ¬ FV c y) → (∀ y, LV t y → y ≠ x ∧ ¬ FV c y) → toDB us (putT x c t) = putD x (toDB [] c) (toDB us t) := by
  induction t with
  | var y =>
    intro us hx hc _
    simp only [putT]
    split
    · rename_i h
      subst h
      simp only [toDB, (lk_none us y).2 hx, putD, if_pos]
      exact toDB_apart us c (fun z hz hm => hc z hm hz)
    · rename_i h
      simp only [toDB]
      cases lk us y with
      | some i => rfl
      | none => simp only [putD]; rw [if_neg h]
  | lam y b ih =>
    intro us hx hc hl
    obtain ⟨h1, h2⟩ := hl y (.inl rfl)
    simp only [putT, if_neg h1, toDB, putD]
    rw [ih (y :: us) (by simp [hx, Ne.symm h1]) (fun z hz => (List.mem_cons.1 hz).elim (fun e => e ▸ h2) (hc z)) (fun z hz => hl z (.inr hz))]
  | app f a ihf iha =>
    intro us hx hc hl
    simp only [putT, toDB, putD]
    rw [ihf us hx hc (fun z hz => hl z (.inl hz)), iha us hx hc (fun z hz => hl z (.inr hz))]
/-- Putting for a name that was bound. -/
theorem toDB_putT_bnd (x : List UInt8) (c : Tm) (os : List (List UInt8)) (t : Tm) : ∀ us, x ∉ us → (∀ y ∈ us, ¬ FV c y) → (∀ y, LV t y → y ≠ x ∧ ¬ FV c y) → toDB (us ++ os) (putT x c t) = putB (toDB os c) us.length (toDB (us ++ x :: os) t) := by
  induction t with
  | var y =>
    intro us hx hc _
    simp only [putT]
    split
    · rename_i h
      subst h
      simp only [toDB, lk_append us, (lk_none us y).2 hx, lk, if_pos, Option.map_some, Nat.zero_add, putB]
      exact toDB_move0 us os c (fun z hz hm => hc z hm hz)
    · rename_i h
      simp only [toDB, lk_append us]
      cases hu : lk us y with
      | some i =>
        have := lk_lt us y i hu
        simp only [putB]
        rw [if_neg (by omega), if_neg (by omega)]
      | none =>
        have e : lk (x :: os) y = (lk os y).map (· + 1) := by simp [lk, Ne.symm h]
        simp only [e]
        cases lk os y with
        | none => rfl
        | some j =>
          simp only [Option.map_some, putB]
          rw [if_neg (by omega), if_pos (by omega)]
          congr 1
          omega
  | lam y b ih =>
    intro us hx hc hl
    obtain ⟨h1, h2⟩ := hl y (.inl rfl)
    simp only [putT, if_neg h1, toDB, putB]
    have := ih (y :: us) (by simp [hx, Ne.symm h1]) (fun z hz => (List.mem_cons.1 hz).elim (fun e => e ▸ h2) (hc z)) (fun z hz => hl z (.inr hz))
    rw [List.cons_append, List.cons_append, List.length_cons] at this
    rw [this]
  | app f a ihf iha =>
    intro us hx hc hl
    simp only [putT, toDB, putB]
    rw [ihf us hx hc (fun z hz => hl z (.inl hz)), iha us hx hc (fun z hz => hl z (.inr hz))]

/-- The free names of a term, of another one, and a name. -/
def avoid (t c : Tm) (x : List UInt8) : List (List UInt8) := freeS [] t [] ++ freeS [] c [] ++ [x]
/-- A term is put for a name, with bound names renamed. -/
def subT (t : Tm) (x : List UInt8) (c : Tm) : Tm := putT x c (renT (avoid t c x) t [] [] 0).1
theorem mem_avoid (t c : Tm) (x y : List UInt8) : y ∈ avoid t c x ↔ FV t y ∨ FV c y ∨ y = x := by
  simp only [avoid, List.mem_append, List.mem_singleton, mem_freeS]
  simp [or_assoc]
theorem subT_lams (t c : Tm) (x : List UInt8) : ∀ y, LV (renT (avoid t c x) t [] [] 0).1 y → y ≠ x ∧ ¬ FV c y := by
  intro y hy
  have := LV_renT _ t y _ _ _ hy
  rw [mem_avoid] at this
  exact ⟨fun e => this (.inr (.inr e)), fun h => this (.inr (.inl h))⟩
theorem toDB_subT (t c : Tm) (x : List UInt8) : (toDB [] (subT t x c)).bare = (putD x (toDB [] c) (toDB [] t)).bare := by
  unfold subT
  rw [toDB_putT x c _ [] (by simp) (by simp) (subT_lams t c x)]
  refine bare_putD_congr x rfl ?_
  have := (toDB_renT (avoid t c x) [] t [] [] 0 rfl (New.nil _ _) (fun y hy _ => (mem_avoid t c x y).2 (.inl hy))).1
  simp only [List.nil_append] at this
  rw [this, bare_renD]
theorem toDB_subT_bnd (t c : Tm) (x : List UInt8) (os : List (List UInt8)) : (toDB os (subT t x c)).bare = (putB (toDB os c) 0 (toDB (x :: os) t)).bare := by
  unfold subT
  have h1 := toDB_putT_bnd x c os _ [] (by simp) (by simp) (subT_lams t c x)
  simp only [List.nil_append, List.length_nil] at h1
  rw [h1]
  refine bare_putB_congr 0 rfl ?_
  have := (toDB_renT (avoid t c x) (x :: os) t [] [] 0 rfl (New.nil _ _) (fun y hy _ => (mem_avoid t c x y).2 (.inl hy))).1
  simp only [List.nil_append] at this
  rw [this, bare_renD]

/-- Atoms of what was put. -/
theorem atoms_putT (x : List UInt8) (c : Tm) (t : Tm) (hl : ∀ y, LV t y → y ≠ x) : (putT x c t).atoms + t.uses x = t.atoms + t.uses x * c.atoms := by
  induction t with
  | var y =>
    simp only [putT, Tm.uses]
    split
    · simp [Tm.atoms]; omega
    · simp [Tm.atoms]
  | lam y b ih =>
    have h1 := hl y (.inl rfl)
    have := ih (fun z hz => hl z (.inr hz))
    simp only [putT, if_neg h1, Tm.uses, Tm.atoms]
    omega
  | app f a ihf iha =>
    have h1 := ihf (fun z hz => hl z (.inl hz))
    have h2 := iha (fun z hz => hl z (.inr hz))
    simp only [putT, Tm.uses, Tm.atoms, Nat.add_mul]
    omega
theorem atoms_renT (fr : List (List UInt8)) (t : Tm) : ∀ rs ts n, (renT fr t rs ts n).1.atoms = t.atoms := by
  induction t with
  | var x => intro rs ts n; rfl
  | lam x b ih => intro rs ts n; simp [renT, Tm.atoms, ih]
  | app f a ihf iha => intro rs ts n; simp [renT, Tm.atoms, ihf, iha]
theorem uses_FV (x : List UInt8) (t : Tm) : t.uses x = (toDB [] t).uses x := by rw [toDB_uses]; simp
theorem uses_bare (x : List UInt8) (d : DB) : d.bare.uses x = d.uses x := by
  induction d with
  | free y => rfl
  | bnd i => rfl
  | lam y b ih => simp [DB.bare, DB.uses, ih]
  | app f a ihf iha => simp [DB.bare, DB.uses, ihf, iha]
theorem uses_apart (t c : Tm) (x : List UInt8) : (renT (avoid t c x) t [] [] 0).1.uses x = t.uses x := by
  have := (toDB_renT (avoid t c x) [] t [] [] 0 rfl (New.nil _ _) (fun y hy _ => (mem_avoid t c x y).2 (.inl hy))).1
  simp only [List.nil_append] at this
  rw [uses_FV, this, ← uses_bare, bare_renD, uses_bare, ← uses_FV]
theorem atoms_subT (t c : Tm) (x : List UInt8) : (subT t x c).atoms + t.uses x = t.atoms + t.uses x * c.atoms := by
  have := atoms_putT x c (renT (avoid t c x) t [] [] 0).1 (fun y hy => (subT_lams t c x y hy).1)
  rw [uses_apart, atoms_renT] at this
  exact this

/-- All names stay names. -/
theorem ok_putT (x : List UInt8) (c : Tm) (hc : c.ok) (t : Tm) (h : t.ok) : (putT x c t).ok := by
  induction t with
  | var y =>
    simp only [putT]
    split
    · exact hc
    · exact h
  | lam y b ih =>
    simp only [putT]
    split
    · exact h
    · exact ⟨h.1, ih h.2⟩
  | app f a ihf iha => exact ⟨ihf h.1, iha h.2⟩
def Tm.lams : Tm → Nat
  | .var _ => 0
  | .lam _ b => 1 + b.lams
  | .app f a => f.lams + a.lams
theorem renT_next (fr : List (List UInt8)) (t : Tm) : ∀ rs ts n, (renT fr t rs ts n).2 ≤ n + fr.length * t.lams + t.lams := by
  induction t with
  | var x => intro rs ts n; simp [renT, Tm.lams]
  | lam x b ih =>
    intro rs ts n
    have h1 := ih (x :: rs) (zN (fresh fr n) :: ts) (fresh fr n + 1)
    have h2 := (fresh_spec fr n).2.1
    simp only [renT, Tm.lams, Nat.mul_add]
    omega
  | app f a ihf iha =>
    intro rs ts n
    have h1 := ihf rs ts n
    have h2 := iha rs ts (renT fr f rs ts n).2
    simp only [renT, Tm.lams, Nat.mul_add]
    omega
end Go.Proofs.YtjcdclnaplojcaaGreatDoor

namespace Go.Proofs.YtjcdclnaplojcaaGreatDoor
set_option linter.unusedVariables false

mutual
def wrTr : Tr → List UInt8
  | .mk a ps => if a = [] then 40 :: (wrSp ps).drop 1 ++ [41] else a
def wrSp : List Tr → List UInt8
  | [] => []
  | t :: r => (32 :: wrTr t) ++ wrSp r
end
theorem wrSp_append (a b : List Tr) : wrSp (a ++ b) = wrSp a ++ wrSp b := by
  induction a with
  | nil => rfl
  | cons t r ih => simp [wrSp, ih]
theorem wrSp_take (ps : List Tr) (k : Nat) (t : Tr) (h : ps[k]? = some t) : wrSp (ps.take (k + 1)) = wrSp (ps.take k) ++ 32 :: wrTr t := by
  rw [List.take_add_one, h, wrSp_append]
  simp [wrSp]
theorem wrSp_take_le (ps : List Tr) (k : Nat) : (wrSp (ps.take k)).length ≤ (wrSp ps).length := by
  have h := wrSp_append (ps.take k) (ps.drop k)
  rw [List.take_append_drop] at h
  rw [h, List.length_append]
  omega
theorem wrSp_one (ps : List Tr) (k : Nat) (hk : 0 < k) (hl : 0 < ps.length) : 0 < (wrSp (ps.take k)).length := by
  cases ps with
  | nil => simp at hl
  | cons t r =>
    cases k with
    | zero => omega
    | succ k => simp [wrSp]
theorem wrTr_tm (t : Tm) (h : t.ok) : wrTr (tmTr t) = wrTm t := by
  induction t with
  | var x =>
    have := isNm_ne x h
    simp [tmTr, wrTr, wrTm, this]
  | lam x b ih =>
    have := isNm_ne x h.1
    simp [tmTr, wrTr, wrTm, wrSp, this, ih h.2, sLam]
  | app f a ihf iha => simp [tmTr, wrTr, wrTm, wrSp, ihf h.1, iha h.2, sApp]

end Go.Proofs.YtjcdclnaplojcaaGreatDoor

namespace Go.Proofs.YtjcdclnaplojcaaGreatDoor
set_option linter.unusedVariables false

/-- All numbers below n are given, or their names are among fr. -/
def Cov (fr : List (List UInt8)) (ks : List Nat) (n : Nat) : Prop := ∀ j, j < n → j ∈ ks ∨ zN j ∈ fr
theorem Cov.cons {fr : List (List UInt8)} {ks : List Nat} {n : Nat} (h : Cov fr ks n) : Cov fr (fresh fr n :: ks) (fresh fr n + 1) := by
  intro j hj
  obtain ⟨g1, g2, g3, g4⟩ := fresh_spec fr n
  by_cases h1 : j < n
  · rcases h j h1 with h2 | h2
    · exact .inl (List.mem_cons_of_mem _ h2)
    · exact .inr h2
  · by_cases h2 : j = fresh fr n
    · exact .inl (by simp [h2])
    · exact .inr (g3 j (by omega) (by omega))
theorem Cov.le {fr : List (List UInt8)} {ks : List Nat} {n : Nat} (h : Cov fr ks n) : n ≤ ks.length + fr.length := by
  have hnd : ((List.range n).map zN).Nodup := by
    refine List.pairwise_map.2 ((List.nodup_range (n := n)).imp ?_)
    intro a b hab e
    exact hab (zN_inj e)
  have hsub : ((List.range n).map zN) ⊆ ks.map zN ++ fr := by
    intro x hx
    obtain ⟨i, hi, rfl⟩ := List.mem_map.1 hx
    rcases h i (List.mem_range.1 hi) with h1 | h1
    · exact List.mem_append.2 (.inl (List.mem_map.2 ⟨i, h1, rfl⟩))
    · exact List.mem_append.2 (.inr h1)
  have := hnd.length_le_of_subset hsub
  simpa using this
theorem renT_cov (fr : List (List UInt8)) (t : Tm) : ∀ rs ts n ks, Cov fr ks n → ∃ ks', ks'.length = ks.length + t.lams ∧ Cov fr ks' (renT fr t rs ts n).2 := by
  induction t with
  | var x => intro rs ts n ks h; exact ⟨ks, rfl, h⟩
  | lam x b ih =>
    intro rs ts n ks h
    obtain ⟨ks', h1, h2⟩ := ih (x :: rs) (zN (fresh fr n) :: ts) _ _ h.cons
    exact ⟨ks', by simp only [List.length_cons] at h1; simp only [Tm.lams]; omega, h2⟩
  | app f a ihf iha =>
    intro rs ts n ks h
    obtain ⟨k1, h1, h2⟩ := ihf rs ts n ks h
    obtain ⟨k2, h3, h4⟩ := iha rs ts _ k1 h2
    exact ⟨k2, by simp only [Tm.lams]; omega, h4⟩
theorem renT_le (fr : List (List UInt8)) (t : Tm) (rs ts : List (List UInt8)) : (renT fr t rs ts 0).2 ≤ t.lams + fr.length := by
  obtain ⟨ks, h1, h2⟩ := renT_cov fr t rs ts 0 [] (fun j hj => by omega)
  have := h2.le
  simp at h1
  omega
theorem renT_mono (fr : List (List UInt8)) (t : Tm) : ∀ rs ts n, n ≤ (renT fr t rs ts n).2 := by
  induction t with
  | var x => intro rs ts n; exact Nat.le_refl _
  | lam x b ih => intro rs ts n; have := (fresh_spec fr n).1; have := ih (x :: rs) (zN (fresh fr n) :: ts) (fresh fr n + 1); simp only [renT]; omega
  | app f a ihf iha => intro rs ts n; have := ihf rs ts n; have := iha rs ts (renT fr f rs ts n).2; simp only [renT]; omega
theorem renT_ok (fr : List (List UInt8)) (t : Tm) : ∀ rs ts n, t.ok → (∀ x ∈ ts, isNm x = true) → ts.length = rs.length → (renT fr t rs ts n).2 ≤ 1000 → (renT fr t rs ts n).1.ok := by
  induction t with
  | var x =>
    intro rs ts n hok hts hlen _
    simp only [renT]
    cases h : lk rs x with
    | none => exact hok
    | some i =>
      have hi := lk_lt rs x i h
      show (Tm.var (ts[i]?.getD [])).ok
      rw [List.getElem?_eq_getElem (by omega)]
      exact hts _ (List.getElem_mem _)
  | lam x b ih =>
    intro rs ts n hok hts hlen hle
    simp only [renT] at hle ⊢
    have h1 := renT_mono fr b (x :: rs) (zN (fresh fr n) :: ts) (fresh fr n + 1)
    have h2 := isNm_zN (fresh fr n) (by omega)
    exact ⟨h2, ih _ _ _ hok.2 (fun y hy => (List.mem_cons.1 hy).elim (fun e => e ▸ h2) (hts y)) (by simp [hlen]) hle⟩
  | app f a ihf iha =>
    intro rs ts n hok hts hlen hle
    simp only [renT] at hle ⊢
    have h1 := renT_mono fr a rs ts (renT fr f rs ts n).2
    exact ⟨ihf _ _ _ hok.1 hts hlen (by omega), iha _ _ _ hok.2 hts hlen hle⟩
theorem freeS_lams (t : Tm) : ∀ b l, (freeS b t l).length + 2 * t.lams ≤ l.length + t.atoms := by
  induction t with
  | var x => intro b l; simp only [freeS, Tm.atoms, Tm.lams]; split <;> simp
  | lam x d ih => intro b l; have := ih (b ++ [x]) l; simp only [freeS, Tm.atoms, Tm.lams]; omega
  | app f a ihf iha => intro b l; have h1 := ihf b l; have h2 := iha b (freeS b f l); simp only [freeS, Tm.atoms, Tm.lams]; omega
theorem canT_ok (t : Tm) (h : t.ok) (ha : t.atoms ≤ 400) : (canT t).ok := by
  have h1 := renT_le (freeS [] t []) t [] []
  have h2 := freeS_lams t [] []
  simp only [List.length_nil] at h2
  exact renT_ok _ t [] [] 0 h (by simp) rfl (by omega)
theorem canT_atoms (t : Tm) : (canT t).atoms = t.atoms := atoms_renT _ _ _ _ _
theorem subT_ok (t c : Tm) (x : List UInt8) (h : t.ok) (hc : c.ok) (ha : t.atoms ≤ 400) (hca : c.atoms ≤ 400) : (subT t x c).ok := by
  have h1 := renT_le (avoid t c x) t [] []
  have h2 := freeS_lams t [] []
  have h3 := freeS_lams c [] []
  simp only [List.length_nil] at h2 h3
  have h4 : (avoid t c x).length = (freeS [] t []).length + (freeS [] c []).length + 1 := by simp [avoid]; omega
  exact ok_putT x c hc _ (renT_ok _ t [] [] 0 h (by simp) rfl (by omega))

/-- How deep the parentheses of a term are, and one more. -/
def Tm.deep : Tm → Nat
  | .var _ => 1
  | .lam _ b => 1 + b.deep
  | .app f a => 1 + max f.deep a.deep
theorem deep_pos (t : Tm) : 1 ≤ t.deep := by cases t <;> simp [Tm.deep]
theorem deep_atoms (t : Tm) : 2 * t.deep ≤ t.atoms + 1 := by
  induction t with
  | var x => simp [Tm.deep, Tm.atoms]
  | lam x b ih => simp only [Tm.deep, Tm.atoms]; omega
  | app f a ihf iha => simp only [Tm.deep, Tm.atoms]; have := deep_pos f; have := deep_pos a; omega

theorem atom_of_letter (c : UInt8) (h : isLetB c = true) : isAtomB c = true := by simp [isLetB, isAtomB] at *; omega
theorem atom_of_digit (c : UInt8) (h : isDigB c = true) : isAtomB c = true := by simp [isDigB, isAtomB] at *; omega
theorem isNm_atoms (x : List UInt8) (h : isNm x = true) : ∃ c r, x = c :: r ∧ x.all isAtomB = true ∧ c ≠ 40 ∧ x.length ≤ 4 := by
  cases x with
  | nil => simp [isNm] at h
  | cons c r =>
    simp only [isNm, Bool.and_eq_true, decide_eq_true_eq] at h
    obtain ⟨⟨h1, h2⟩, h3⟩ := h
    refine ⟨c, r, rfl, ?_, ?_, by simp; omega⟩
    · rw [List.all_cons, Bool.and_eq_true, atom_of_letter c h1, List.all_eq_true]
      exact ⟨rfl, fun d hd => atom_of_digit d (List.all_eq_true.1 h3 d hd)⟩
    · rintro rfl; simp [isLetB] at h1
def Stop (r : List UInt8) : Prop := r = [] ∨ ∃ c r', r = c :: r' ∧ isAtomB c = false
theorem take_atoms (x : List UInt8) : ∀ r, x.all isAtomB = true → Stop r → (x ++ r).takeWhile isAtomB = x ∧ (x ++ r).dropWhile isAtomB = r := by
  induction x with
  | nil =>
    rintro r _ (rfl | ⟨c, r', rfl, h⟩)
    · simp
    · simp [h]
  | cons c x ih =>
    intro r h hs
    rw [List.all_cons, Bool.and_eq_true] at h
    obtain ⟨h1, h2⟩ := ih r h.2 hs
    simp [h.1, h1, h2]
theorem rd_atom (k : Nat) (c : UInt8) (x r : List UInt8) (h : (c :: x).all isAtomB = true) (hc : c ≠ 40) (hs : Stop r) : rdPart (k + 1) (c :: x ++ r) = some (.mk (c :: x) [], r) := by
  have hh := take_atoms (c :: x) r h hs
  have h1 : isAtomB c = true := by rw [List.all_cons, Bool.and_eq_true] at h; exact h.1
  rw [List.cons_append] at hh ⊢
  simp only [rdPart, if_neg hc, h1, if_true, hh.1, hh.2]
theorem rd_name (k : Nat) (x r : List UInt8) (h : isNm x = true) (hs : Stop r) : rdPart (k + 1) (x ++ r) = some (.mk x [], r) := by
  obtain ⟨c, y, rfl, h1, h2, _⟩ := isNm_atoms x h
  exact rd_atom k c y r h1 h2 hs
theorem stop_space (r : List UInt8) : Stop (32 :: r) := .inr ⟨32, r, rfl, by decide⟩
theorem stop_close (r : List UInt8) : Stop (41 :: r) := .inr ⟨41, r, rfl, by decide⟩
theorem rd_three (rd : List UInt8 → Option (Tr × List UInt8)) (n : Nat) (l l1 l2 r : List UInt8) (p0 p1 p2 : Tr) (h0 : rd l = some (p0, 32 :: l1)) (h1 : rd l1 = some (p1, 32 :: l2)) (h2 : rd l2 = some (p2, 41 :: r)) :
    rdParts rd (n + 3) l [] = some (.mk [] [p0, p1, p2], r) := by
  have e : (32 : UInt8) ≠ 41 := by decide
  simp only [rdParts, h0, h1, h2, if_neg e, if_true]
  rfl
/-- What is written of a term is read as the term's tree. -/
theorem rd_wr (t : Tm) : t.ok → ∀ k r, t.deep ≤ k → Stop r → rdPart k (wrTm t ++ r) = some (tmTr t, r) := by
  induction t with
  | var x =>
    intro hok k r hk hs
    obtain ⟨k, rfl⟩ : ∃ q, k = q + 1 := ⟨k - 1, by simp only [Tm.deep] at hk; omega⟩
    exact rd_name k x r hok hs
  | lam x b ih =>
    intro hok k r hk hs
    have hd := deep_pos b
    obtain ⟨k, rfl⟩ : ∃ q, k = q + 2 := ⟨k - 2, by simp only [Tm.deep] at hk; omega⟩
    have e : wrTm (.lam x b) ++ r = 40 :: ([108, 97, 109] ++ 32 :: (x ++ 32 :: (wrTm b ++ 41 :: r))) := by simp [wrTm]
    rw [e]
    have hl : ([108, 97, 109] ++ 32 :: (x ++ 32 :: (wrTm b ++ 41 :: r))).length + 1 = ((x ++ 32 :: (wrTm b ++ 41 :: r)).length + 2) + 3 := by
      simp only [List.length_append, List.length_cons, List.length_nil]; omega
    have h40 : rdPart (k + 2) (40 :: ([108, 97, 109] ++ 32 :: (x ++ 32 :: (wrTm b ++ 41 :: r)))) = rdParts (rdPart (k + 1)) (([108, 97, 109] ++ 32 :: (x ++ 32 :: (wrTm b ++ 41 :: r))).length + 1) ([108, 97, 109] ++ 32 :: (x ++ 32 :: (wrTm b ++ 41 :: r))) [] := by
      show rdPart (k + 1 + 1) _ = _
      conv => lhs; unfold rdPart
      simp only [if_true]
    rw [h40, hl]
    rw [rd_three (rdPart (k + 1)) _ _ _ _ r (.mk sLam []) (.mk x []) (tmTr b) (rd_atom k 108 [97, 109] _ (by decide) (by decide) (stop_space _)) (rd_name k x _ hok.1 (stop_space _)) (ih hok.2 _ _ (by simp only [Tm.deep] at hk; omega) (stop_close _))]
    rfl
  | app f a ihf iha =>
    intro hok k r hk hs
    have hd := deep_pos f
    obtain ⟨k, rfl⟩ : ∃ q, k = q + 2 := ⟨k - 2, by simp only [Tm.deep] at hk; omega⟩
    have e : wrTm (.app f a) ++ r = 40 :: ([97, 112, 112] ++ 32 :: (wrTm f ++ 32 :: (wrTm a ++ 41 :: r))) := by simp [wrTm]
    rw [e]
    have hl : ([97, 112, 112] ++ 32 :: (wrTm f ++ 32 :: (wrTm a ++ 41 :: r))).length + 1 = ((wrTm f ++ 32 :: (wrTm a ++ 41 :: r)).length + 2) + 3 := by
      simp only [List.length_append, List.length_cons, List.length_nil]; omega
    have h40 : rdPart (k + 2) (40 :: ([97, 112, 112] ++ 32 :: (wrTm f ++ 32 :: (wrTm a ++ 41 :: r)))) = rdParts (rdPart (k + 1)) (([97, 112, 112] ++ 32 :: (wrTm f ++ 32 :: (wrTm a ++ 41 :: r))).length + 1) ([97, 112, 112] ++ 32 :: (wrTm f ++ 32 :: (wrTm a ++ 41 :: r))) [] := by
      show rdPart (k + 1 + 1) _ = _
      conv => lhs; unfold rdPart
      simp only [if_true]
    rw [h40, hl]
    rw [rd_three (rdPart (k + 1)) _ _ _ _ r (.mk sApp []) (tmTr f) (tmTr a) (rd_atom k 97 [112, 112] _ (by decide) (by decide) (stop_space _)) (ihf hok.1 _ _ (by simp only [Tm.deep] at hk; omega) (stop_space _)) (iha hok.2 _ _ (by simp only [Tm.deep] at hk; omega) (stop_close _))]
    rfl

theorem trTm_tmTr (t : Tm) (h : t.ok) : trTm (tmTr t) = some t := by
  induction t with
  | var x =>
    have hx : isNm x = true := h
    rw [tmTr, trTm_atom x [] (isNm_ne x hx), if_pos hx]
  | lam x b ih =>
    have hx : isNm x = true := h.1
    rw [tmTr, trTm_lam _ _ _ (show (Tr.mk sLam []).atom = sLam from rfl), ih h.2]
    show (if isNm x = true then _ else _) = _
    rw [if_pos hx]; rfl
  | app f a ihf iha =>
    rw [tmTr, trTm_app _ _ _ (show (Tr.mk sApp []).atom ≠ sLam from by decide) rfl, ihf h.1, iha h.2]; rfl
theorem rdParts_more (rd rd' : List UInt8 → Option (Tr × List UInt8)) (h : ∀ l p, rd l = some p → rd' l = some p) : ∀ n l acc p, rdParts rd n l acc = some p → rdParts rd' n l acc = some p := by
  intro n
  induction n with
  | zero => intro l acc p hp; simp [rdParts] at hp
  | succ n ih =>
    intro l acc p hp
    unfold rdParts at hp ⊢
    split at hp
    · cases hp
    · cases hp
    · rename_i t c r h1
      rw [h l _ h1]
      simp only
      split at hp
      · rename_i hc; rw [if_pos hc]; exact hp
      · rename_i hc
        rw [if_neg hc]
        split at hp
        · rename_i hc2; rw [if_pos hc2]; exact ih _ _ _ hp
        · cases hp
theorem rdPart_succ : ∀ k l p, rdPart k l = some p → rdPart (k + 1) l = some p := by
  intro k
  induction k with
  | zero => intro l p h; simp [rdPart] at h
  | succ k ih =>
    intro l p h
    cases l with
    | nil => simp [rdPart] at h
    | cons c r =>
      have e1 : rdPart (k + 1) (c :: r) = if c = 40 then rdParts (rdPart k) (r.length + 1) r [] else if isAtomB c = true then some (.mk ((c :: r).takeWhile isAtomB) [], (c :: r).dropWhile isAtomB) else none := rfl
      have e2 : rdPart (k + 1 + 1) (c :: r) = if c = 40 then rdParts (rdPart (k + 1)) (r.length + 1) r [] else if isAtomB c = true then some (.mk ((c :: r).takeWhile isAtomB) [], (c :: r).dropWhile isAtomB) else none := rfl
      rw [e1] at h
      rw [e2]
      split at h
      · rename_i hc; rw [if_pos hc]; exact rdParts_more _ _ ih _ _ _ _ h
      · rename_i hc; rw [if_neg hc]; exact h
theorem rdPart_more (k j : Nat) (l : List UInt8) (p : Tr × List UInt8) (h : rdPart k l = some p) : rdPart (k + j) l = some p := by
  induction j with
  | zero => exact h
  | succ j ih => exact rdPart_succ _ _ _ ih

theorem wrTm_short (t : Tm) (h : t.ok) : (wrTm t).length ≤ 12 * t.atoms := by
  refine wrTm_length 4 t (fun x => ?_) h
  by_cases hx : isNm x = true
  · obtain ⟨_, _, _, _, _, h4⟩ := isNm_atoms x hx
    exact .inl h4
  · exact .inr hx
/-- A text that is written is read as the term, if this has few atoms, and else not at all. -/
theorem rdTerm_wr (t : Tm) (h : t.ok) : rdTerm (wrTm t) = if t.atoms ≤ 400 then some t else none := by
  have hr := fun k (hk : t.deep ≤ k) => rd_wr t h k [] hk (.inl rfl)
  simp only [List.append_nil] at hr
  split
  · rename_i ha
    have h1 := wrTm_short t h
    have h2 := deep_atoms t
    have ht : rdText (wrTm t) = some (tmTr t) := by
      unfold rdText
      rw [if_neg (by omega), hr 301 (by omega)]
    unfold rdTerm
    simp only [ht]
    rw [tmTr_atoms t h, if_pos ha, trTm_tmTr t h]
  · rename_i ha
    unfold rdTerm
    cases ht : rdText (wrTm t) with
    | none => rfl
    | some tr =>
      have e : tr = tmTr t := by
        unfold rdText at ht
        split at ht
        · cases ht
        · split at ht
          · rename_i t' h1
            injection ht with ht
            subst ht
            have h3 := rdPart_more 301 t.deep _ _ h1
            rw [hr (301 + t.deep) (by omega)] at h3
            injection h3 with h3
            injection h3 with h3 _
            exact h3.symm
          · cases ht
      simp only
      rw [e, tmTr_atoms t h, if_neg ha]

theorem wrSp_cons (ps : List Tr) (h : ps ≠ []) : wrSp ps = 32 :: (wrSp ps).drop 1 := by
  cases ps with
  | nil => exact absurd rfl h
  | cons t r => simp [wrSp]
theorem rdParts_wr (rd : List UInt8 → Option (Tr × List UInt8)) (hrd : ∀ l t r, rd l = some (t, r) → l = wrTr t ++ r) : ∀ n l acc t r, rdParts rd n l acc = some (t, r) → ∃ ps, ps ≠ [] ∧ t = .mk [] (acc ++ ps) ∧ l = (wrSp ps).drop 1 ++ 41 :: r := by
  intro n
  induction n with
  | zero => intro l acc t r h; simp [rdParts] at h
  | succ n ih =>
    intro l acc t r h
    unfold rdParts at h
    split at h
    · cases h
    · cases h
    · rename_i t1 c r1 h1
      have hl := hrd _ _ _ h1
      split at h
      · rename_i hc
        injection h with h
        injection h with h2 h3
        refine ⟨[t1], by simp, h2.symm, ?_⟩
        rw [hl, hc, h3]
        simp [wrSp]
      · split at h
        · rename_i hc
          obtain ⟨ps, hne, h2, h3⟩ := ih _ _ _ _ h
          refine ⟨t1 :: ps, by simp, by rw [h2]; simp, ?_⟩
          rw [hl, hc]
          simp only [wrSp, List.cons_append, List.drop_succ_cons, List.drop_zero, List.append_assoc]
          rw [wrSp_cons ps hne, h3]
          simp
        · cases h
theorem rdPart_wr : ∀ k l t r, rdPart k l = some (t, r) → l = wrTr t ++ r := by
  intro k
  induction k with
  | zero => intro l t r h; simp [rdPart] at h
  | succ k ih =>
    intro l t r h
    cases l with
    | nil => simp [rdPart] at h
    | cons c l =>
      have e1 : rdPart (k + 1) (c :: l) = if c = 40 then rdParts (rdPart k) (l.length + 1) l [] else if isAtomB c = true then some (.mk ((c :: l).takeWhile isAtomB) [], (c :: l).dropWhile isAtomB) else none := rfl
      rw [e1] at h
      split at h
      · rename_i hc
        obtain ⟨ps, hne, h2, h3⟩ := rdParts_wr _ ih _ _ _ _ _ h
        rw [h2, hc, h3]
        simp [wrTr]
      · split at h
        · rename_i hc
          injection h with h
          injection h with h2 h3
          rw [← h2, ← h3]
          have hne : (c :: l).takeWhile isAtomB ≠ [] := by simp [hc]
          simp only [wrTr, if_neg hne]
          exact List.takeWhile_append_dropWhile.symm
        · cases h
/-- A text that is a term is what is written of the term. -/
theorem wr_rdTerm (l : List UInt8) (t : Tm) (h : rdTerm l = some t) : l = wrTm t := by
  obtain ⟨hok, _⟩ := rdTerm_good l t h
  unfold rdTerm at h
  split at h
  · cases h
  · rename_i tr htr
    split at h
    · have he := trTm_eq t tr (rdText_ok _ _ htr).1 h
      unfold rdText at htr
      split at htr
      · cases htr
      · split at htr
        · rename_i t' h1
          injection htr with htr
          have := rdPart_wr _ _ _ _ h1
          rw [this, htr, he, wrTr_tm t hok]
          simp
        · cases htr
    · cases h
end Go.Proofs.YtjcdclnaplojcaaGreatDoor

namespace Go.Proofs.YtjcdclnaplojcaaGreatDoor
set_option linter.unusedVariables false

def headD : DB → Option DB
  | .free _ => none
  | .bnd _ => none
  | .lam x b => (headD b).map (.lam x)
  | .app (.lam _ b) a => some (putB a 0 b)
  | .app f a => (headD f).map (fun g => .app g a)
def fullD : DB → Option DB
  | .free _ => none
  | .bnd _ => none
  | .lam x b => (fullD b).map (.lam x)
  | .app (.lam _ b) a => some (putB a 0 b)
  | .app f a => match fullD f with
    | some g => some (.app g a)
    | none => (fullD a).map (.app f)
/-- What a redex becomes, if this is not too large. -/
def turnT (b : Tm) (x : List UInt8) (a : Tm) : Option Tm := if 400 < b.atoms + b.uses x * (a.atoms - 1) then none else some (subT b x a)
/-- A step of the model: the term, and 0 for none, 1 for one, 2 if it is too large. -/
def turnR (t b : Tm) (x : List UInt8) (a : Tm) : Tm × Nat := match turnT b x a with
  | some o => (o, 1)
  | none => (t, 2)
def headT : Tm → Tm × Nat
  | .var x => (.var x, 0)
  | .lam x b => (.lam x (headT b).1, (headT b).2)
  | .app (.lam x b) a => turnR (.app (.lam x b) a) b x a
  | .app f a => (.app (headT f).1 a, (headT f).2)
def fullT : Tm → Tm × Nat
  | .var x => (.var x, 0)
  | .lam x b => (.lam x (fullT b).1, (fullT b).2)
  | .app (.lam x b) a => turnR (.app (.lam x b) a) b x a
  | .app f a => if 0 < (fullT f).2 then (.app (fullT f).1 a, (fullT f).2) else (.app f (fullT a).1, (fullT a).2)

def DB.isLam : DB → Bool
  | .lam _ _ => true
  | _ => false
def Tm.isLam : Tm → Bool
  | .lam _ _ => true
  | _ => false
theorem isLam_toDB (t : Tm) (rs : List (List UInt8)) : (toDB rs t).isLam = t.isLam := by
  cases t with
  | var x => unfold toDB; split <;> rfl
  | lam x b => rfl
  | app f a => rfl
theorem headD_app (f a : DB) (h : f.isLam = false) : headD (.app f a) = (headD f).map (fun g => .app g a) := by
  cases f with
  | lam x b => simp [DB.isLam] at h
  | free x => rfl
  | bnd i => rfl
  | app g c => rfl
theorem fullD_app (f a : DB) (h : f.isLam = false) : fullD (.app f a) = match fullD f with
    | some g => some (.app g a)
    | none => (fullD a).map (.app f) := by
  cases f with
  | lam x b => simp [DB.isLam] at h
  | free x => rfl
  | bnd i => rfl
  | app g c => rfl
theorem headT_app (f a : Tm) (h : f.isLam = false) : headT (.app f a) = (.app (headT f).1 a, (headT f).2) := by
  cases f with
  | lam x b => simp [Tm.isLam] at h
  | var x => rfl
  | app g c => rfl
theorem fullT_app (f a : Tm) (h : f.isLam = false) : fullT (.app f a) = if 0 < (fullT f).2 then (.app (fullT f).1 a, (fullT f).2) else (.app f (fullT a).1, (fullT a).2) := by
  cases f with
  | lam x b => simp [Tm.isLam] at h
  | var x => rfl
  | app g c => rfl
theorem Tm.lam_of {f : Tm} (h : f.isLam = true) : ∃ x b, f = .lam x b := by
  cases f with
  | lam x b => exact ⟨x, b, rfl⟩
  | var x => simp [Tm.isLam] at h
  | app g c => simp [Tm.isLam] at h

theorem atoms_pos (t : Tm) : 1 ≤ t.atoms := by cases t <;> simp [Tm.atoms] <;> omega
theorem subT_atoms (b a : Tm) (x : List UInt8) : (subT b x a).atoms = b.atoms + b.uses x * (a.atoms - 1) := by
  have h1 := atoms_subT b a x
  have h2 := atoms_pos a
  obtain ⟨n, hn⟩ : ∃ n, a.atoms = n + 1 := ⟨a.atoms - 1, by omega⟩
  rw [hn] at h1 ⊢
  simp only [Nat.mul_add, Nat.mul_one, Nat.add_sub_cancel] at h1 ⊢
  omega

/-- A step of a term and of the term with depths agree. -/
def Steps (rs : List (List UInt8)) (t : Tm) (r : Tm × Nat) (o : Option DB) : Prop :=
  (r = (t, 0) ∧ o = none) ∨ (r.2 = 1 ∧ ∃ d, o = some d ∧ (toDB rs r.1).bare = d.bare ∧ r.1.ok) ∨ (r.2 = 2 ∧ ∃ d, o = some d ∧ 400 < d.atoms)
theorem Steps.lam {rs : List (List UInt8)} {x : List UInt8} {b : Tm} {r : Tm × Nat} {o : Option DB} (hx : isNm x = true) (h : Steps (x :: rs) b r o) : Steps rs (.lam x b) (.lam x r.1, r.2) (o.map (.lam x)) := by
  rcases h with ⟨rfl, rfl⟩ | ⟨h1, d, rfl, h2, h3⟩ | ⟨h1, d, rfl, h2⟩
  · exact .inl ⟨rfl, rfl⟩
  · exact .inr (.inl ⟨h1, _, rfl, by simp only [toDB, DB.bare, h2], hx, h3⟩)
  · exact .inr (.inr ⟨h1, _, rfl, by simp only [DB.atoms]; omega⟩)
theorem Steps.left {rs : List (List UInt8)} {f a : Tm} {r : Tm × Nat} {o : Option DB} (ha : a.ok) (h : Steps rs f r o) : Steps rs (.app f a) (.app r.1 a, r.2) (o.map fun g => .app g (toDB rs a)) := by
  rcases h with ⟨rfl, rfl⟩ | ⟨h1, d, rfl, h2, h3⟩ | ⟨h1, d, rfl, h2⟩
  · exact .inl ⟨rfl, rfl⟩
  · exact .inr (.inl ⟨h1, _, rfl, by simp only [toDB, DB.bare, h2], h3, ha⟩)
  · exact .inr (.inr ⟨h1, _, rfl, by simp only [DB.atoms]; omega⟩)
theorem Steps.right {rs : List (List UInt8)} {f a : Tm} {r : Tm × Nat} {o : Option DB} (hf : f.ok) (h : Steps rs a r o) : Steps rs (.app f a) (.app f r.1, r.2) (o.map fun g => .app (toDB rs f) g) := by
  rcases h with ⟨rfl, rfl⟩ | ⟨h1, d, rfl, h2, h3⟩ | ⟨h1, d, rfl, h2⟩
  · exact .inl ⟨rfl, rfl⟩
  · exact .inr (.inl ⟨h1, _, rfl, by simp only [toDB, DB.bare, h2], hf, h3⟩)
  · exact .inr (.inr ⟨h1, _, rfl, by simp only [DB.atoms]; omega⟩)
theorem Steps.turn (rs : List (List UInt8)) (x : List UInt8) (b a : Tm) (hok : (Tm.app (.lam x b) a).ok) (hat : (Tm.app (.lam x b) a).atoms ≤ 400) : Steps rs (.app (.lam x b) a) (turnR (.app (.lam x b) a) b x a) (some (putB (toDB rs a) 0 (toDB (x :: rs) b))) := by
  have h1 := toDB_subT_bnd b a x rs
  have h2 := atoms_congr h1
  rw [atoms_toDB, subT_atoms] at h2
  simp only [Tm.atoms] at hat
  unfold turnR turnT
  split
  · rename_i o ho
    split at ho
    · cases ho
    · injection ho with ho
      subst ho
      exact .inr (.inl ⟨rfl, _, rfl, h1, subT_ok b a x hok.1.2 hok.2 (by omega) (by omega)⟩)
  · rename_i ho
    split at ho
    · rename_i hlt
      exact .inr (.inr ⟨rfl, _, rfl, by omega⟩)
    · cases ho
theorem head_steps (t : Tm) : ∀ rs, t.ok → t.atoms ≤ 400 → Steps rs t (headT t) (headD (toDB rs t)) := by
  induction t with
  | var x => intro rs _ _; exact .inl ⟨rfl, by unfold toDB; split <;> rfl⟩
  | lam x b ih =>
    intro rs hok hat
    simp only [Tm.atoms] at hat
    exact (ih (x :: rs) hok.2 (by omega)).lam hok.1
  | app f a ihf iha =>
    intro rs hok hat
    cases hl : f.isLam with
    | true =>
      obtain ⟨x, b, rfl⟩ := Tm.lam_of hl
      exact Steps.turn rs x b a hok hat
    | false =>
      simp only [Tm.atoms] at hat
      rw [headT_app f a hl]
      simp only [toDB]
      rw [headD_app _ _ (by rw [isLam_toDB]; exact hl)]
      exact (ihf rs hok.1 (by omega)).left hok.2
theorem full_steps (t : Tm) : ∀ rs, t.ok → t.atoms ≤ 400 → Steps rs t (fullT t) (fullD (toDB rs t)) := by
  induction t with
  | var x => intro rs _ _; exact .inl ⟨rfl, by unfold toDB; split <;> rfl⟩
  | lam x b ih =>
    intro rs hok hat
    simp only [Tm.atoms] at hat
    exact (ih (x :: rs) hok.2 (by omega)).lam hok.1
  | app f a ihf iha =>
    intro rs hok hat
    cases hl : f.isLam with
    | true =>
      obtain ⟨x, b, rfl⟩ := Tm.lam_of hl
      exact Steps.turn rs x b a hok hat
    | false =>
      simp only [Tm.atoms] at hat
      rw [fullT_app f a hl]
      simp only [toDB]
      rw [fullD_app _ _ (by rw [isLam_toDB]; exact hl)]
      have hf := ihf rs hok.1 (by omega)
      have ha := iha rs hok.2 (by omega)
      rcases hf with ⟨h1, h2⟩ | ⟨h1, d, h2, h3⟩ | ⟨h1, d, h2, h3⟩
      · rw [h1, h2, if_neg (Nat.lt_irrefl 0)]
        exact ha.right hok.1
      · rw [if_pos (by omega), h2]
        exact Steps.left hok.2 (.inr (.inl ⟨h1, d, rfl, h3⟩))
      · rw [if_pos (by omega), h2]
        exact Steps.left hok.2 (.inr (.inr ⟨h1, d, rfl, h3⟩))

/-- The step of a kind: true for head. -/
def stepR (k : Bool) (t : Tm) : Tm × Nat := if k then headT t else fullT t
def stepD (k : Bool) (d : DB) : Option DB := if k then headD d else fullD d
theorem kind_steps (k : Bool) (t : Tm) (rs : List (List UInt8)) (hok : t.ok) (hat : t.atoms ≤ 400) : Steps rs t (stepR k t) (stepD k (toDB rs t)) := by
  cases k
  · exact full_steps t rs hok hat
  · exact head_steps t rs hok hat
/-- The canonical term behind a step. -/
def nextT (k : Bool) (t : Tm) : Option Tm := if (stepR k t).2 = 1 then (if (stepR k t).1.atoms ≤ 400 then some (canT (stepR k t).1) else none) else none
def nextD (k : Bool) (d : DB) : Option DB := match stepD k d with
  | none => none
  | some e => if e.atoms ≤ 400 then some (canD e) else none
theorem next_eq (k : Bool) (t : Tm) (hok : t.ok) (hat : t.atoms ≤ 400) : nextD k (toDB [] t) = (nextT k t).map (toDB []) := by
  unfold nextD nextT
  rcases kind_steps k t [] hok hat with ⟨h1, h2⟩ | ⟨h1, d, h2, h3, h4⟩ | ⟨h1, d, h2, h3⟩
  · rw [h1, h2]; rfl
  · rw [h2, if_pos h1]
    have ha := atoms_congr h3
    rw [atoms_toDB] at ha
    simp only [ha]
    split
    · rw [Option.map_some, toDB_canT, canD_congr h3]
    · rfl
  · rw [h2, if_neg (by omega)]
    simp only
    rw [if_neg (by omega)]
    rfl
theorem next_good (k : Bool) (t : Tm) (hok : t.ok) (hat : t.atoms ≤ 400) (o : Tm) (h : nextT k t = some o) : o.ok ∧ o.atoms ≤ 400 := by
  unfold nextT at h
  split at h
  · rename_i h1
    split at h
    · rename_i h2
      injection h with h
      subst h
      refine ⟨canT_ok _ ?_ h2, by rw [canT_atoms]; exact h2⟩
      rcases kind_steps k t [] hok hat with ⟨h3, _⟩ | ⟨_, _, _, _, h4⟩ | ⟨h3, _⟩
      · rw [h3] at h1; cases h1
      · exact h4
      · omega
    · cases h
  · cases h
/-- Whether no step of a kind is there. -/
theorem norm_eq (k : Bool) (t : Tm) (hok : t.ok) (hat : t.atoms ≤ 400) : (stepD k (toDB [] t)).isNone = decide ((stepR k t).2 = 0) := by
  rcases kind_steps k t [] hok hat with ⟨h1, h2⟩ | ⟨h1, d, h2, h3, h4⟩ | ⟨h1, d, h2, h3⟩
  · rw [h1, h2]; rfl
  · rw [h1, h2]; rfl
  · rw [h1, h2]; rfl

/-- At most n steps of a kind. -/
def manyT (k : Bool) : Nat → Tm → Tm × Nat
  | 0, t => (t, 0)
  | n + 1, t => match nextT k t with
    | none => (t, 0)
    | some o => ((manyT k n o).1, (manyT k n o).2 + 1)
theorem many_good (k : Bool) : ∀ n t, t.ok → t.atoms ≤ 400 → (manyT k n t).1.ok ∧ (manyT k n t).1.atoms ≤ 400 := by
  intro n
  induction n with
  | zero => intro t h1 h2; exact ⟨h1, h2⟩
  | succ n ih =>
    intro t h1 h2
    simp only [manyT]
    split
    · exact ⟨h1, h2⟩
    · rename_i o ho
      obtain ⟨g1, g2⟩ := next_good k t h1 h2 o ho
      exact ih o g1 g2
/-- The redexes of a term. -/
def DB.reds : DB → Nat
  | .free _ => 0
  | .bnd _ => 0
  | .lam _ b => b.reds
  | .app f a => (if f.isLam = true then 1 else 0) + f.reds + a.reds
def Tm.reds : Tm → Nat
  | .var _ => 0
  | .lam _ b => b.reds
  | .app f a => (if f.isLam = true then 1 else 0) + f.reds + a.reds
theorem reds_toDB (t : Tm) : ∀ rs, (toDB rs t).reds = t.reds := by
  induction t with
  | var x => intro rs; unfold toDB; split <;> rfl
  | lam x b ih => intro rs; simp [toDB, DB.reds, Tm.reds, ih]
  | app f a ihf iha => intro rs; simp only [toDB, DB.reds, Tm.reds, ihf, iha, isLam_toDB]
theorem reds_atoms (t : Tm) : t.reds ≤ t.atoms := by
  induction t with
  | var x => simp [Tm.reds, Tm.atoms]
  | lam x b ih => simp only [Tm.reds, Tm.atoms]; omega
  | app f a ihf iha => simp only [Tm.reds, Tm.atoms]; split <;> omega
end Go.Proofs.YtjcdclnaplojcaaGreatDoor

namespace Go.Proofs.YtjcdclnaplojcaaGreatDoor
set_option linter.unusedVariables false
open Go.RowKit

def kindT (k : Bool) : List UInt8 := if k then [104, 101, 97, 100] else [102, 117, 108, 108]
def rdKind (x : List UInt8) : Option Bool := if x = [104, 101, 97, 100] then some true else if x = [102, 117, 108, 108] then some false else none
theorem rdKind_some (x : List UInt8) (k : Bool) (h : rdKind x = some k) : x = kindT k := by
  unfold rdKind at h
  split at h
  · injection h with h; subst h; assumption
  · split at h
    · injection h with h; subst h; assumption
    · cases h
theorem rdKind_beq (x : List UInt8) (k : Bool) (h : rdKind x = some k) : (x == [104, 101, 97, 100]) = k ∧ (x == [102, 117, 108, 108]) = !k := by
  have := rdKind_some x k h
  subst this
  cases k <;> exact ⟨rfl, rfl⟩
theorem rdKind_no (x : List UInt8) (h : rdKind x = none) : (x == [104, 101, 97, 100]) = false ∧ (x == [102, 117, 108, 108]) = false := by
  unfold rdKind at h
  split at h
  · cases h
  · split at h
    · cases h
    · exact ⟨beq_eq_false_iff_ne.2 (by assumption), beq_eq_false_iff_ne.2 (by assumption)⟩
theorem l2Kind_any (x : List UInt8) (w : World) :
    Calls Tryz.prog 107 #[.string ⟨x.toArray⟩] w fun e w' => e = .returned (.bool (rdKind x).isSome) ∧ w' = w := by
  cases h : rdKind x with
  | none =>
    obtain ⟨h1, h2⟩ := rdKind_no x h
    go_enter Tryz.func107, Tryz.ntmps107
    go_wp2
    go_ret
    exact ⟨rfl, rfl⟩
  | some k =>
    obtain ⟨h1, h2⟩ := rdKind_beq x k h
    cases k
    all_goals
      simp only [Bool.not_true, Bool.not_false] at h1 h2
      go_enter Tryz.func107, Tryz.ntmps107
      go_wp2
      go_ret
      exact ⟨rfl, rfl⟩
end Go.Proofs.YtjcdclnaplojcaaGreatDoor

