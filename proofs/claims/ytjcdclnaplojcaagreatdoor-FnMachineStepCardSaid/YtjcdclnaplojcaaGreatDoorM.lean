/- Plain mathematics of chapter 1, with no program in it: bytes, trees that are read, terms, depths. -/
import Init
namespace Go.Proofs.YtjcdclnaplojcaaGreatDoor
set_option linter.unusedVariables false

def isAtomB (c : UInt8) : Bool := decide ((97 ≤ c.toNat ∧ c.toNat ≤ 122) ∨ (48 ≤ c.toNat ∧ c.toNat ≤ 57) ∨ c.toNat = 62)
def isLetB (c : UInt8) : Bool := decide (97 ≤ c.toNat ∧ c.toNat ≤ 122)
def isDigB (c : UInt8) : Bool := decide (48 ≤ c.toNat ∧ c.toNat ≤ 57)
def isNm : List UInt8 → Bool
  | [] => false
  | c :: r => isLetB c && decide (r.length ≤ 3) && r.all isDigB
def sLam : List UInt8 := [108, 97, 109]
def sApp : List UInt8 := [97, 112, 112]

inductive Tr where
  | mk (atom : List UInt8) (parts : List Tr)
def Tr.atom : Tr → List UInt8 | .mk a _ => a
def Tr.parts : Tr → List Tr | .mk _ p => p

def rdParts (rd : List UInt8 → Option (Tr × List UInt8)) : Nat → List UInt8 → List Tr → Option (Tr × List UInt8)
  | 0, _, _ => none
  | n + 1, l, acc => match rd l with
    | none => none
    | some (_, []) => none
    | some (t, c :: r) => if c = 41 then some (.mk [] (acc ++ [t]), r) else if c = 32 then rdParts rd n r (acc ++ [t]) else none

def rdPart : Nat → List UInt8 → Option (Tr × List UInt8)
  | 0, _ => none
  | k + 1, l => match l with
    | [] => none
    | c :: r => if c = 40 then rdParts (rdPart k) (r.length + 1) r []
      else if isAtomB c = true then some (.mk ((c :: r).takeWhile isAtomB) [], (c :: r).dropWhile isAtomB) else none

mutual
def trAtoms : Tr → Nat
  | .mk a ps => if a = [] then trsAtoms ps else 1
def trsAtoms : List Tr → Nat
  | [] => 0
  | t :: ts => trAtoms t + trsAtoms ts
end

mutual
def Wf : Tr → Prop
  | .mk a ps => (a ≠ [] ∧ ps = []) ∨ (a = [] ∧ ps ≠ [] ∧ Wfs ps)
def Wfs : List Tr → Prop
  | [] => True
  | t :: ts => Wf t ∧ Wfs ts
end

inductive Tm where
  | var (x : List UInt8)
  | lam (x : List UInt8) (b : Tm)
  | app (f a : Tm)

def tmTr : Tm → Tr
  | .var x => .mk x []
  | .lam x b => .mk [] [.mk sLam [], .mk x [], tmTr b]
  | .app f a => .mk [] [.mk sApp [], tmTr f, tmTr a]

def trTm : Tr → Option Tm
  | .mk a ps => if a ≠ [] then (if isNm a = true then some (.var a) else none) else
    match ps with
    | [p0, p1, p2] =>
      if p0.atom = sLam then (if isNm p1.atom = true then (trTm p2).map (.lam p1.atom) else none)
      else if p0.atom = sApp then (match trTm p1 with
        | none => none
        | some f => (trTm p2).map (.app f)) else none
    | _ => none

def Tm.atoms : Tm → Nat
  | .var _ => 1
  | .lam _ b => 2 + b.atoms
  | .app f a => 1 + f.atoms + a.atoms
def Tm.size : Tm → Nat
  | .var _ => 0
  | .lam _ b => 1 + b.size
  | .app f a => 1 + f.size + a.size

/-- The whole reading of a text as a tree. -/
def rdText (l : List UInt8) : Option Tr :=
  if 8000 < l.length then none else match rdPart 301 l with
    | some (t, []) => some t
    | _ => none
/-- The whole reading of a text as a term. -/
def rdTerm (l : List UInt8) : Option Tm :=
  match rdText l with
  | none => none
  | some t => if trAtoms t ≤ 400 then trTm t else none

theorem trTm_atom (a : List UInt8) (ps : List Tr) (h : a ≠ []) : trTm (.mk a ps) = if isNm a = true then some (.var a) else none := by
  unfold trTm; rw [if_pos h]
theorem trTm_few (ps : List Tr) (h : ps.length ≠ 3) : trTm (.mk [] ps) = none := by
  unfold trTm
  rw [if_neg (by simp)]
  match ps, h with
  | [], _ => rfl
  | [_], _ => rfl
  | [_, _], _ => rfl
  | _ :: _ :: _ :: _ :: _, _ => rfl
theorem trTm_three (p0 p1 p2 : Tr) : trTm (.mk [] [p0, p1, p2]) = if p0.atom = sLam then (if isNm p1.atom = true then (trTm p2).map (.lam p1.atom) else none)
      else if p0.atom = sApp then (match trTm p1 with
        | none => none
        | some f => (trTm p2).map (.app f)) else none := by
  conv => lhs; unfold trTm
  rw [if_neg (by simp)]
/-- Induction over trees: a property of all parts is known. -/
theorem Tr.all {p : Tr → Prop} (h : ∀ a ps, (∀ t, t ∈ ps → p t) → p (.mk a ps)) (t : Tr) : p t :=
  Tr.rec (motive_1 := p) (motive_2 := fun ts => ∀ t, t ∈ ts → p t) h (fun t ht => by cases ht)
    (fun t ts iht ihts t' ht' => by
      rcases List.mem_cons.1 ht' with rfl | h'
      · exact iht
      · exact ihts _ h') t
theorem trsAtoms_mem (t : Tr) (ps : List Tr) (h : t ∈ ps) : trAtoms t ≤ trsAtoms ps := by
  induction ps with
  | nil => cases h
  | cons p ps ih =>
    simp only [trsAtoms]
    rcases List.mem_cons.1 h with rfl | h
    · omega
    · have := ih h; omega
theorem Wfs_mem (t : Tr) (ps : List Tr) (h : t ∈ ps) (hw : Wfs ps) : Wf t := by
  induction ps with
  | nil => cases h
  | cons p ps ih =>
    simp only [Wfs] at hw
    rcases List.mem_cons.1 h with rfl | h
    · exact hw.1
    · exact ih h hw.2
theorem trsAtoms_append (a b : List Tr) : trsAtoms (a ++ b) = trsAtoms a + trsAtoms b := by
  induction a with
  | nil => simp [trsAtoms]
  | cons t ts ih => simp [trsAtoms, ih]; omega
theorem Wfs_append (a b : List Tr) : Wfs (a ++ b) ↔ Wfs a ∧ Wfs b := by
  induction a with
  | nil => simp [Wfs]
  | cons t ts ih => simp [Wfs, ih, and_assoc]

theorem rdParts_ok (rd : List UInt8 → Option (Tr × List UInt8)) (hrd : ∀ l t r, rd l = some (t, r) → Wf t ∧ trAtoms t + r.length ≤ l.length ∧ r.length < l.length) :
    ∀ n l acc t r, Wfs acc → rdParts rd n l acc = some (t, r) → Wf t ∧ trAtoms t + r.length ≤ trsAtoms acc + l.length ∧ r.length < l.length := by
  intro n
  induction n with
  | zero => intro l acc t r _ h; simp [rdParts] at h
  | succ n ih =>
    intro l acc t r hacc h
    unfold rdParts at h
    split at h
    · cases h
    · cases h
    · rename_i t1 c r1 h1
      obtain ⟨hw, ha, hl⟩ := hrd _ _ _ h1
      simp only [List.length_cons] at ha hl
      split at h
      · simp only [Option.some.injEq, Prod.mk.injEq] at h
        obtain ⟨rfl, rfl⟩ := h
        refine ⟨?_, ?_, by omega⟩
        · unfold Wf
          exact .inr ⟨rfl, by simp, by rw [Wfs_append]; exact ⟨hacc, by simp [Wfs, hw]⟩⟩
        · simp only [trAtoms, if_true, trsAtoms_append, trsAtoms]
          omega
      · split at h
        · obtain ⟨h2, h3, h4⟩ := ih _ _ _ _ (by rw [Wfs_append]; exact ⟨hacc, by simp [Wfs, hw]⟩) h
          rw [trsAtoms_append] at h3
          simp only [trsAtoms] at h3
          exact ⟨h2, by omega, by omega⟩
        · cases h

theorem rdPart_ok : ∀ k l t r, rdPart k l = some (t, r) → Wf t ∧ trAtoms t + r.length ≤ l.length ∧ r.length < l.length := by
  intro k
  induction k with
  | zero => intro l t r h; simp [rdPart] at h
  | succ k ih =>
    intro l t r h
    unfold rdPart at h
    split at h
    · cases h
    · rename_i c l'
      split at h
      · obtain ⟨h1, h2, h3⟩ := rdParts_ok _ ih _ _ _ _ _ (by simp [Wfs]) h
        simp only [trsAtoms, List.length_cons] at *
        exact ⟨h1, by omega, by omega⟩
      · split at h
        · rename_i hc
          simp only [Option.some.injEq, Prod.mk.injEq] at h
          obtain ⟨rfl, rfl⟩ := h
          have hd : List.dropWhile isAtomB (c :: l') = List.dropWhile isAtomB l' := by simp [hc]
          have ht : List.takeWhile isAtomB (c :: l') = c :: List.takeWhile isAtomB l' := by simp [hc]
          have hl : (List.dropWhile isAtomB l').length ≤ l'.length := (List.dropWhile_suffix _).length_le
          rw [hd, ht]
          refine ⟨?_, ?_, by simp; omega⟩
          · unfold Wf; exact .inl ⟨by simp, rfl⟩
          · simp [trAtoms]; omega
        · cases h

theorem rdText_ok (l : List UInt8) (t : Tr) (h : rdText l = some t) : Wf t ∧ trAtoms t ≤ l.length ∧ l.length ≤ 8000 := by
  unfold rdText at h
  split at h
  · cases h
  · split at h
    · rename_i t' h1
      cases h
      obtain ⟨a, b, _⟩ := rdPart_ok _ _ _ _ h1
      exact ⟨a, by simp at b; omega, by omega⟩
    · cases h

theorem trTm_eq : ∀ (t : Tm) (tr : Tr), Wf tr → trTm tr = some t → tr = tmTr t := by
  intro t
  induction t with
  | var x =>
    intro tr hw h
    obtain ⟨a, ps⟩ := tr
    unfold trTm at h
    unfold Wf at hw
    split at h
    · split at h
      · simp only [Option.some.injEq, Tm.var.injEq] at h
        rcases hw with ⟨_, h2⟩ | ⟨h2, _⟩
        · subst h h2; rfl
        · contradiction
      · cases h
    · split at h
      · repeat' (split at h)
        all_goals simp at h
      · cases h
  | lam x b ih =>
    intro tr hw h
    obtain ⟨a, ps⟩ := tr
    unfold trTm at h
    unfold Wf at hw
    split at h
    · split at h <;> simp at h
    · rename_i ha
      simp only [ne_eq, Decidable.not_not] at ha
      subst ha
      rcases hw with ⟨h2, _⟩ | ⟨_, _, h2⟩
      · contradiction
      split at h
      · rename_i p0 p1 p2 _
        simp only [Wfs] at h2
        obtain ⟨w0, w1, w2, _⟩ := h2
        split at h
        · rename_i hl
          split at h
          · rename_i hn
            simp only [Option.map_eq_some_iff, Tm.lam.injEq] at h
            obtain ⟨b', hb, rfl, rfl⟩ := h
            rw [ih p2 w2 hb]
            obtain ⟨a0, q0⟩ := p0
            obtain ⟨a1, q1⟩ := p1
            simp only [Tr.atom] at hl hn ⊢
            unfold Wf at w0 w1
            rcases w0 with ⟨_, rfl⟩ | ⟨rfl, _⟩
            · rcases w1 with ⟨_, rfl⟩ | ⟨rfl, _⟩
              · rw [hl]; rfl
              · simp [isNm] at hn
            · simp [sLam] at hl
          · cases h
        · split at h
          · split at h <;> simp at h
          · cases h
      · cases h
  | app f a ihf iha =>
    intro tr hw h
    obtain ⟨a', ps⟩ := tr
    unfold trTm at h
    unfold Wf at hw
    split at h
    · split at h <;> simp at h
    · rename_i ha
      simp only [ne_eq, Decidable.not_not] at ha
      subst ha
      rcases hw with ⟨h2, _⟩ | ⟨_, _, h2⟩
      · contradiction
      split at h
      · rename_i p0 p1 p2 _
        simp only [Wfs] at h2
        obtain ⟨w0, w1, w2, _⟩ := h2
        split at h
        · split at h <;> simp at h
        · split at h
          · rename_i hl
            split at h
            · cases h
            · rename_i f' hf
              simp only [Option.map_eq_some_iff, Tm.app.injEq] at h
              obtain ⟨a'', hb, rfl, rfl⟩ := h
              rw [ihf p1 w1 hf, iha p2 w2 hb]
              obtain ⟨a0, q0⟩ := p0
              simp only [Tr.atom] at hl
              unfold Wf at w0
              rcases w0 with ⟨_, rfl⟩ | ⟨rfl, _⟩
              · rw [hl]; rfl
              · simp [sApp] at hl
          · cases h
      · cases h

end Go.Proofs.YtjcdclnaplojcaaGreatDoor
