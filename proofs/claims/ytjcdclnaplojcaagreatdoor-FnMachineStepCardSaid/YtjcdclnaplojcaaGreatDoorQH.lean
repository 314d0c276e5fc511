/- The program's StepOf, the model's run, and the law that a step takes away one push and one take, walked. -/
import Derived.Test.YtjcdclnaplojcaaGreatDoorJ2
import Derived.Test.YtjcdclnaplojcaaGreatDoorJ7
import Derived.Test.YtjcdclnaplojcaaGreatDoorJA
namespace Go.Proofs.YtjcdclnaplojcaaGreatDoor
set_option linter.unusedVariables false
set_option linter.unusedSimpArgs false
section


/-- An environment by depths. -/
inductive DE where
  | nil
  | clo (d : DB) (e : DE) (r : DE)
  | opn (r : DE)
def DE.get : DE → Nat → DE
  | .nil, _ => .nil
  | .clo d e r, 0 => .clo d e r
  | .clo _ _ r, n + 1 => r.get n
  | .opn r, 0 => .opn r
  | .opn r, n + 1 => r.get n
structure DS where
  d : DB
  e : DE
  st : List (DB × DE)
def dstep (S : DS) : Option (Mv × DS) :=
  match S.d with
  | .app f a => some (.p, ⟨f, S.e, (a, S.e) :: S.st⟩)
  | .lam _ b => match S.st with
    | (a, ea) :: st => some (.t, ⟨b, .clo a ea S.e, st⟩)
    | [] => some (.o, ⟨b, .opn S.e, []⟩)
  | .bnd i => match S.e.get i with
    | .clo d e _ => some (.l, ⟨d, e, S.st⟩)
    | _ => none
  | .free _ => none
def Env.dE : Env → DE
  | .nil => .nil
  | .clo _ t e r => .clo (toDB e.names t) e.dE r.dE
  | .opn _ _ r => .opn r.dE
def St.dS (S : St) : DS := ⟨toDB S.e.names S.t, S.e.dE, S.st.map fun p => (toDB p.2.names p.1, p.2.dE)⟩
theorem dE_get (x : List UInt8) : ∀ (e : Env) (d : Nat), lk e.names x = some d → e.dE.get d = (e.look x).dE := by
  intro e
  induction e with
  | nil => intro d h; simp [Env.names, lk] at h
  | clo y t e r _ ih =>
    intro d h
    simp only [Env.names, lk] at h
    split at h
    · rename_i hy
      injection h with h
      subst h
      simp [Env.look, hy, Env.dE, DE.get]
    · rename_i hy
      rw [Option.map_eq_some_iff] at h
      obtain ⟨d', hd, rfl⟩ := h
      simp only [Env.look, if_neg hy, Env.dE, DE.get]
      exact ih d' hd
  | opn y k r ih =>
    intro d h
    simp only [Env.names, lk] at h
    split at h
    · rename_i hy
      injection h with h
      subst h
      simp [Env.look, hy, Env.dE, DE.get]
    · rename_i hy
      rw [Option.map_eq_some_iff] at h
      obtain ⟨d', hd, rfl⟩ := h
      simp only [Env.look, if_neg hy, Env.dE, DE.get]
      exact ih d' hd
theorem dstep_dS (S : St) : dstep S.dS = (mstep S).map fun p => (p.1, p.2.dS) := by
  obtain ⟨t, e, st, op⟩ := S
  cases t with
  | app f a => rfl
  | lam x b => cases st with
    | nil => rfl
    | cons p st => rfl
  | var x =>
    unfold dstep mstep St.dS
    simp only
    cases hk : lk e.names x with
    | none =>
      simp only [toDB, hk]
      rw [look_none x e hk]
      rfl
    | some d =>
      simp only [toDB, hk]
      rw [dE_get x e d hk]
      cases e.look x <;> rfl

/-- A run by depths. -/
inductive DR : DS → List Mv → DS → Prop where
  | done {S : DS} (h : dstep S = none) : DR S [] S
  | step {S S' E : DS} {k : Mv} {m : List Mv} (h : dstep S = some (k, S')) (r : DR S' m E) : DR S (k :: m) E
theorem DR.fun_ {S E : DS} {m : List Mv} (h : DR S m E) : ∀ {E' : DS} {m' : List Mv}, DR S m' E' → m = m' ∧ E = E' := by
  induction h with
  | done h =>
    intro E' m' h2
    cases h2 with
    | done _ => exact ⟨rfl, rfl⟩
    | step h3 _ => rw [h] at h3; cases h3
  | step h r ih =>
    intro E' m' h2
    cases h2 with
    | done h3 => rw [h] at h3; cases h3
    | step h3 r3 =>
      rw [h] at h3
      injection h3 with h3
      injection h3 with h4 h5
      subst h4 h5
      obtain ⟨h6, h7⟩ := ih r3
      exact ⟨by rw [h6], h7⟩
theorem run_DR : ∀ (f : Nat) (S : St) (m : List Mv) (S' : St) (m' : List Mv), mrun f S m = some (S', m') → ∃ n, m' = m ++ n ∧ DR S.dS n S'.dS := by
  have h0 : ∀ S : St, mstep S = none → DR S.dS [] S.dS := fun S h => .done (by rw [dstep_dS, h]; rfl)
  intro f
  induction f with
  | zero =>
    intro S m S' m' hr
    unfold mrun at hr
    split at hr
    · rename_i hn
      injection hr with hr; injection hr with h1 h2; subst h1 h2
      exact ⟨[], by simp, h0 S hn⟩
    · cases hr
  | succ f ih =>
    intro S m S' m' hr
    unfold mrun at hr
    split at hr
    · rename_i hn
      injection hr with hr; injection hr with h1 h2; subst h1 h2
      exact ⟨[], by simp, h0 S hn⟩
    · rename_i k S2 hk
      obtain ⟨n, h1, h2⟩ := ih S2 _ S' m' hr
      exact ⟨k :: n, by rw [h1]; simp, .step (by rw [dstep_dS, hk]; rfl) h2⟩

/-- The second environment is the first one with some closures put in their places; the list says what each name has become. -/
inductive JE : DE → DE → List DB → Prop where
  | nil : JE .nil .nil []
  | clo {d d' : DB} {e e' r r' : DE} {s t : List DB} (h : JE r r' s) (k : JE e e' t) (hd : d'.bare = (psub t 0 d).bare) (hs : d.shut t.length) : JE (.clo d e r) (.clo d' e' r') (.bnd 0 :: s.map (moveD 1 0))
  | opn {r r' : DE} {s : List DB} (h : JE r r' s) : JE (.opn r) (.opn r') (.bnd 0 :: s.map (moveD 1 0))
  | inl {a : DB} {r r' : DE} {s : List DB} (h : JE r r' s) (hs : a.shut s.length) : JE (.clo a r r) r' (psub s 0 a :: s)
  | wkc {d : DB} {e r r' : DE} {s : List DB} (h : JE r r' s) : JE r (.clo d e r') (s.map (moveD 1 0))
  | wko {r r' : DE} {s : List DB} (h : JE r r' s) : JE r (.opn r') (s.map (moveD 1 0))
def CE (d : DB) (e : DE) (d' : DB) (e' : DE) : Prop := ∃ s, JE e e' s ∧ d'.bare = (psub s 0 d).bare ∧ d.shut s.length
theorem CE.lift {d d' : DB} {e r r2 : DE} (h : CE d e d' r) (hw : ∀ s, JE e r s → JE e r2 (s.map (moveD 1 0))) : CE d e (moveD 1 0 d') r2 := by
  obtain ⟨s, h1, h2, h3⟩ := h
  refine ⟨_, hw s h1, ?_, by rw [List.length_map]; exact h3⟩
  rw [← psub_lift s d 0 h3, ← moveD_bare, h2, moveD_bare]
theorem CE.congr {d d' d2 : DB} {e e' : DE} (h : CE d e d' e') (hb : d2.bare = d'.bare) : CE d e d2 e' := by
  obtain ⟨s, h1, h2, h3⟩ := h
  exact ⟨s, h1, hb.trans h2, h3⟩
/-- What a name has become. -/
def Found (e1 e2 : DE) (i : Nat) (x : DB) : Prop :=
  (∃ j, x = .bnd j ∧ ((∃ r1 r2, e1.get i = .opn r1 ∧ e2.get j = .opn r2) ∨ (∃ d e r1 d' e' r2, e1.get i = .clo d e r1 ∧ e2.get j = .clo d' e' r2 ∧ CE d e d' e'))) ∨
  (∃ a e r, e1.get i = .clo a e r ∧ CE a e x e2)
theorem JE.found {e1 e2 : DE} {s : List DB} (h : JE e1 e2 s) : ∀ (i : Nat) (x : DB), s[i]? = some x → Found e1 e2 i x := by
  induction h with
  | nil => intro i x hx; simp at hx
  | @clo d d' e e' r r' s t h k hd hs ih ih2 =>
    intro i x hx
    cases i with
    | zero =>
      simp at hx
      exact .inl ⟨0, hx.symm, .inr ⟨d, e, r, d', e', r', rfl, rfl, t, k, hd, hs⟩⟩
    | succ i =>
      simp only [List.getElem?_cons_succ, List.getElem?_map, Option.map_eq_some_iff] at hx
      obtain ⟨y, hy, rfl⟩ := hx
      rcases ih i y hy with ⟨j, rfl, h1⟩ | ⟨a, ea, ra, h1, h2⟩
      · exact .inl ⟨j + 1, by simp [moveD], h1⟩
      · exact .inr ⟨a, ea, ra, h1, h2.lift fun s hs => .wkc hs⟩
  | @opn r r' s h ih =>
    intro i x hx
    cases i with
    | zero =>
      simp at hx
      exact .inl ⟨0, hx.symm, .inl ⟨r, r', rfl, rfl⟩⟩
    | succ i =>
      simp only [List.getElem?_cons_succ, List.getElem?_map, Option.map_eq_some_iff] at hx
      obtain ⟨y, hy, rfl⟩ := hx
      rcases ih i y hy with ⟨j, rfl, h1⟩ | ⟨a, ea, ra, h1, h2⟩
      · exact .inl ⟨j + 1, by simp [moveD], h1⟩
      · exact .inr ⟨a, ea, ra, h1, h2.lift fun s hs => .wko hs⟩
  | @inl a r r' s h hs ih =>
    intro i x hx
    cases i with
    | zero =>
      simp at hx
      subst hx
      exact .inr ⟨a, r, r, rfl, s, h, rfl, hs⟩
    | succ i =>
      simp only [List.getElem?_cons_succ] at hx
      exact ih i x hx
  | @wkc d e r r' s h ih =>
    intro i x hx
    simp only [List.getElem?_map, Option.map_eq_some_iff] at hx
    obtain ⟨y, hy, rfl⟩ := hx
    rcases ih i y hy with ⟨j, rfl, h1⟩ | ⟨a, ea, ra, h1, h2⟩
    · exact .inl ⟨j + 1, by simp [moveD], h1⟩
    · exact .inr ⟨a, ea, ra, h1, h2.lift fun s hs => .wkc hs⟩
  | @wko r r' s h ih =>
    intro i x hx
    simp only [List.getElem?_map, Option.map_eq_some_iff] at hx
    obtain ⟨y, hy, rfl⟩ := hx
    rcases ih i y hy with ⟨j, rfl, h1⟩ | ⟨a, ea, ra, h1, h2⟩
    · exact .inl ⟨j + 1, by simp [moveD], h1⟩
    · exact .inr ⟨a, ea, ra, h1, h2.lift fun s hs => .wko hs⟩

def SRs : List (DB × DE) → List (DB × DE) → Prop
  | [], l => l = []
  | p :: st, l => ∃ q r, l = q :: r ∧ CE p.1 p.2 q.1 q.2 ∧ SRs st r
theorem SRs.len : ∀ {a b : List (DB × DE)}, SRs a b → a.length = b.length := by
  intro a
  induction a with
  | nil => intro b h; cases h; rfl
  | cons p a ih => intro b h; obtain ⟨q, r, rfl, _, h2⟩ := h; simp [ih h2]
def SR (S1 S2 : DS) : Prop := CE S1.d S1.e S2.d S2.e ∧ SRs S1.st S2.st
theorem bare_app {d : DB} {f a : DB} (h : d.bare = (DB.app f a).bare) : ∃ f' a', d = .app f' a' ∧ f'.bare = f.bare ∧ a'.bare = a.bare := by
  cases d with
  | app g c => simp only [DB.bare, DB.app.injEq] at h; exact ⟨g, c, rfl, h.1, h.2⟩
  | free x => simp [DB.bare] at h
  | bnd i => simp [DB.bare] at h
  | lam x b => simp [DB.bare] at h
theorem bare_lam {d : DB} {x : List UInt8} {b : DB} (h : d.bare = (DB.lam x b).bare) : ∃ y b', d = .lam y b' ∧ b'.bare = b.bare := by
  cases d with
  | lam y c => simp only [DB.bare, DB.lam.injEq] at h; exact ⟨y, c, rfl, h.2⟩
  | free x => simp [DB.bare] at h
  | bnd i => simp [DB.bare] at h
  | app f a => simp [DB.bare] at h
theorem bare_bnd {d : DB} {i : Nat} (h : d.bare = (DB.bnd i).bare) : d = .bnd i := by
  cases d with
  | bnd j => simpa [DB.bare] using h
  | free x => simp [DB.bare] at h
  | lam x b => simp [DB.bare] at h
  | app f a => simp [DB.bare] at h
theorem bare_free {d : DB} {x : List UInt8} (h : d.bare = (DB.free x).bare) : d = .free x := by
  cases d with
  | free y => simpa [DB.bare] using h
  | bnd i => simp [DB.bare] at h
  | lam x b => simp [DB.bare] at h
  | app f a => simp [DB.bare] at h
/-- A move of the first state is one of the second one, or a lookup that this one need not make; both end together. -/
theorem SR.step {S1 S2 : DS} (h : SR S1 S2) : (∀ k S1', dstep S1 = some (k, S1') → (∃ S2', dstep S2 = some (k, S2') ∧ SR S1' S2') ∨ (k = .l ∧ SR S1' S2)) ∧ (dstep S1 = none → dstep S2 = none) := by
  obtain ⟨d1, e1, st1⟩ := S1
  obtain ⟨d2, e2, st2⟩ := S2
  obtain ⟨⟨s, hj, hb, hs⟩, hst⟩ := h
  simp only at hj hb hs hst
  cases d1 with
  | free x =>
    obtain rfl := bare_free hb
    exact ⟨fun k S1' h => by simp [dstep] at h, fun _ => rfl⟩
  | app f a =>
    obtain ⟨f', a', rfl, hf, ha⟩ := bare_app hb
    refine ⟨fun k S1' h => ?_, fun h => by simp [dstep] at h⟩
    simp only [dstep] at h
    injection h with h; injection h with h1 h2; subst h1 h2
    exact .inl ⟨_, rfl, ⟨s, hj, hf, hs.1⟩, ⟨_, _, rfl, ⟨s, hj, ha, hs.2⟩, hst⟩⟩
  | lam x b =>
    obtain ⟨y, b', rfl, hb2⟩ := bare_lam hb
    have hop : b'.bare = (psub (.bnd 0 :: s.map (moveD 1 0)) 0 b).bare := by rw [hb2, psub_open s b 0 hs]
    have hsh : b.shut ((DB.bnd 0 :: s.map (moveD 1 0)).length) := by rw [List.length_cons, List.length_map]; exact hs
    cases st1 with
    | nil =>
      cases hst
      refine ⟨fun k S1' h => ?_, fun h => by simp [dstep] at h⟩
      simp only [dstep] at h
      injection h with h; injection h with h1 h2; subst h1 h2
      exact .inl ⟨_, rfl, ⟨_, .opn hj, hop, hsh⟩, rfl⟩
    | cons p st1 =>
      obtain ⟨q, r, rfl, ⟨t, k1, k2, k3⟩, hst2⟩ := hst
      refine ⟨fun k S1' h => ?_, fun h => by simp [dstep] at h⟩
      simp only [dstep] at h
      injection h with h; injection h with h1 h2; subst h1 h2
      exact .inl ⟨_, rfl, ⟨_, .clo hj k1 k2 k3, hop, hsh⟩, hst2⟩
  | bnd i =>
    have hi : i < s.length := hs
    have hx : s[i]? = some s[i] := List.getElem?_eq_getElem hi
    have hb2 : d2.bare = (s[i]).bare := by
      rw [hb]
      simp only [psub, Nat.not_lt_zero, if_false, Nat.sub_zero, hx, moveD_zero]
    rcases hj.found i _ hx with ⟨j, hj2, ⟨r1, r2, g1, g2⟩ | ⟨d, e, r1, d', e', r2, g1, g2, hc⟩⟩ | ⟨a, e, r, g1, hc⟩
    · rw [hj2] at hb2
      obtain rfl := bare_bnd hb2
      exact ⟨fun k S1' h => by simp [dstep, g1] at h, fun _ => by simp [dstep, g2]⟩
    · rw [hj2] at hb2
      obtain rfl := bare_bnd hb2
      refine ⟨fun k S1' h => ?_, fun h => by simp [dstep, g1] at h⟩
      simp only [dstep, g1] at h
      injection h with h; injection h with h1 h2; subst h1 h2
      exact .inl ⟨⟨d', e', st2⟩, by simp only [dstep, g2], hc, hst⟩
    · refine ⟨fun k S1' h => ?_, fun h => by simp [dstep, g1] at h⟩
      simp only [dstep, g1] at h
      injection h with h; injection h with h1 h2; subst h1 h2
      exact .inr ⟨rfl, hc.congr hb2, hst⟩
/-- The second run has as many pushes, takes and opens, no more lookups, and as many closures are left. -/
structure Fewer (m m2 : List Mv) (E E2 : DS) (d : Nat) : Prop where
  p : mvN .p m = mvN .p m2 + d
  t : mvN .t m = mvN .t m2 + d
  o : mvN .o m = mvN .o m2
  l : mvN .l m2 ≤ mvN .l m
  st : E.st.length = E2.st.length
theorem mvN_cons (k j : Mv) (m : List Mv) : mvN k (j :: m) = mvN k m + if j.code = k.code then 1 else 0 := by
  simp only [mvN, List.filter_cons]
  split <;> rename_i h <;> simp at h <;> simp [h]
theorem Fewer.both {m m2 : List Mv} {E E2 : DS} {d : Nat} (h : Fewer m m2 E E2 d) (k : Mv) : Fewer (k :: m) (k :: m2) E E2 d := by
  obtain ⟨h1, h2, h3, h4, h5⟩ := h
  refine ⟨?_, ?_, ?_, ?_, h5⟩ <;> simp only [mvN_cons] <;> omega
theorem DR.sim {S1 E1 : DS} {m : List Mv} (h : DR S1 m E1) : ∀ {S2 : DS}, SR S1 S2 → ∃ m2 E2, DR S2 m2 E2 ∧ Fewer m m2 E1 E2 0 := by
  induction h with
  | @done S h =>
    intro S2 hr
    exact ⟨[], S2, .done (hr.step.2 h), ⟨rfl, rfl, rfl, Nat.le_refl _, hr.2.len⟩⟩
  | @step S S' E k m h r ih =>
    intro S2 hr
    rcases hr.step.1 k S' h with ⟨S2', h1, h2⟩ | ⟨hk, h2⟩
    · obtain ⟨m2, E2, h3, h4⟩ := ih h2
      exact ⟨k :: m2, E2, .step h1 h3, h4.both k⟩
    · obtain ⟨m2, E2, h3, ⟨g1, g2, g3, g4, g5⟩⟩ := ih h2
      subst hk
      exact ⟨m2, E2, h3, by
        refine ⟨?_, ?_, ?_, ?_, g5⟩ <;> simp only [mvN_cons, Mv.code] <;> simp <;> omega⟩

/-- The environment of so many opens, and its names. -/
def idE : Nat → DE
  | 0 => .nil
  | n + 1 => .opn (idE n)
def ids : Nat → List DB
  | 0 => []
  | n + 1 => .bnd 0 :: (ids n).map (moveD 1 0)
theorem ids_len (n : Nat) : (ids n).length = n := by
  induction n with
  | zero => rfl
  | succ n ih => simp [ids, ih]
theorem ids_at : ∀ (n i : Nat), i < n → (ids n)[i]? = some (.bnd i) := by
  intro n
  induction n with
  | zero => intro i h; omega
  | succ n ih =>
    intro i h
    cases i with
    | zero => rfl
    | succ i =>
      simp only [ids, List.getElem?_cons_succ, List.getElem?_map, ih i (by omega)]
      simp [moveD]
theorem idJ (n : Nat) : JE (idE n) (idE n) (ids n) := by
  induction n with
  | zero => exact .nil
  | succ n ih => exact .opn ih
theorem psub_ids (n : Nat) (d : DB) : ∀ k, d.shut (n + k) → psub (ids n) k d = d := by
  induction d with
  | free y => intro k _; rfl
  | bnd i =>
    intro k h
    simp only [DB.shut] at h
    simp only [psub]
    by_cases hk : i < k
    · rw [if_pos hk]
    · rw [if_neg hk, ids_at n (i - k) (by omega)]
      simp only [moveD, Nat.zero_le, if_true]
      rw [show i - k + k = i from by omega]
  | lam y b ih => intro k h; simp only [psub]; rw [ih (k + 1) (by simpa [DB.shut, Nat.add_assoc] using h)]
  | app f a ihf iha => intro k h; simp only [psub]; rw [ihf k h.1, iha k h.2]
theorem id_CE (n : Nat) {d d' : DB} (h : d.shut n) (hb : d'.bare = d.bare) : CE d (idE n) d' (idE n) :=
  ⟨ids n, idJ n, by rw [psub_ids n d 0 h]; exact hb, by rw [ids_len]; exact h⟩
theorem head_less : ∀ (d : DB) (n : Nat) (st1 st2 : List (DB × DE)) (d' d2 : DB) (m : List Mv) (E : DS), headD d = some d' → (d.isLam = true → st1 = []) → d.shut n → SRs st1 st2 → DR ⟨d, idE n, st1⟩ m E → d2.bare = d'.bare →
    ∃ m2 E2, DR ⟨d2, idE n, st2⟩ m2 E2 ∧ Fewer m m2 E E2 1 := by
  intro d
  induction d with
  | free x => intro n st1 st2 d' d2 m E h; cases h
  | bnd i => intro n st1 st2 d' d2 m E h; cases h
  | lam x b ih =>
    intro n st1 st2 d' d2 m E h hl hs hst hr hb
    obtain rfl := hl rfl
    cases hst
    simp only [headD, Option.map_eq_some_iff] at h
    obtain ⟨b', hb', rfl⟩ := h
    obtain ⟨y, b2, rfl, hb2⟩ := bare_lam hb
    cases hr with
    | done h => simp [dstep] at h
    | step h r =>
      simp only [dstep] at h
      injection h with h; injection h with h1 h2; subst h1 h2
      obtain ⟨m2, E2, h3, h4⟩ := ih (n + 1) [] [] b' b2 _ E hb' (fun _ => rfl) hs rfl r hb2
      exact ⟨.o :: m2, E2, .step rfl h3, h4.both _⟩
  | app f a ihf iha =>
    intro n st1 st2 d' d2 m E h _ hs hst hr hb
    cases hr with
    | done h => simp [dstep] at h
    | step h3 r =>
      simp only [dstep] at h3
      injection h3 with h3; injection h3 with h1 h2; subst h1 h2
      cases hfl : f.isLam with
      | true =>
        cases f with
        | free x => cases hfl
        | bnd i => cases hfl
        | app g c => cases hfl
        | lam x b =>
          simp only [headD] at h
          injection h with h
          subst h
          cases r with
          | done h => simp [dstep] at h
          | step h3 r =>
            simp only [dstep] at h3
            injection h3 with h3; injection h3 with h1 h2; subst h1 h2
            have hbs : b.shut ((ids n).length + 1 + 0) := by rw [ids_len]; exact hs.1
            have hpa : psub (ids n) 0 a = a := psub_ids n a 0 hs.2
            have hpb : psub (ids n) 1 b = b := psub_ids n b 1 hs.1
            have he := putB_psub a (ids n) b 0 hbs
            rw [Nat.zero_add, hpb] at he
            have hJ : JE (.clo a (idE n) (idE n)) (idE n) (psub (ids n) 0 a :: ids n) := .inl (idJ n) (by rw [ids_len]; exact hs.2)
            rw [hpa] at hJ
            have hSR : SR ⟨b, .clo a (idE n) (idE n), st1⟩ ⟨d2, idE n, st2⟩ := ⟨⟨_, hJ, by rw [hb, he], by rw [List.length_cons, ids_len]; exact hs.1⟩, hst⟩
            obtain ⟨m2, E2, h5, ⟨g1, g2, g3, g4, g5⟩⟩ := r.sim hSR
            exact ⟨m2, E2, h5, by refine ⟨?_, ?_, ?_, ?_, g5⟩ <;> simp only [mvN_cons, Mv.code] <;> simp <;> omega⟩
      | false =>
        rw [headD_app f a hfl, Option.map_eq_some_iff] at h
        obtain ⟨f', hf', rfl⟩ := h
        obtain ⟨f2, a2, rfl, hf2, ha2⟩ := bare_app hb
        obtain ⟨m2, E2, h5, h6⟩ := ihf n ((a, idE n) :: st1) ((a2, idE n) :: st2) f' f2 _ E hf' (fun h => by rw [hfl] at h; cases h) hs.1 ⟨_, _, rfl, id_CE n hs.2 ha2, hst⟩ r hf2
        exact ⟨.p :: m2, E2, .step rfl h5, h6.both _⟩
/-- A head step of a term takes one push and one take of its run away. -/
theorem step_less {t t2 : Tm} {S S2 : St} {m m2 : List Mv} {d : DB} (h : mrun 3000 ⟨t, .nil, [], 0⟩ [] = some (S, m)) (h2 : mrun 3000 ⟨t2, .nil, [], 0⟩ [] = some (S2, m2)) (hd : headD (toDB [] t) = some d) (hb : (toDB [] t2).bare = d.bare) :
    mvN .p m = mvN .p m2 + 1 ∧ mvN .t m = mvN .t m2 + 1 ∧ mvN .o m = mvN .o m2 ∧ mvN .l m2 ≤ mvN .l m ∧ S.st.length = S2.st.length := by
  obtain ⟨n1, e1, r1⟩ := run_DR _ _ _ _ _ h
  obtain ⟨n2, e2, r2⟩ := run_DR _ _ _ _ _ h2
  simp only [List.nil_append] at e1 e2
  subst e1 e2
  obtain ⟨m3, E3, r3, ⟨g1, g2, g3, g4, g5⟩⟩ := head_less (toDB [] t) 0 [] [] d (toDB [] t2) m S.dS hd (fun _ => rfl) (toDB_shut t []) rfl r1 hb
  obtain ⟨q1, q2⟩ := r3.fun_ r2
  subst q1 q2
  refine ⟨g1, g2, g3, g4, ?_⟩
  simpa [St.dS] using g5

end
open Go.RowKit

/-- A head step of what is read takes one push and one take of its run away. -/
theorem step_law {y : List UInt8} {S S2 : St} {m m2 : List Mv} {u : Tm} (hr : mcR y = some (S, m)) (hu : stO (rdKind [104, 101, 97, 100]) (rdTerm y) = some u) (h2 : mcR (wrTm u) = some (S2, m2)) :
    mvN .p m = mvN .p m2 + 1 ∧ mvN .t m = mvN .t m2 + 1 ∧ mvN .o m = mvN .o m2 ∧ mvN .l m2 ≤ mvN .l m ∧ S.st.length = S2.st.length := by
  rw [show rdKind [104, 101, 97, 100] = some true from rfl] at hu
  unfold mcR at hr
  split at hr
  · cases hr
  · rename_i t ht
    rw [ht] at hu
    simp only [stO] at hu
    obtain ⟨hok, hat⟩ := rdTerm_good _ _ ht
    obtain ⟨g1, g2⟩ := next_good true t hok hat u hu
    unfold mcR at h2
    rw [rdTerm_wr u g1, if_pos g2] at h2
    simp only at h2
    have h3 := next_eq true t hok hat
    rw [hu] at h3
    unfold nextD at h3
    split at h3
    · cases h3
    · rename_i e he
      split at h3
      · simp only [Option.map_some, Option.some.injEq] at h3
        exact step_less hr h2 (by simpa [stepD] using he) (by rw [← h3, bare_canD])
      · cases h3
/-- What a step answers is short. -/
theorem stO_short (k : Option Bool) (s : List UInt8) : (ctS (stO k (rdTerm s))).length ≤ 4800 := by
  cases k with
  | none => simp [stO, ctS]
  | some k =>
    cases ht : rdTerm s with
    | none => simp [stO, ctS]
    | some t =>
      obtain ⟨hok, hat⟩ := rdTerm_good _ _ ht
      cases hn : nextT k t with
      | none => simp [stO, ctS, hn]
      | some u =>
        obtain ⟨g1, g2⟩ := next_good k t hok hat u hn
        have := wrTm_short u g1
        simp only [stO, ctS, hn]
        omega



set_option maxRecDepth 100000 in
theorem implStepOf_any (x : List UInt8) (s : ByteArray) (w : World) (hm : s.size ≤ maxLen) (ht : Tab w) :
    Calls Tryz.prog 20 #[.string ⟨x.toArray⟩, .string s] w (CtPost (stO (rdKind x) (rdTerm s.data.toList)) w) := by
  have HT := Lib.hid ht
  clear ht
  go_enter Tryz.func20, Tryz.ntmps20
  go_wp2_with fail
  refine (readKindAndTerm_any x s _ hm).mono ?_
  rintro e w1 ⟨hb1, ⟨k, t, b, hk, hrd, rfl, htr⟩ | ⟨hno, u, rfl⟩⟩
  · obtain ⟨hok, hat⟩ := rdTerm_good _ _ hrd
    have C := Lib.hid (step_any k t hok hat _ w1 htr.tm (HT.out.below hb1))
    have HE : Hid (stO (rdKind x) (rdTerm s.data.toList) = nextT k t) := Lib.hid (by rw [hk, hrd]; rfl)
    have HG := Lib.hid (next_good k t hok hat)
    clear hk hrd htr hok hat
    go_wp2_with fail
    refine C.out.mono ?_
    rintro e w2 ⟨hb2, ⟨o, b2, hn, rfl, hd2⟩ | ⟨hn, rfl⟩⟩
    · obtain ⟨g1, g2⟩ := HG.out o hn
      have CT := Lib.hid (textNil_any o g1 g2 _ rfl _ w2 hd2)
      have HN := Lib.hid hn
      have HB := Lib.hid (hb1.trans (hb2.mono hb1.size))
      clear hn hd2 hb1 hb2
      go_wp2_with fail
      refine CT.out.mono ?_
      rintro e w3 ⟨rfl, hb3⟩
      have HB3 := Lib.hid (HB.out.trans (hb3.mono HB.out.size))
      clear hb3
      go_wp2_with fail
      go_ret2
      exact ⟨by rw [HE.out, HN.out]; rfl, HB3.out⟩
    · have HN := Lib.hid hn
      have HB := Lib.hid (hb1.trans (hb2.mono hb1.size))
      clear hn hb1 hb2
      go_wp2_with fail
      go_ret2
      exact ⟨by rw [HE.out, HN.out]; rfl, HB.out⟩
  · have HE := Lib.hid (stO_no _ _ hno)
    clear hno
    go_wp2_with fail
    go_ret2
    exact ⟨by rw [HE.out]; rfl, hb1⟩

set_option maxRecDepth 100000 in
set_option maxHeartbeats 4000000 in
theorem specMachineRun_any (s : ByteArray) (w : World) (hm : s.size ≤ maxLen) :
    Calls Tryz.prog 18 #[.string s] w fun q w' => q = rnE (mcR s.data.toList) ∧ Below w.heap.size w w' := by
  go_enter Tryz.func18, Tryz.ntmps18
  go_wp2_with fail
  refine (l7Run_any s _ hm).mono ?_
  rintro e w1 ⟨hb1, hcase⟩
  have hr := (Blk.new w 31 #[.int .i64 0, .int .i64 0, .int .i64 0, .int .i64 0, .string ⟨#[]⟩, .int .i64 0, .int .i64 0]).below hb1 (by simp)
  have hB : Below w.heap.size w w1 := ((Below.refl _ _).alloc (Nat.le_refl _) _).trans (hb1.mono (by simp))
  have r0 := hr.cell 0
  have r1 := hr.cell 1
  have r2 := hr.cell 2
  have r3 := hr.cell 3
  have r4 := hr.cell 4
  have r5 := hr.cell 5
  have r6 := hr.cell 6
  have rf := hr.frozen
  have rl := hr.lt
  simp only [List.getElem?_toArray, List.getElem?_cons_zero, List.getElem?_cons_succ] at r0 r1 r2 r3 r4 r5 r6
  have HRB := Lib.hid hr
  have HB := Lib.hid hB
  clear hr hb1 hB
  rcases hcase with ⟨S, m, sb, u0, u1, u2, u3, u4, hres, rfl, hbx⟩ | ⟨hres, sb, rfl⟩
  · have b5 := hbx.cell 5
    have b6 := hbx.cell 6
    have b7 := hbx.cell 7
    have b8 := hbx.cell 8
    have b9 := hbx.cell 9
    have b10 := hbx.cell 10
    have b11 := hbx.cell 11
    have bl := hbx.lt
    simp only [List.getElem?_toArray, List.getElem?_cons_zero, List.getElem?_cons_succ] at b5 b6 b7 b8 b9 b10 b11
    have HR : Hid (rnE (mcR s.data.toList) = .returned (.tuple #[rnV (mvN .p m) (mvN .t m) (mvN .o m) (mvN .l m) S.name S.st.length (mvN .o m), .bool true])) := Lib.hid (by rw [hres]; rfl)
    generalize mvN .p m = np at *
    generalize mvN .t m = nt at *
    generalize mvN .o m = no at *
    generalize mvN .l m = nl at *
    generalize S.name = nm at *
    generalize S.st.length = na at *
    clear hbx hres
    go_wp2_with fail
    refine bodyPost_ret (ret_run Tryz.results18 _ _ _ rfl (res_set7 HRB.out _ _ _ _ _ _ _)) rfl ?_
    exact ⟨by rw [HR.out]; rfl, (((((((HB.out.setCell (by simp) _).setCell (by simp) _).setCell (by simp) _).setCell (by simp) _).setCell (by simp) _).setCell (by simp) _).setCell (by simp) _)⟩
  · have HR : Hid (rnE (mcR s.data.toList) = .returned (.tuple #[rnV 0 0 0 0 [] 0 0, .bool false])) := Lib.hid (by rw [hres]; rfl)
    clear hres
    go_wp2_with fail
    refine bodyPost_ret (ret_run Tryz.results18 _ _ _ rfl (res_set7 HRB.out _ _ _ _ _ _ _)) rfl ?_
    exact ⟨by rw [HR.out]; rfl, (((((((HB.out.setCell (by simp) _).setCell (by simp) _).setCell (by simp) _).setCell (by simp) _).setCell (by simp) _).setCell (by simp) _).setCell (by simp) _)⟩
set_option maxRecDepth 100000 in
set_option maxHeartbeats 2000000 in
theorem drawMachineRun_any (b off n c : Nat) (A : Option Addr) (w : World) (h : CodeAt w b off n A) (hn : n ≤ 1048576) (hc : n ≤ c) (hc2 : c ≤ maxLen) :
    Calls Tryz.prog 17 #[.slice A n c] w fun e w' => ∃ y : List UInt8, e = .returned (.string ⟨y.toArray⟩) ∧ y.length ≤ 400 ∧ Below w.heap.size w w' := by
  have HO := Lib.hid (l6Open_any b off n c A w h hn hc hc2)
  clear h hc hc2
  go_enter Tryz.func17, Tryz.ntmps17
  go_wp2_with fail
  refine HO.out.mono ?_
  rintro e w1 ⟨m, c', rfl, hr1, hb1⟩
  have hs1 := hb1.size
  have hlt1 := hr1.lt
  have HB1 := Lib.hid hb1
  have HD := Lib.hid (l91Odd_any w.heap.size b off m c' 0 A w1 hr1 (by omega))
  clear hr1 hb1
  go_wp2_with fail
  refine HD.out.mono ?_
  rintro e w3 ⟨y, q3, rfl, hy, ha3, hb3, hr3, hg3⟩
  have HB3 := Lib.hid (gq_lowD HB1.out hg3 (by omega) (Nat.le_refl _))
  clear hr3 hg3
  go_wp2_with fail
  go_ret
  exact ⟨y, rfl, hy, HB3.out⟩

set_option maxRecDepth 100000 in
theorem sameRun_same (p t o l : Nat) (x : List UInt8) (a s : Nat) (w : World) :
    Calls Tryz.prog 19 #[.agg #[.int .i64 p, .int .i64 t, .int .i64 o, .int .i64 l, .string ⟨x.toArray⟩, .int .i64 a, .int .i64 s], .agg #[.int .i64 p, .int .i64 t, .int .i64 o, .int .i64 l, .string ⟨x.toArray⟩, .int .i64 a, .int .i64 s]] w fun q w' => q = .returned (.bool true) ∧ Below w.heap.size w w' := by
  go_enter Tryz.func19, Tryz.ntmps19
  go_wp2_with fail
  go_ret
  exact ⟨rfl, ((Below.refl _ _).alloc (Nat.le_refl _) _).alloc (by simp) _⟩

set_option maxRecDepth 100000 in
set_option maxHeartbeats 4000000 in
theorem stepLaw_walk (b off n c : Nat) (A : Option Addr) (w : World) (h : CodeAt w b off n A) (hc : n ≤ c) (hc2 : c ≤ maxLen) (ht : Tab w) :
    Calls Tryz.prog 5 #[.slice A n c] w fun e w' => e = .returned (.bool true) ∧ Below w.heap.size w w' := by
  have HT := Lib.hid ht
  clear ht
  by_cases hn : n ≤ 1048576
  · have HD := Lib.hid (drawMachineRun_any b off n c A w h hn hc hc2)
    unfold maxLen at hc2
    clear h
    go_enter Tryz.func5, Tryz.ntmps5
    go_wp2_with fail
    refine HD.out.mono ?_
    rintro e w1 ⟨y, rfl, hy, hb1⟩
    have hz1 := hb1.size
    have HB1 := Lib.hid hb1
    have hym : (⟨y.toArray⟩ : ByteArray).size ≤ maxLen := by simp only [ByteArray.size, List.size_toArray]; unfold maxLen; omega
    have hys : (⟨y.toArray⟩ : ByteArray).size ≤ 400 := by simp only [ByteArray.size, List.size_toArray]; omega
    have IM := Lib.hid (fun w' => implMachineRun_any ⟨y.toArray⟩ w' hym)
    have SP := Lib.hid (fun w' => specMachineRun_any ⟨y.toArray⟩ w' hym)
    have hyl : (⟨y.toArray⟩ : ByteArray).data.toList = y := rfl
    have ST := Lib.hid (fun w' (h : Tab w') => implStepOf_any [104, 101, 97, 100] ⟨y.toArray⟩ w' hym h)
    unfold CtPost at ST
    rw [hyl] at IM SP ST
    have HSH := Lib.hid (stO_short (rdKind [104, 101, 97, 100]) y)
    clear hb1 hyl hym
    cases hr : mcR y with
    | none =>
      rw [hr] at IM SP
      have S2 := Lib.hid SP.out
      have I2 := Lib.hid IM.out
      clear SP IM hr
      simp only [rnE, rnV] at S2 I2
      go_wp2_with fail
      refine (I2.out _).mono ?_
      rintro e w2 ⟨rfl, hb2⟩
      have HB2 := Lib.hid (HB1.out.trans (hb2.mono hz1))
      have hz2 := HB2.out.size
      clear hb2
      go_wp2_with fail
      refine (S2.out _).mono ?_
      rintro e w3 ⟨rfl, hb3⟩
      have hr3 := (Blk.new w2 31 #[.int .i64 0, .int .i64 0, .int .i64 0, .int .i64 0, .string ⟨#[]⟩, .int .i64 0, .int .i64 0]).below hb3 (by simp)
      have r0 := hr3.cell 0
      have r1 := hr3.cell 1
      have r2 := hr3.cell 2
      have r3 := hr3.cell 3
      have r4 := hr3.cell 4
      have r5 := hr3.cell 5
      have r6 := hr3.cell 6
      have rl := hr3.lt
      simp only [List.getElem?_toArray, List.getElem?_cons_zero, List.getElem?_cons_succ] at r0 r1 r2 r3 r4 r5 r6
      have HB3 := Lib.hid ((HB2.out.alloc hz2 _).trans (hb3.mono (by simp; omega)))
      have hz3 := HB3.out.size
      have HR3 := Lib.hid hr3
      have HW : Hid (∀ o : Obj, o = .cells #[.int .i64 0, .int .i64 0, .int .i64 0, .int .i64 0, .string ⟨#[]⟩, .int .i64 0, .int .i64 0] 31 → ∀ w4, Below (w3.alloc o).heap.size (w3.alloc o) w4 → Blk w4 w2.heap.size 31 #[.int .i64 0, .int .i64 0, .int .i64 0, .int .i64 0, .string ⟨#[]⟩, .int .i64 0, .int .i64 0] ∧ Blk w4 w3.heap.size 31 #[.int .i64 0, .int .i64 0, .int .i64 0, .int .i64 0, .string ⟨#[]⟩, .int .i64 0, .int .i64 0]) := Lib.hid (fun o ho w4 h4 => by
        subst ho
        exact ⟨(HR3.out.alloc _).below h4 (by simp; have := HR3.out.lt; omega), (Blk.new w3 _ _).below h4 (by simp)⟩)
      clear hb3 hr3
      go_wp2_with fail
      refine (sameRun_same 0 0 0 0 [] 0 0 _).mono ?_
      rintro e w4 ⟨rfl, hb4⟩
      obtain ⟨g4, g5⟩ := HW.out _ rfl w4 hb4
      have HB4 := Lib.hid ((HB3.out.alloc hz3 _).trans (hb4.mono (by simp; omega)))
      have hz4 := HB4.out.size
      have s0 := g4.cell 0
      have s1 := g4.cell 1
      have s2 := g4.cell 2
      have s3 := g4.cell 3
      have s4 := g4.cell 4
      have s5 := g4.cell 5
      have s6 := g4.cell 6
      have sl := g4.lt
      have v0 := g5.cell 0
      have v1 := g5.cell 1
      have v2 := g5.cell 2
      have v3 := g5.cell 3
      have v4 := g5.cell 4
      have v5 := g5.cell 5
      have v6 := g5.cell 6
      have vl := g5.lt
      simp only [List.getElem?_toArray, List.getElem?_cons_zero, List.getElem?_cons_succ] at s0 s1 s2 s3 s4 s5 s6 v0 v1 v2 v3 v4 v5 v6
      clear g4 g5 hb4
      go_wp2_with fail
      refine (sameRun_same 0 0 0 0 [] 0 0 _).mono ?_
      rintro e w5 ⟨rfl, hb5⟩
      have HB5 := Lib.hid (HB4.out.trans (hb5.mono hz4))
      clear hb5
      go_wp2_with fail
      go_ret
      exact ⟨rfl, HB5.out⟩
    | some p =>
      obtain ⟨S, m⟩ := p
      have hml := (mcR_ok hr).2
      have hsum := mvN_sum m
      have HLW : Hid (∀ u S2 m2, stO (rdKind [104, 101, 97, 100]) (rdTerm y) = some u → mcR (wrTm u) = some (S2, m2) → mvN .p m = mvN .p m2 + 1 ∧ mvN .t m = mvN .t m2 + 1 ∧ mvN .o m = mvN .o m2 ∧ mvN .l m2 ≤ mvN .l m ∧ S.st.length = S2.st.length) := Lib.hid (fun u S2 m2 h1 h2 => step_law hr h1 h2)
      rw [hr] at IM SP
      have S2 := Lib.hid SP.out
      have I2 := Lib.hid IM.out
      clear SP IM hr
      simp only [rnE, rnV] at S2 I2
      have q1 : mvN .p m ≤ 3000 := by omega
      have q2 : mvN .t m ≤ 3000 := by omega
      generalize mvN .p m = np at *
      generalize mvN .t m = nt at *
      generalize mvN .o m = no at *
      generalize mvN .l m = nl at *
      generalize S.name = nm at *
      generalize S.st.length = na at *
      clear hml hsum
      go_wp2_with fail
      refine (I2.out _).mono ?_
      rintro e w2 ⟨rfl, hb2⟩
      have HB2 := Lib.hid (HB1.out.trans (hb2.mono hz1))
      have hz2 := HB2.out.size
      clear hb2
      go_wp2_with fail
      refine (S2.out _).mono ?_
      rintro e w3 ⟨rfl, hb3⟩
      have hr3 := (Blk.new w2 31 #[.int .i64 (np : Nat), .int .i64 (nt : Nat), .int .i64 (no : Nat), .int .i64 (nl : Nat), .string ⟨nm.toArray⟩, .int .i64 (na : Nat), .int .i64 (no : Nat)]).below hb3 (by simp)
      have r0 := hr3.cell 0
      have r1 := hr3.cell 1
      have r2 := hr3.cell 2
      have r3 := hr3.cell 3
      have r4 := hr3.cell 4
      have r5 := hr3.cell 5
      have r6 := hr3.cell 6
      have rl := hr3.lt
      simp only [List.getElem?_toArray, List.getElem?_cons_zero, List.getElem?_cons_succ] at r0 r1 r2 r3 r4 r5 r6
      have HB3 := Lib.hid ((HB2.out.alloc hz2 _).trans (hb3.mono (by simp; omega)))
      have hz3 := HB3.out.size
      have HR3 := Lib.hid hr3
      have HW : Hid (∀ o : Obj, o = .cells #[.int .i64 (np : Nat), .int .i64 (nt : Nat), .int .i64 (no : Nat), .int .i64 (nl : Nat), .string ⟨nm.toArray⟩, .int .i64 (na : Nat), .int .i64 (no : Nat)] 31 → ∀ w4, Below (w3.alloc o).heap.size (w3.alloc o) w4 → Blk w4 w2.heap.size 31 #[.int .i64 (np : Nat), .int .i64 (nt : Nat), .int .i64 (no : Nat), .int .i64 (nl : Nat), .string ⟨nm.toArray⟩, .int .i64 (na : Nat), .int .i64 (no : Nat)] ∧ Blk w4 w3.heap.size 31 #[.int .i64 (np : Nat), .int .i64 (nt : Nat), .int .i64 (no : Nat), .int .i64 (nl : Nat), .string ⟨nm.toArray⟩, .int .i64 (na : Nat), .int .i64 (no : Nat)]) := Lib.hid (fun o ho w4 h4 => by
        subst ho
        exact ⟨(HR3.out.alloc _).below h4 (by simp; have := HR3.out.lt; omega), (Blk.new w3 _ _).below h4 (by simp)⟩)
      clear hb3 hr3
      go_wp2_with fail
      refine (sameRun_same np nt no nl nm na no _).mono ?_
      rintro e w4 ⟨rfl, hb4⟩
      obtain ⟨g4, g5⟩ := HW.out _ rfl w4 hb4
      have HB4 := Lib.hid ((HB3.out.alloc hz3 _).trans (hb4.mono (by simp; omega)))
      have hz4 := HB4.out.size
      have s0 := g4.cell 0
      have s1 := g4.cell 1
      have s2 := g4.cell 2
      have s3 := g4.cell 3
      have s4 := g4.cell 4
      have s5 := g4.cell 5
      have s6 := g4.cell 6
      have sl := g4.lt
      have v0 := g5.cell 0
      have v1 := g5.cell 1
      have v2 := g5.cell 2
      have v3 := g5.cell 3
      have v4 := g5.cell 4
      have v5 := g5.cell 5
      have v6 := g5.cell 6
      have vl := g5.lt
      simp only [List.getElem?_toArray, List.getElem?_cons_zero, List.getElem?_cons_succ] at s0 s1 s2 s3 s4 s5 s6 v0 v1 v2 v3 v4 v5 v6
      have HG4 := Lib.hid g4
      clear g4 g5 hb4
      have HSZ := Lib.hid (HSH.out)
      generalize ho : stO (rdKind [104, 101, 97, 100]) (rdTerm y) = o at ST HLW HSZ
      have hnm : (⟨(ctS o).toArray⟩ : ByteArray).size ≤ maxLen := by have := HSZ.out; simp only [ByteArray.size, List.size_toArray]; unfold maxLen; omega
      have IM5 := Lib.hid (fun w' => implMachineRun_any ⟨(ctS o).toArray⟩ w' hnm)
      have hyl : (⟨(ctS o).toArray⟩ : ByteArray).data.toList = ctS o := rfl
      rw [hyl] at IM5
      clear hyl hnm HSH HSZ ho
      go_wp2_with fail
      refine (ST.out _ (HT.out.below HB4.out)).mono ?_
      rintro e w5 ⟨rfl, hb5⟩
      have HG5 := Lib.hid (HG4.out.below hb5 (by have := HG4.out.lt; omega))
      have HB5 := Lib.hid (HB4.out.trans (hb5.mono hz4))
      have hz5 := HB5.out.size
      clear hb5
      cases o with
      | none =>
        simp only [ctS] at IM5
        obtain ⟨p, t, o, l, x, a, s, hsh⟩ := rnE_shape (mcR [])
        rw [hsh] at IM5
        generalize (mcR []).isSome = qq at *
        clear hsh
        go_wp2_with fail
        refine (IM5.out _).mono ?_
        rintro e w6 ⟨rfl, hb6⟩
        have HB6 := Lib.hid (HB5.out.trans (hb6.mono hz5))
        have hz6 := HB6.out.size
        clear hb6
        go_wp2_with fail
        go_ret
        exact ⟨rfl, HB6.out.alloc hz6 _⟩
      | some u =>
        simp only [ctS] at IM5
        cases hr2 : mcR (wrTm u) with
        | none =>
          rw [hr2] at IM5
          simp only [rnE, rnV] at IM5
          clear hr2
          go_wp2_with fail
          refine (IM5.out _).mono ?_
          rintro e w6 ⟨rfl, hb6⟩
          have HB6 := Lib.hid (HB5.out.trans (hb6.mono hz5))
          have hz6 := HB6.out.size
          clear hb6
          go_wp2_with fail
          go_ret
          exact ⟨rfl, HB6.out.alloc hz6 _⟩
        | some p2 =>
          obtain ⟨SS, mm⟩ := p2
          obtain ⟨k1, k2, k3, k4, k5⟩ := HLW.out u SS mm rfl hr2
          rw [hr2] at IM5
          simp only [rnE, rnV] at IM5
          clear hr2 HLW
          generalize mvN .p mm = np2 at *
          generalize mvN .t mm = nt2 at *
          generalize mvN .o mm = no2 at *
          generalize mvN .l mm = nl2 at *
          generalize SS.name = nm2 at *
          generalize SS.st.length = na2 at *
          have d1 : ((np2 : Int) == (np : Int) - 1) = true := beq_iff_eq.2 (by omega)
          have d2 : ((nt2 : Int) == (nt : Int) - 1) = true := beq_iff_eq.2 (by omega)
          have d3 : decide ((nl2 : Int) ≤ (nl : Int)) = true := decide_eq_true (by omega)
          have d4 : 1 ≤ np := by omega
          have d5 : 1 ≤ nt := by omega
          subst k3 k5
          clear k1 k2
          go_wp2_with fail
          refine (IM5.out _).mono ?_
          rintro e w6 ⟨rfl, hb6⟩
          have g6 := HG5.out.below hb6 (by have := HG5.out.lt; omega)
          have HB6 := Lib.hid (HB5.out.trans (hb6.mono hz5))
          have hz6 := HB6.out.size
          have t0 := g6.cell 0
          have t1 := g6.cell 1
          have t2 := g6.cell 2
          have t3 := g6.cell 3
          have t4 := g6.cell 4
          have t5 := g6.cell 5
          have t6 := g6.cell 6
          have tl := g6.lt
          simp only [List.getElem?_toArray, List.getElem?_cons_zero, List.getElem?_cons_succ] at t0 t1 t2 t3 t4 t5 t6
          clear g6 hb6
          go_wp2_with fail
          all_goals first | exact absurd k4 (by assumption) | (go_ret; exact ⟨rfl, HB6.out.alloc hz6 _⟩)
  · go_enter Tryz.func5, Tryz.ntmps5
    go_wp2
    go_ret
    exact ⟨rfl, Below.refl _ _⟩
end Go.Proofs.YtjcdclnaplojcaaGreatDoor
