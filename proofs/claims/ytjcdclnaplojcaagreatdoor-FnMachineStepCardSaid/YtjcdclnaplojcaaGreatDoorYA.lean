/- A machine that evaluates closures: plain mathematics. -/
import Derived.Test.YtjcdclnaplojcaaGreatDoorO
namespace Go.Proofs.YtjcdclnaplojcaaGreatDoor
set_option linter.unusedVariables false

/-- An environment: names with a closure or with the number of an open, the last one first. -/
inductive Env where
  | nil
  | clo (x : List UInt8) (t : Tm) (e : Env) (r : Env)
  | opn (x : List UInt8) (k : Nat) (r : Env)
def Env.names : Env → List (List UInt8)
  | .nil => []
  | .clo x _ _ r => x :: r.names
  | .opn x _ r => x :: r.names
def Env.out : Env → Env
  | .nil => .nil
  | .clo _ _ _ r => r
  | .opn _ _ r => r
/-- The environment from the last one of the name on. -/
def Env.look (x : List UInt8) : Env → Env
  | .nil => .nil
  | .clo y t e r => if y = x then .clo y t e r else r.look x
  | .opn y k r => if y = x then .opn y k r else r.look x
def Env.at : Env → Nat → Env
  | e, 0 => e
  | e, n + 1 => e.out.at n
theorem look_some (x : List UInt8) : ∀ (e : Env) (d : Nat), lk e.names x = some d → e.look x = e.at d ∧ e.look x ≠ .nil ∧ d < e.names.length := by
  intro e
  induction e with
  | nil => intro d h; simp [Env.names, lk] at h
  | clo y t e r _ ih =>
    intro d h
    simp only [Env.names, lk] at h
    split at h
    · rename_i hy
      injection h with h
      subst h
      simp [Env.look, Env.at, hy, Env.names]
    · rename_i hy
      rw [Option.map_eq_some_iff] at h
      obtain ⟨d', hd, rfl⟩ := h
      obtain ⟨h1, h2, h3⟩ := ih d' hd
      simp only [Env.look, if_neg hy, Env.at, Env.out, Env.names, List.length_cons]
      exact ⟨h1, h2, by omega⟩
  | opn y k r ih =>
    intro d h
    simp only [Env.names, lk] at h
    split at h
    · rename_i hy
      injection h with h
      subst h
      simp [Env.look, Env.at, hy, Env.names]
    · rename_i hy
      rw [Option.map_eq_some_iff] at h
      obtain ⟨d', hd, rfl⟩ := h
      obtain ⟨h1, h2, h3⟩ := ih d' hd
      simp only [Env.look, if_neg hy, Env.at, Env.out, Env.names, List.length_cons]
      exact ⟨h1, h2, by omega⟩
theorem look_none (x : List UInt8) : ∀ (e : Env), lk e.names x = none → e.look x = .nil := by
  intro e
  induction e with
  | nil => intro h; rfl
  | clo y t e r _ ih =>
    intro h
    simp only [Env.names, lk] at h
    split at h
    · cases h
    · rename_i hy
      simp only [Env.look, if_neg hy]
      exact ih (by simpa using h)
  | opn y k r ih =>
    intro h
    simp only [Env.names, lk] at h
    split at h
    · cases h
    · rename_i hy
      simp only [Env.look, if_neg hy]
      exact ih (by simpa using h)
theorem look_clo {x y : List UInt8} {t : Tm} {e' r : Env} : ∀ (e : Env), e.look x = .clo y t e' r → y = x := by
  intro e
  induction e with
  | nil => intro h; cases h
  | clo z u f q _ ih => intro h; simp only [Env.look] at h; split at h; · rename_i hz; cases h; exact hz
                        · exact ih h
  | opn z k q ih => intro h; simp only [Env.look] at h; split at h; · cases h
                    · exact ih h
theorem look_opn {x y : List UInt8} {k : Nat} {r : Env} : ∀ (e : Env), e.look x = .opn y k r → y = x := by
  intro e
  induction e with
  | nil => intro h; cases h
  | clo z u f q _ ih => intro h; simp only [Env.look] at h; split at h; · cases h
                        · exact ih h
  | opn z j q ih => intro h; simp only [Env.look] at h; split at h; · rename_i hz; cases h; exact hz
                    · exact ih h

inductive Mv where
  | p | t | o | l
def Mv.code : Mv → Nat
  | .p => 0
  | .t => 1
  | .o => 2
  | .l => 3
def Mv.letter : Mv → UInt8
  | .p => 112
  | .t => 116
  | .o => 111
  | .l => 108
/-- How often a move was made. -/
def mvN (k : Mv) (m : List Mv) : Nat := (m.filter fun j => j.code == k.code).length

/-- What a machine is at: a term with an environment, the stack (its top first), and how many opens there were. -/
structure St where
  t : Tm
  e : Env
  st : List (Tm × Env)
  op : Nat
def mstep (S : St) : Option (Mv × St) :=
  match S.t with
  | .app f a => some (.p, ⟨f, S.e, (a, S.e) :: S.st, S.op⟩)
  | .lam x b => match S.st with
    | (a, ea) :: st => some (.t, ⟨b, .clo x a ea S.e, st, S.op⟩)
    | [] => some (.o, ⟨b, .opn x S.op S.e, [], S.op + 1⟩)
  | .var x => match S.e.look x with
    | .clo _ a e' _ => some (.l, ⟨a, e', S.st, S.op⟩)
    | _ => none
def mrun : Nat → St → List Mv → Option (St × List Mv)
  | 0, S, m => match mstep S with
    | none => some (S, m)
    | some _ => none
  | f + 1, S, m => match mstep S with
    | none => some (S, m)
    | some (k, S') => mrun f S' (m ++ [k])
/-- The run of a text. -/
def mcR (l : List UInt8) : Option (St × List Mv) := match rdTerm l with
  | none => none
  | some t => mrun 3000 ⟨t, .nil, [], 0⟩ []
theorem mrun_end {f : Nat} {S : St} {m : List Mv} (h : mstep S = none) : mrun f S m = some (S, m) := by
  cases f <;> simp [mrun, h]
theorem mrun_step {f : Nat} {S S' : St} {m : List Mv} {k : Mv} (h : mstep S = some (k, S')) : mrun (f + 1) S m = mrun f S' (m ++ [k]) := by simp [mrun, h]
theorem mrun_stop {S S' : St} {m : List Mv} {k : Mv} (h : mstep S = some (k, S')) : mrun 0 S m = none := by simp [mrun, h]
/-- The name at the end. -/
def St.name (S : St) : List UInt8 := match S.t with
  | .var x => x
  | _ => []
theorem mstep_var {S : St} (h : mstep S = none) : ∃ x, S.t = .var x := by
  unfold mstep at h
  split at h
  · cases h
  · split at h <;> cases h
  · rename_i x hx; exact ⟨x, hx⟩
theorem mvN_snoc (k j : Mv) (m : List Mv) : mvN k (m ++ [j]) = mvN k m + if j.code = k.code then 1 else 0 := by
  simp only [mvN, List.filter_append, List.length_append, List.filter_cons, List.filter_nil]
  split <;> rename_i h <;> simp at h <;> simp [h]
theorem mvN_le (k : Mv) (m : List Mv) : mvN k m ≤ m.length := List.length_filter_le _ _
theorem mvN_sum (m : List Mv) : mvN .p m + mvN .t m + mvN .o m + mvN .l m = m.length := by
  induction m with
  | nil => rfl
  | cons j m ih =>
    have h : ∀ k, mvN k (j :: m) = mvN k m + if j.code = k.code then 1 else 0 := by
      intro k
      simp only [mvN, List.filter_cons]
      split <;> rename_i h <;> simp at h <;> simp [h]
    rw [h, h, h, h, List.length_cons, ← ih]
    cases j <;> simp [Mv.code] <;> omega

/-- What stands of a state behind so many moves. -/
structure StOk (S : St) (m : List Mv) : Prop where
  op : S.op = mvN .o m
  st : S.st.length + mvN .t m = mvN .p m
theorem StOk.step {S S' : St} {m : List Mv} {k : Mv} (h : StOk S m) (hs : mstep S = some (k, S')) : StOk S' (m ++ [k]) := by
  have h1 := h.op
  have h2 := h.st
  unfold mstep at hs
  split at hs
  · injection hs with hs; injection hs with ha hb; subst ha hb
    constructor <;> simp only [mvN_snoc, Mv.code, List.length_cons] <;> simp <;> omega
  · split at hs
    · rename_i hq
      injection hs with hs; injection hs with ha hb; subst ha hb
      rw [hq] at h2
      simp only [List.length_cons] at h2
      constructor <;> simp only [mvN_snoc, Mv.code] <;> simp <;> omega
    · rename_i hq
      injection hs with hs; injection hs with ha hb; subst ha hb
      rw [hq] at h2
      simp only [List.length_nil] at h2
      constructor <;> simp only [mvN_snoc, Mv.code, List.length_nil] <;> simp <;> omega
  · split at hs
    · injection hs with hs; injection hs with ha hb; subst ha hb
      constructor <;> simp only [mvN_snoc, Mv.code] <;> simp <;> omega
    · cases hs
theorem StOk.start (t : Tm) : StOk ⟨t, .nil, [], 0⟩ [] := ⟨rfl, rfl⟩
theorem mrun_ok : ∀ (f : Nat) (S : St) (m : List Mv) (S' : St) (m' : List Mv), StOk S m → mrun f S m = some (S', m') → StOk S' m' ∧ mstep S' = none ∧ m'.length ≤ m.length + f := by
  intro f
  induction f with
  | zero =>
    intro S m S' m' h hr
    unfold mrun at hr
    split at hr
    · rename_i hn; injection hr with hr; injection hr with h1 h2; subst h1 h2; exact ⟨h, hn, by omega⟩
    · cases hr
  | succ f ih =>
    intro S m S' m' h hr
    unfold mrun at hr
    split at hr
    · rename_i hn; injection hr with hr; injection hr with h1 h2; subst h1 h2; exact ⟨h, hn, by omega⟩
    · rename_i k S2 hk
      obtain ⟨a, b, c⟩ := ih _ _ _ _ (h.step hk) hr
      exact ⟨a, b, by simp at c; omega⟩
end Go.Proofs.YtjcdclnaplojcaaGreatDoor
