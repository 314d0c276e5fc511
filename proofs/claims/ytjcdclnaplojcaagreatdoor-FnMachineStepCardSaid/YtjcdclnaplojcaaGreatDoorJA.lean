/- The takes of the machine are the head steps of the term: plain mathematics. The reader that draws: opened, kept, and its pick from a list. Terms that are drawn: of what is drawn the length alone is known. The draws of a term, that is often a normal one. The law that takes are head steps, walked. -/
import Derived.Test.YtjcdclnaplojcaaGreatDoorJ0
import Derived.Test.YtjcdclnaplojcaaGreatDoorYA
import Derived.Test.YtjcdclnaplojcaaGreatDoorDK
import Derived.Test.YtjcdclnaplojcaaGreatDoorFW
import Derived.Test.YtjcdclnaplojcaaGreatDoorJ9
namespace Go.Proofs.YtjcdclnaplojcaaGreatDoor
set_option linter.unusedVariables false
set_option linter.unusedSimpArgs false

theorem moveD_bare (m : Nat) (d : DB) : ∀ k, moveD m k d.bare = (moveD m k d).bare := by
  induction d with
  | free y => intro k; rfl
  | bnd i => intro k; simp only [DB.bare, moveD]; split <;> rfl
  | lam y b ih => intro k; simp only [DB.bare, moveD, ih]
  | app f a ihf iha => intro k; simp only [DB.bare, moveD, ihf, iha]
theorem putB_bare (c d : DB) : ∀ k, putB c.bare k d.bare = (putB c k d).bare := by
  induction d with
  | free y => intro k; rfl
  | bnd i =>
    intro k
    simp only [DB.bare, putB]
    split
    · exact moveD_bare _ _ _
    · split <;> rfl
  | lam y b ih => intro k; simp only [DB.bare, putB, ih]
  | app f a ihf iha => intro k; simp only [DB.bare, putB, ihf, iha]
theorem isLam_bare (d : DB) : d.bare.isLam = d.isLam := by cases d <;> rfl
theorem headD_bare (d : DB) : headD d.bare = (headD d).map DB.bare := by
  induction d with
  | free y => rfl
  | bnd i => rfl
  | lam y b ih =>
    simp only [DB.bare, headD, ih, Option.map_map]
    rfl
  | app f a ihf iha =>
    cases hl : f.isLam with
    | true =>
      cases f with
      | lam x b => simp only [DB.bare, headD, Option.map_some, putB_bare]
      | free x => cases hl
      | bnd i => cases hl
      | app g c => cases hl
    | false =>
      have h2 : f.bare.isLam = false := by rw [isLam_bare, hl]
      simp only [DB.bare]
      rw [headD_app _ _ h2, headD_app _ _ hl, ihf, Option.map_map, Option.map_map]
      rfl
/-- The head normal term is n head steps away. -/
def HS : Nat → DB → Prop
  | 0, d => headD d = none
  | n + 1, d => ∃ e, headD d = some e ∧ HS n e
theorem HS_bare : ∀ (n : Nat) (d : DB), HS n d ↔ HS n d.bare := by
  intro n
  induction n with
  | zero => intro d; simp only [HS, headD_bare, Option.map_eq_none_iff]
  | succ n ih =>
    intro d
    constructor
    · rintro ⟨e, h1, h2⟩
      exact ⟨e.bare, by rw [headD_bare, h1]; rfl, (ih e).1 h2⟩
    · rintro ⟨e, h1, h2⟩
      rw [headD_bare, Option.map_eq_some_iff] at h1
      obtain ⟨e', h3, rfl⟩ := h1
      exact ⟨e', h3, (ih e').2 h2⟩
theorem HS_congr {n : Nat} {d e : DB} (h : d.bare = e.bare) (hd : HS n d) : HS n e := (HS_bare n e).2 (h ▸ (HS_bare n d).1 hd)
theorem HS_fun : ∀ (n m : Nat) (d : DB), HS n d → HS m d → n = m := by
  intro n
  induction n with
  | zero =>
    intro m d h1 h2
    cases m with
    | zero => rfl
    | succ m => obtain ⟨e, h3, _⟩ := h2; rw [show headD d = none from h1] at h3; cases h3
  | succ n ih =>
    intro m d h1 h2
    obtain ⟨e, h3, h4⟩ := h1
    cases m with
    | zero => rw [show headD d = none from h2] at h3; cases h3
    | succ m =>
      obtain ⟨e', h5, h6⟩ := h2
      rw [h3] at h5
      injection h5 with h5
      subst h5
      rw [ih m e h4 h6]
theorem many_HS : ∀ (f : Nat) (t : Tm), t.ok → t.atoms ≤ 400 → (stepR true (manyT true f t).1).2 = 0 → HS (manyT true f t).2 (toDB [] t) := by
  have h0 : ∀ t : Tm, t.ok → t.atoms ≤ 400 → (stepR true t).2 = 0 → HS 0 (toDB [] t) := by
    intro t h1 h2 h3
    have h := norm_eq true t h1 h2
    rw [decide_eq_true h3] at h
    exact Option.isNone_iff_eq_none.1 h
  intro f
  induction f with
  | zero => intro t h1 h2 h3; exact h0 t h1 h2 h3
  | succ f ih =>
    intro t h1 h2 h3
    simp only [manyT] at h3 ⊢
    cases hn : nextT true t with
    | none => rw [hn] at h3; exact h0 t h1 h2 h3
    | some o =>
      rw [hn] at h3
      simp only at h3 ⊢
      obtain ⟨g1, g2⟩ := next_good true t h1 h2 o hn
      have hd := next_eq true t h1 h2
      rw [hn, Option.map_some] at hd
      unfold nextD at hd
      split at hd
      · cases hd
      · rename_i e he
        split at hd
        · injection hd with hd
          refine ⟨e, he, HS_congr ?_ (ih o g1 g2 h3)⟩
          rw [← hd, bare_canD]
        · cases hd

/-- Terms are put for all depths at once. -/
def psub (s : List DB) : Nat → DB → DB
  | _, .free y => .free y
  | k, .bnd i => if i < k then .bnd i else match s[i - k]? with
    | some d => moveD k 0 d
    | none => .bnd i
  | k, .lam y b => .lam y (psub s (k + 1) b)
  | k, .app f a => .app (psub s k f) (psub s k a)
/-- All depths are smaller. -/
def DB.shut : Nat → DB → Prop
  | _, .free _ => True
  | n, .bnd i => i < n
  | n, .lam _ b => b.shut (n + 1)
  | n, .app f a => f.shut n ∧ a.shut n
theorem lk_less : ∀ (rs : List (List UInt8)) (x : List UInt8) (i : Nat), lk rs x = some i → i < rs.length := by
  intro rs
  induction rs with
  | nil => intro x i h; simp [lk] at h
  | cons y rs ih =>
    intro x i h
    simp only [lk] at h
    split at h
    · injection h with h; subst h; simp
    · rw [Option.map_eq_some_iff] at h
      obtain ⟨j, hj, rfl⟩ := h
      have := ih x j hj
      simp; omega
theorem toDB_shut (t : Tm) : ∀ rs, (toDB rs t).shut rs.length := by
  induction t with
  | var x =>
    intro rs
    unfold toDB
    cases h : lk rs x with
    | none => trivial
    | some i => exact lk_less rs x i h
  | lam x b ih => intro rs; exact ih (x :: rs)
  | app f a ihf iha => intro rs; exact ⟨ihf rs, iha rs⟩
theorem moveD_zero (d : DB) : ∀ k, moveD 0 k d = d := by
  induction d with
  | free y => intro k; rfl
  | bnd i => intro k; simp [moveD]
  | lam y b ih => intro k; simp only [moveD, ih]
  | app f a ihf iha => intro k; simp only [moveD, ihf, iha]
theorem putB_move (A : DB) (k : Nat) (s : DB) : ∀ own, putB A (k + own) (moveD (k + 1) own s) = moveD k own s := by
  induction s with
  | free y => intro own; rfl
  | bnd i =>
    intro own
    simp only [moveD]
    by_cases h : own ≤ i
    · rw [if_pos h, if_pos h]
      simp only [putB]
      rw [if_neg (by omega), if_pos (by omega), show i + (k + 1) - 1 = i + k from by omega]
    · rw [if_neg h, if_neg h]
      simp only [putB]
      rw [if_neg (by omega), if_neg (by omega)]
  | lam y b ih => intro own; simp only [moveD, putB]; rw [show k + own + 1 = k + (own + 1) from by omega, ih]
  | app f a ihf iha => intro own; simp only [moveD, putB, ihf, iha]
theorem putB_psub (A : DB) (s : List DB) (d : DB) : ∀ k, d.shut (s.length + 1 + k) → putB A k (psub s (k + 1) d) = psub (A :: s) k d := by
  induction d with
  | free y => intro k _; rfl
  | bnd i =>
    intro k hc
    simp only [DB.shut] at hc
    simp only [psub]
    rcases Nat.lt_trichotomy i k with h | h | h
    · rw [if_pos (by omega), if_pos h]
      simp only [putB]
      rw [if_neg (by omega), if_neg (by omega)]
    · subst h
      rw [if_pos (by omega), if_neg (by omega)]
      simp [putB]
    · rw [if_neg (by omega), if_neg (by omega)]
      have hl : i - (k + 1) < s.length := by omega
      rw [List.getElem?_eq_getElem hl, show i - k = i - (k + 1) + 1 from by omega, List.getElem?_cons_succ, List.getElem?_eq_getElem hl]
      exact putB_move A k _ 0
  | lam y b ih => intro k hc; simp only [psub, putB]; rw [ih (k + 1) (by simpa [DB.shut, Nat.add_assoc] using hc)]
  | app f a ihf iha => intro k hc; simp only [psub, putB]; rw [ihf k hc.1, iha k hc.2]
theorem move_move (k : Nat) (s : DB) : ∀ own, moveD 1 (k + own) (moveD k own s) = moveD k own (moveD 1 own s) := by
  induction s with
  | free y => intro own; rfl
  | bnd i =>
    intro own
    simp only [moveD]
    by_cases h : own ≤ i
    · rw [if_pos h, if_pos h]
      simp only [moveD]
      rw [if_pos (by omega), if_pos (by omega), show i + k + 1 = i + 1 + k from by omega]
    · rw [if_neg h, if_neg h]
      simp only [moveD]
      rw [if_neg (by omega), if_neg h]
  | lam y b ih => intro own; simp only [moveD]; rw [show k + own + 1 = k + (own + 1) from by omega, ih]
  | app f a ihf iha => intro own; simp only [moveD, ihf, iha]
theorem move_add (k : Nat) (s : DB) : ∀ own, moveD k own (moveD 1 own s) = moveD (k + 1) own s := by
  induction s with
  | free y => intro own; rfl
  | bnd i =>
    intro own
    simp only [moveD]
    by_cases h : own ≤ i
    · rw [if_pos h, if_pos h]
      simp only [moveD]
      rw [if_pos (by omega), show i + 1 + k = i + (k + 1) from by omega]
    · rw [if_neg h, if_neg h]
      simp only [moveD]
      rw [if_neg h]
  | lam y b ih => intro own; simp only [moveD, ih]
  | app f a ihf iha => intro own; simp only [moveD, ihf, iha]
theorem psub_lift (s : List DB) (d : DB) : ∀ k, d.shut (s.length + k) → moveD 1 k (psub s k d) = psub (s.map (moveD 1 0)) k d := by
  induction d with
  | free y => intro k _; rfl
  | bnd i =>
    intro k hc
    simp only [DB.shut] at hc
    simp only [psub]
    by_cases h : i < k
    · rw [if_pos h, if_pos h]
      simp only [moveD]
      rw [if_neg (by omega)]
    · rw [if_neg h, if_neg h]
      have hl : i - k < s.length := by omega
      rw [List.getElem?_map, List.getElem?_eq_getElem hl, Option.map_some]
      exact move_move k _ 0
  | lam y b ih => intro k hc; simp only [psub, moveD]; rw [ih (k + 1) (by simpa [DB.shut, Nat.add_assoc] using hc)]
  | app f a ihf iha => intro k hc; simp only [psub, moveD]; rw [ihf k hc.1, iha k hc.2]
theorem psub_open (s : List DB) (d : DB) : ∀ k, d.shut (s.length + 1 + k) → psub s (k + 1) d = psub (.bnd 0 :: s.map (moveD 1 0)) k d := by
  induction d with
  | free y => intro k _; rfl
  | bnd i =>
    intro k hc
    simp only [DB.shut] at hc
    simp only [psub]
    rcases Nat.lt_trichotomy i k with h | h | h
    · rw [if_pos (by omega), if_pos h]
    · subst h
      rw [if_pos (by omega), if_neg (by omega)]
      simp [moveD]
    · rw [if_neg (by omega), if_neg (by omega)]
      have hl : i - (k + 1) < s.length := by omega
      rw [List.getElem?_eq_getElem hl, show i - k = i - (k + 1) + 1 from by omega, List.getElem?_cons_succ, List.getElem?_map, List.getElem?_eq_getElem hl, Option.map_some]
      exact (move_add k _ 0).symm
  | lam y b ih => intro k hc; simp only [psub]; rw [ih (k + 1) (by simpa [DB.shut, Nat.add_assoc] using hc)]
  | app f a ihf iha => intro k hc; simp only [psub]; rw [ihf k hc.1, iha k hc.2]
theorem psub_nil (d : DB) : ∀ k, psub [] k d = d := by
  induction d with
  | free y => intro k; rfl
  | bnd i => intro k; simp [psub]
  | lam y b ih => intro k; simp only [psub, ih]
  | app f a ihf iha => intro k; simp only [psub, ihf, iha]

/-- What is put for the names of an environment, within so many lams. -/
def Env.vals (L : Nat) : Env → List DB
  | .nil => []
  | .clo _ t e r => psub (e.vals L) 0 (toDB e.names t) :: r.vals L
  | .opn _ k r => .bnd (L - 1 - k) :: r.vals L
theorem vals_len (L : Nat) (e : Env) : (e.vals L).length = e.names.length := by
  induction e with
  | nil => rfl
  | clo x t e r _ ih => simp [Env.vals, Env.names, ih]
  | opn x k r ih => simp [Env.vals, Env.names, ih]
/-- The term that a closure stands for. -/
def cD (L : Nat) (t : Tm) (e : Env) : DB := psub (e.vals L) 0 (toDB e.names t)
/-- The opens of an environment are some of so many. -/
def Env.opl (L : Nat) : Env → Prop
  | .nil => True
  | .clo _ _ e r => e.opl L ∧ r.opl L
  | .opn _ k r => k < L ∧ r.opl L
theorem Env.opl_le {n k : Nat} (h : n ≤ k) : ∀ {e : Env}, e.opl n → e.opl k := by
  intro e
  induction e with
  | nil => intro _; trivial
  | clo x t e r ihe ihr => intro q; exact ⟨ihe q.1, ihr q.2⟩
  | opn x j r ih => intro q; exact ⟨by have := q.1; omega, ih q.2⟩
theorem Env.opl_look {n : Nat} (x : List UInt8) : ∀ {e : Env}, e.opl n → (e.look x).opl n := by
  intro e
  induction e with
  | nil => intro _; trivial
  | clo y t e r ihe ihr => intro q; simp only [Env.look]; split; · exact q
                           · exact ihr q.2
  | opn y j r ih => intro q; simp only [Env.look]; split; · exact q
                    · exact ih q.2
theorem vals_lift (L : Nat) : ∀ (e : Env), e.opl L → e.vals (L + 1) = (e.vals L).map (moveD 1 0) := by
  intro e
  induction e with
  | nil => intro _; rfl
  | clo x t e r ihe ihr =>
    intro h
    simp only [Env.vals, List.map_cons]
    rw [ihe h.1, ihr h.2, psub_lift _ _ 0 (by rw [vals_len]; exact toDB_shut t _)]
  | opn x k r ih =>
    intro h
    have hk := h.1
    simp only [Env.vals, List.map_cons, moveD]
    rw [ih h.2, if_pos (by omega), show L + 1 - 1 - k = L - 1 - k + 1 from by omega]
theorem vals_at (L : Nat) (x : List UInt8) : ∀ (e : Env) (d : Nat), lk e.names x = some d →
    (∃ y t e' r, e.look x = .clo y t e' r ∧ (e.vals L)[d]? = some (cD L t e')) ∨ (∃ y k r, e.look x = .opn y k r ∧ (e.vals L)[d]? = some (.bnd (L - 1 - k))) := by
  intro e
  induction e with
  | nil => intro d h; simp [Env.names, lk] at h
  | clo y t e r _ ih =>
    intro d h
    simp only [Env.names, lk] at h
    split at h
    · rename_i hy
      injection h with h
      subst h
      exact .inl ⟨y, t, e, r, by simp [Env.look, hy], rfl⟩
    · rename_i hy
      rw [Option.map_eq_some_iff] at h
      obtain ⟨d', hd, rfl⟩ := h
      rcases ih d' hd with ⟨a, b, c, q, h1, h2⟩ | ⟨a, b, c, h1, h2⟩
      · exact .inl ⟨a, b, c, q, by simp [Env.look, hy, h1], by simpa [Env.vals] using h2⟩
      · exact .inr ⟨a, b, c, by simp [Env.look, hy, h1], by simpa [Env.vals] using h2⟩
  | opn y k r ih =>
    intro d h
    simp only [Env.names, lk] at h
    split at h
    · rename_i hy
      injection h with h
      subst h
      exact .inr ⟨y, k, r, by simp [Env.look, hy], rfl⟩
    · rename_i hy
      rw [Option.map_eq_some_iff] at h
      obtain ⟨d', hd, rfl⟩ := h
      rcases ih d' hd with ⟨a, b, c, q, h1, h2⟩ | ⟨a, b, c, h1, h2⟩
      · exact .inl ⟨a, b, c, q, by simp [Env.look, hy, h1], by simpa [Env.vals] using h2⟩
      · exact .inr ⟨a, b, c, by simp [Env.look, hy, h1], by simpa [Env.vals] using h2⟩

def apps : DB → List DB → DB
  | f, [] => f
  | f, a :: r => apps (.app f a) r
def lams : Nat → DB → DB
  | 0, d => d
  | n + 1, d => .lam [] (lams n d)
theorem lams_in (n : Nat) (d : DB) : lams (n + 1) d = lams n (.lam [] d) := by
  induction n with
  | zero => rfl
  | succ n ih => simp only [lams] at ih ⊢; rw [ih]
theorem lams_bare (n : Nat) (d : DB) : (lams n d).bare = lams n d.bare := by
  induction n with
  | zero => rfl
  | succ n ih => simp only [lams, DB.bare, ih]
theorem headD_lams (n : Nat) (d : DB) : headD (lams n d) = (headD d).map (lams n) := by
  induction n with
  | zero => simp [lams]
  | succ n ih =>
    simp only [lams, headD, ih, Option.map_map]
    rfl
theorem headD_apps (r : List DB) : ∀ (f : DB), f.isLam = false → headD (apps f r) = (headD f).map fun g => apps g r := by
  induction r with
  | nil => intro f _; simp [apps]
  | cons a r ih =>
    intro f hf
    simp only [apps]
    rw [ih (.app f a) rfl, headD_app f a hf, Option.map_map]
    rfl
/-- The term that a state stands for. -/
def St.U (S : St) : DB := lams S.op (apps (cD S.op S.t S.e) (S.st.map fun p => cD S.op p.1 p.2))
structure StO (S : St) : Prop where
  e : S.e.opl S.op
  st : ∀ p, p ∈ S.st → p.2.opl S.op
theorem cD_lam (L : Nat) (x : List UInt8) (b : Tm) (e : Env) : cD L (.lam x b) e = .lam x (psub (e.vals L) 1 (toDB (x :: e.names) b)) := rfl
theorem StO.step {S S' : St} {k : Mv} (h : StO S) (hs : mstep S = some (k, S')) :
    StO S' ∧ (k.code = 1 → ∃ d, headD S.U = some d ∧ d.bare = S'.U.bare) ∧ (k.code ≠ 1 → S.U.bare = S'.U.bare) := by
  obtain ⟨t, e, st, op⟩ := S
  have he : e.opl op := h.e
  have hst : ∀ p, p ∈ st → p.2.opl op := h.st
  unfold mstep at hs
  simp only at hs
  cases t with
  | app f a =>
    injection hs with hs; injection hs with ha hb; subst ha hb
    refine ⟨⟨he, fun p hp => ?_⟩, (fun h => by cases h), fun _ => rfl⟩
    rcases List.mem_cons.1 hp with rfl | hp
    · exact he
    · exact hst p hp
  | lam x b =>
    cases st with
    | nil =>
      injection hs with hs; injection hs with ha hb; subst ha hb
      refine ⟨⟨⟨Nat.lt_succ_self op, Env.opl_le (Nat.le_succ op) he⟩, (fun p hp => by cases hp)⟩, (fun h => by cases h), fun _ => ?_⟩
      have hc : (toDB (x :: e.names) b).shut ((e.vals op).length + 1 + 0) := by
        rw [vals_len]; exact toDB_shut b (x :: e.names)
      have h1 := psub_open (e.vals op) (toDB (x :: e.names) b) 0 hc
      have h2 : cD (op + 1) b (.opn x op e) = psub (e.vals op) 1 (toDB (x :: e.names) b) := by
        rw [h1]
        show psub (.bnd (op + 1 - 1 - op) :: e.vals (op + 1)) 0 (toDB (x :: e.names) b) = _
        rw [vals_lift op e he, show op + 1 - 1 - op = 0 from by omega]
      show (lams op (apps (cD op (.lam x b) e) [])).bare = (lams (op + 1) (apps (cD (op + 1) b (.opn x op e)) [])).bare
      rw [h2, lams_in, cD_lam, lams_bare, lams_bare]
      rfl
    | cons p st =>
      injection hs with hs; injection hs with ha hb; subst ha hb
      refine ⟨⟨⟨hst p (List.mem_cons_self ..), he⟩, fun q hq => hst q (List.mem_cons_of_mem _ hq)⟩, fun _ => ?_, fun h => absurd rfl h⟩
      have hc : (toDB (x :: e.names) b).shut ((e.vals op).length + 1 + 0) := by
        rw [vals_len]; exact toDB_shut b (x :: e.names)
      have h1 := putB_psub (cD op p.1 p.2) (e.vals op) (toDB (x :: e.names) b) 0 hc
      refine ⟨_, ?_, rfl⟩
      show headD (lams op (apps (.app (cD op (.lam x b) e) (cD op p.1 p.2)) (st.map fun p => cD op p.1 p.2))) = some (lams op (apps (cD op b (.clo x p.1 p.2 e)) (st.map fun p => cD op p.1 p.2)))
      rw [headD_lams, headD_apps _ _ rfl, cD_lam]
      show Option.map (lams op) (Option.map (fun g => apps g (st.map fun p => cD op p.1 p.2)) (some (putB (cD op p.1 p.2) 0 (psub (e.vals op) 1 (toDB (x :: e.names) b))))) = _
      rw [h1]
      rfl
  | var x =>
    simp only at hs
    split at hs
    · rename_i y a e' r hq
      injection hs with hs; injection hs with ha hb; subst ha hb
      have hol := Env.opl_look x he
      rw [hq] at hol
      refine ⟨⟨hol.1, hst⟩, (fun h => by cases h), fun _ => ?_⟩
      have h2 : cD op (.var x) e = cD op a e' := by
        cases hk : lk e.names x with
        | none => rw [look_none x e hk] at hq; cases hq
        | some d =>
          rcases vals_at op x e d hk with ⟨y1, t1, e1, r1, g1, g2⟩ | ⟨y1, k1, r1, g1, g2⟩
          · rw [hq] at g1
            injection g1 with g3 g4 g5 g6
            subst g4 g5
            show psub (e.vals op) 0 (toDB e.names (.var x)) = _
            simp only [toDB, hk, psub, Nat.sub_zero, g2, moveD_zero]
            rfl
          · rw [hq] at g1; cases g1
      show (lams op (apps (cD op (.var x) e) _)).bare = (lams op (apps (cD op a e') _)).bare
      rw [h2]
    · cases hs
theorem end_none {S : St} (h : mstep S = none) : headD S.U = none := by
  obtain ⟨t, e, st, op⟩ := S
  obtain ⟨x, hx⟩ := mstep_var h
  simp only at hx
  subst hx
  unfold mstep at h
  simp only at h
  show headD (lams op (apps (cD op (.var x) e) _)) = none
  rw [headD_lams]
  have hn : ∀ (d : DB) (r : List DB), (∃ y, d = .free y) ∨ (∃ i, d = .bnd i) → headD (apps d r) = none := by
    rintro d r (⟨y, rfl⟩ | ⟨i, rfl⟩) <;> rw [headD_apps _ _ rfl] <;> rfl
  rw [hn]
  · rfl
  · cases hk : lk e.names x with
    | none => exact .inl ⟨x, by unfold cD; simp only [toDB, hk, psub]⟩
    | some d =>
      rcases vals_at op x e d hk with ⟨y1, t1, e1, r1, g1, g2⟩ | ⟨y1, k1, r1, g1, g2⟩
      · rw [g1] at h; cases h
      · exact .inr ⟨op - 1 - k1, by unfold cD; simp only [toDB, hk, psub, Nat.sub_zero, g2, moveD_zero]; rfl⟩
theorem run_HS : ∀ (f : Nat) (S : St) (m : List Mv) (S' : St) (m' : List Mv), StO S → mrun f S m = some (S', m') → ∃ q, q + mvN .t m = mvN .t m' ∧ HS q S.U := by
  intro f
  induction f with
  | zero =>
    intro S m S' m' h hr
    unfold mrun at hr
    split at hr
    · rename_i hn
      injection hr with hr; injection hr with h1 h2; subst h1 h2
      exact ⟨0, by omega, end_none hn⟩
    · cases hr
  | succ f ih =>
    intro S m S' m' h hr
    unfold mrun at hr
    split at hr
    · rename_i hn
      injection hr with hr; injection hr with h1 h2; subst h1 h2
      exact ⟨0, by omega, end_none hn⟩
    · rename_i k S2 hk
      obtain ⟨a1, a2, a3⟩ := h.step hk
      obtain ⟨q, hq, hs⟩ := ih S2 (m ++ [k]) S' m' a1 hr
      rw [mvN_snoc] at hq
      by_cases hc : k.code = 1
      · rw [if_pos (show k.code = Mv.t.code from hc)] at hq
        obtain ⟨d, h1, h2⟩ := a2 hc
        exact ⟨q + 1, by omega, d, h1, HS_congr h2.symm hs⟩
      · rw [if_neg (show ¬ k.code = Mv.t.code from hc)] at hq
        exact ⟨q, by omega, HS_congr (a3 hc).symm hs⟩
/-- The takes of a run are the head steps to the head normal term. -/
theorem takes_steps {t : Tm} {S : St} {m : List Mv} (h : mrun 3000 ⟨t, .nil, [], 0⟩ [] = some (S, m)) : HS (mvN .t m) (toDB [] t) := by
  obtain ⟨q, hq, hs⟩ := run_HS 3000 ⟨t, .nil, [], 0⟩ [] S m ⟨trivial, fun p hp => by cases hp⟩ h
  have hU : St.U ⟨t, .nil, [], 0⟩ = toDB [] t := psub_nil _ 0
  rw [hU] at hs
  have : q = mvN .t m := by rw [← hq]; rfl
  rw [← this]
  exact hs
end Go.Proofs.YtjcdclnaplojcaaGreatDoor

namespace Go.Proofs.YtjcdclnaplojcaaGreatDoor
set_option linter.unusedVariables false
open Go.RowKit

theorem CodeIn.keep {w w' : World} {r b off n : Nat} {A : Option Addr} (h : CodeIn w r b off n A) (hk : ∀ q, q < r → w'.heap[q]? = w.heap[q]?) : CodeIn w' r b off n A := by
  obtain ⟨h1, h2, h3⟩ := h
  refine ⟨h1, h2, fun j hj => ?_⟩
  obtain ⟨z, hz, hc⟩ := h3 j hj
  exact ⟨z, hz, by rw [World.cell?_of_block (w := w) (hk b (h2 (by omega)).2)]; exact hc⟩
theorem RdAt.lt {w : World} {r b off n c p : Nat} {A : Option Addr} (h : RdAt w r b off n c A p) : r < w.heap.size := h.1.lt
theorem RdAt.below {w w' : World} {r b off n c p : Nat} {A : Option Addr} (h : RdAt w r b off n c A p) (hb : Below w.heap.size w w') : RdAt w' r b off n c A p :=
  ⟨h.1.below hb h.lt, h.2.keep fun q hq => hb.block q (by have := h.lt; omega)⟩
theorem RdAt.grown {w w' : World} {r b off n c p : Nat} {A : Option Addr} {row : Option Nat} (h : RdAt w r b off n c A p) (hg : w.grownBy w' row) (hr : ∀ k, row = some k → r < k) : RdAt w' r b off n c A p :=
  ⟨h.1.grown hg (fun e => by have := hr r e.symm; omega), h.2.keep fun q hq => by
    obtain ⟨_, _, _, _, hk⟩ := hg
    exact hk q (by have := h.lt; omega) (fun e => by have := hr q e.symm; omega)⟩
theorem RdAt.alloc {w : World} {r b off n c p : Nat} {A : Option Addr} (h : RdAt w r b off n c A p) (o : Obj) : RdAt (w.alloc o) r b off n c A p :=
  h.below ((Below.refl _ _).alloc (Nat.le_refl _) _)
theorem gr_below {w w' w2 : World} {r : Nat} (h : w.grownBy w' (some r)) (hb : Below w'.heap.size w' w2) : w.grownBy w2 (some r) := by
  obtain ⟨a, b, c, d, e⟩ := h
  have := hb.size
  exact ⟨hb.os.trans a, hb.tape.trans b, hb.output.trans c, by omega, fun k hk hr => (hb.block k (by omega)).trans (e k hk hr)⟩
/-- What the reader leaves: its own block alone is changed. -/
theorem gr_new {w w' : World} {r : Nat} (h : w.grownBy w' (some r)) (o : Obj) : w.grownBy (w'.alloc o) (some r) := gr_below h ((Below.refl _ _).alloc (Nat.le_refl _) o)
theorem gr_row {w w' w2 : World} {r : Nat} {row : Option Nat} (h : w.grownBy w' (some r)) (hg : w'.grownBy w2 row) (hr : ∀ k, row = some k → w.heap.size ≤ k) : w.grownBy w2 (some r) := by
  obtain ⟨a, b, c, d, e⟩ := h
  obtain ⟨a', b', c', d', e'⟩ := hg
  exact ⟨a'.trans a, b'.trans b, c'.trans c, by omega, fun k hk hkr => (e' k (by omega) (fun e => by have := hr k e.symm; omega)).trans (e k hk hkr)⟩
theorem gr_trans {w w' w2 : World} {r : Nat} (h : w.grownBy w' (some r)) (hg : w'.grownBy w2 (some r)) : w.grownBy w2 (some r) := by
  obtain ⟨a, b, c, d, e⟩ := h
  obtain ⟨a', b', c', d', e'⟩ := hg
  exact ⟨a'.trans a, b'.trans b, c'.trans c, by omega, fun k hk hkr => (e' k (by omega) hkr).trans (e k hk hkr)⟩
theorem SRow.over {w w' : World} {B r : Nat} {v : Value} {l : List (List UInt8)} (h : SRow w B v l) (hg : w.grownBy w' (some r)) (hr : r < B) : SRow w' B v l :=
  h.kept hg (by
    cases e : v.ownBlock with
    | none => exact .inl rfl
    | some k => exact .inr (by have := (h.lt k e).1; intro e2; injection e2 with e2; omega))

set_option maxRecDepth 100000 in
theorem of_any (l : List (List UInt8)) (v : Value) (B r b off n c p : Nat) (A : Option Addr) (w : World) (h : RdAt w r b off n c A p) (hv : SRow w B v l) (hB : r < B) (hl : 1 ≤ l.length) (hl2 : l.length ≤ 1000) (hp : p ≤ 1000000) :
    Calls Tryz.prog 44 #[.pointer (some ⟨r, 0, none⟩), v] w fun e w' => ∃ x, x ∈ l ∧ e = .returned (.string ⟨x.toArray⟩) ∧ RdAt w' r b off n c A (p + 1) ∧ w.grownBy w' (some r) := by
  obtain ⟨A1, c1, rfl⟩ := own_shape hv
  have HV := Lib.hid hv
  have HP := Lib.hid (pick_any r b off n c p l.length A w h hl hl2 hp)
  clear h hv
  go_enter Tryz.func44, Tryz.ntmps44
  go_wp2_with fail
  refine HP.out.mono ?_
  rintro e w1 ⟨z, hz, rfl, hr1, hg1⟩
  have HV1 := Lib.hid (HV.out.over hg1 hB)
  obtain ⟨g, rfl, _, _, _, hcell⟩ := HV1.out.cell hz
  have HR1 := Lib.hid hr1
  have HG1 := Lib.hid hg1
  have hz1 : (0 : Int) ≤ (z : Int) := by omega
  have hz2 : (z : Int) < (l.length : Int) := by omega
  obtain ⟨x, hx⟩ : ∃ x, l[z] = x := ⟨_, rfl⟩
  have HX := Lib.hid (show x ∈ l by rw [← hx]; exact List.getElem_mem _)
  rw [hx] at hcell
  clear hr1 hg1 hx
  go_wp2_with fail
  go_ret
  exact ⟨x, HX.out, rfl, HR1.out, HG1.out⟩

/-- A code that came in. -/
def CodeAt (w : World) (b off n : Nat) (A : Option Addr) : Prop :=
  (0 < n → A = some ⟨b, off, none⟩ ∧ b < w.heap.size) ∧ ∀ j, j < n → ∃ z : Nat, z ≤ 255 ∧ w.cell? ⟨b, off + j, none⟩ = some (.int .u8 (z : Nat))
theorem CodeAt.reader {w : World} {b off n m c : Nat} {A : Option Addr} (h : CodeAt w b off n A) (hm : m ≤ n) (hm2 : m ≤ 2000) :
    RdAt (w.alloc (.cells #[.slice A m c, .int .i64 0] 88)) w.heap.size b off m c A 0 := by
  refine ⟨Blk.new _ _ _, (show CodeIn w w.heap.size b off m A from ⟨hm2, fun h0 => h.1 (by omega), fun j hj => h.2 j (by omega)⟩).keep fun q hq => ?_⟩
  exact ((Below.refl _ w).alloc (Nat.le_refl _) _).block q hq

set_option maxRecDepth 100000 in
theorem l6Open_any (b off n c : Nat) (A : Option Addr) (w : World) (h : CodeAt w b off n A) (hn : n ≤ 1048576) (hc : n ≤ c) (hc2 : c ≤ maxLen) :
    Calls Tryz.prog 22 #[.slice A n c] w fun e w' => ∃ m c', e = .returned (.pointer (some ⟨w.heap.size, 0, none⟩)) ∧ RdAt w' w.heap.size b off m c' A 0 ∧ Below w.heap.size w w' := by
  unfold maxLen at hc2
  by_cases hn2 : n ≤ 2000
  · have HRD := Lib.hid (h.reader (c := c) (Nat.le_refl _) hn2)
    clear h
    go_enter Tryz.func22, Tryz.ntmps22
    go_wp2_with fail
    go_ret
    exact ⟨n, c, rfl, HRD.out, (Below.refl _ _).alloc (Nat.le_refl _) _⟩
  · have HRD := Lib.hid (h.reader (m := 2000) (c := c) (by omega) (Nat.le_refl _))
    obtain ⟨ha, _⟩ := h.1 (by omega)
    subst ha
    clear h
    go_enter Tryz.func22, Tryz.ntmps22
    go_wp2_with fail
    go_ret
    exact ⟨2000, c, rfl, HRD.out, (Below.refl _ _).alloc (Nat.le_refl _) _⟩

end Go.Proofs.YtjcdclnaplojcaaGreatDoor

namespace Go.Proofs.YtjcdclnaplojcaaGreatDoor
set_option linter.unusedVariables false
open Go.RowKit

theorem gq_refl (w : World) (r : Nat) : w.grownBy w (some r) := ⟨rfl, rfl, rfl, Nat.le_refl _, fun _ _ _ => rfl⟩
/-- What a drawing function answers: a text of at most m bytes, after at most k picks. -/
def DqPost (m k r b off n c p : Nat) (A : Option Addr) (w : World) (e : Ending) (w' : World) : Prop :=
  ∃ (x : List UInt8) (p' : Nat), e = .returned (.string ⟨x.toArray⟩) ∧ x.length ≤ m ∧ p ≤ p' ∧ p' ≤ p + k ∧ RdAt w' r b off n c A p' ∧ w.grownBy w' (some r)
/-- The texts of a list are short. -/
def Brief (m : Nat) (L : List (List UInt8)) : Prop := ∀ x ∈ L, x.length ≤ m
theorem Brief.snoc {m : Nat} {L : List (List UInt8)} {x : List UInt8} (h : Brief m L) (hx : x.length ≤ m) : Brief m (L ++ [x]) := fun y hy => by
  rcases List.mem_append.1 hy with h1 | h1
  · exact h y h1
  · rw [List.mem_singleton.1 h1]; exact hx
/-- A list of texts, newly made, is drawn from. -/
theorem of_new (L : List (List UInt8)) (m r b off n c p : Nat) (A : Option Addr) (w : World) (h : RdAt w r b off n c A p) (hl : 1 ≤ L.length) (hl2 : L.length ≤ 1000) (hp : p ≤ 1000000) (hs : Brief m L) (o : Obj) (ho : o = .cells (L.map strV).toArray 9) :
    Calls Tryz.prog 44 #[.pointer (some ⟨r, 0, none⟩), .slice (some ⟨w.heap.size, 0, none⟩) L.length L.length] (w.alloc o) (DqPost m 1 r b off n c p A w) := by
  subst ho
  refine (of_any L _ w.heap.size r b off n c p A _ (h.alloc _) ⟨by simp, .inr ⟨w.heap.size, L.length, _, rfl, Nat.le_refl _, heap_alloc_new w _, Nat.le_refl _, by unfold maxLen; omega, by simp, List.take_of_length_le (by simp)⟩⟩ h.lt hl hl2 hp).mono ?_
  rintro e w1 ⟨x, hx, rfl, hr1, hg1⟩
  exact ⟨x, p + 1, rfl, hs x hx, by omega, by omega, hr1, gr_trans (gr_new (gq_refl w r) _) hg1⟩

set_option maxRecDepth 100000 in
theorem l91Name_any (r b off n c p : Nat) (A : Option Addr) (w : World) (h : RdAt w r b off n c A p) (hp : p ≤ 1000000) :
    Calls Tryz.prog 112 #[.pointer (some ⟨r, 0, none⟩)] w (DqPost 2 1 r b off n c p A w) := by
  have HO := Lib.hid (of_new [[120], [121], [102], [122, 48], [122, 49], [98, 50]] 2 r b off n c p A w h (by decide) (by decide) hp (by unfold Brief; decide) _ rfl)
  clear h
  go_enter Tryz.func112, Tryz.ntmps112
  go_wp2_with fail
  refine HO.out.mono ?_
  rintro e w1 ⟨x, p', rfl, hx, h1, h2, hr1, hg1⟩
  have H := Lib.hid (And.intro hr1 hg1)
  clear hr1 hg1
  go_wp2_with fail
  go_ret
  exact ⟨x, p', rfl, hx, h1, h2, H.out⟩

set_option maxRecDepth 100000 in
set_option maxHeartbeats 2000000 in
theorem l91Known_any (r b off n c p : Nat) (A : Option Addr) (w : World) (h : RdAt w r b off n c A p) (hp : p ≤ 1000000) :
    Calls Tryz.prog 78 #[.pointer (some ⟨r, 0, none⟩)] w (DqPost 200 1 r b off n c p A w) := by
  have HO := Lib.hid (of_new [[40, 97, 112, 112, 32, 40, 108, 97, 109, 32, 120, 32, 40, 97, 112, 112, 32, 120, 32, 120, 41, 41, 32, 40, 108, 97, 109, 32, 121, 32, 121, 41, 41], [40, 97, 112, 112, 32, 40, 108, 97, 109, 32, 120, 32, 40, 97, 112, 112, 32, 120, 32, 120, 41, 41, 32, 40, 108, 97, 109, 32, 120, 32, 40, 97, 112, 112, 32, 120, 32, 120, 41, 41, 41], [40, 97, 112, 112, 32, 40, 97, 112, 112, 32, 40, 108, 97, 109, 32, 102, 32, 40, 108, 97, 109, 32, 120, 32, 40, 97, 112, 112, 32, 102, 32, 40, 97, 112, 112, 32, 102, 32, 120, 41, 41, 41, 41, 32, 40, 108, 97, 109, 32, 102, 32, 40, 108, 97, 109, 32, 120, 32, 40, 97, 112, 112, 32, 102, 32, 40, 97, 112, 112, 32, 102, 32, 120, 41, 41, 41, 41, 41, 32, 121, 41], [40, 97, 112, 112, 32, 40, 97, 112, 112, 32, 40, 108, 97, 109, 32, 120, 32, 40, 108, 97, 109, 32, 121, 32, 120, 41, 41, 32, 122, 48, 41, 32, 40, 97, 112, 112, 32, 40, 108, 97, 109, 32, 120, 32, 40, 97, 112, 112, 32, 120, 32, 120, 41, 41, 32, 40, 108, 97, 109, 32, 120, 32, 40, 97, 112, 112, 32, 120, 32, 120, 41, 41, 41, 41], [40, 108, 97, 109, 32, 120, 32, 40, 97, 112, 112, 32, 40, 108, 97, 109, 32, 121, 32, 40, 97, 112, 112, 32, 121, 32, 121, 41, 41, 32, 120, 41, 41], [40, 97, 112, 112, 32, 40, 108, 97, 109, 32, 102, 32, 40, 108, 97, 109, 32, 120, 32, 40, 97, 112, 112, 32, 102, 32, 40, 97, 112, 112, 32, 102, 32, 120, 41, 41, 41, 41, 32, 40, 108, 97, 109, 32, 121, 32, 40, 108, 97, 109, 32, 120, 32, 121, 41, 41, 41], [40, 108, 97, 109, 32, 120, 32, 40, 97, 112, 112, 32, 120, 32, 40, 97, 112, 112, 32, 40, 108, 97, 109, 32, 121, 32, 121, 41, 32, 120, 41, 41, 41], [40, 97, 112, 112, 32, 120, 32, 40, 97, 112, 112, 32, 40, 108, 97, 109, 32, 121, 32, 121, 41, 32, 40, 108, 97, 109, 32, 102, 32, 102, 41, 41, 41], [40, 108, 97, 109, 32, 102, 32, 40, 108, 97, 109, 32, 120, 32, 40, 97, 112, 112, 32, 102, 32, 40, 97, 112, 112, 32, 102, 32, 120, 41, 41, 41, 41], [40, 97, 112, 112, 32, 40, 108, 97, 109, 32, 120, 32, 40, 97, 112, 112, 32, 40, 97, 112, 112, 32, 120, 32, 121, 41, 32, 120, 41, 41, 32, 40, 108, 97, 109, 32, 122, 48, 32, 122, 48, 41, 41], [40, 97, 112, 112, 32, 40, 97, 112, 112, 32, 40, 108, 97, 109, 32, 102, 32, 40, 108, 97, 109, 32, 120, 32, 40, 97, 112, 112, 32, 102, 32, 40, 97, 112, 112, 32, 102, 32, 120, 41, 41, 41, 41, 32, 40, 108, 97, 109, 32, 120, 32, 40, 97, 112, 112, 32, 120, 32, 120, 41, 41, 41, 32, 40, 108, 97, 109, 32, 102, 32, 102, 41, 41]] 200 r b off n c p A w h (by decide) (by decide) hp (by unfold Brief; decide) _ rfl)
  clear h
  go_enter Tryz.func78, Tryz.ntmps78
  go_wp2_with fail
  refine HO.out.mono ?_
  rintro e w1 ⟨x, p', rfl, hx, h1, h2, hr1, hg1⟩
  have H := Lib.hid (And.intro hr1 hg1)
  clear hr1 hg1
  go_wp2_with fail
  go_ret
  exact ⟨x, p', rfl, hx, h1, h2, H.out⟩
/-- A lambda's, an application's, a redex's text. -/
def lamQ (x t : List UInt8) : List UInt8 := [40, 108, 97, 109, 32] ++ (x ++ ([32] ++ (t ++ [41])))
def appQ (s t : List UInt8) : List UInt8 := [40, 97, 112, 112, 32] ++ (s ++ ([32] ++ (t ++ [41])))
theorem lam_ba (x t : List UInt8) : ((((⟨#[40, 108, 97, 109, 32]⟩ : ByteArray) ++ ⟨x.toArray⟩) ++ ⟨#[32]⟩) ++ ⟨t.toArray⟩) ++ ⟨#[41]⟩ = ⟨(lamQ x t).toArray⟩ := by
  apply WideShapes.bytes_inj
  simp [lamQ, ByteArray.data_append]
theorem app_ba (s t : List UInt8) : ((((⟨#[40, 97, 112, 112, 32]⟩ : ByteArray) ++ ⟨s.toArray⟩) ++ ⟨#[32]⟩) ++ ⟨t.toArray⟩) ++ ⟨#[41]⟩ = ⟨(appQ s t).toArray⟩ := by
  apply WideShapes.bytes_inj
  simp [appQ, ByteArray.data_append]
theorem red_ba (x t u : List UInt8) : ((((((⟨#[40, 97, 112, 112, 32, 40, 108, 97, 109, 32]⟩ : ByteArray) ++ ⟨x.toArray⟩) ++ ⟨#[32]⟩) ++ ⟨t.toArray⟩) ++ ⟨#[41, 32]⟩) ++ ⟨u.toArray⟩) ++ ⟨#[41]⟩ = ⟨(appQ (lamQ x t) u).toArray⟩ := by
  apply WideShapes.bytes_inj
  simp [appQ, lamQ, ByteArray.data_append]
theorem lamQ_len (x t : List UInt8) : (lamQ x t).length = x.length + t.length + 7 := by simp [lamQ]; omega
theorem appQ_len (x t : List UInt8) : (appQ x t).length = x.length + t.length + 7 := by simp [appQ]; omega
def lenQ : Nat → Nat
  | 0 => 2
  | d + 1 => 2 * lenQ d + 20
def pkQ : Nat → Nat
  | 0 => 3
  | d + 1 => 2 * pkQ d + 3

set_option maxRecDepth 100000 in
set_option maxHeartbeats 4000000 in
theorem l91Term_zero (r b off n c p B g cc : Nat) (A : Option Addr) (L : List (List UInt8)) (w : World) (h : RdAt w r b off n c A p) (hl : SRow w B (.slice (some ⟨g, 0, none⟩) L.length cc) L) (hB : r < B) (hsh : Brief 2 L) (hL : L.length ≤ 100) (hp : p + 200 ≤ 1000000) :
    Calls Tryz.prog 79 #[.pointer (some ⟨r, 0, none⟩), .slice (some ⟨g, 0, none⟩) L.length cc, .int .i64 0] w (DqPost 2 3 r b off n c p A w) := by
  have HL := Lib.hid hl
  have HSH := Lib.hid hsh
  have HR := Lib.hid h
  clear h hl hsh
  by_cases hL0 : 0 < L.length
  · have HQ := Lib.hid (pick_any r b off n c p 5 A _ HR.out (by decide) (by decide) (by omega))
    go_enter Tryz.func79, Tryz.ntmps79
    go_wp2_with fail
    refine HQ.out.mono ?_
    rintro e wq ⟨zq, hzq, rfl, hrq, hgq⟩
    have hsq := hgq.size
    have HRQ := Lib.hid hrq
    have HGQ := Lib.hid (gr_trans (gq_refl w r) hgq)
    have HLQ := Lib.hid (HL.out.over HGQ.out hB)
    clear hrq hgq
    by_cases hzq0 : 0 < zq
    · have HS := Lib.hid (pick_any r b off n c _ L.length A _ HRQ.out (by omega) (by omega) (by omega))
      go_wp2_with fail
      refine HS.out.mono ?_
      rintro e ws ⟨zs, hzs, rfl, hrs, hgs⟩
      have HRS := Lib.hid hrs
      have HGS := Lib.hid (gr_trans HGQ.out hgs)
      obtain ⟨g1, hg1, _, _, _, hcell⟩ := (HL.out.over HGS.out hB).cell hzs
      simp only [Option.some.injEq, Addr.mk.injEq, and_true] at hg1
      obtain ⟨x, hx⟩ : ∃ x, L[zs] = x := ⟨_, rfl⟩
      have hxl : x.length ≤ 2 := HSH.out x (by rw [← hx]; exact List.getElem_mem _)
      rw [hx] at hcell
      have hz1 : (0 : Int) ≤ (zs : Int) := by omega
      have hz2 : (zs : Int) < (L.length : Int) := by omega
      clear hrs hgs hx
      subst hg1
      go_wp2_with fail
      go_ret
      exact ⟨x, _, rfl, by omega, by omega, by omega, HRS.out, HGS.out⟩
    · obtain rfl : zq = 0 := by omega
      have HNa := Lib.hid (l91Name_any r b off n c _ A _ HRQ.out (by omega))
      go_wp2_with fail
      refine HNa.out.mono ?_
      rintro e wna ⟨xa, pna, rfl, hxla, hpaa, hpba, hrna, hgna⟩
      have hsna := hgna.size
      have HRNa := Lib.hid hrna
      have HGNa := Lib.hid (gr_trans HGQ.out hgna)
      have hxsa : (⟨xa.toArray⟩ : ByteArray).size ≤ 1000 := by simp [ByteArray.size]; omega
      clear hrna hgna
      go_wp2_with fail
      go_ret
      exact ⟨xa, pna, rfl, by omega, by omega, by omega, HRNa.out, HGNa.out⟩
  · have HNa := Lib.hid (l91Name_any r b off n c p A _ HR.out (by omega))
    go_enter Tryz.func79, Tryz.ntmps79
    go_wp2_with fail
    refine HNa.out.mono ?_
    rintro e wna ⟨xa, pna, rfl, hxla, hpaa, hpba, hrna, hgna⟩
    have hsna := hgna.size
    have HRNa := Lib.hid hrna
    have HGNa := Lib.hid (gr_trans (gq_refl w r) hgna)
    have hxsa : (⟨xa.toArray⟩ : ByteArray).size ≤ 1000 := by simp [ByteArray.size]; omega
    clear hrna hgna
    go_wp2_with fail
    go_ret
    exact ⟨xa, pna, rfl, by omega, by omega, by omega, HRNa.out, HGNa.out⟩

set_option maxRecDepth 100000 in
set_option maxHeartbeats 8000000 in
theorem l91Term_succ (d D r b off n c p B g cc : Nat) (A : Option Addr) (L : List (List UInt8)) (w : World) (hD : D = d + 1) (hDs : D ≤ 50) (hm : lenQ d ≤ 400) (hk : pkQ d ≤ 100)
    (ih : ∀ p w B g cc L, RdAt w r b off n c A p → SRow w B (.slice (some ⟨g, 0, none⟩) L.length cc) L → r < B → Brief 2 L → L.length + d ≤ 100 → p + 200 * (d + 1) ≤ 1000000 → Calls Tryz.prog 79 #[.pointer (some ⟨r, 0, none⟩), .slice (some ⟨g, 0, none⟩) L.length cc, .int .i64 (d : Nat)] w (DqPost (lenQ d) (pkQ d) r b off n c p A w))
    (h : RdAt w r b off n c A p) (hl : SRow w B (.slice (some ⟨g, 0, none⟩) L.length cc) L) (hB : r < B) (hsh : Brief 2 L) (hL : L.length + D ≤ 100) (hp : p + 200 * (D + 1) ≤ 1000000) :
    Calls Tryz.prog 79 #[.pointer (some ⟨r, 0, none⟩), .slice (some ⟨g, 0, none⟩) L.length cc, .int .i64 (D : Nat)] w (DqPost (lenQ D) (pkQ D) r b off n c p A w) := by
  have hD0 : ¬ D = 0 := by omega
  have hD1 : IntKind.i64.wrap ((D : Int) - 1) = (d : Int) := by rw [show ((D : Int) - 1) = (d : Int) by omega]; exact IntWalk.i64_in _ (by omega)
  obtain ⟨M, hM⟩ : ∃ M, lenQ d = M := ⟨_, rfl⟩
  obtain ⟨K, hK⟩ : ∃ K, pkQ d = K := ⟨_, rfl⟩
  rw [show lenQ D = 2 * M + 20 by rw [hD, ← hM]; rfl, show pkQ D = 2 * K + 3 by rw [hD, ← hK]; rfl]
  rw [hM] at hm
  rw [hK] at hk
  rw [hM, hK] at ih
  have IH := Lib.hid ih
  have HP := Lib.hid (pick_any r b off n c p 6 A w h (by decide) (by decide) (by omega))
  have HL := Lib.hid hl
  have HSH := Lib.hid hsh
  have hp2 : p + 200 * (d + 2) ≤ 1000000 := by omega
  have hL2 : L.length + d + 1 ≤ 100 := by omega
  have hD2 : ¬ (D : Int) ≤ 0 := by omega
  clear h hl hsh ih hM hK hD hp hL
  go_enter Tryz.func79, Tryz.ntmps79
  go_wp2_with fail
  refine HP.out.mono ?_
  rintro e w1 ⟨z, hz, rfl, hr1, hg1⟩
  have hs1 := hg1.size
  have HR1 := Lib.hid hr1
  have HG1 := Lib.hid hg1
  clear hr1 hg1
  by_cases hz0 : z = 0
  · subst hz0
    by_cases hL0 : 0 < L.length
    · have HQ := Lib.hid (pick_any r b off n c (p + 1) 5 A _ HR1.out (by decide) (by decide) (by omega))
      go_wp2_with fail
      refine HQ.out.mono ?_
      rintro e wq ⟨zq, hzq, rfl, hrq, hgq⟩
      have hsq := hgq.size
      have HRQ := Lib.hid hrq
      have HGQ := Lib.hid (gr_trans HG1.out hgq)
      have HLQ := Lib.hid (HL.out.over HGQ.out hB)
      clear hrq hgq
      by_cases hzq0 : 0 < zq
      · have HS := Lib.hid (pick_any r b off n c _ L.length A _ HRQ.out (by omega) (by omega) (by omega))
        go_wp2_with fail
        refine HS.out.mono ?_
        rintro e ws ⟨zs, hzs, rfl, hrs, hgs⟩
        have HRS := Lib.hid hrs
        have HGS := Lib.hid (gr_trans HGQ.out hgs)
        obtain ⟨g1, hg1, _, _, _, hcell⟩ := (HL.out.over HGS.out hB).cell hzs
        simp only [Option.some.injEq, Addr.mk.injEq, and_true] at hg1
        obtain ⟨x, hx⟩ : ∃ x, L[zs] = x := ⟨_, rfl⟩
        have hxl : x.length ≤ 2 := HSH.out x (by rw [← hx]; exact List.getElem_mem _)
        rw [hx] at hcell
        have hz1 : (0 : Int) ≤ (zs : Int) := by omega
        have hz2 : (zs : Int) < (L.length : Int) := by omega
        clear hrs hgs hx
        subst hg1
        go_wp2_with fail
        go_ret
        exact ⟨x, _, rfl, by omega, by omega, by omega, HRS.out, HGS.out⟩
      · obtain rfl : zq = 0 := by omega
        have HNa := Lib.hid (l91Name_any r b off n c _ A _ HRQ.out (by omega))
        go_wp2_with fail
        refine HNa.out.mono ?_
        rintro e wna ⟨xa, pna, rfl, hxla, hpaa, hpba, hrna, hgna⟩
        have hsna := hgna.size
        have HRNa := Lib.hid hrna
        have HGNa := Lib.hid (gr_trans HGQ.out hgna)
        have hxsa : (⟨xa.toArray⟩ : ByteArray).size ≤ 1000 := by simp [ByteArray.size]; omega
        clear hrna hgna
        go_wp2_with fail
        go_ret
        exact ⟨xa, pna, rfl, by omega, by omega, by omega, HRNa.out, HGNa.out⟩
    · have HNa := Lib.hid (l91Name_any r b off n c (p + 1) A _ HR1.out (by omega))
      go_wp2_with fail
      refine HNa.out.mono ?_
      rintro e wna ⟨xa, pna, rfl, hxla, hpaa, hpba, hrna, hgna⟩
      have hsna := hgna.size
      have HRNa := Lib.hid hrna
      have HGNa := Lib.hid (gr_trans HG1.out hgna)
      have hxsa : (⟨xa.toArray⟩ : ByteArray).size ≤ 1000 := by simp [ByteArray.size]; omega
      clear hrna hgna
      go_wp2_with fail
      go_ret
      exact ⟨xa, pna, rfl, by omega, by omega, by omega, HRNa.out, HGNa.out⟩
  · have hzb : ((z : Int) == 0) = false := by simp; omega
    have HP2 := Lib.hid (pick_any r b off n c (p + 1) 7 A _ HR1.out (by decide) (by decide) (by omega))
    go_wp2_with fail
    refine HP2.out.mono ?_
    rintro e w2 ⟨z2, hz2, rfl, hr2, hg2⟩
    have hs2 := hg2.size
    have HR2 := Lib.hid hr2
    have HG2 := Lib.hid (gr_trans HG1.out hg2)
    clear hr2 hg2
    rcases (by omega : z2 = 0 ∨ z2 = 1 ∨ z2 = 2 ∨ z2 = 3 ∨ 4 ≤ z2) with rfl | rfl | rfl | rfl | hz4
    · have HNa := Lib.hid (l91Name_any r b off n c (p + 1 + 1) A _ HR2.out (by omega))
      go_wp2_with fail
      refine HNa.out.mono ?_
      rintro e wna ⟨xa, pna, rfl, hxla, hpaa, hpba, hrna, hgna⟩
      have hsna := hgna.size
      have HRNa := Lib.hid hrna
      have HGNa := Lib.hid (gr_trans HG2.out hgna)
      have hxsa : (⟨xa.toArray⟩ : ByteArray).size ≤ 1000 := by simp [ByteArray.size]; omega
      clear hrna hgna
      have hwl := l1With_any L xa B g cc wna (HL.out.over HGNa.out hB) (by omega)
      obtain ⟨L2, hLe⟩ : ∃ L2, L ++ [xa] = L2 := ⟨_, rfl⟩
      have HLL := Lib.hid (show L2.length = L.length + 1 by rw [← hLe]; simp)
      have HS2 := Lib.hid (HSH.out.snoc hxla)
      rw [hLe] at hwl HS2
      have HW := Lib.hid hwl
      clear hwl hLe
      go_wp2_with fail
      refine HW.out.mono ?_
      rintro e wl ⟨g2, c2, rfl, hrow, hbl⟩
      have hsl := hbl.size
      have HROW := Lib.hid hrow
      have HRL := Lib.hid (HRNa.out.below hbl)
      have HGL := Lib.hid (gr_below HGNa.out hbl)
      clear hrow hbl
      go_wp2_with fail
      have HIb := Lib.hid (IH.out pna _ wna.heap.size g2 c2 L2 HRL.out HROW.out HRNa.out.lt HS2.out (by have := HLL.out; omega) (by omega))
      refine HIb.out.mono ?_
      rintro e wib ⟨ub, pib, rfl, hulb, hiab, hibb, hrib, hgib⟩
      have hsib := hgib.size
      have HRIb := Lib.hid hrib
      have HGIb := Lib.hid (gr_trans HGL.out hgib)
      have husb : (⟨ub.toArray⟩ : ByteArray).size ≤ 1000 := by simp [ByteArray.size]; omega
      clear hrib hgib
      have HBA := Lib.hid (lam_ba xa ub)
      have hln := lamQ_len xa ub
      go_wp2_with fail
      go_ret
      exact ⟨lamQ xa ub, pib, by rw [← HBA.out]; rfl, by omega, by omega, by omega, HRIb.out, HGIb.out⟩
    · have HNa := Lib.hid (l91Name_any r b off n c (p + 1 + 1) A _ HR2.out (by omega))
      go_wp2_with fail
      refine HNa.out.mono ?_
      rintro e wna ⟨xa, pna, rfl, hxla, hpaa, hpba, hrna, hgna⟩
      have hsna := hgna.size
      have HRNa := Lib.hid hrna
      have HGNa := Lib.hid (gr_trans HG2.out hgna)
      have hxsa : (⟨xa.toArray⟩ : ByteArray).size ≤ 1000 := by simp [ByteArray.size]; omega
      clear hrna hgna
      have hwl := l1With_any L xa B g cc wna (HL.out.over HGNa.out hB) (by omega)
      obtain ⟨L2, hLe⟩ : ∃ L2, L ++ [xa] = L2 := ⟨_, rfl⟩
      have HLL := Lib.hid (show L2.length = L.length + 1 by rw [← hLe]; simp)
      have HS2 := Lib.hid (HSH.out.snoc hxla)
      rw [hLe] at hwl HS2
      have HW := Lib.hid hwl
      clear hwl hLe
      go_wp2_with fail
      refine HW.out.mono ?_
      rintro e wl ⟨g2, c2, rfl, hrow, hbl⟩
      have hsl := hbl.size
      have HROW := Lib.hid hrow
      have HRL := Lib.hid (HRNa.out.below hbl)
      have HGL := Lib.hid (gr_below HGNa.out hbl)
      clear hrow hbl
      go_wp2_with fail
      have HIb := Lib.hid (IH.out pna _ wna.heap.size g2 c2 L2 HRL.out HROW.out HRNa.out.lt HS2.out (by have := HLL.out; omega) (by omega))
      refine HIb.out.mono ?_
      rintro e wib ⟨ub, pib, rfl, hulb, hiab, hibb, hrib, hgib⟩
      have hsib := hgib.size
      have HRIb := Lib.hid hrib
      have HGIb := Lib.hid (gr_trans HGL.out hgib)
      have husb : (⟨ub.toArray⟩ : ByteArray).size ≤ 1000 := by simp [ByteArray.size]; omega
      clear hrib hgib
      have HBA := Lib.hid (lam_ba xa ub)
      have hln := lamQ_len xa ub
      go_wp2_with fail
      go_ret
      exact ⟨lamQ xa ub, pib, by rw [← HBA.out]; rfl, by omega, by omega, by omega, HRIb.out, HGIb.out⟩
    · go_wp2_with fail
      have HIb := Lib.hid (IH.out (p + 1 + 1) _ B g cc L HR2.out (HL.out.over HG2.out hB) hB HSH.out (by omega) (by omega))
      refine HIb.out.mono ?_
      rintro e wib ⟨ub, pib, rfl, hulb, hiab, hibb, hrib, hgib⟩
      have hsib := hgib.size
      have HRIb := Lib.hid hrib
      have HGIb := Lib.hid (gr_trans HG2.out hgib)
      have husb : (⟨ub.toArray⟩ : ByteArray).size ≤ 1000 := by simp [ByteArray.size]; omega
      clear hrib hgib
      go_wp2_with fail
      have HIc := Lib.hid (IH.out pib _ B g cc L HRIb.out (HL.out.over HGIb.out hB) hB HSH.out (by omega) (by omega))
      refine HIc.out.mono ?_
      rintro e wic ⟨uc, pic, rfl, hulc, hiac, hibc, hric, hgic⟩
      have hsic := hgic.size
      have HRIc := Lib.hid hric
      have HGIc := Lib.hid (gr_trans HGIb.out hgic)
      have husc : (⟨uc.toArray⟩ : ByteArray).size ≤ 1000 := by simp [ByteArray.size]; omega
      clear hric hgic
      have HBA := Lib.hid (app_ba ub uc)
      have hln := appQ_len ub uc
      go_wp2_with fail
      go_ret
      exact ⟨appQ ub uc, pic, by rw [← HBA.out]; rfl, by omega, by omega, by omega, HRIc.out, HGIc.out⟩
    · go_wp2_with fail
      have HIb := Lib.hid (IH.out (p + 1 + 1) _ B g cc L HR2.out (HL.out.over HG2.out hB) hB HSH.out (by omega) (by omega))
      refine HIb.out.mono ?_
      rintro e wib ⟨ub, pib, rfl, hulb, hiab, hibb, hrib, hgib⟩
      have hsib := hgib.size
      have HRIb := Lib.hid hrib
      have HGIb := Lib.hid (gr_trans HG2.out hgib)
      have husb : (⟨ub.toArray⟩ : ByteArray).size ≤ 1000 := by simp [ByteArray.size]; omega
      clear hrib hgib
      go_wp2_with fail
      have HIc := Lib.hid (IH.out pib _ B g cc L HRIb.out (HL.out.over HGIb.out hB) hB HSH.out (by omega) (by omega))
      refine HIc.out.mono ?_
      rintro e wic ⟨uc, pic, rfl, hulc, hiac, hibc, hric, hgic⟩
      have hsic := hgic.size
      have HRIc := Lib.hid hric
      have HGIc := Lib.hid (gr_trans HGIb.out hgic)
      have husc : (⟨uc.toArray⟩ : ByteArray).size ≤ 1000 := by simp [ByteArray.size]; omega
      clear hric hgic
      have HBA := Lib.hid (app_ba ub uc)
      have hln := appQ_len ub uc
      go_wp2_with fail
      go_ret
      exact ⟨appQ ub uc, pic, by rw [← HBA.out]; rfl, by omega, by omega, by omega, HRIc.out, HGIc.out⟩
    · have hb0 : ((z2 : Int) == 0) = false := by simp; omega
      have hb1 : ((z2 : Int) == 1) = false := by simp; omega
      have hb2 : ((z2 : Int) == 2) = false := by simp; omega
      have hb3 : ((z2 : Int) == 3) = false := by simp; omega
      have HNa := Lib.hid (l91Name_any r b off n c (p + 1 + 1) A _ HR2.out (by omega))
      go_wp2_with fail
      refine HNa.out.mono ?_
      rintro e wna ⟨xa, pna, rfl, hxla, hpaa, hpba, hrna, hgna⟩
      have hsna := hgna.size
      have HRNa := Lib.hid hrna
      have HGNa := Lib.hid (gr_trans HG2.out hgna)
      have hxsa : (⟨xa.toArray⟩ : ByteArray).size ≤ 1000 := by simp [ByteArray.size]; omega
      clear hrna hgna
      have hwl := l1With_any L xa B g cc wna (HL.out.over HGNa.out hB) (by omega)
      obtain ⟨L2, hLe⟩ : ∃ L2, L ++ [xa] = L2 := ⟨_, rfl⟩
      have HLL := Lib.hid (show L2.length = L.length + 1 by rw [← hLe]; simp)
      have HS2 := Lib.hid (HSH.out.snoc hxla)
      rw [hLe] at hwl HS2
      have HW := Lib.hid hwl
      clear hwl hLe
      go_wp2_with fail
      refine HW.out.mono ?_
      rintro e wl ⟨g2, c2, rfl, hrow, hbl⟩
      have hsl := hbl.size
      have HROW := Lib.hid hrow
      have HRL := Lib.hid (HRNa.out.below hbl)
      have HGL := Lib.hid (gr_below HGNa.out hbl)
      clear hrow hbl
      go_wp2_with fail
      have HIb := Lib.hid (IH.out pna _ wna.heap.size g2 c2 L2 HRL.out HROW.out HRNa.out.lt HS2.out (by have := HLL.out; omega) (by omega))
      refine HIb.out.mono ?_
      rintro e wib ⟨ub, pib, rfl, hulb, hiab, hibb, hrib, hgib⟩
      have hsib := hgib.size
      have HRIb := Lib.hid hrib
      have HGIb := Lib.hid (gr_trans HGL.out hgib)
      have husb : (⟨ub.toArray⟩ : ByteArray).size ≤ 1000 := by simp [ByteArray.size]; omega
      clear hrib hgib
      go_wp2_with fail
      have HIc := Lib.hid (IH.out pib _ B g cc L HRIb.out (HL.out.over HGIb.out hB) hB HSH.out (by omega) (by omega))
      refine HIc.out.mono ?_
      rintro e wic ⟨uc, pic, rfl, hulc, hiac, hibc, hric, hgic⟩
      have hsic := hgic.size
      have HRIc := Lib.hid hric
      have HGIc := Lib.hid (gr_trans HGIb.out hgic)
      have husc : (⟨uc.toArray⟩ : ByteArray).size ≤ 1000 := by simp [ByteArray.size]; omega
      clear hric hgic
      have HBA := Lib.hid (red_ba xa ub uc)
      have hln := appQ_len (lamQ xa ub) uc
      have hln2 := lamQ_len xa ub
      go_wp2_with fail
      go_ret
      exact ⟨appQ (lamQ xa ub) uc, pic, by rw [← HBA.out]; rfl, by omega, by omega, by omega, HRIc.out, HGIc.out⟩
end Go.Proofs.YtjcdclnaplojcaaGreatDoor

namespace Go.Proofs.YtjcdclnaplojcaaGreatDoor
set_option linter.unusedVariables false
open Go.RowKit

theorem l91Term_any (r b off n c : Nat) (A : Option Addr) : ∀ (d : Nat), d ≤ 4 → ∀ p w B g cc L, RdAt w r b off n c A p → SRow w B (.slice (some ⟨g, 0, none⟩) L.length cc) L → r < B → Brief 2 L → L.length + d ≤ 100 → p + 200 * (d + 1) ≤ 1000000 →
    Calls Tryz.prog 79 #[.pointer (some ⟨r, 0, none⟩), .slice (some ⟨g, 0, none⟩) L.length cc, .int .i64 (d : Nat)] w (DqPost (lenQ d) (pkQ d) r b off n c p A w) := by
  intro d
  induction d with
  | zero =>
    intro _ p w B g cc L h hl hB hs hL hp
    exact l91Term_zero r b off n c p B g cc A L w h hl hB hs (by omega) (by omega)
  | succ d ih =>
    intro hd p w B g cc L h hl hB hs hL hp
    have h1 : lenQ d ≤ 400 := by
      have : d = 0 ∨ d = 1 ∨ d = 2 ∨ d = 3 := by omega
      rcases this with rfl | rfl | rfl | rfl <;> decide
    have h2 : pkQ d ≤ 100 := by
      have : d = 0 ∨ d = 1 ∨ d = 2 ∨ d = 3 := by omega
      rcases this with rfl | rfl | rfl | rfl <;> decide
    exact l91Term_succ d (d + 1) r b off n c p B g cc A L w rfl (by omega) h1 h2 (fun p w B g cc L a1 a2 a3 a4 a5 a6 => ih (by omega) p w B g cc L a1 a2 a3 a4 a5 a6) h hl hB hs hL hp

/-- Terms of no names that are given. -/
theorem l91Term_bare (r b off n c d p : Nat) (A : Option Addr) (w w0 : World) (g0 : Nat) (hd : d ≤ 4) (h : RdAt w r b off n c A p) (hl : SRow w g0 (.slice (some ⟨g0, 0, none⟩) 0 0) []) (hB : r < g0) (hp : p ≤ 990000) :
    Calls Tryz.prog 79 #[.pointer (some ⟨r, 0, none⟩), .slice (some ⟨g0, 0, none⟩) 0 0, .int .i64 (d : Nat)] w (DqPost 400 200 r b off n c p A w) := by
  have h1 : lenQ d ≤ 400 ∧ pkQ d ≤ 200 := by
    have : d = 0 ∨ d = 1 ∨ d = 2 ∨ d = 3 ∨ d = 4 := by omega
    rcases this with rfl | rfl | rfl | rfl | rfl <;> decide
  refine (l91Term_any r b off n c A d hd p w g0 g0 0 [] h hl hB (fun x hx => by cases hx) (by simp; omega) (by omega)).mono ?_
  rintro e w1 ⟨x, p', he, hx, ha, hb, hr, hg⟩
  exact ⟨x, p', he, by omega, ha, by omega, hr, hg⟩
theorem none_row (w : World) : SRow (w.alloc (.cells #[] 9)) w.heap.size (.slice (some ⟨w.heap.size, 0, none⟩) 0 0) [] :=
  World.ownsRow_made (base := w.heap.size) (e := 9) (size := 1) w #[] 0 (Nat.le_refl _) (Nat.zero_le _) rfl

set_option maxRecDepth 100000 in
set_option maxHeartbeats 2000000 in
theorem l91Good_any (r b off n c p : Nat) (A : Option Addr) (w : World) (h : RdAt w r b off n c A p) (hp : p ≤ 980000) :
    Calls Tryz.prog 45 #[.pointer (some ⟨r, 0, none⟩)] w (DqPost 400 210 r b off n c p A w) := by
  have hlt := h.lt
  have HP := Lib.hid (pick_any r b off n c p 3 A w h (by decide) (by decide) (by omega))
  clear h
  go_enter Tryz.func45, Tryz.ntmps45
  go_wp2_with fail
  refine HP.out.mono ?_
  rintro e w1 ⟨z, hz, rfl, hr1, hg1⟩
  have hs1 := hg1.size
  have HR1 := Lib.hid hr1
  have HG1 := Lib.hid hg1
  clear hr1 hg1
  rcases (by omega : z = 0 ∨ z = 1 ∨ z = 2) with rfl | rfl | rfl
  · have HK := Lib.hid (l91Known_any r b off n c (p + 1) A _ HR1.out (by omega))
    go_wp2_with fail
    refine HK.out.mono ?_
    rintro e w2 ⟨x, q, rfl, hx, ha, hb, hr2, hg2⟩
    have H := Lib.hid (And.intro hr2 (gr_trans HG1.out hg2))
    clear hr2 hg2
    go_wp2_with fail
    go_ret
    exact ⟨x, q, rfl, by omega, by omega, by omega, H.out⟩
  · have HT := Lib.hid (l91Term_bare r b off n c 3 (p + 1) A _ w1 w1.heap.size (by decide) (HR1.out.alloc (.cells #[] 9)) (none_row w1) (by omega) (by omega))
    go_wp2_with fail
    refine HT.out.mono ?_
    rintro e w2 ⟨x, q, rfl, hx, ha, hb, hr2, hg2⟩
    have H := Lib.hid (And.intro hr2 (gr_trans (gr_new HG1.out (.cells #[] 9)) hg2))
    clear hr2 hg2
    go_wp2_with fail
    go_ret
    exact ⟨x, q, rfl, by omega, by omega, by omega, H.out⟩
  · have HP2 := Lib.hid (pick_any r b off n c (p + 1) 3 A _ (HR1.out.alloc (.cells #[] 9)) (by decide) (by decide) (by omega))
    have HN := Lib.hid (none_row w1)
    have HG1' := Lib.hid (gr_new HG1.out (.cells #[] 9))
    go_wp2_with fail
    refine HP2.out.mono ?_
    rintro e w2 ⟨z2, hz2, rfl, hr2, hg2⟩
    obtain ⟨d2, hd2⟩ : ∃ d2, 2 + z2 = d2 := ⟨_, rfl⟩
    have hw2 : IntKind.i64.wrap (2 + (z2 : Int)) = (d2 : Int) := by rw [show (2 + (z2 : Int)) = (d2 : Int) by omega]; exact IntWalk.i64_in _ (by omega)
    have HT := Lib.hid (l91Term_bare r b off n c d2 (p + 1 + 1) A w2 w1 w1.heap.size (by omega) hr2 (HN.out.over hg2 (by omega)) (by omega) (by omega))
    have HG2 := Lib.hid (gr_trans HG1'.out hg2)
    clear hr2 hg2 hd2
    go_wp2_with fail
    refine HT.out.mono ?_
    rintro e w3 ⟨x, q, rfl, hx, ha, hb, hr3, hg3⟩
    have H := Lib.hid (And.intro hr3 (gr_trans HG2.out hg3))
    clear hr3 hg3
    go_wp2_with fail
    go_ret
    exact ⟨x, q, rfl, by omega, by omega, by omega, H.out⟩

set_option maxRecDepth 100000 in
set_option maxHeartbeats 2000000 in
theorem l91Odd_any (r b off n c p : Nat) (A : Option Addr) (w : World) (h : RdAt w r b off n c A p) (hp : p ≤ 970000) :
    Calls Tryz.prog 21 #[.pointer (some ⟨r, 0, none⟩)] w (DqPost 400 220 r b off n c p A w) := by
  have hlt := h.lt
  have HP := Lib.hid (pick_any r b off n c p 16 A w h (by decide) (by decide) (by omega))
  clear h
  go_enter Tryz.func21, Tryz.ntmps21
  go_wp2_with fail
  refine HP.out.mono ?_
  rintro e w1 ⟨z, hz, rfl, hr1, hg1⟩
  have hs1 := hg1.size
  have HR1 := Lib.hid hr1
  have HG1 := Lib.hid hg1
  clear hr1 hg1
  by_cases hz0 : z = 0
  · subst hz0
    have HK := Lib.hid (of_new [[], [40, 108, 97, 109, 32, 120, 41], [40, 97, 112, 112, 32, 120, 41], [120, 121], [40, 108, 97, 109, 32, 40, 97, 112, 112, 32, 120, 32, 120, 41, 32, 120, 41], [120, 32], [40, 97, 112, 112, 32, 32, 120, 32, 121, 41], [49], [40, 108, 97, 109, 32, 120, 32, 121, 32, 122, 41]] 20 r b off n c (p + 1) A w1 HR1.out (by decide) (by decide) (by omega) (by unfold Brief; decide) _ rfl)
    go_wp2_with fail
    refine HK.out.mono ?_
    rintro e w2 ⟨x, q, rfl, hx, ha, hb, hr2, hg2⟩
    have H := Lib.hid (And.intro hr2 (gr_trans HG1.out hg2))
    clear hr2 hg2
    go_wp2_with fail
    go_ret
    exact ⟨x, q, rfl, by omega, by omega, by omega, H.out⟩
  · have hzb : ((z : Int) == 0) = false := by simp; omega
    have HK := Lib.hid (l91Good_any r b off n c (p + 1) A w1 HR1.out (by omega))
    go_wp2_with fail
    refine HK.out.mono ?_
    rintro e w2 ⟨x, q, rfl, hx, ha, hb, hr2, hg2⟩
    have H := Lib.hid (And.intro hr2 (gr_trans HG1.out hg2))
    clear hr2 hg2
    go_wp2_with fail
    go_ret
    exact ⟨x, q, rfl, by omega, by omega, by omega, H.out⟩
end Go.Proofs.YtjcdclnaplojcaaGreatDoor

namespace Go.Proofs.YtjcdclnaplojcaaGreatDoor
set_option linter.unusedVariables false
set_option linter.unusedSimpArgs false
open Go.RowKit

/-- If there are both a run and a head normal term, the takes are the steps. -/
theorem agR_both (s : List UInt8) : agR (mcR s) (noO (rdKind [104, 101, 97, 100]) (rdTerm s)) = ((mcR s).isSome && (noO (rdKind [104, 101, 97, 100]) (rdTerm s)).isSome) := by
  rw [show rdKind [104, 101, 97, 100] = some true from rfl]
  unfold mcR
  cases ht : rdTerm s with
  | none => rfl
  | some t =>
    simp only
    obtain ⟨hok, hat⟩ := rdTerm_good _ _ ht
    cases hr : mrun 3000 ⟨t, .nil, [], 0⟩ [] with
    | none => rfl
    | some p =>
      obtain ⟨S, m⟩ := p
      cases hn : noT true t with
      | none => simp only [agR, noO, hn, Option.map_none, Option.isSome_none, Option.isSome_some, Bool.false_and, Bool.and_false]
      | some q =>
        obtain ⟨o, n⟩ := q
        have h1 := takes_steps hr
        have h2 : HS n (toDB [] t) := by
          unfold noT at hn
          split at hn
          · rename_i h3
            injection hn with hn
            injection hn with h4 h5
            rw [← h5]
            exact many_HS 200 t hok hat h3
          · cases hn
        have h3 := HS_fun _ _ _ h1 h2
        simp only [agR, noO, hn, Option.map_some, Option.isSome_some, tnN, h3, Bool.true_and, Bool.and_self, beq_self_eq_true]

theorem gq_lowD {B : Nat} {a w w' : World} {r : Nat} (h : Below B a w) (hg : w.grownBy w' (some r)) (hB : B ≤ w.heap.size) (hr : B ≤ r) : Below B a w' :=
  h.grown hg hB (fun k e => by injection e with e; omega)

set_option maxRecDepth 100000 in
set_option maxHeartbeats 2000000 in
theorem drawMachineAgrees_any (b off n c : Nat) (A : Option Addr) (w : World) (h : CodeAt w b off n A) (hn : n ≤ 1048576) (hc : n ≤ c) (hc2 : c ≤ maxLen) :
    Calls Tryz.prog 14 #[.slice A n c] w fun e w' => ∃ y : List UInt8, e = .returned (.string ⟨y.toArray⟩) ∧ y.length ≤ 400 ∧ Below w.heap.size w w' := by
  have HO := Lib.hid (l6Open_any b off n c A w h hn hc hc2)
  clear h hc hc2
  go_enter Tryz.func14, Tryz.ntmps14
  go_wp2_with fail
  refine HO.out.mono ?_
  rintro e w1 ⟨m, c', rfl, hr1, hb1⟩
  have hs1 := hb1.size
  have hlt1 := hr1.lt
  have HB1 := Lib.hid hb1
  have HD := Lib.hid (l91Odd_any w.heap.size b off m c' 0 A w1 hr1 (by omega))
  clear hr1 hb1
  go_wp2_with fail
  refine HD.out.mono ?_
  rintro e w3 ⟨y, q3, rfl, hy, ha3, hb3, hr3, hg3⟩
  have HB3 := Lib.hid (gq_lowD HB1.out hg3 (by omega) (Nat.le_refl _))
  clear hr3 hg3
  go_wp2_with fail
  go_ret
  exact ⟨y, rfl, hy, HB3.out⟩

theorem rnE_shape (r : Option (St × List Mv)) : ∃ p t o l x a s, rnE r = .returned (.tuple #[.agg #[.int .i64 ((p : Nat) : Int), .int .i64 ((t : Nat) : Int), .int .i64 ((o : Nat) : Int), .int .i64 ((l : Nat) : Int), .string ⟨(x : List UInt8).toArray⟩, .int .i64 ((a : Nat) : Int), .int .i64 ((s : Nat) : Int)], .bool r.isSome]) := by
  cases r with
  | none => exact ⟨0, 0, 0, 0, [], 0, 0, rfl⟩
  | some p => exact ⟨_, _, _, _, _, _, _, rfl⟩

set_option maxRecDepth 100000 in
set_option maxHeartbeats 4000000 in
theorem agreesLaw_walk (b off n c : Nat) (A : Option Addr) (w : World) (h : CodeAt w b off n A) (hc : n ≤ c) (hc2 : c ≤ maxLen) (ht : Tab w) :
    Calls Tryz.prog 4 #[.slice A n c] w fun e w' => e = .returned (.bool true) ∧ Below w.heap.size w w' := by
  have HT := Lib.hid ht
  clear ht
  by_cases hn : n ≤ 1048576
  · have HD := Lib.hid (drawMachineAgrees_any b off n c A w h hn hc hc2)
    unfold maxLen at hc2
    clear h
    go_enter Tryz.func4, Tryz.ntmps4
    go_wp2_with fail
    refine HD.out.mono ?_
    rintro e w1 ⟨y, rfl, hy, hb1⟩
    have hz1 := hb1.size
    have HB1 := Lib.hid hb1
    have hym : (⟨y.toArray⟩ : ByteArray).size ≤ maxLen := by simp only [ByteArray.size, List.size_toArray]; unfold maxLen; omega
    have hys : (⟨y.toArray⟩ : ByteArray).size ≤ 400 := by simp only [ByteArray.size, List.size_toArray]; omega
    have IA := Lib.hid (fun w' (h : Tab w') => implMachineAgrees_any ⟨y.toArray⟩ w' hym h)
    have SA := Lib.hid (fun w' => specMachineAgrees_any ⟨y.toArray⟩ w' hym)
    have IR := Lib.hid (fun w' => implMachineRun_any ⟨y.toArray⟩ w' hym)
    have IN := Lib.hid (fun w' (h : Tab w') => implNormalOf_any [104, 101, 97, 100] ⟨y.toArray⟩ w' hym h)
    have hyl : (⟨y.toArray⟩ : ByteArray).data.toList = y := rfl
    unfold TnPost at IN
    rw [hyl] at IA SA IR IN
    rw [agR_both] at IA SA
    obtain ⟨p, t, o, l, x, a, s, hsh⟩ := rnE_shape (mcR y)
    rw [hsh] at IR
    generalize (mcR y).isSome = q1 at *
    generalize noO (rdKind [104, 101, 97, 100]) (rdTerm y) = q2 at *
    generalize q2.isSome = q3 at *
    generalize tnS q2 = u1 at *
    generalize tnN q2 = u2 at *
    have HT1 := Lib.hid (HT.out.below hb1)
    clear hb1 hyl hym hsh
    go_wp2_with fail
    refine (IA.out _ HT1.out).mono ?_
    rintro e w2 ⟨rfl, hb2⟩
    have HB2 := Lib.hid (HB1.out.trans (hb2.mono hz1))
    have hz2 := HB2.out.size
    clear hb2
    go_wp2_with fail
    refine (SA.out _).mono ?_
    rintro e w3 ⟨rfl, hb3⟩
    have HB3 := Lib.hid (HB2.out.trans (hb3.mono hz2))
    have hz3 := HB3.out.size
    clear hb3
    cases q1
    all_goals cases q3
    all_goals
      go_wp2_with fail
      refine (IR.out _).mono ?_
      rintro e w4 ⟨rfl, hb4⟩
      have HB4 := Lib.hid (HB3.out.trans (hb4.mono hz3))
      have hz4 := HB4.out.size
      clear hb4
      go_wp2_with fail
      refine (IN.out _ (HT.out.below (HB4.out.alloc hz4 _))).mono ?_
      rintro e w5 ⟨rfl, hb5⟩
      have HB5 := Lib.hid ((HB4.out.alloc hz4 _).trans (hb5.mono (by simp; omega)))
      clear hb5
      go_wp2_with fail
      go_ret
      exact ⟨rfl, HB5.out⟩
  · go_enter Tryz.func4, Tryz.ntmps4
    go_wp2
    go_ret
    exact ⟨rfl, Below.refl _ _⟩
end Go.Proofs.YtjcdclnaplojcaaGreatDoor

