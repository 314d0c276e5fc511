/- The parts of a term with what is around them, and the search for the redex of a step: plain mathematics. A range over a function, where each round is told what memory holds of what it is handed; cells of chosen types are kept from round to round. The parts of a term, one by one, with what is around them: the program's iterator. The program's parts of a term as an iterator's value; whether a part is a redex, and a second term. The program finds the redex of a step, and counts redexes. The program reads a kind. The program reads a kind and a term; whether a term is normal. Bounds of steps: depths within lams, numbers of atoms; many steps, one by one: plain mathematics. -/
import Derived.Test.YtjcdclnaplojcaaGreatDoorJ0
import Derived.RangeFuncNested
import Derived.RangeFuncBound
import Derived.RangeFuncCalls
import Derived.RangeFuncLeaves
import Derived.Shelf.Abstract
import Derived.Shelf.RegionOpen
import Derived.WalkKit
import Derived.OwnWalkIn
import Derived.TacticsInMore
import Derived.LoopNIn
import Derived.LoopIn
import Derived.Test.YtjcdclnaplojcaaGreatDoorL
import Derived.Scope
import Derived.WalkMore
import Derived.Test.YtjcdclnaplojcaaGreatDoorJ1
import Derived.Test.YtjcdclnaplojcaaGreatDoorJ5
import Derived.Test.YtjcdclnaplojcaaGreatDoorWB
namespace Go.Proofs.YtjcdclnaplojcaaGreatDoor
set_option linter.unusedVariables false

/-- What is around a part, the innermost first: the lam or app that it is taken from, and whether it is its second term. -/
abbrev Cx := List (DB × Bool)
def parts : Cx → DB → List (Cx × DB)
  | c, .free x => [(c, .free x)]
  | c, .bnd i => [(c, .bnd i)]
  | c, .lam x b => (c, .lam x b) :: parts ((.lam x b, false) :: c) b
  | c, .app f a => (c, .app f a) :: (parts ((.app f a, false) :: c) f ++ parts ((.app f a, true) :: c) a)
def isSec : Cx → Bool
  | [] => false
  | (_, s) :: _ => s
def DB.isRdx : DB → Bool
  | .app f _ => f.isLam
  | _ => false
/-- Nothing found yet; left without one; found. -/
def scan (k : Bool) : List (Cx × DB) → Option (Option (Cx × DB))
  | [] => none
  | (c, r) :: l => if (k && isSec c) = true then some none else if r.isRdx = true then some (some (c, r)) else scan k l
theorem scan_append (k : Bool) (a b : List (Cx × DB)) : scan k (a ++ b) = match scan k a with
    | none => scan k b
    | some o => some o := by
  induction a with
  | nil => rfl
  | cons p a ih =>
    obtain ⟨c, r⟩ := p
    simp only [List.cons_append, scan]
    split
    · rfl
    · split
      · rfl
      · exact ih
def refill (p : DB) (s : Bool) (e : DB) : DB := match p with
  | .lam x _ => .lam x e
  | .app f a => if s then .app f e else .app e a
  | o => o
def plug : Cx → DB → DB
  | [], e => e
  | (p, s) :: c, e => plug c (refill p s e)
/-- What a redex becomes. -/
def conD : DB → DB
  | .app (.lam _ b) a => putB a 0 b
  | o => o
theorem isRdx_app (f a : DB) : (DB.app f a).isRdx = f.isLam := rfl
theorem DB.lam_of {f : DB} (h : f.isLam = true) : ∃ x b, f = .lam x b := by
  cases f with
  | lam x b => exact ⟨x, b, rfl⟩
  | free x => simp [DB.isLam] at h
  | bnd i => simp [DB.isLam] at h
  | app g c => simp [DB.isLam] at h
theorem scan_sec (c : Cx) (h : isSec c = true) (d : DB) (l : List (Cx × DB)) : scan true (parts c d ++ l) = some none := by
  cases d <;> simp [parts, scan, h]
/-- The head step is found. -/
theorem scan_head (d : DB) : ∀ c, isSec c = false → (headD d).map (plug c) = (scan true (parts c d)).join.map fun p => plug p.1 (conD p.2) := by
  induction d with
  | free x => intro c h; simp [headD, parts, scan, h, DB.isRdx]
  | bnd i => intro c h; simp [headD, parts, scan, h, DB.isRdx]
  | lam x b ih =>
    intro c h
    have := ih ((.lam x b, false) :: c) rfl
    simp only [headD, parts, scan, h, DB.isRdx, Bool.and_false, Bool.false_eq_true, if_false, Option.map_map]
    rw [← this]
    congr 1
  | app f a ihf iha =>
    intro c h
    cases hl : f.isLam with
    | true =>
      obtain ⟨x, b, rfl⟩ := DB.lam_of hl
      simp [headD, parts, scan, h, DB.isRdx, DB.isLam, conD]
    | false =>
      rw [headD_app f a hl]
      have := ihf ((.app f a, false) :: c) rfl
      simp only [parts, scan, h, DB.isRdx, hl, Bool.and_false, Bool.false_eq_true, if_false, Option.map_map]
      have e : (scan true (parts ((DB.app f a, false) :: c) f ++ parts ((DB.app f a, true) :: c) a)).join = (scan true (parts ((DB.app f a, false) :: c) f)).join := by
        rw [scan_append]
        have h2 := scan_sec ((DB.app f a, true) :: c) rfl a []
        rw [List.append_nil] at h2
        cases hs : scan true (parts ((DB.app f a, false) :: c) f) with
        | none => simp only; rw [h2]; rfl
        | some o => rfl
      rw [e, ← this]
      congr 1
/-- Without regard to second terms nothing is left without one. -/
theorem scan_full (d : DB) : ∀ c, (fullD d).map (plug c) = (scan false (parts c d)).join.map (fun p => plug p.1 (conD p.2)) ∧ scan false (parts c d) ≠ some none := by
  induction d with
  | free x => intro c; simp [fullD, parts, scan, DB.isRdx]
  | bnd i => intro c; simp [fullD, parts, scan, DB.isRdx]
  | lam x b ih =>
    intro c
    obtain ⟨h1, h2⟩ := ih ((.lam x b, false) :: c)
    simp only [fullD, parts, scan, DB.isRdx, Bool.false_and, Bool.false_eq_true, if_false, Option.map_map]
    refine ⟨?_, h2⟩
    rw [← h1]
    congr 1
  | app f a ihf iha =>
    intro c
    cases hl : f.isLam with
    | true =>
      obtain ⟨x, b, rfl⟩ := DB.lam_of hl
      simp [fullD, parts, scan, DB.isRdx, DB.isLam, conD]
    | false =>
      rw [fullD_app f a hl]
      obtain ⟨h1, h2⟩ := ihf ((.app f a, false) :: c)
      obtain ⟨h3, h4⟩ := iha ((.app f a, true) :: c)
      simp only [parts, scan, DB.isRdx, hl, Bool.false_and, Bool.false_eq_true, if_false]
      rw [scan_append]
      cases hs : scan false (parts ((DB.app f a, false) :: c) f) with
      | none =>
        rw [hs] at h1
        simp only [Option.join_none, Option.map_none, Option.map_eq_none_iff] at h1
        simp only [h1]
        refine ⟨?_, h4⟩
        rw [← h3, Option.map_map]
        congr 1
      | some o =>
        cases o with
        | none => exact absurd hs h2
        | some p =>
          rw [hs] at h1
          simp only [Option.join_some, Option.map_some] at h1 ⊢
          cases hf : fullD f with
          | none => rw [hf] at h1; cases h1
          | some g =>
            rw [hf] at h1
            simp only [Option.map_some, Option.some.injEq] at h1 ⊢
            exact ⟨by rw [← h1]; rfl, by simp⟩
/-- The redex of the step of a kind: what is around it, and itself. -/
def findD (k : Bool) (d : DB) : Option (Cx × DB) := (scan k (parts [] d)).join
theorem find_step (k : Bool) (d : DB) : stepD k d = (findD k d).map fun p => plug p.1 (conD p.2) := by
  have e : ∀ o : Option DB, o.map (plug []) = o := fun o => by cases o <;> rfl
  cases k
  · have := (scan_full d []).1; rw [e] at this; exact this
  · have := scan_head d [] rfl; rw [e] at this; exact this
theorem find_none (k : Bool) (d : DB) : (findD k d).isNone = (stepD k d).isNone := by
  rw [find_step]; cases findD k d <;> rfl
/-- What is found is a part and a redex. -/
theorem scan_mem (k : Bool) (l : List (Cx × DB)) (p : Cx × DB) (h : scan k l = some (some p)) : p ∈ l ∧ p.2.isRdx = true := by
  induction l with
  | nil => cases h
  | cons q l ih =>
    obtain ⟨c, r⟩ := q
    simp only [scan] at h
    split at h
    · cases h
    · split at h
      · rename_i hr
        injection h with h
        injection h with h
        subst h
        exact ⟨List.mem_cons_self, hr⟩
      · exact ⟨List.mem_cons_of_mem _ (ih h).1, (ih h).2⟩
/-- How many parts are redexes. -/
def cntR (l : List (Cx × DB)) : Nat := (l.filter fun p => p.2.isRdx).length
theorem cntR_append (a b : List (Cx × DB)) : cntR (a ++ b) = cntR a + cntR b := by simp [cntR]
theorem cntR_cons (p : Cx × DB) (l : List (Cx × DB)) : cntR (p :: l) = (if p.2.isRdx = true then 1 else 0) + cntR l := by
  unfold cntR
  rw [List.filter_cons]
  split
  · simp; omega
  · simp
theorem cntR_parts (d : DB) : ∀ c, cntR (parts c d) = d.reds := by
  induction d with
  | free x => intro c; simp [parts, cntR, DB.isRdx, DB.reds]
  | bnd i => intro c; simp [parts, cntR, DB.isRdx, DB.reds]
  | lam x b ih => intro c; rw [parts, cntR_cons, ih]; simp [DB.isRdx, DB.reds]
  | app f a ihf iha => intro c; rw [parts, cntR_cons, cntR_append, ihf, iha]; cases hl : f.isLam <;> simp [DB.isRdx, DB.reds, hl] <;> omega
theorem parts_length (d : DB) : ∀ c, (parts c d).length ≤ d.atoms := by
  induction d with
  | free x => intro c; simp [parts, DB.atoms]
  | bnd i => intro c; simp [parts, DB.atoms]
  | lam x b ih => intro c; have := ih ((.lam x b, false) :: c); simp only [parts, DB.atoms, List.length_cons]; omega
  | app f a ihf iha =>
    intro c
    have h1 := ihf ((.app f a, false) :: c)
    have h2 := iha ((.app f a, true) :: c)
    simp only [parts, DB.atoms, List.length_cons, List.length_append]; omega
/-- Each part is a proper redex of closed depth, no greater than the term. -/
theorem parts_ne (c : Cx) (d : DB) : parts c d ≠ [] := by cases d <;> simp [parts]
end Go.Proofs.YtjcdclnaplojcaaGreatDoor

namespace Go.Proofs.YtjcdclnaplojcaaGreatDoor
set_option linter.unusedVariables false
open Go.RowKit Go.Shelf

/-- Nothing has turned but the loop's two own blocks. -/
structure Steady (D : Nat) (W W' : World) : Prop where
  below : Below D W W'
  same : ∀ q, q < W.heap.size → q ≠ D → q ≠ D + 1 → W'.heap[q]? = W.heap[q]?
/-- What a round keeps: all below n₀, and cells of chosen types from n₁ on. -/
structure Mid (tk : TypeId → Prop) (n₀ n₁ : Nat) (W W' : World) : Prop where
  below : Below n₀ W W'
  same : ∀ (q : Nat) (cs : Array Value) (t : TypeId), n₁ ≤ q → tk t → W.heap[q]? = some (.cells cs t (0, 0)) → W'.heap[q]? = some (.cells cs t (0, 0))
theorem Mid.refl (tk : TypeId → Prop) (n₀ n₁ : Nat) (W : World) : Mid tk n₀ n₁ W W := ⟨Below.refl _ _, fun _ _ _ _ _ h => h⟩
theorem Mid.trans {tk : TypeId → Prop} {n₀ n₁ : Nat} {A B C : World} (h : Mid tk n₀ n₁ A B) (k : Mid tk n₀ n₁ B C) : Mid tk n₀ n₁ A C :=
  ⟨h.below.trans k.below, fun q cs t h1 h2 h3 => k.same q cs t h1 h2 (h.same q cs t h1 h2 h3)⟩
/-- Blocks came, none turned. -/
theorem Mid.fresh {tk : TypeId → Prop} {n₀ n₁ : Nat} {W W' : World} (hn : n₀ ≤ W.heap.size) (h : Below W.heap.size W W') : Mid tk n₀ n₁ W W' :=
  ⟨h.mono hn, fun q cs t _ _ h3 => (h.block q (Array.getElem?_eq_some_iff.1 h3).1).trans h3⟩
theorem Steady.fresh {D : Nat} {W W' : World} (hn : D ≤ W.heap.size) (h : Below W.heap.size W W') : Steady D W W' := ⟨h.mono hn, fun q hq _ _ => h.block q hq⟩
theorem putObj_below (n₀ : Nat) (W : World) (l : Nat) (o : Obj) (hl : n₀ ≤ l) : Below n₀ W (W.putObj l o) :=
  ⟨rfl, rfl, rfl, by simp, fun k hk => World.putObj_heap_other (by omega)⟩
theorem Steady.put {D : Nat} (W : World) (l : Nat) (o : Obj) (hl : l = D ∨ l = D + 1) : Steady D W (W.putObj l o) :=
  ⟨putObj_below _ _ _ _ (by omega), fun q _ h1 h2 => World.putObj_heap_other (by omega)⟩
theorem Mid.put {tk : TypeId → Prop} {n₀ D : Nat} (hn : n₀ ≤ D) (W : World) (l : Nat) (o : Obj) (hl : l = D ∨ l = D + 1) : Mid tk n₀ (D + 2) W (W.putObj l o) :=
  ⟨putObj_below _ _ _ _ (by omega), fun q cs t h1 _ h3 => (World.putObj_heap_other (by omega)).trans h3⟩

/-- A caller's invariant abides what comes to be. -/
def Abide {α : Type} (J : List α → World → Prop) : Prop := ∀ s W W', J s W → Below W.heap.size W W' → J s W'
/-- How a round ends, for the iterator. -/
def Yields {α : Type} (tk : TypeId → Prop) (n₀ n₁ : Nat) (J Jx : List α → World → Prop) (xs : List α) (W : World) (e : Ending) (W' : World) : Prop :=
  (e = .returned (.bool true) ∧ J xs W' ∧ Mid tk n₀ n₁ W W') ∨ (e = .returned (.bool false) ∧ Jx xs W')
/-- An iterator's contract. -/
def Gives {α : Type} (tk : TypeId → Prop) (n₀ n₁ : Nat) (F : Fence) (n : Nat) (P : Program) (gf : Nat) (lb : Array Value) (encs : α → Array Value) (Fx : α → World → Prop) (S Sp : List α → Prop) (N : Nat) (w : World) : Prop :=
  ∀ (l : Nat) (J Jx : List α → World → Prop) (W : World), Below w.heap.size w W → n₁ ≤ W.heap.size → Abide J → Abide Jx →
    (∀ pre x W1, J pre W1 → Fx x W1 → pre.length < N → YieldAt F (n - 1) P l (encs x) W1 (Yields tk n₀ n₁ J Jx (pre ++ [x]) W1)) → J [] W →
    CallsIn F n P gf (#[.func (.yield l) #[] #[]] ++ lb) W fun e W' => (∃ v, e = .returned v) ∧ ((∃ xs, S xs ∧ J xs W') ∨ (∃ pre, Sp pre ∧ Jx pre W'))

/-- The loop's two own blocks lie as they lay. -/
def Ends (D : Nat) (W W' : World) : Prop := W'.heap[D]? = W.heap[D]? ∧ W'.heap[D + 1]? = W.heap[D + 1]?
/-- How the body of a round may be left. -/
def roundEnd {α : Type} (tk : TypeId → Prop) (n₀ D : Nat) (I : List α → World → Prop) (Ix : Code → List α → World → Prop) (xs : List α) (W : World) : Exit → Act → World → Prop
  | .normal, _, W' => Ends D W W' ∧ Mid tk n₀ (D + 2) W W' ∧ I xs W'
  | .ret, _, W' => Ends D W W' ∧ Ix .ret xs W'
  | .exit id, _, W' => Ends D W W' ∧ Ix (.exit id) xs W'
  | _, _, _ => False

/-- The loop's record. -/
def rec' (fn : FuncId) (tmps : Array Value) (ps : Array Tmp) (assign body : Code) (D : Nat) (st : LoopState) (pe : Option Code) : Loop := { state := st, pending := pe, fn := fn, tmps := tmps, params := ps, assign := assign, body := body, defers := D }

variable {F : Fence} {n : Nat} {P : Program}
theorem wp_rounds {α : Type} {g : Operand} {ps : Array Tmp} {assign body : Code} {Q : Exit → Act → World → Prop} {a : Act} {w : World} {gf : Nat} {lb : Array Value}
    {encs : α → Array Value} {Fx : α → World → Prop} {tk : TypeId → Prop} {n₀ : Nat} {S Sp : List α → Prop} {N : Nat}
    (hro : F.round = none) (h1 : 1 ≤ n) (hg : a.eval g = .func (.func gf) #[] lb) (hFg : F.fn gf) (eg : ∀ args w, (callFunc gf args).run P w = .ok (.enter gf args) w)
    (hn : n₀ ≤ w.heap.size) (hseq : Gives tk n₀ (w.heap.size + 2) F (n - 1) P gf lb encs Fx S Sp N w) (hps : ∀ x, (encs x).size = ps.size)
    (I : List α → World → Prop) (Ix : Code → List α → World → Prop)
    (hFx : ∀ x W W', Fx x W → Steady w.heap.size W W' → Fx x W') (hI : ∀ s W W', I s W → Steady w.heap.size W W' → I s W') (hIx : ∀ c s W W', Ix c s W → Steady w.heap.size W W' → Ix c s W') (h0 : I [] w) (a₁ : α → Act)
    (hassign : ∀ (l : Nat) (x : α) (W : World) (K : Act → World → Prop), K (a₁ x) W →
      assign.wpIn (F.inRound l) (n - 1 - 1) P (Exit.then K (fun _ _ _ => False)) { tmps := (ps.zip (encs x)).foldl (fun t (p, v) => t.setIfInBounds p v) a.tmps, defers := [] } W)
    (hbody : ∀ (l : Nat) (pre : List α) (x : α) (W : World), I pre W → Fx x W → pre.length < N → w.heap.size + 2 ≤ W.heap.size → body.wpIn (F.inRound l) (n - 1 - 1) P (roundEnd tk n₀ w.heap.size I Ix (pre ++ [x]) W) (a₁ x) W)
    (hdone : ∀ (xs : List α) (W : World), S xs → I xs W → W.heap[w.heap.size]? = some (.deferred (some [])) → Q .normal { a with defers := { target := .collected w.heap.size, args := #[] } :: a.defers } W)
    (hstop : ∀ (c : Code) (pre : List α) (W : World), Sp pre → Ix c pre W → W.heap[w.heap.size]? = some (.deferred (some [])) → c.wpIn F n P Q { a with defers := { target := .collected w.heap.size, args := #[] } :: a.defers } W) :
    (Code.rangeFunc g ps assign body).wpIn F n P Q a w := by
  refine wpIn_rangeFunc fun fn hfn => ?_
  rw [hro]
  have hD : ∃ D, w.heap.size = D := ⟨_, rfl⟩
  obtain ⟨D, hD⟩ := hD
  have eL := run_enterLoop_outer (P := P) (w := w) fn a.tmps ps assign body
  rw [hD] at eL hn hseq hFx hI hIx hbody hdone hstop
  generalize hW1 : (w.alloc (.deferred (some []))).alloc (.loop { state := .ready, pending := none, fn, tmps := a.tmps, params := ps, assign, body, defers := D }) = W1 at eL
  have s1 : W1.heap.size = D + 2 := by rw [← hW1]; simp [hD]
  have hst : Steady D w W1 := by
    rw [← hW1]
    refine Steady.fresh (by omega) (((Below.refl _ _).alloc (Nat.le_refl _) _).alloc (by simp) _)
  have hl : W1.heap[D + 1]? = some (.loop (rec' fn a.tmps ps assign body D .ready none)) := by
    rw [← hW1, ← hD]
    have := World.alloc_heap_new (w.alloc (.deferred (some []))) (.loop { state := .ready, pending := none, fn, tmps := a.tmps, params := ps, assign, body, defers := w.heap.size })
    rwa [World.size_alloc] at this
  have hd : W1.heap[D]? = some (.deferred (some [])) := by
    rw [← hW1, ← hD]
    exact (Below.heap_alloc _ _ _ (by simp)).trans (World.alloc_heap_new w _)
  refine ⟨D + 1, [{ target := .collected D, args := #[] }], W1, { target := .fn (.func gf) lb, args := #[.func (.yield (D + 1)) #[] #[]] }, W1, gf, #[.func (.yield (D + 1)) #[] #[]] ++ lb, W1, eL, ?_, ?_, ?_, fun _ => h1, ?_⟩
  · simp only [resolve, hg]
    simp [go_sem]
  · intro f' hf'
    simp [Target.leads] at hf'
    subst hf'
    exact hFg
  · simp [invoke, go_sem, eg]
  refine (hseq (D + 1)
    (fun s W => D + 2 ≤ W.heap.size ∧ I s W ∧ W.heap[D + 1]? = some (.loop (rec' fn a.tmps ps assign body D .ready none)) ∧ W.heap[D]? = some (.deferred (some [])))
    (fun s W => D + 2 ≤ W.heap.size ∧ ∃ c, Ix c s W ∧ W.heap[D + 1]? = some (.loop (rec' fn a.tmps ps assign body D .done (some c))) ∧ W.heap[D]? = some (.deferred (some [])))
    W1 ?_ (by omega) ?_ ?_ ?_ ⟨by omega, hI _ _ _ h0 hst, hl, hd⟩).mono ?_
  · rw [hD]; exact hst.below
  · rintro s A B ⟨k1, k2, k3, k4⟩ hb
    have := hb.size
    exact ⟨by omega, hI _ _ _ k2 (Steady.fresh (by omega) hb), (hb.block _ (by omega)).trans k3, (hb.block _ (by omega)).trans k4⟩
  · rintro s A B ⟨k1, c, k2, k3, k4⟩ hb
    have := hb.size
    exact ⟨by omega, c, hIx _ _ _ _ k2 (Steady.fresh (by omega) hb), (hb.block _ (by omega)).trans k3, (hb.block _ (by omega)).trans k4⟩
  · rintro pre x W ⟨k1, k2, k3, k4⟩ hf hlen
    refine ⟨fn, _, assign, body, run_yield (r := rec' fn a.tmps ps assign body D .ready none) k3 (hps x), roundIn_of_wpIn hfn (hassign _ x W _ ⟨_, run_beginRound k3 rfl, ?_⟩)⟩
    have st := Steady.put (D := D) W (D + 1) (.loop { rec' fn a.tmps ps assign body D .ready none with state := .busy }) (.inr rfl)
    have b3 : (W.putObj (D + 1) (.loop { rec' fn a.tmps ps assign body D .ready none with state := .busy })).heap[D + 1]? = some (.loop (rec' fn a.tmps ps assign body D .busy none)) := World.putObj_heap_same (by omega)
    have b4 : (W.putObj (D + 1) (.loop { rec' fn a.tmps ps assign body D .ready none with state := .busy })).heap[D]? = some (.deferred (some [])) := (World.putObj_heap_other (by omega)).trans k4
    have bm : Mid tk n₀ (D + 2) W (W.putObj (D + 1) (.loop { rec' fn a.tmps ps assign body D .ready none with state := .busy })) := Mid.put hn _ _ _ (.inr rfl)
    refine wpIn_mono (hbody _ pre x _ (hI _ _ _ k2 st) (hFx _ _ _ hf st) hlen (by simpa using k1)) ?_
    generalize W.putObj (D + 1) (.loop { rec' fn a.tmps ps assign body D .ready none with state := .busy }) = Wb at b3 b4 bm
    have fin : ∀ (j : Option Code) (W3 : World), Ends D Wb W3 → (Instr.endRound (D + 1) j).run P W3 = .ok (.bool j.isNone) (W3.putObj (D + 1) (.loop (rec' fn a.tmps ps assign body D (if j.isNone then .ready else .done) j))) ∧
        (W3.putObj (D + 1) (.loop (rec' fn a.tmps ps assign body D (if j.isNone then .ready else .done) j))).heap[D + 1]? = some (.loop (rec' fn a.tmps ps assign body D (if j.isNone then .ready else .done) j)) ∧
        (W3.putObj (D + 1) (.loop (rec' fn a.tmps ps assign body D (if j.isNone then .ready else .done) j))).heap[D]? = some (.deferred (some [])) ∧ D + 2 ≤ W3.heap.size := by
      intro j W3 he
      have e3 := he.2.trans b3
      have hlt := (Array.getElem?_eq_some_iff.1 e3).1
      exact ⟨run_endRound j e3, World.putObj_heap_same hlt, (World.putObj_heap_other (by omega)).trans (he.1.trans b4), by omega⟩
    rintro e a3 W3 hp
    cases e with
    | normal =>
      obtain ⟨p1, p2, p3⟩ := hp
      obtain ⟨r1, r2, r3, r4⟩ := fin none W3 p1
      exact ⟨_, _, r1, .inl ⟨rfl, ⟨by simpa using r4, hI _ _ _ p3 (Steady.put _ _ _ (.inr rfl)), r2, r3⟩, (bm.trans p2).trans (Mid.put hn _ _ _ (.inr rfl))⟩⟩
    | ret =>
      obtain ⟨p1, p3⟩ := hp
      obtain ⟨r1, r2, r3, r4⟩ := fin (some .ret) W3 p1
      exact ⟨_, _, r1, .inr ⟨rfl, by simpa using r4, _, hIx _ _ _ _ p3 (Steady.put _ _ _ (.inr rfl)), r2, r3⟩⟩
    | exit id =>
      obtain ⟨p1, p3⟩ := hp
      obtain ⟨r1, r2, r3, r4⟩ := fin (some (.exit id)) W3 p1
      exact ⟨_, _, r1, .inr ⟨rfl, by simpa using r4, _, hIx _ _ _ _ p3 (Steady.put _ _ _ (.inr rfl)), r2, r3⟩⟩
    | goto t => exact hp.elim
    | panic ch => exact hp.elim
    | outgrown => exact hp.elim
  · rintro e W2 ⟨⟨v, rfl⟩, ⟨xs, hS, k1, k2, k3, k4⟩ | ⟨pre, hS, k1, c, k2, k3, k4⟩⟩
    · exact ⟨none, _, run_endLoop k3 (by simp [rec']), hdone xs _ hS (hI _ _ _ k2 (Steady.put _ _ _ (.inr rfl))) ((World.putObj_heap_other (by omega)).trans k4)⟩
    · exact ⟨some c, _, run_endLoop k3 (by simp [rec']), hstop c pre _ hS (hIx _ _ _ _ k2 (Steady.put _ _ _ (.inr rfl))) ((World.putObj_heap_other (by omega)).trans k4)⟩
end Go.Proofs.YtjcdclnaplojcaaGreatDoor

namespace Go.Proofs.YtjcdclnaplojcaaGreatDoor
set_option linter.unusedVariables false
open Go.RowKit Go.Shelf
attribute [local go_sem] Oper.semAt_some

/-- What is around a part, in memory from block n₁ on. -/
def CxAt (w : World) (P : Nat → Prop) (n₁ : Nat) : Cx → Value → Prop
  | [], v => v = .pointer none
  | (f, s) :: c, v => ∃ q u t, v = .pointer (some ⟨q, 0, none⟩) ∧ n₁ ≤ q ∧ Blk w q 184 #[u, t, .bool s] ∧ DAt w P f t ∧ CxAt w P n₁ c u
/-- The cells that are kept: those of contexts. -/
def ctxT (t : TypeId) : Prop := t = 184
theorem DAt.mid {w w' : World} {P : Nat → Prop} {tk : TypeId → Prop} {n₀ n₁ : Nat} {d : DB} {v : Value} (h : DAt w P d v) (hm : Mid tk n₀ n₁ w w') (hP : ∀ b, P b → b < n₀) : DAt w' P d v :=
  h.mono fun b hb => ⟨hb, hm.below.block b (hP b hb)⟩
theorem CxAt.mid {w w' : World} {P : Nat → Prop} {n₀ n₁ : Nat} (hm : Mid ctxT n₀ n₁ w w') (hP : ∀ b, P b → b < n₀) : ∀ {c : Cx} {v : Value}, CxAt w P n₁ c v → CxAt w' P n₁ c v := by
  intro c
  induction c with
  | nil => intro v h; exact h
  | cons p c ih =>
    obtain ⟨f, s⟩ := p
    rintro v ⟨q, u, t, rfl, hq, hb, hd, hc⟩
    exact ⟨q, u, t, rfl, hq, hm.same q _ _ hq rfl hb, hd.mid hm hP, ih hc⟩
theorem CxAt.shape {w : World} {P : Nat → Prop} {n₁ : Nat} {c : Cx} {v : Value} (h : CxAt w P n₁ c v) : ∃ o, v = .pointer o := by
  cases c with
  | nil => exact ⟨none, h⟩
  | cons p c => obtain ⟨f, s⟩ := p; obtain ⟨q, u, t, rfl, _⟩ := h; exact ⟨_, rfl⟩
/-- What the iterator hands out: two pointers; what they stand for. -/
abbrev El := (Value × Value) × (Cx × DB)
def elV (x : El) : Array Value := #[x.1.1, x.1.2]
def ElAt (P : Nat → Prop) (n₁ : Nat) (x : El) (w : World) : Prop := CxAt w P n₁ x.2.1 x.1.1 ∧ DAt w P x.2.2 x.1.2

def EachPost (n₀ n₁ : Nat) (J Jx : List El → World → Prop) (c : Cx) (d : DB) (pre : List El) (W : World) (e : Ending) (W' : World) : Prop :=
  (e = .returned (.bool true) ∧ (∃ xs, xs.map Prod.snd = parts c d ∧ J (pre ++ xs) W') ∧ Mid ctxT n₀ n₁ W W') ∨ (e = .returned (.bool false) ∧ ∃ xs, xs.map Prod.snd <+: parts c d ∧ Jx (pre ++ xs) W')
def EachSaid (P : Nat → Prop) (n₀ n₁ N l : Nat) (J Jx : List El → World → Prop) (d : DB) : Prop :=
  ∀ (m : Nat) (c : Cx) (cv tv : Value) (pre : List El) (W : World), CxAt W P n₁ c cv → DAt W P d tv → J pre W → n₁ ≤ W.heap.size → pre.length + (parts c d).length ≤ N →
    CallsIn Fence.wide m Tryz.prog 121 #[tv, cv, .func (.yield l) #[] #[]] W (EachPost n₀ n₁ J Jx c d pre W)

section
variable {P : Nat → Prop} {n₀ n₁ N l : Nat} {J Jx : List El → World → Prop}
/-- The round at a part; what the iterator wants behind it. -/
theorem each_yield (hY : ∀ (m : Nat) pre x W1, J pre W1 → ElAt P n₁ x W1 → pre.length < N → YieldAt Fence.wide m Tryz.prog l (elV x) W1 (Yields ctxT n₀ n₁ J Jx (pre ++ [x]) W1)) (d : DB) (m : Nat) (c : Cx) (cv tv : Value) (pre : List El) (W : World) (hc : CxAt W P n₁ c cv) (hd : DAt W P d tv) (hJ : J pre W) (hN : pre.length + (parts c d).length ≤ N)
    (K : World → Prop) (hK : ∀ W1, J (pre ++ [((cv, tv), (c, d))]) W1 → Mid ctxT n₀ n₁ W W1 → K W1) :
    YieldAt Fence.wide m Tryz.prog l #[cv, tv] W fun e W1 => (e = .returned (.bool true) ∧ K W1) ∨ (e = .returned (.bool false) ∧ EachPost n₀ n₁ J Jx c d pre W e W1) := by
  have hp : 0 < (parts c d).length := List.length_pos_iff.2 (parts_ne c d)
  refine (hY m pre ((cv, tv), (c, d)) W hJ ⟨hc, hd⟩ (by omega)).mono ?_
  rintro e W1 (⟨rfl, h1, h2⟩ | ⟨rfl, h1⟩)
  · exact .inl ⟨rfl, hK W1 h1 h2⟩
  · refine .inr ⟨rfl, .inr ⟨rfl, [_], ?_, h1⟩⟩
    cases d <;> simp [parts]
theorem hdW (k : Nat) : Fence.wide.depth.isSome = true → 1 ≤ k := fun h => by cases h

theorem each_name (hY : ∀ (m : Nat) pre x W1, J pre W1 → ElAt P n₁ x W1 → pre.length < N → YieldAt Fence.wide m Tryz.prog l (elV x) W1 (Yields ctxT n₀ n₁ J Jx (pre ++ [x]) W1)) (hP : ∀ b, P b → b < n₀) (d : DB) (hd0 : (∃ y, d = .free y) ∨ ∃ i, d = .bnd i) : EachSaid P n₀ n₁ N l J Jx d := by
  intro m c cv tv pre W hc hd hJ hn hN
  obtain ⟨b, f, x0, x1, x2, x3, rfl, hb, hk, hf⟩ : ∃ (b f : Nat) (x0 x1 x2 x3 : Value), tv = .pointer (some ⟨b, 0, none⟩) ∧ P b ∧ Blk W b 132 #[.int .i64 f, x0, x1, x2, x3] ∧ f < 2 := by
    rcases hd0 with ⟨y, rfl⟩ | ⟨i, rfl⟩
    · obtain ⟨b, rfl, hb, hl, hk⟩ := hd
      exact ⟨b, 0, _, _, _, _, rfl, hb, hk, by omega⟩
    · obtain ⟨b, rfl, hb, hk⟩ := hd
      exact ⟨b, 1, _, _, _, _, rfl, hb, hk, by omega⟩
  have hone : parts c d = [(c, d)] := by rcases hd0 with ⟨y, rfl⟩ | ⟨i, rfl⟩ <;> rfl
  have hy := each_yield hY d (m - 1) c cv (.pointer (some ⟨b, 0, none⟩)) pre W hc hd hJ hN (fun W1 => W1.cell? ⟨b, 0, none⟩ = some (.int .i64 f) ∧ EachPost n₀ n₁ J Jx c d pre W (.returned (.bool true)) W1) (fun W1 h1 h2 => by
    have k1 : Blk W1 b _ _ := (h2.below.block b (hP b hb)).trans hk
    have k0 := k1.cell 0
    simp at k0
    exact ⟨k0, .inl ⟨rfl, ⟨[_], by rw [hone]; rfl, h1⟩, h2⟩⟩)
  have n2 : ((f : Int) == 2) = false := beq_eq_false_iff_ne.2 (by omega)
  have n3 : ((f : Int) == 3) = false := beq_eq_false_iff_ne.2 (by omega)
  clear hY hc hd hJ hk hd0 hone hN hn hP
  obtain ⟨fn, tmps, assign, body, hy, hR⟩ := hy
  refine callsIn_of_wp Tryz.func121 rfl trivial ?_
  simp only [Tryz.ntmps121, List.size_toArray, List.length_cons, List.length_nil, Nat.reduceAdd, Nat.reduceSub, Array.replicate_succ, Array.replicate_zero, List.push_toArray, List.append_toArray, List.nil_append, List.cons_append]
  gi_wp2_with ((try refine ⟨hdW _, ?_⟩); refine hR.mono ?_; clear hR; rintro e W1 (⟨rfl, k1, hp⟩ | ⟨rfl, hp⟩))
  all_goals
    go_ret
    exact hp

theorem CxAt.alloc {w : World} {P : Nat → Prop} {n₀ n₁ : Nat} {c : Cx} {v : Value} (h : CxAt w P n₁ c v) (hP : ∀ b, P b → b < n₀) (hn : n₀ ≤ w.heap.size) (o : Obj) : CxAt (w.alloc o) P n₁ c v :=
  h.mid (Mid.fresh hn ((Below.refl _ _).alloc (Nat.le_refl _) _)) hP
theorem DAt.alloc0 {w : World} {P : Nat → Prop} {n₀ : Nat} {d : DB} {v : Value} (h : DAt w P d v) (hP : ∀ b, P b → b < n₀) (hn : n₀ ≤ w.heap.size) (o : Obj) : DAt (w.alloc o) P d v :=
  h.mono fun b hb => ⟨hb, Below.heap_alloc _ _ _ (by have := hP b hb; omega)⟩

set_option maxRecDepth 100000 in
set_option maxHeartbeats 1000000 in
theorem each_lam (hY : ∀ (m : Nat) pre x W1, J pre W1 → ElAt P n₁ x W1 → pre.length < N → YieldAt Fence.wide m Tryz.prog l (elV x) W1 (Yields ctxT n₀ n₁ J Jx (pre ++ [x]) W1)) (hP : ∀ b, P b → b < n₀) (hn01 : n₀ ≤ n₁) (hAJ : Abide J) (y : List UInt8) (d : DB) (ih : EachSaid P n₀ n₁ N l J Jx d) : EachSaid P n₀ n₁ N l J Jx (.lam y d) := by
  intro m c cv tv pre W hc hd hJ hn hN
  obtain ⟨b, q, rfl, hb, hx, hk, he⟩ := id hd
  obtain ⟨cp, rfl⟩ := hc.shape
  have hy := each_yield hY (.lam y d) (m - 1) c (.pointer cp) (.pointer (some ⟨b, 0, none⟩)) pre W hc hd hJ hN (fun W1 => W1.cell? ⟨b, 0, none⟩ = some (.int .i64 2) ∧ W1.cell? ⟨b, 3, none⟩ = some (.pointer (some ⟨q, 0, none⟩)) ∧
      CallsIn Fence.wide (m - 1) Tryz.prog 121 #[.pointer (some ⟨q, 0, none⟩), .pointer (some ⟨W1.heap.size, 0, none⟩), .func (.yield l) #[] #[]] (W1.alloc (.cells #[.pointer cp, .pointer (some ⟨b, 0, none⟩), .bool false] 184)) (EachPost n₀ n₁ J Jx c (.lam y d) pre W)) (fun W1 h1 h2 => by
    have k1 : Blk W1 b _ _ := (h2.below.block b (hP b hb)).trans hk
    have k0 := k1.cell 0
    have k3 := k1.cell 3
    simp at k0 k3
    have hz := h2.below.size
    have hn1 : n₁ ≤ W1.heap.size := by omega
    have hbel : Below W1.heap.size W1 (W1.alloc (.cells #[.pointer cp, .pointer (some ⟨b, 0, none⟩), .bool false] 184)) := (Below.refl _ _).alloc (Nat.le_refl _) _
    refine ⟨k0, k3, (ih (m - 1) ((.lam y d, false) :: c) _ _ (pre ++ [((.pointer cp, .pointer (some ⟨b, 0, none⟩)), (c, .lam y d))]) _ ⟨W1.heap.size, .pointer cp, .pointer (some ⟨b, 0, none⟩), rfl, hn1, Blk.new _ _ _, (hd.mid h2 hP).alloc0 hP (by omega) _, (hc.mid h2 hP).alloc hP (by omega) _⟩ ((he.mid h2 hP).alloc0 hP (by omega) _) (hAJ _ _ _ h1 hbel) (by simp; omega) (by simp only [parts, List.length_append, List.length_cons, List.length_nil] at hN ⊢; omega)).mono ?_⟩
    rintro e W3 (⟨rfl, ⟨xs, hxs, hj⟩, hm⟩ | ⟨rfl, xs, hxs, hj⟩)
    · exact .inl ⟨rfl, ⟨((.pointer cp, .pointer (some ⟨b, 0, none⟩)), (c, .lam y d)) :: xs, by simp [parts, hxs], by simpa using hj⟩, h2.trans ((Mid.fresh (by omega) hbel).trans hm)⟩
    · exact .inr ⟨rfl, ((.pointer cp, .pointer (some ⟨b, 0, none⟩)), (c, .lam y d)) :: xs, by rw [List.map_cons, parts]; exact (List.prefix_cons_inj _).2 hxs, by simpa using hj⟩)
  clear hY hc hd hJ hk he hN hn hP ih hAJ
  obtain ⟨fn, tmps, assign, body, hy, hR⟩ := hy
  refine callsIn_of_wp Tryz.func121 rfl trivial ?_
  simp only [Tryz.ntmps121, List.size_toArray, List.length_cons, List.length_nil, Nat.reduceAdd, Nat.reduceSub, Array.replicate_succ, Array.replicate_zero, List.push_toArray, List.append_toArray, List.nil_append, List.cons_append]
  gi_wp2_with (first
    | ((try refine ⟨hdW _, ?_⟩); refine hR.mono ?_; clear hR; rintro e W1 (⟨rfl, k1, k3, hp⟩ | ⟨rfl, hp⟩))
    | ((try refine ⟨trivial, ?_⟩); (try refine ⟨hdW _, ?_⟩); gi_at_call 121; refine hp.mono ?_; clear hp; rintro e W3 (⟨rfl, hq⟩ | ⟨rfl, hq⟩)))
  · go_ret
    exact .inl ⟨rfl, hq⟩
  · go_ret
    exact .inr ⟨rfl, hq⟩
  · go_ret
    exact hp

theorem eachPost_app {f a : DB} {c : Cx} {pre : List El} {x : El} {xs : List El} {W W' : World} {e : Ending} (hx : x.2 = (c, .app f a)) (hxs : xs.map Prod.snd = parts ((.app f a, false) :: c) f) (hm : Mid ctxT n₀ n₁ W W') {W'' : World} (h : EachPost n₀ n₁ J Jx ((.app f a, true) :: c) a (pre ++ [x] ++ xs) W' e W'') : EachPost n₀ n₁ J Jx c (.app f a) pre W e W'' := by
  rcases h with ⟨rfl, ⟨ys, hys, hj⟩, hm2⟩ | ⟨rfl, ys, hys, hj⟩
  · exact .inl ⟨rfl, ⟨x :: (xs ++ ys), by simp [parts, hx, hxs, hys], by simpa using hj⟩, hm.trans hm2⟩
  · refine .inr ⟨rfl, x :: (xs ++ ys), ?_, by simpa using hj⟩
    rw [List.map_cons, parts, hx, List.map_append, hxs]
    exact (List.prefix_cons_inj _).2 ((List.prefix_append_right_inj _).2 hys)

set_option maxRecDepth 100000 in
set_option maxHeartbeats 1000000 in
theorem each_app (hY : ∀ (m : Nat) pre x W1, J pre W1 → ElAt P n₁ x W1 → pre.length < N → YieldAt Fence.wide m Tryz.prog l (elV x) W1 (Yields ctxT n₀ n₁ J Jx (pre ++ [x]) W1)) (hP : ∀ b, P b → b < n₀) (hn01 : n₀ ≤ n₁) (hAJ : Abide J) (f a : DB) (ihf : EachSaid P n₀ n₁ N l J Jx f) (iha : EachSaid P n₀ n₁ N l J Jx a) : EachSaid P n₀ n₁ N l J Jx (.app f a) := by
  intro m c cv tv pre W hc hd hJ hn hN
  obtain ⟨b, q, r, rfl, hb, hk, hf, ha⟩ := id hd
  obtain ⟨cp, rfl⟩ := hc.shape
  have hy := each_yield hY (.app f a) (m - 1) c (.pointer cp) (.pointer (some ⟨b, 0, none⟩)) pre W hc hd hJ hN (fun W1 => W1.cell? ⟨b, 0, none⟩ = some (.int .i64 3) ∧ W1.cell? ⟨b, 3, none⟩ = some (.pointer (some ⟨q, 0, none⟩)) ∧
      CallsIn Fence.wide (m - 1) Tryz.prog 121 #[.pointer (some ⟨q, 0, none⟩), .pointer (some ⟨W1.heap.size, 0, none⟩), .func (.yield l) #[] #[]] (W1.alloc (.cells #[.pointer cp, .pointer (some ⟨b, 0, none⟩), .bool false] 184)) (fun e W2 => (e = .returned (.bool true) ∧ W2.cell? ⟨b, 4, none⟩ = some (.pointer (some ⟨r, 0, none⟩)) ∧
        CallsIn Fence.wide (m - 1) Tryz.prog 121 #[.pointer (some ⟨r, 0, none⟩), .pointer (some ⟨W2.heap.size, 0, none⟩), .func (.yield l) #[] #[]] (W2.alloc (.cells #[.pointer cp, .pointer (some ⟨b, 0, none⟩), .bool true] 184)) (EachPost n₀ n₁ J Jx c (.app f a) pre W)) ∨ (e = .returned (.bool false) ∧ EachPost n₀ n₁ J Jx c (.app f a) pre W e W2))) (fun W1 h1 h2 => by
    have k1 : Blk W1 b _ _ := (h2.below.block b (hP b hb)).trans hk
    have k0 := k1.cell 0
    have k3 := k1.cell 3
    simp at k0 k3
    have hz := h2.below.size
    have hn1 : n₁ ≤ W1.heap.size := by omega
    have hbel : Below W1.heap.size W1 (W1.alloc (.cells #[.pointer cp, .pointer (some ⟨b, 0, none⟩), .bool false] 184)) := (Below.refl _ _).alloc (Nat.le_refl _) _
    have hN' : pre.length + (1 + (parts ((.app f a, false) :: c) f).length + (parts ((.app f a, true) :: c) a).length) ≤ N := by
      simp only [parts, List.length_append, List.length_cons] at hN
      omega
    refine ⟨k0, k3, (ihf (m - 1) ((.app f a, false) :: c) _ _ (pre ++ [((.pointer cp, .pointer (some ⟨b, 0, none⟩)), (c, .app f a))]) _ ⟨W1.heap.size, .pointer cp, .pointer (some ⟨b, 0, none⟩), rfl, hn1, Blk.new _ _ _, (hd.mid h2 hP).alloc0 hP (by omega) _, (hc.mid h2 hP).alloc hP (by omega) _⟩ ((hf.mid h2 hP).alloc0 hP (by omega) _) (hAJ _ _ _ h1 hbel) (by simp; omega) (by simp only [List.length_append, List.length_cons, List.length_nil]; omega)).mono ?_⟩
    rintro e W2 (⟨rfl, ⟨xs, hxs, hj⟩, hm⟩ | ⟨rfl, xs, hxs, hj⟩)
    · refine .inl ⟨rfl, ?_⟩
      have h3 := h2.trans ((Mid.fresh (by omega) hbel).trans hm)
      have q1 : Blk W2 b _ _ := (h3.below.block b (hP b hb)).trans hk
      have q4 := q1.cell 4
      simp at q4
      have hz2 := h3.below.size
      have hbel2 : Below W2.heap.size W2 (W2.alloc (.cells #[.pointer cp, .pointer (some ⟨b, 0, none⟩), .bool true] 184)) := (Below.refl _ _).alloc (Nat.le_refl _) _
      have hlen : xs.length = (parts ((.app f a, false) :: c) f).length := by rw [← hxs]; simp
      refine ⟨q4, (iha (m - 1) ((.app f a, true) :: c) _ _ (pre ++ [((.pointer cp, .pointer (some ⟨b, 0, none⟩)), (c, .app f a))] ++ xs) _ ⟨W2.heap.size, .pointer cp, .pointer (some ⟨b, 0, none⟩), rfl, by omega, Blk.new _ _ _, (hd.mid h3 hP).alloc0 hP (by omega) _, (hc.mid h3 hP).alloc hP (by omega) _⟩ ((ha.mid h3 hP).alloc0 hP (by omega) _) (hAJ _ _ _ hj hbel2) (by simp; omega) (by simp only [List.length_append, List.length_cons, List.length_nil]; omega)).mono ?_⟩
      intro e W3 h
      exact eachPost_app rfl hxs (h3.trans (Mid.fresh (by omega) hbel2)) h
    · refine .inr ⟨rfl, .inr ⟨rfl, ((.pointer cp, .pointer (some ⟨b, 0, none⟩)), (c, .app f a)) :: xs, ?_, by simpa using hj⟩⟩
      rw [List.map_cons, parts]
      exact (List.prefix_cons_inj _).2 (hxs.trans (List.prefix_append _ _)))
  clear hY hc hd hJ hk hf ha hN hn hP ihf iha hAJ
  obtain ⟨fn, tmps, assign, body, hy, hR⟩ := hy
  refine callsIn_of_wp Tryz.func121 rfl trivial ?_
  simp only [Tryz.ntmps121, List.size_toArray, List.length_cons, List.length_nil, Nat.reduceAdd, Nat.reduceSub, Array.replicate_succ, Array.replicate_zero, List.push_toArray, List.append_toArray, List.nil_append, List.cons_append]
  gi_wp2_with (first
    | ((try refine ⟨hdW _, ?_⟩); refine hR.mono ?_; clear hR; rintro e W1 (⟨rfl, k1, k3, hp⟩ | ⟨rfl, hp⟩))
    | ((try refine ⟨trivial, ?_⟩); (try refine ⟨hdW _, ?_⟩); gi_at_call 121; refine hp.mono ?_; clear hp; rintro e W2 (⟨rfl, k4, hp2⟩ | ⟨rfl, hp2⟩))
    | ((try refine ⟨trivial, ?_⟩); (try refine ⟨hdW _, ?_⟩); gi_at_call 121; refine hp2.mono ?_; clear hp2; rintro e W3 (⟨rfl, hq⟩ | ⟨rfl, hq⟩)))
  · go_ret
    exact .inl ⟨rfl, hq⟩
  · go_ret
    exact .inr ⟨rfl, hq⟩
  · refine ⟨trivial, ?_⟩
    gi_wp2
    go_ret
    exact hp2
  · go_ret
    exact hp
end
end Go.Proofs.YtjcdclnaplojcaaGreatDoor

namespace Go.Proofs.YtjcdclnaplojcaaGreatDoor
set_option linter.unusedVariables false
open Go.RowKit Go.Shelf
attribute [local go_sem] Oper.semAt_some

/-- A term is known by its form. -/
theorem DAt.isl {w : World} {P : Nat → Prop} {d : DB} {v : Value} (h : DAt w P d v) : ∃ b n, v = .pointer (some ⟨b, 0, none⟩) ∧ w.cell? ⟨b, 0, none⟩ = some (.int .i64 n) ∧ (n == 2) = d.isLam := by
  cases d with
  | free x => obtain ⟨b, rfl, _, _, hk⟩ := h; exact ⟨b, 0, rfl, by rw [hk.cell]; rfl, rfl⟩
  | bnd i => obtain ⟨b, rfl, _, hk⟩ := h; exact ⟨b, 1, rfl, by rw [hk.cell]; rfl, rfl⟩
  | lam x d => obtain ⟨b, c, rfl, _, _, hk, _⟩ := h; exact ⟨b, 2, rfl, by rw [hk.cell]; rfl, rfl⟩
  | app f a => obtain ⟨b, c, e, rfl, _, hk, _⟩ := h; exact ⟨b, 3, rfl, by rw [hk.cell]; rfl, rfl⟩
theorem isRedex_any (d : DB) (v : Value) (w : World) (P : Nat → Prop) (hd : DAt w P d v) :
    Calls Tryz.prog 105 #[v] w fun e w' => e = .returned (.bool d.isRdx) ∧ w' = w := by
  cases d with
  | free x =>
    obtain ⟨b, rfl, _, _, hk⟩ := hd
    have k0 := hk.cell 0
    simp at k0
    clear hk
    go_enter Tryz.func105, Tryz.ntmps105
    go_wp2
    go_ret
    exact ⟨rfl, rfl⟩
  | bnd i =>
    obtain ⟨b, rfl, _, hk⟩ := hd
    have k0 := hk.cell 0
    simp at k0
    clear hk
    go_enter Tryz.func105, Tryz.ntmps105
    go_wp2
    go_ret
    exact ⟨rfl, rfl⟩
  | lam x e =>
    obtain ⟨b, c, rfl, _, _, hk, _⟩ := hd
    have k0 := hk.cell 0
    simp at k0
    clear hk
    go_enter Tryz.func105, Tryz.ntmps105
    go_wp2
    go_ret
    exact ⟨rfl, rfl⟩
  | app f a =>
    obtain ⟨b, c, e, rfl, _, hk, hf, _⟩ := hd
    obtain ⟨b', n, hb', k2, hn⟩ := hf.isl
    injection hb' with hb'
    injection hb' with hb'
    injection hb' with hb' _ _
    subst hb'
    have k0 := hk.cell 0
    have k3 := hk.cell 3
    simp at k0 k3
    clear hk hf
    have hc : f.isLam = true ∨ f.isLam = false := by cases f.isLam <;> simp
    have HE : Hid ((DB.app f a).isRdx = f.isLam) := Lib.hid rfl
    rcases hc with hc | hc
    all_goals
      rw [hc] at hn HE
      go_enter Tryz.func105, Tryz.ntmps105
      go_wp2
      go_ret
      exact ⟨by rw [HE.out]; rfl, rfl⟩
theorem isOfSecond_any (c : Cx) (v : Value) (w : World) (P : Nat → Prop) (n₁ : Nat) (h : CxAt w P n₁ c v) :
    Calls Tryz.prog 104 #[v] w fun e w' => e = .returned (.bool (isSec c)) ∧ w' = w := by
  cases c with
  | nil =>
    obtain rfl : v = .pointer none := h
    go_enter Tryz.func104, Tryz.ntmps104
    go_wp2
    go_ret
    exact ⟨rfl, rfl⟩
  | cons p c =>
    obtain ⟨f, s⟩ := p
    obtain ⟨q, u, t, rfl, _, hk, _, _⟩ := h
    have k2 := hk.cell 2
    simp at k2
    clear hk
    go_enter Tryz.func104, Tryz.ntmps104
    go_wp2
    go_ret
    exact ⟨rfl, rfl⟩
theorem contexts_any (b : Nat) (w : World) :
    Calls Tryz.prog 103 #[.pointer (some ⟨b, 0, none⟩)] w fun e w' =>
      e = .returned (.func (.func 120) #[] #[.pointer (some ⟨w.heap.size, 0, none⟩)]) ∧ w' = w.alloc (.cells #[.pointer (some ⟨b, 0, none⟩)] 71) := by
  go_enter Tryz.func103, Tryz.ntmps103
  go_wp2
  go_ret
  exact ⟨rfl, rfl⟩

theorem yield_any {m : Nat} (m' : Nat) {P : Program} {l : Nat} {args : Array Value} {W : World} {R : Ending → World → Prop} (h : YieldAt Fence.wide m P l args W R) : YieldAt Fence.wide m' P l args W R := by
  obtain ⟨fn, tmps, assign, body, hy, hR⟩ := h
  exact ⟨fn, tmps, assign, body, hy, hR.1, fun c cs _ => hR.2 c cs (room_wide _)⟩

theorem each_any {P : Nat → Prop} {n₀ n₁ N l : Nat} {J Jx : List El → World → Prop} (hY : ∀ (m : Nat) pre x W1, J pre W1 → ElAt P n₁ x W1 → pre.length < N → YieldAt Fence.wide m Tryz.prog l (elV x) W1 (Yields ctxT n₀ n₁ J Jx (pre ++ [x]) W1)) (hP : ∀ b, P b → b < n₀) (hn01 : n₀ ≤ n₁) (hAJ : Abide J) (d : DB) : EachSaid P n₀ n₁ N l J Jx d := by
  induction d with
  | free x => exact each_name hY hP _ (.inl ⟨x, rfl⟩)
  | bnd i => exact each_name hY hP _ (.inr ⟨i, rfl⟩)
  | lam x d ih => exact each_lam hY hP hn01 hAJ x d ih
  | app f a ihf iha => exact each_app hY hP hn01 hAJ f a ihf iha

set_option maxRecDepth 100000 in
/-- The iterator's contract. -/
theorem ctx_gives (P : Nat → Prop) (n₀ n₁ n B b : Nat) (d : DB) (w : World) (hB : B < w.heap.size) (hc : w.cell? ⟨B, 0, none⟩ = some (.pointer (some ⟨b, 0, none⟩))) (hd : DAt w P d (.pointer (some ⟨b, 0, none⟩))) (hP : ∀ b, P b → b < n₀) (hn : n₀ ≤ w.heap.size) (hn01 : n₀ ≤ n₁) :
    Gives ctxT n₀ n₁ Fence.wide n Tryz.prog 120 #[.pointer (some ⟨B, 0, none⟩)] elV (ElAt P n₁) (fun xs => xs.map Prod.snd = parts [] d) (fun xs => xs.map Prod.snd <+: parts [] d) (parts [] d).length w := by
  intro l J Jx W hW hn1 hAJ hAJx hY h0
  have kB : W.cell? ⟨B, 0, none⟩ = some (.pointer (some ⟨b, 0, none⟩)) := (hW.cell (p := ⟨B, 0, none⟩) hB).trans hc
  have hp := each_any (N := (parts [] d).length) (fun m pre x W1 h1 h2 h3 => yield_any m (hY pre x W1 h1 h2 h3)) hP hn01 hAJ d (n - 1) [] (.pointer none) (.pointer (some ⟨b, 0, none⟩)) [] W rfl (hd.mono fun q hq => ⟨hq, hW.block q (by have := hP q hq; omega)⟩) h0 hn1 (by simp)
  clear hY hd hW
  refine callsIn_of_wp Tryz.func120 rfl trivial ?_
  simp only [Tryz.ntmps120, List.size_toArray, List.length_cons, List.length_nil, Nat.reduceAdd, Nat.reduceSub, Array.replicate_succ, Array.replicate_zero, List.push_toArray, List.append_toArray, List.nil_append, List.cons_append]
  gi_wp2_with ((try refine ⟨trivial, ?_⟩); (try refine ⟨hdW _, ?_⟩); gi_at_call 121; refine hp.mono ?_; clear hp; rintro e W1 (⟨rfl, ⟨xs, hxs, hj⟩, _⟩ | ⟨rfl, xs, hxs, hj⟩))
  · go_end0
    exact ⟨⟨_, rfl⟩, .inl ⟨xs, hxs, by simpa using hj⟩⟩
  · go_end0
    exact ⟨⟨_, rfl⟩, .inr ⟨xs, hxs, by simpa using hj⟩⟩
end Go.Proofs.YtjcdclnaplojcaaGreatDoor

namespace Go.Proofs.YtjcdclnaplojcaaGreatDoor
set_option linter.unusedVariables false
open Go.RowKit Go.Shelf
attribute [local go_sem] Oper.semAt_some

/-- The kinds: true for head. -/
def kindS (k : Bool) : List UInt8 := if k then [104, 101, 97, 100] else [102, 117, 108, 108]
theorem ElAt.steady {P : Nat → Prop} {n₀ D : Nat} {x : El} {w w' : World} (h : ElAt P (D + 2) x w) (hs : Steady D w w') (hP : ∀ b, P b → b < n₀) (hn : n₀ ≤ D) : ElAt P (D + 2) x w' := by
  have hm : Mid ctxT n₀ (D + 2) w w' := ⟨hs.below.mono hn, fun q cs t h1 _ h3 => (hs.same q (Array.getElem?_eq_some_iff.1 h3).1 (by omega) (by omega)).trans h3⟩
  exact ⟨h.1.mid hm hP, h.2.mid hm hP⟩
theorem Blk.steady {D : Nat} {w w' : World} {g : Nat} {t : TypeId} {cs : Array Value} (h : Blk w g t cs) (hs : Steady D w w') (hg : g < D) : Blk w' g t cs := (hs.below.block g hg).trans h
theorem Ends.set {D : Nat} {W W' : World} (h : ∀ q, D ≤ q → W'.heap[q]? = W.heap[q]?) : Ends D W W' := ⟨h _ (Nat.le_refl _), h _ (by omega)⟩
theorem set_far (W : World) (b i : Nat) (v : Value) (q : Nat) (h : q ≠ b) : (W.setCell ⟨b, i, none⟩ v).heap[q]? = W.heap[q]? := Below.heap_setCell _ _ _ _ (by simpa using h)
theorem mid_set {tk : TypeId → Prop} {n₀ n₁ : Nat} {W : World} {b i : Nat} (v : Value) (h0 : n₀ ≤ b) (h1 : b < n₁) : Mid tk n₀ n₁ W (W.setCell ⟨b, i, none⟩ v) :=
  ⟨(Below.refl _ _).setCell (p := ⟨b, i, none⟩) (by simpa using h0) v, fun q cs t hq _ h3 => (set_far W b i v q (by omega)).trans h3⟩
theorem below_putObj {B : Nat} {W : World} {l : Nat} {o : Obj} (h : B ≤ l) : Below B W (W.putObj l o) := putObj_below _ _ _ _ h

/-- What the search answers. -/
def FdPost (k : Bool) (P : Nat → Prop) (d : DB) (w : World) (e : Ending) (w' : World) : Prop :=
  Below w.heap.size w w' ∧ ((findD k d = none ∧ e = .returned (.tuple #[.pointer none, .pointer none, .bool false])) ∨
    (∃ c r cv q, findD k d = some (c, r) ∧ e = .returned (.tuple #[.pointer cv, .pointer (some ⟨q, 0, none⟩), .bool true]) ∧ CxAt w' P w.heap.size c (.pointer cv) ∧ DAt w' P r (.pointer (some ⟨q, 0, none⟩))))
theorem scan_snoc (k : Bool) (l : List (Cx × DB)) (c : Cx) (r : DB) (h : scan k l = none) : scan k (l ++ [(c, r)]) = if (k && isSec c) = true then some none else if r.isRdx = true then some (some (c, r)) else none := by
  rw [scan_append, h]
  simp only [scan]
theorem scan_prefix (k : Bool) (a b : List (Cx × DB)) (h : a <+: b) (o : Option (Cx × DB)) (hs : scan k a = some o) : scan k b = some o := by
  obtain ⟨t, rfl⟩ := h
  rw [scan_append, hs]
theorem CxAt.lower {w : World} {P : Nat → Prop} {n₁ n₂ : Nat} (h : n₂ ≤ n₁) : ∀ {c : Cx} {v : Value}, CxAt w P n₁ c v → CxAt w P n₂ c v := by
  intro c
  induction c with
  | nil => intro v h; exact h
  | cons p c ih =>
    obtain ⟨f, s⟩ := p
    rintro v ⟨q, u, t, rfl, hq, hb, hd, hc⟩
    exact ⟨q, u, t, rfl, by omega, hb, hd, ih hc⟩
/-- The two boxes: nothing is found yet. -/
structure FdI (k : Bool) (w : World) (pre : List El) (W : World) : Prop where
  bk : Boxed W w.heap.size 70 (.string ⟨(kindS k).toArray⟩)
  bp : Boxed W (w.heap.size + 1) 136 (.pointer none)
  br : Boxed W (w.heap.size + 1 + 1) 71 (.pointer none)
  sc : scan k (pre.map Prod.snd) = none
  below : Below w.heap.size w W
/-- The search was left. -/
def FdX (k : Bool) (P : Nat → Prop) (n₁ : Nat) (w : World) (c : Code) (pre : List El) (W : World) : Prop :=
  c = .exit 0 ∧ Below w.heap.size w W ∧ ((scan k (pre.map Prod.snd) = some none ∧ Boxed W (w.heap.size + 1) 136 (.pointer none) ∧ Boxed W (w.heap.size + 1 + 1) 71 (.pointer none)) ∨
    (∃ cx r cv q, scan k (pre.map Prod.snd) = some (some (cx, r)) ∧ ElAt P n₁ ((.pointer cv, .pointer (some ⟨q, 0, none⟩)), (cx, r)) W ∧ Boxed W (w.heap.size + 1) 136 (.pointer cv) ∧ Boxed W (w.heap.size + 1 + 1) 71 (.pointer (some ⟨q, 0, none⟩))))

theorem snoc_map (pre : List El) (x : El) : (pre ++ [x]).map Prod.snd = pre.map Prod.snd ++ [x.2] := by simp
theorem fd_found {k : Bool} {P : Nat → Prop} {w W : World} {D : Nat} {pre : List El} {cx : Cx} {r : DB} {cv : Option Addr} {q : Nat} (hD : w.heap.size + 1 + 1 + 1 ≤ D) (hI : FdI k w pre W) (hx : ElAt P (D + 2) ((.pointer cv, .pointer (some ⟨q, 0, none⟩)), (cx, r)) W) (hP : ∀ b, P b → b < w.heap.size)
    (hs : scan k ((pre ++ [((Value.pointer cv, Value.pointer (some ⟨q, 0, none⟩)), (cx, r))]).map Prod.snd) = some (some (cx, r))) :
    Ends D W ((W.setCell ⟨w.heap.size + 1, 0, none⟩ (.pointer cv)).setCell ⟨w.heap.size + 1 + 1, 0, none⟩ (.pointer (some ⟨q, 0, none⟩))) ∧
    FdX k P (D + 2) w (.exit 0) (pre ++ [((Value.pointer cv, Value.pointer (some ⟨q, 0, none⟩)), (cx, r))]) ((W.setCell ⟨w.heap.size + 1, 0, none⟩ (.pointer cv)).setCell ⟨w.heap.size + 1 + 1, 0, none⟩ (.pointer (some ⟨q, 0, none⟩))) := by
  have m1 : Mid ctxT w.heap.size (D + 2) W (W.setCell ⟨w.heap.size + 1, 0, none⟩ (.pointer cv)) := mid_set _ (by omega) (by omega)
  have m2 := m1.trans (mid_set (W := W.setCell ⟨w.heap.size + 1, 0, none⟩ (.pointer cv)) (b := w.heap.size + 1 + 1) (i := 0) (Value.pointer (some ⟨q, 0, none⟩)) (by omega) (by omega))
  refine ⟨Ends.set fun p hp => (set_far _ _ _ _ _ (by omega)).trans (set_far _ _ _ _ _ (by omega)), rfl, hI.below.trans m2.below, .inr ⟨cx, r, cv, q, hs, ⟨hx.1.mid m2 hP, hx.2.mid m2 hP⟩, ?_, ?_⟩⟩
  · exact (set_far _ _ _ _ _ (by omega)).trans (hI.bp.set _)
  · have : Boxed (W.setCell ⟨w.heap.size + 1, 0, none⟩ (.pointer cv)) (w.heap.size + 1 + 1) 71 (.pointer none) := (set_far _ _ _ _ _ (by omega)).trans hI.br
    exact this.set _
theorem fd_left {k : Bool} {P : Nat → Prop} {w W : World} {D : Nat} {pre xs : List El} (hI : FdI k w pre W) (hs : scan k (xs.map Prod.snd) = some none) : Ends D W W ∧ FdX k P (D + 2) w (.exit 0) xs W :=
  ⟨⟨rfl, rfl⟩, rfl, hI.below, .inl ⟨hs, hI.bp, hI.br⟩⟩
theorem fd_on {k : Bool} {w W : World} {D : Nat} {pre xs : List El} (hI : FdI k w pre W) (hs : scan k (xs.map Prod.snd) = none) : Ends D W W ∧ Mid ctxT w.heap.size (D + 2) W W ∧ FdI k w xs W :=
  ⟨⟨rfl, rfl⟩, Mid.refl _ _ _ _, hI.bk, hI.bp, hI.br, hs, hI.below⟩

set_option maxRecDepth 100000 in
set_option maxHeartbeats 2000000 in
theorem findRedex_any (k : Bool) (d : DB) (v : Value) (w : World) (P : Nat → Prop) (hd : DAt w P d v) (hP : ∀ b, P b → b < w.heap.size) :
    Calls Tryz.prog 72 #[v, .string ⟨(kindS k).toArray⟩] w (FdPost k P d w) := by
  obtain ⟨b, rfl, hb⟩ := hd.shape
  refine (callsIn_wide (n := 3)).1 ?_
  refine callsIn_of_wp_marks Tryz.func72 rfl trivial ?_
  simp only [Tryz.ntmps72, List.size_toArray, List.length_cons, List.length_nil, Nat.reduceAdd, Nat.reduceSub, Array.replicate_succ, Array.replicate_zero, List.push_toArray, List.append_toArray, List.nil_append, List.cons_append]
  gi_wp2_with ((try refine ⟨trivial, ?_⟩); (try refine ⟨hdW _, ?_⟩); gi_at_call 103; refine (callsIn_wide.2 (contexts_any b _)).mono ?_; rintro e w1 ⟨rfl, rfl⟩)
  refine wpIn_wide.2 (wp_scope_straight ((wpIn_wide (n := 3)).1 ?_))
  gi_wp2
  refine wpIn_label ?_
  gi_wp2_with ((try refine ⟨trivial, ?_⟩); (try refine ⟨hdW _, ?_⟩); gi_at_call 103; refine (callsIn_wide.2 (contexts_any b _)).mono ?_; rintro e w1 ⟨rfl, rfl⟩)
  have hs3 : (((w.alloc (.cells #[.string ⟨(kindS k).toArray⟩] 70)).alloc (.cells #[.pointer none] 136)).alloc (.cells #[.pointer none] 71)).heap.size = w.heap.size + 1 + 1 + 1 := by simp
  have hI3 : FdI k w [] (((w.alloc (.cells #[.string ⟨(kindS k).toArray⟩] 70)).alloc (.cells #[.pointer none] 136)).alloc (.cells #[.pointer none] 71)) := by
    refine ⟨((Boxed.new _ _ _).alloc _).alloc _, ?_, ?_, rfl, (((Below.refl _ _).alloc (Nat.le_refl _) _).alloc (by simp) _).alloc (by simp; omega) _⟩
    · have := (Boxed.new (w.alloc (.cells #[.string ⟨(kindS k).toArray⟩] 70)) 136 (.pointer none)).alloc (.cells #[.pointer none] 71)
      simpa using this
    · have := Boxed.new ((w.alloc (.cells #[.string ⟨(kindS k).toArray⟩] 70)).alloc (.cells #[.pointer none] 136)) 71 (.pointer none)
      simpa using this
  generalize (((w.alloc (.cells #[.string ⟨(kindS k).toArray⟩] 70)).alloc (.cells #[.pointer none] 136)).alloc (.cells #[.pointer none] 71)) = w0 at hs3 hI3
  have hb1 : (w0.alloc (.cells #[.pointer (some ⟨b, 0, none⟩)] 71)).cell? ⟨w0.heap.size, 0, none⟩ = some (.pointer (some ⟨b, 0, none⟩)) := (Boxed.new _ _ _).cell
  have hI1 : FdI k w [] (w0.alloc (.cells #[.pointer (some ⟨b, 0, none⟩)] 71)) := ⟨hI3.bk.alloc _, hI3.bp.alloc _, hI3.br.alloc _, hI3.sc, hI3.below.alloc (by omega) _⟩
  have hs1 : (w0.alloc (.cells #[.pointer (some ⟨b, 0, none⟩)] 71)).heap.size = w.heap.size + 1 + 1 + 1 + 1 := by simp [hs3]
  rw [hs3] at hb1
  generalize w0.alloc (.cells #[.pointer (some ⟨b, 0, none⟩)] 71) = w1 at hb1 hI1 hs1
  refine wp_rounds (n₀ := w.heap.size) (tk := ctxT) rfl (by omega) (gf := 120) (lb := #[.pointer (some ⟨w.heap.size + 1 + 1 + 1, 0, none⟩)]) rfl trivial (enters_of Tryz.func120 (by kernel_rfl) rfl) (by omega)
    (ctx_gives P w.heap.size _ _ (w.heap.size + 1 + 1 + 1) b d w1 (by omega) hb1 (hd.mono fun q hq => ⟨hq, hI1.below.block q (hP q hq)⟩) hP (by omega) (by omega)) (fun _ => rfl)
    (FdI k w) (FdX k P (w1.heap.size + 2) w)
    (fun x W W' h hs => h.steady hs hP (by omega)) ?hI ?hIx hI1 ?a₁ ?assign ?body ?done ?stop
  case hI =>
    intro s W W' h hs
    exact ⟨(hs.below.block _ (by omega)).trans h.bk, (hs.below.block _ (by omega)).trans h.bp, (hs.below.block _ (by omega)).trans h.br, h.sc, h.below.trans (hs.below.mono (by omega))⟩
  case hIx =>
    rintro c s W W' ⟨h0, h1, ⟨h2, h3, h4⟩ | ⟨cx, r, cv, q, h2, h3, h4, h5⟩⟩ hs
    · exact ⟨h0, h1.trans (hs.below.mono (by omega)), .inl ⟨h2, (hs.below.block _ (by omega)).trans h3, (hs.below.block _ (by omega)).trans h4⟩⟩
    · exact ⟨h0, h1.trans (hs.below.mono (by omega)), .inr ⟨cx, r, cv, q, h2, h3.steady hs hP (by omega), (hs.below.block _ (by omega)).trans h4, (hs.below.block _ (by omega)).trans h5⟩⟩
  case assign =>
    intro l x W K hK
    dsimp only [elV]
    gi_wp2
    exact hK
  case body =>
    rintro l pre x W hI hx hlen2 hz
    obtain ⟨⟨cv, tv⟩, c, r⟩ := x
    obtain ⟨cp, hcp⟩ := hx.1.shape
    obtain ⟨q, hq, _⟩ := hx.2.shape
    dsimp only at hcp hq
    subst hcp hq
    have hk := hI.bk.cell
    have hpc := hI.bp.cell
    have hpf := hI.bp.frozen
    have hrc := hI.br.cell
    have hrf := hI.br.frozen
    have C1 := Lib.hid (isOfSecond_any c (.pointer cp) W P _ hx.1)
    have C2 := Lib.hid (isRedex_any r (.pointer (some ⟨q, 0, none⟩)) W P hx.2)
    have hsn := scan_snoc k (pre.map Prod.snd) c r hI.sc
    rw [← snoc_map pre ((Value.pointer cp, Value.pointer (some ⟨q, 0, none⟩)), (c, r))] at hsn
    have HX := Lib.hid hx
    have HI := Lib.hid hI
    have HP := Lib.hid hP
    clear hx hI hP hd hlen2 hb1 hI1
    have hc : r.isRdx = true ∨ r.isRdx = false := by cases r.isRdx <;> simp
    cases k
    · have hk' : W.cell? ⟨w.heap.size, 0, none⟩ = some (.string ⟨#[102, 117, 108, 108]⟩) := hk
      clear hk
      rcases hc with hc | hc
      · have HS := Lib.hid hsn
        rw [hc] at C2 HS
        clear hsn
        gi_wp2
        refine ⟨trivial, ?_⟩
        gi_wp2_with ((try refine ⟨trivial, ?_⟩); (try refine ⟨hdW _, ?_⟩); gi_at_call 105; refine (CallsIn.inRound l (callsIn_wide.2 C2.out)).mono ?_; rintro e w' ⟨rfl, rfl⟩)
        exact fd_found (by omega) HI.out HX.out HP.out HS.out
      · have HS := Lib.hid hsn
        rw [hc] at C2 HS
        clear hsn
        gi_wp2
        refine ⟨trivial, ?_⟩
        gi_wp2_with ((try refine ⟨trivial, ?_⟩); (try refine ⟨hdW _, ?_⟩); gi_at_call 105; refine (CallsIn.inRound l (callsIn_wide.2 C2.out)).mono ?_; rintro e w' ⟨rfl, rfl⟩)
        exact fd_on HI.out HS.out
    · have hk' : W.cell? ⟨w.heap.size, 0, none⟩ = some (.string ⟨#[104, 101, 97, 100]⟩) := hk
      clear hk
      have hs : isSec c = true ∨ isSec c = false := by cases isSec c <;> simp
      rcases hs with hs | hs
      · have HS := Lib.hid hsn
        rw [hs] at C1 HS
        clear hsn
        gi_wp2_with ((try refine ⟨trivial, ?_⟩); (try refine ⟨hdW _, ?_⟩); gi_at_call 104; refine (CallsIn.inRound l (callsIn_wide.2 C1.out)).mono ?_; rintro e w' ⟨rfl, rfl⟩)
        exact fd_left HI.out HS.out
      · rcases hc with hc | hc
        · have HS := Lib.hid hsn
          rw [hs] at C1 HS
          rw [hc] at C2 HS
          clear hsn
          gi_wp2_with (first
            | ((try refine ⟨trivial, ?_⟩); (try refine ⟨hdW _, ?_⟩); gi_at_call 104; refine (CallsIn.inRound l (callsIn_wide.2 C1.out)).mono ?_; rintro e w' ⟨rfl, rfl⟩)
            | ((try refine ⟨trivial, ?_⟩); (try refine ⟨hdW _, ?_⟩); gi_at_call 105; refine (CallsIn.inRound l (callsIn_wide.2 C2.out)).mono ?_; rintro e w' ⟨rfl, rfl⟩))
          exact fd_found (by omega) HI.out HX.out HP.out HS.out
        · have HS := Lib.hid hsn
          rw [hs] at C1 HS
          rw [hc] at C2 HS
          clear hsn
          gi_wp2_with (first
            | ((try refine ⟨trivial, ?_⟩); (try refine ⟨hdW _, ?_⟩); gi_at_call 104; refine (CallsIn.inRound l (callsIn_wide.2 C1.out)).mono ?_; rintro e w' ⟨rfl, rfl⟩)
            | ((try refine ⟨trivial, ?_⟩); (try refine ⟨hdW _, ?_⟩); gi_at_call 105; refine (CallsIn.inRound l (callsIn_wide.2 C2.out)).mono ?_; rintro e w' ⟨rfl, rfl⟩))
          exact fd_on HI.out HS.out
  case done =>
    rintro xs W hxs hI hK
    have h1 := hI.bp.cell
    have h2 := hI.br.cell
    have hlt := (Array.getElem?_eq_some_iff.1 hK).1
    have hfn : findD k d = none := by unfold findD; rw [← hxs, hI.sc]; rfl
    have hK' : W.drew.heap[w1.heap.size]? = some (.deferred (some [])) := hK
    have HB := Lib.hid hI.below
    have HF := Lib.hid hfn
    clear hI hfn
    gi_wp2
    gi_region
    gi_wp2
    refine ⟨by simp, .inl ⟨_, _, rfl, run_takeDeferred hK', ?_⟩⟩
    refine ⟨.tuple #[.pointer none, .pointer none, .bool false], by simp [results, Tryz.results72, go_sem], HB.out.drew.trans (below_putObj (by omega)), .inl ⟨HF.out, rfl⟩⟩
  case stop =>
    rintro c pre W hpre ⟨rfl, hw, h⟩ hK
    have hlt := (Array.getElem?_eq_some_iff.1 hK).1
    have hK' : W.drew.heap[w1.heap.size]? = some (.deferred (some [])) := hK
    rcases h with ⟨hs, hp, hr⟩ | ⟨cx, r, cv, q, hs, hx, hp, hr⟩
    · have h1 := hp.cell
      have h2 := hr.cell
      have hfn : findD k d = none := by unfold findD; rw [scan_prefix k _ _ hpre _ hs]; rfl
      have HB := Lib.hid hw
      have HF := Lib.hid hfn
      clear hp hr hs hw hfn
      gi_wp2
      gi_region
      gi_wp2
      refine ⟨by simp, .inl ⟨_, _, rfl, run_takeDeferred hK', ?_⟩⟩
      refine ⟨.tuple #[.pointer none, .pointer none, .bool false], by simp [results, Tryz.results72, go_sem], HB.out.drew.trans (below_putObj (by omega)), .inl ⟨HF.out, rfl⟩⟩
    · have h1 := hp.cell
      have h2 := hr.cell
      have hfn : findD k d = some (cx, r) := by unfold findD; rw [scan_prefix k _ _ hpre _ hs]; rfl
      have HB := Lib.hid hw
      have HF := Lib.hid hfn
      have HX := Lib.hid hx
      clear hp hr hs hw hfn hx
      gi_wp2
      gi_region
      gi_wp2
      refine ⟨by simp, .inl ⟨_, _, rfl, run_takeDeferred hK', ?_⟩⟩
      have hm : Mid ctxT w.heap.size (w1.heap.size + 2) W (W.drew.putObj w1.heap.size (.deferred none)) := Mid.trans (B := W.drew) ⟨(Below.refl _ _).drew, fun _ _ _ _ _ h => h⟩ (Mid.put (by omega) W.drew w1.heap.size _ (.inl rfl))
      refine ⟨.tuple #[.pointer cv, .pointer (some ⟨q, 0, none⟩), .bool true], by simp [results, Tryz.results72, go_sem], HB.out.drew.trans (below_putObj (by omega)), .inr ⟨cx, r, cv, q, HF.out, rfl, (HX.out.1.mid hm hP).lower (by omega), HX.out.2.mid hm hP⟩⟩
end Go.Proofs.YtjcdclnaplojcaaGreatDoor

namespace Go.Proofs.YtjcdclnaplojcaaGreatDoor
set_option linter.unusedVariables false
open Go.RowKit

theorem readKind_any (x : List UInt8) (w : World) :
    Calls Tryz.prog 63 #[.string ⟨x.toArray⟩] w fun e w' => e = .returned (.tuple #[.string ⟨x.toArray⟩, .bool (rdKind x).isSome]) ∧ w' = w := by
  cases h : rdKind x with
  | none =>
    obtain ⟨h1, h2⟩ := rdKind_no x h
    go_enter Tryz.func63, Tryz.ntmps63
    go_wp2
    go_ret2
    exact ⟨rfl, rfl⟩
  | some k =>
    obtain ⟨h1, h2⟩ := rdKind_beq x k h
    cases k
    all_goals
      simp only [Bool.not_true, Bool.not_false] at h1 h2
      go_enter Tryz.func63, Tryz.ntmps63
      go_wp2
      go_ret2
      exact ⟨rfl, rfl⟩
end Go.Proofs.YtjcdclnaplojcaaGreatDoor

namespace Go.Proofs.YtjcdclnaplojcaaGreatDoor
set_option linter.unusedVariables false
open Go.RowKit

theorem kindS_T (k : Bool) : kindS k = kindT k := rfl
/-- What reading a kind and a term answers. -/
def RkPost (x : List UInt8) (s : ByteArray) (w : World) (e : Ending) (w' : World) : Prop :=
  Below w.heap.size w w' ∧
  ((∃ k tm b, rdKind x = some k ∧ rdTerm s.data.toList = some tm ∧ e = .returned (.tuple #[.string ⟨(kindS k).toArray⟩, .pointer (some ⟨b, 0, none⟩), .bool true]) ∧ DAt w' (fun b => w.heap.size ≤ b ∧ b < w'.heap.size) (toDB [] tm) (.pointer (some ⟨b, 0, none⟩))) ∨
   ((rdKind x = none ∨ rdTerm s.data.toList = none) ∧ ∃ u, e = .returned (.tuple #[.string u, .pointer none, .bool false])))
set_option maxRecDepth 100000 in
theorem readKindAndTerm_any (x : List UInt8) (s : ByteArray) (w : World) (hm : s.size ≤ maxLen) :
    Calls Tryz.prog 34 #[.string ⟨x.toArray⟩, .string s] w (RkPost x s w) := by
  have CK : Hid (∀ w', _) := Lib.hid (fun w' => readKind_any x w')
  cases hk : rdKind x with
  | none =>
    have HN := Lib.hid hk
    rw [hk] at CK
    clear hk
    go_enter Tryz.func34, Tryz.ntmps34
    go_wp2_with fail
    refine (CK.out _).mono ?_
    rintro e w1 ⟨rfl, rfl⟩
    simp only [Option.isSome]
    go_wp2_with fail
    refine bodyPost_ret (v := .tuple #[.string ⟨#[]⟩, .pointer none, .bool false]) (by simp [results, Tryz.results34, go_sem]) rfl ?_
    exact ⟨Below.refl _ _, .inr ⟨.inl HN.out, _, rfl⟩⟩
  | some k =>
    have HN := Lib.hid hk
    have HS : Hid (x = kindS k) := Lib.hid (rdKind_some x k hk)
    rw [hk] at CK
    clear hk
    go_enter Tryz.func34, Tryz.ntmps34
    go_wp2_with fail
    refine (CK.out _).mono ?_
    rintro e w1 ⟨rfl, rfl⟩
    simp only [Option.isSome]
    go_wp2_with fail
    refine (readTerm_any s _ hm).mono ?_
    rintro e w1 ⟨hb1, ⟨t, v, hrd, rfl, htr⟩ | ⟨hrd, rfl⟩⟩
    · obtain ⟨b, rfl, _⟩ := htr.shape
      have HR := Lib.hid hrd
      have HT := Lib.hid htr
      clear hrd htr
      go_wp2
      refine bodyPost_ret (v := .tuple #[.string ⟨x.toArray⟩, .pointer (some ⟨b, 0, none⟩), .bool true]) (by simp [results, Tryz.results34, go_sem]) rfl ?_
      exact ⟨hb1, .inl ⟨k, t, b, HN.out, HR.out, by rw [HS.out], HT.out⟩⟩
    · have HR := Lib.hid hrd
      clear hrd
      go_wp2
      refine bodyPost_ret (v := .tuple #[.string ⟨x.toArray⟩, .pointer none, .bool false]) (by simp [results, Tryz.results34, go_sem]) rfl ?_
      exact ⟨hb1, .inr ⟨.inr HR.out, _, rfl⟩⟩

set_option maxRecDepth 100000 in
theorem isNormal_any (k : Bool) (d : DB) (v : Value) (w : World) (P : Nat → Prop) (hd : DAt w P d v) (hP : ∀ b, P b → b < w.heap.size) :
    Calls Tryz.prog 40 #[v, .string ⟨(kindS k).toArray⟩] w fun e w' => e = .returned (.bool (stepD k d).isNone) ∧ Below w.heap.size w w' := by
  obtain ⟨b, rfl, _⟩ := hd.shape
  have C := Lib.hid (findRedex_any k d _ w P hd hP)
  have hf := find_none k d
  clear hd hP
  go_enter Tryz.func40, Tryz.ntmps40
  go_wp2_with fail
  refine C.out.mono ?_
  rintro e w1 ⟨hb1, ⟨h1, rfl⟩ | ⟨c, r, cv, q, h1, rfl, _, _⟩⟩
  all_goals
    rw [h1] at hf
    have HF := Lib.hid hf
    clear hf h1
    go_wp2_with fail
    go_ret
    exact ⟨by rw [← HF.out]; rfl, hb1⟩

theorem normal_eq (k : Bool) (t : Tm) (hok : t.ok) (hat : t.atoms ≤ 400) : (stepD k (toDB [] t)).isNone = nmO (some k) (some t) := norm_eq k t hok hat
end Go.Proofs.YtjcdclnaplojcaaGreatDoor

namespace Go.Proofs.YtjcdclnaplojcaaGreatDoor
set_option linter.unusedVariables false

theorem dbAtoms_pos (d : DB) : 1 ≤ d.atoms := by cases d <;> simp [DB.atoms] <;> omega
theorem dbSize_lt (d : DB) : d.size < d.atoms := by
  induction d with
  | free x => simp [DB.size, DB.atoms]
  | bnd i => simp [DB.size, DB.atoms]
  | lam x b ih => simp only [DB.size, DB.atoms]; omega
  | app f a ihf iha => simp only [DB.size, DB.atoms]; omega
theorem moveD_atoms (m : Nat) (d : DB) : ∀ k, (moveD m k d).atoms = d.atoms := by
  induction d with
  | free x => intro k; rfl
  | bnd i => intro k; simp only [moveD]; split <;> rfl
  | lam x b ih => intro k; simp only [moveD, DB.atoms, ih]
  | app f a ihf iha => intro k; simp only [moveD, DB.atoms, ihf, iha]
theorem putB_atoms (c d : DB) : ∀ k, (putB c k d).atoms ≤ d.atoms * c.atoms := by
  have hc := dbAtoms_pos c
  induction d with
  | free x => intro k; simp only [putB, DB.atoms]; omega
  | bnd i =>
    intro k
    simp only [putB]
    split
    · rw [moveD_atoms]; simp [DB.atoms]
    · split <;> simp only [DB.atoms] <;> omega
  | lam x b ih =>
    intro k
    have h1 := ih (k + 1)
    have e : (2 + b.atoms) * c.atoms = 2 * c.atoms + b.atoms * c.atoms := Nat.add_mul _ _ _
    simp only [putB, DB.atoms]
    omega
  | app f a ihf iha =>
    intro k
    have h1 := ihf k
    have h2 := iha k
    have e : (1 + f.atoms + a.atoms) * c.atoms = c.atoms + f.atoms * c.atoms + a.atoms * c.atoms := by rw [Nat.add_mul, Nat.add_mul, Nat.one_mul]
    simp only [putB, DB.atoms]
    omega
/-- What is put into a context: how large it is at most. -/
theorem parts_bound (d : DB) : ∀ (c : Cx) (n : Nat), (∀ e, (plug c e).atoms ≤ e.atoms + n) → ∀ p ∈ parts c d, p.2.atoms ≤ d.atoms ∧ ∀ e, (plug p.1 e).atoms ≤ e.atoms + (n + d.atoms) := by
  induction d with
  | free x => intro c n h p hp; simp [parts] at hp; subst hp; exact ⟨Nat.le_refl _, fun e => by have := h e; simp only; omega⟩
  | bnd i => intro c n h p hp; simp [parts] at hp; subst hp; exact ⟨Nat.le_refl _, fun e => by have := h e; simp only; omega⟩
  | lam x b ih =>
    intro c n h p hp
    simp only [parts, List.mem_cons] at hp
    rcases hp with rfl | hp
    · exact ⟨Nat.le_refl _, fun e => by have := h e; simp only; omega⟩
    · obtain ⟨h1, h2⟩ := ih ((.lam x b, false) :: c) (n + 2) (fun e => by simp only [plug, refill]; have := h (.lam x e); simp only [DB.atoms] at this; omega) p hp
      simp only [DB.atoms]
      exact ⟨by omega, fun e => by have := h2 e; omega⟩
  | app f a ihf iha =>
    intro c n h p hp
    simp only [parts, List.mem_cons, List.mem_append] at hp
    rcases hp with rfl | hp | hp
    · exact ⟨Nat.le_refl _, fun e => by have := h e; simp only; omega⟩
    · obtain ⟨h1, h2⟩ := ihf ((.app f a, false) :: c) (n + 1 + a.atoms) (fun e => by simp only [plug, refill]; have := h (.app e a); simp only [DB.atoms, Bool.false_eq_true, if_false] at this ⊢; omega) p hp
      simp only [DB.atoms]
      exact ⟨by omega, fun e => by have := h2 e; omega⟩
    · obtain ⟨h1, h2⟩ := iha ((.app f a, true) :: c) (n + 1 + f.atoms) (fun e => by simp only [plug, refill]; have := h (.app f e); simp only [DB.atoms, if_true] at this ⊢; omega) p hp
      simp only [DB.atoms]
      exact ⟨by omega, fun e => by have := h2 e; omega⟩
/-- Each part's depths are within the lams around it. -/
theorem parts_cl (d : DB) : ∀ (c : Cx) (n : Nat), d.cl n → ∀ p ∈ parts c d, ∃ m, m ≤ n + d.size ∧ p.2.cl m := by
  induction d with
  | free x => intro c n h p hp; simp [parts] at hp; subst hp; exact ⟨n, by omega, h⟩
  | bnd i => intro c n h p hp; simp [parts] at hp; subst hp; exact ⟨n, by omega, h⟩
  | lam x b ih =>
    intro c n h p hp
    simp only [parts, List.mem_cons] at hp
    rcases hp with rfl | hp
    · exact ⟨n, by omega, h⟩
    · obtain ⟨m, h1, h2⟩ := ih _ (n + 1) h p hp
      exact ⟨m, by simp only [DB.size]; omega, h2⟩
  | app f a ihf iha =>
    intro c n h p hp
    simp only [parts, List.mem_cons, List.mem_append] at hp
    rcases hp with rfl | hp | hp
    · exact ⟨n, by omega, h⟩
    · obtain ⟨m, h1, h2⟩ := ihf _ n h.1 p hp
      exact ⟨m, by simp only [DB.size]; omega, h2⟩
    · obtain ⟨m, h1, h2⟩ := iha _ n h.2 p hp
      exact ⟨m, by simp only [DB.size]; omega, h2⟩
theorem find_mem (k : Bool) (d : DB) (p : Cx × DB) (h : findD k d = some p) : p ∈ parts [] d ∧ p.2.isRdx = true := by
  unfold findD at h
  cases hs : scan k (parts [] d) with
  | none => rw [hs] at h; cases h
  | some o =>
    rw [hs] at h
    cases o with
    | none => cases h
    | some q => simp only [Option.join_some, Option.some.injEq] at h; subst h; exact scan_mem k _ _ hs
/-- What a step makes of a term is not too large to be counted. -/
theorem find_bound (k : Bool) (d : DB) (c : Cx) (r : DB) (hat : d.atoms ≤ 400) (h : findD k d = some (c, r)) : (plug c (conD r)).atoms ≤ 200000 := by
  obtain ⟨h1, h2⟩ := find_mem k d _ h
  obtain ⟨h3, h4⟩ := parts_bound d [] 0 (fun e => Nat.le_refl _) _ h1
  have h5 := h4 (conD r)
  simp only at h3 h5
  cases r with
  | free x => cases h2
  | bnd i => cases h2
  | lam x b => cases h2
  | app f a =>
    obtain ⟨x, b, rfl⟩ := DB.lam_of h2
    simp only [DB.atoms] at h3
    have h6 : (putB a 0 b).atoms ≤ b.atoms * a.atoms := putB_atoms a b 0
    have h7 : b.atoms * a.atoms ≤ 400 * 400 := Nat.mul_le_mul (by omega) (by omega)
    simp only [conD] at h5 ⊢
    omega
theorem headT_atoms (t : Tm) : (headT t).1.atoms ≤ t.atoms + 400 := by
  induction t with
  | var x => simp [headT, Tm.atoms]
  | lam x b ih => simp only [headT, Tm.atoms]; omega
  | app f a ihf _ =>
    cases hl : f.isLam with
    | true =>
      obtain ⟨x, b, rfl⟩ := Tm.lam_of hl
      simp only [headT, turnR, turnT]
      split
      · rename_i o ho
        split at ho
        · cases ho
        · injection ho with ho
          subst ho
          rw [subT_atoms]
          omega
      · simp
    | false => rw [headT_app f a hl]; simp only [Tm.atoms]; omega
theorem fullT_atoms (t : Tm) : (fullT t).1.atoms ≤ t.atoms + 400 := by
  induction t with
  | var x => simp [fullT, Tm.atoms]
  | lam x b ih => simp only [fullT, Tm.atoms]; omega
  | app f a ihf iha =>
    cases hl : f.isLam with
    | true =>
      obtain ⟨x, b, rfl⟩ := Tm.lam_of hl
      exact headT_atoms (.app (.lam x b) a)
    | false =>
      rw [fullT_app f a hl]
      split <;> simp only [Tm.atoms] <;> omega
theorem stepR_atoms (k : Bool) (t : Tm) : (stepR k t).1.atoms ≤ t.atoms + 400 := by
  cases k
  · exact fullT_atoms t
  · exact headT_atoms t
/-- A step's result is a term of the model. -/
theorem stepR_ok (k : Bool) (t : Tm) (hok : t.ok) (hat : t.atoms ≤ 400) (h : (stepR k t).2 = 1) : (stepR k t).1.ok := by
  rcases kind_steps k t [] hok hat with ⟨h1, _⟩ | ⟨_, _, _, _, h4⟩ | ⟨h1, _⟩
  · rw [h1] at h; cases h
  · exact h4
  · omega
/-- Many steps, seen from behind. -/
theorem many_count (k : Bool) : ∀ n t, (manyT k n t).2 ≤ n := by
  intro n
  induction n with
  | zero => intro t; exact Nat.le_refl _
  | succ n ih =>
    intro t
    simp only [manyT]
    split
    · exact Nat.zero_le _
    · rename_i o _
      have := ih o
      simp only
      omega
/-- Where a walk of many steps stands after i of them, all of them done. -/
def Walk (k : Bool) (n : Nat) (t : Tm) (i : Nat) (u : Tm) : Prop := i ≤ n ∧ (manyT k n t).1 = (manyT k (n - i) u).1 ∧ (manyT k n t).2 = (manyT k (n - i) u).2 + i
theorem Walk.start (k : Bool) (n : Nat) (t : Tm) : Walk k n t 0 t := ⟨Nat.zero_le _, rfl, rfl⟩
theorem Walk.next {k : Bool} {n : Nat} {t : Tm} {i : Nat} {u o : Tm} (h : Walk k n t i u) (hi : i < n) (ho : nextT k u = some o) : Walk k n t (i + 1) o := by
  obtain ⟨h1, h2, h3⟩ := h
  obtain ⟨m, hm⟩ : ∃ m, n - i = m + 1 := ⟨n - i - 1, by omega⟩
  have hm2 : n - (i + 1) = m := by omega
  rw [hm] at h2 h3
  simp only [manyT, ho] at h2 h3
  exact ⟨by omega, by rw [hm2]; exact h2, by rw [hm2, h3]; omega⟩
theorem Walk.stop {k : Bool} {n : Nat} {t : Tm} {i : Nat} {u : Tm} (h : Walk k n t i u) (ho : nextT k u = none) : manyT k n t = (u, i) := by
  obtain ⟨h1, h2, h3⟩ := h
  have e : manyT k (n - i) u = (u, 0) := by
    cases n - i with
    | zero => rfl
    | succ m => simp only [manyT, ho]
  rw [e] at h2 h3
  exact Prod.ext h2 (by simpa using h3)
theorem Walk.full {k : Bool} {n : Nat} {t : Tm} {u : Tm} (h : Walk k n t n u) : manyT k n t = (u, n) := by
  obtain ⟨h1, h2, h3⟩ := h
  rw [Nat.sub_self] at h2 h3
  exact Prod.ext h2 (by simpa [manyT] using h3)
def stO (k : Option Bool) (o : Option Tm) : Option Tm := match k, o with
  | some k, some t => nextT k t
  | _, _ => none
theorem stO_no (k : Option Bool) (o : Option Tm) (h : k = none ∨ o = none) : stO k o = none := by
  rcases h with h | h <;> rw [h]
  · rfl
  · cases k <;> rfl
def smO (k : Option Bool) (o : Option Tm) (n : Int) : Option (List UInt8 × Nat) := match k, o with
  | some k, some t => if 0 ≤ n ∧ n ≤ 200 then some (wrTm (manyT k n.toNat t).1, (manyT k n.toNat t).2) else none
  | _, _ => none
theorem smO_no (k : Option Bool) (o : Option Tm) (n : Int) (h : k = none ∨ o = none) : smO k o n = none := by
  rcases h with h | h <;> rw [h]
  · rfl
  · cases k <;> rfl
/-- The normal term of a kind, and the number of steps. -/
def noT (k : Bool) (t : Tm) : Option (Tm × Nat) := if (stepR k (manyT k 200 t).1).2 = 0 then some (canT (manyT k 200 t).1, (manyT k 200 t).2) else none
theorem noT_good (k : Bool) (t : Tm) (hok : t.ok) (hat : t.atoms ≤ 400) (o : Tm) (n : Nat) (h : noT k t = some (o, n)) : o.ok ∧ o.atoms ≤ 400 := by
  unfold noT at h
  split at h
  · injection h with h
    injection h with h1 h2
    subst h1
    obtain ⟨g1, g2⟩ := many_good k 200 t hok hat
    exact ⟨canT_ok _ g1 g2, by rw [canT_atoms]; exact g2⟩
  · cases h

def noO (k : Option Bool) (o : Option Tm) : Option (List UInt8 × Nat) := match k, o with
  | some k, some t => (noT k t).map fun p => (wrTm p.1, p.2)
  | _, _ => none
theorem noO_no (k : Option Bool) (o : Option Tm) (h : k = none ∨ o = none) : noO k o = none := by
  rcases h with h | h <;> rw [h]
  · rfl
  · cases k <;> rfl
end Go.Proofs.YtjcdclnaplojcaaGreatDoor

