/- Bags as maps from texts to numbers, sums over them, the sorting of what is left: plain mathematics. -/
import Derived.Test.YtnnnphammfeemaaGreatTY
import Derived.Maps.Views
import Derived.Maps.OwnSet
import Derived.Sort.KeysCollected
namespace Go.Proofs.YtnnnphammfeemaaGreat
set_option linter.unusedVariables false
open Go.Maps

abbrev iL (n : Int) : DataW Unit := .lit (.int .i64 n)
/-- The datum of a map has each of these texts as often as it is among them. -/
structure Cnt (D : DataW Unit) (L : List (List UInt8)) : Prop where
  map : IsMap D
  at_ : ∀ x, D.atKey (.string x) (iL 0) = iL (L.count x)
  has_ : ∀ x, has D (.string x) = decide (x ∈ L)
theorem string_ne {x y : List UInt8} (h : y ≠ x) : Lit.string y ≠ Lit.string x := fun e => h (by injection e)
theorem mem_count {x : List UInt8} {L M : List (List UInt8)} (h : L.count x = M.count x) : x ∈ L ↔ x ∈ M := by
  rw [← List.count_pos_iff, ← List.count_pos_iff, h]
theorem Cnt.empty : Cnt (.map []) [] := ⟨isMap_empty, fun x => rfl, fun x => by simp [Maps.has]⟩
theorem Cnt.congr {D : DataW Unit} {L M : List (List UInt8)} (h : Cnt D L) (hm : ∀ x, M.count x = L.count x) : Cnt D M :=
  ⟨h.map, fun x => by rw [h.at_, hm], fun x => by rw [h.has_, decide_eq_decide]; exact mem_count (hm x).symm⟩
theorem Cnt.perm {D : DataW Unit} {L M : List (List UInt8)} (h : Cnt D L) (hp : L.Perm M) : Cnt D M := h.congr fun x => (hp.count_eq x).symm
theorem Cnt.put {D : DataW Unit} {L M : List (List UInt8)} (h : Cnt D L) (x : List UInt8) (n : Nat) (hn : 0 < n) (hx : M.count x = n) (hy : ∀ y, y ≠ x → M.count y = L.count y) : Cnt (D.put (.string x) (iL n)) M := by
  refine ⟨h.map.put _ _, fun y => ?_, fun y => ?_⟩
  · by_cases e : y = x
    · subst e
      rw [atKey_put_same h.map (show WideAt.IsKeyLit (.string y) from trivial), hx]
    · rw [atKey_put_other (string_ne e), h.at_, hy y e]
  · by_cases e : y = x
    · subst e
      rw [has_put_same h.map (show WideAt.IsKeyLit (.string y) from trivial)]
      have : y ∈ M := List.count_pos_iff.1 (by omega)
      simp [this]
    · rw [has_put_other (string_ne e), h.has_, decide_eq_decide]
      exact mem_count (hy y e).symm
theorem Cnt.del {D : DataW Unit} {L M : List (List UInt8)} (h : Cnt D L) (x : List UInt8) (hx : M.count x = 0) (hy : ∀ y, y ≠ x → M.count y = L.count y) : Cnt (D.del (.string x)) M := by
  refine ⟨h.map.del _, fun y => ?_, fun y => ?_⟩
  · by_cases e : y = x
    · subst e
      rw [atKey_del_same, hx]; rfl
    · rw [atKey_del_other (string_ne e), h.at_, hy y e]
  · by_cases e : y = x
    · subst e
      rw [has_del_same]
      have : y ∉ M := fun hm => by have := List.count_pos_iff.2 hm; omega
      simp [this]
    · rw [has_del_other (string_ne e), h.has_, decide_eq_decide]
      exact mem_count (hy y e).symm
/-- One more. -/
theorem Cnt.more {D : DataW Unit} {L : List (List UInt8)} (h : Cnt D L) (x : List UInt8) : Cnt (D.put (.string x) (iL ((L.count x : Nat) + 1 : Int))) (L ++ [x]) := by
  have := h.put (M := L ++ [x]) x (L.count x + 1) (by omega) (by simp [List.count_append]) (fun y hy => by
    rw [List.count_append]
    have : [x].count y = 0 := List.count_eq_zero.2 (by simp [hy])
    omega)
  exact this
/-- One less. -/
theorem Cnt.less {D : DataW Unit} {L : List (List UInt8)} (h : Cnt D L) (x : List UInt8) (hc : 2 ≤ L.count x) : Cnt (D.put (.string x) (iL ((L.count x : Nat) - 1 : Int))) (L.erase x) := by
  have := h.put (M := L.erase x) x (L.count x - 1) (by omega) (by rw [List.count_erase_self]) (fun y hy => List.count_erase_of_ne hy)
  rw [show ((L.count x - 1 : Nat) : Int) = ((L.count x : Nat) - 1 : Int) by omega] at this
  exact this
theorem Cnt.last {D : DataW Unit} {L : List (List UInt8)} (h : Cnt D L) (x : List UInt8) (hc : L.count x = 1) : Cnt (D.del (.string x)) (L.erase x) :=
  h.del x (by rw [List.count_erase_self]; omega) (fun y hy => List.count_erase_of_ne hy)

/-- Each one once. -/
def once : List (List UInt8) → List (List UInt8)
  | [] => []
  | x :: r => if x ∈ once r then once r else x :: once r
theorem once_mem (L : List (List UInt8)) (x : List UInt8) : x ∈ once L ↔ x ∈ L := by
  induction L with
  | nil => simp [once]
  | cons y r ih =>
    unfold once
    split
    · rename_i h
      rw [ih, List.mem_cons]
      constructor
      · exact .inr
      · rintro (rfl | h1)
        · exact ih.1 h
        · exact h1
    · rw [List.mem_cons, List.mem_cons, ih]
theorem once_nodup (L : List (List UInt8)) : (once L).Nodup := by
  induction L with
  | nil => exact List.nodup_nil
  | cons y r ih =>
    unfold once
    split
    · exact ih
    · rename_i h
      exact List.nodup_cons.2 ⟨h, ih⟩
/-- The keys of the map are the texts, each one once. -/
theorem keys_once {P : Program} {k : TypeId} {R : Value → Option (DataW Unit × List MemPlace)} {w : World} {b n : Nat} {D : DataW Unit} {L : List (List UInt8)} (hown : w.ownsMap P k R b n D) (K : Keyed P k) (hk : P.underlying k = some .string) (h : Cnt D L) : (once L).Perm (strKeys D) := by
  obtain ⟨es, hD, hpw, _⟩ := hown.entries K
  obtain ⟨es', hD', hko⟩ := hown.keysOf
  obtain rfl : es = es' := by rw [hD] at hD'; simpa using hD'
  subst hD
  exact perm_strKeys hpw (fun p hp => by obtain ⟨v, hv⟩ := hko p hp; obtain ⟨x, _, hx, _⟩ := Maps.keyOf_str hk hv; exact ⟨x, hx⟩) (once_nodup L) (fun x => by rw [once_mem, h.has_]; simp)

/-- What is still to come. -/
def restL (left : Lit → Bool) (L : List (List UInt8)) : List (List UInt8) := L.filter fun y => left (.string y)
def goneL (left : Lit → Bool) (L : List (List UInt8)) : List (List UInt8) := L.filter fun y => !left (.string y)
theorem restL_step (left : Lit → Bool) (L : List (List UInt8)) (x : List UInt8) : restL (fun z => left z && !z.sameKey (.string x)) L = (restL left L).filter fun y => !(y == x) := by
  unfold restL
  rw [List.filter_filter]
  refine List.filter_congr fun y _ => ?_
  have : (Lit.string y).sameKey (.string x) = (y == x) := by
    rw [Bool.eq_iff_iff]; simp [Lit.sameKey]
  show (left (.string y) && !(Lit.string y).sameKey (.string x)) = _
  rw [this, Bool.and_comm]
theorem restL_start {D : DataW Unit} {L : List (List UInt8)} (h : Cnt D L) : restL (has D) L = L := by
  unfold restL
  rw [List.filter_eq_self]
  intro x hx
  rw [h.has_]; simp [hx]
theorem restL_end (left : Lit → Bool) (L : List (List UInt8)) (h : ∀ k, left k = false) : restL left L = [] := by
  unfold restL
  rw [List.filter_eq_nil_iff]
  intro x _
  simp [h]
theorem restL_count (left : Lit → Bool) (L : List (List UInt8)) (x : List UInt8) (h : left (.string x) = true) : (restL left L).count x = L.count x := List.count_filter (p := fun y => left (.string y)) h
theorem sum_strike (f : List UInt8 → Nat) (x : List UInt8) (R : List (List UInt8)) : (R.map f).sum = R.count x * f x + ((R.filter fun y => !(y == x)).map f).sum := by
  induction R with
  | nil => simp
  | cons y r ih =>
    by_cases e : y = x
    · subst e
      simp only [List.map_cons, List.sum_cons, List.count_cons_self, beq_self_eq_true, Bool.not_true, Bool.false_eq_true, not_false_eq_true, List.filter_cons_of_neg, ih, Nat.add_mul, Nat.one_mul]
      omega
    · have hb : (y == x) = false := by simpa using e
      have hc : (y :: r).count x = r.count x := List.count_cons_of_ne e
      have hf : (y :: r).filter (fun y => !(y == x)) = y :: r.filter (fun y => !(y == x)) := by simp [hb]
      rw [hf, hc, List.map_cons, List.sum_cons, List.map_cons, List.sum_cons, ih]
      omega
theorem goneL_end (left : Lit → Bool) (L : List (List UInt8)) (h : ∀ k, left k = false) : goneL left L = L := by
  unfold goneL
  rw [List.filter_eq_self]
  intro x _
  simp [h]
theorem goneL_start {D : DataW Unit} {L : List (List UInt8)} (h : Cnt D L) : goneL (has D) L = [] := by
  unfold goneL
  rw [List.filter_eq_nil_iff]
  intro x hx
  rw [h.has_]; simp [hx]
theorem goneL_same (left : Lit → Bool) (L : List (List UInt8)) (x : List UInt8) (h : left (.string x) = true) : (goneL left L).count x = 0 := by
  unfold goneL
  rw [List.count_eq_zero]
  intro hm
  have := (List.mem_filter.1 hm).2
  simp [h] at this
theorem goneL_step_same (left : Lit → Bool) (L : List (List UInt8)) (x : List UInt8) : (goneL (fun z => left z && !z.sameKey (.string x)) L).count x = L.count x := by
  unfold goneL
  exact List.count_filter (p := fun y => !(left (.string y) && !(Lit.string y).sameKey (.string x))) (by simp [Lit.sameKey])
theorem goneL_step_other (left : Lit → Bool) (L : List (List UInt8)) (x y : List UInt8) (h : y ≠ x) : (goneL (fun z => left z && !z.sameKey (.string x)) L).count y = (goneL left L).count y := by
  unfold goneL
  have hs : (Lit.string y).sameKey (.string x) = false := sameKey_ne (string_ne h)
  by_cases hl : left (.string y) = true
  · rw [List.count_eq_zero.2, List.count_eq_zero.2]
    · intro hm; have := (List.mem_filter.1 hm).2; simp [hl] at this
    · intro hm; have := (List.mem_filter.1 hm).2; simp [hl, hs] at this
  · have hl' : left (.string y) = false := by simpa using hl
    rw [List.count_filter (p := fun y => !(left (.string y) && !(Lit.string y).sameKey (.string x))) (by simp [hl']), List.count_filter (p := fun y => !left (.string y)) (by simp [hl'])]
/-- What is added to a bag while another one is ranged over. -/
theorem Cnt.added {D : DataW Unit} {L M : List (List UInt8)} {left : Lit → Bool} (h : Cnt D (L ++ goneL left M)) (x : List UInt8) (hx : left (.string x) = true) (hm : 0 < M.count x) : Cnt (D.put (.string x) (iL ((L.count x : Nat) + (M.count x : Nat) : Int))) (L ++ goneL (fun z => left z && !z.sameKey (.string x)) M) := by
  have := h.put (M := L ++ goneL (fun z => left z && !z.sameKey (.string x)) M) x (L.count x + M.count x) (by omega) (by rw [List.count_append, goneL_step_same]) (fun y hy => by rw [List.count_append, List.count_append, goneL_step_other left M x y hy])
  rw [show ((L.count x + M.count x : Nat) : Int) = ((L.count x : Nat) + (M.count x : Nat) : Int) by omega] at this
  exact this
theorem added_count (left : Lit → Bool) (L M : List (List UInt8)) (x : List UInt8) (hx : left (.string x) = true) : (L ++ goneL left M).count x = L.count x := by
  rw [List.count_append, goneL_same left M x hx]; omega

/-- The least one stands first. -/
theorem srt_min (R : List (List UInt8)) (t : List UInt8) (ht : t ∈ R) (hm : ∀ x ∈ R, leB t x = true) : srt R = t :: srt (R.erase t) := by
  refine srt_eq R _ (List.pairwise_cons.2 ⟨fun x hx => hm x (List.mem_of_mem_erase ((srt_perm _).mem_iff.1 hx)), srt_sorted _⟩) ?_
  exact (List.perm_cons_erase ht).trans (List.Perm.cons t (srt_perm _).symm)
theorem leB_refl (x : List UInt8) : leB x x = true := by simp [leB]
end Go.Proofs.YtnnnphammfeemaaGreat
