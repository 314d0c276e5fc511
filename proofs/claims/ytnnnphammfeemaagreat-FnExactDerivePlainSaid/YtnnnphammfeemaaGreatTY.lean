/- Types and bags as trees and as texts: plain mathematics. -/
import Derived.Test.YtnnnphammfeemaaGreatC3
import Derived.Sort.KeysCollected
namespace Go.Proofs.YtnnnphammfeemaaGreat
set_option linter.unusedVariables false

mutual
/-- A tree whose atoms can be read. -/
def Rdb : Tr → Prop
  | .mk a ps => (a ≠ [] ∧ a.all isAtomB = true ∧ ps = []) ∨ (a = [] ∧ ps ≠ [] ∧ Rdbs ps)
def Rdbs : List Tr → Prop
  | [] => True
  | t :: ts => Rdb t ∧ Rdbs ts
end
mutual
/-- How many parentheses lie within each other, and 1. -/
def Tr.dp : Tr → Nat
  | .mk _ ps => 1 + trsDp ps
def trsDp : List Tr → Nat
  | [] => 0
  | t :: ts => max t.dp (trsDp ts)
end
theorem wrTr_ne (t : Tr) (h : Rdb t) : wrTr t ≠ [] := by
  obtain ⟨a, ps⟩ := t
  unfold wrTr
  split
  · simp
  · assumption
theorem wrSp_length (ps : List Tr) : ps.length ≤ (wrSp ps).length := by
  induction ps with
  | nil => simp
  | cons t r ih => simp only [wrSp, List.length_cons, List.length_append]; omega
theorem atom_not_open (c : UInt8) (h : isAtomB c = true) : c ≠ 40 := by rintro rfl; simp [isAtomB] at h

theorem rd_both : (∀ t : Tr, Rdb t → ∀ k r, t.dp ≤ k → Stop r → rdPart k (wrTr t ++ r) = some (t, r)) := by
  intro t
  refine Tr.rec (motive_1 := fun t => Rdb t → ∀ k r, t.dp ≤ k → Stop r → rdPart k (wrTr t ++ r) = some (t, r))
    (motive_2 := fun ps => ps ≠ [] → Rdbs ps → ∀ k n r acc, trsDp ps ≤ k → ps.length ≤ n → rdParts (rdPart k) n ((wrSp ps).drop 1 ++ 41 :: r) acc = some (.mk [] (acc ++ ps), r)) ?_ ?_ ?_ t
  · intro a ps ih h k r hk hs
    unfold Tr.dp at hk
    obtain ⟨k, rfl⟩ : ∃ q, k = q + 1 := ⟨k - 1, by omega⟩
    unfold Rdb at h
    rcases h with ⟨h1, h2, rfl⟩ | ⟨rfl, h1, h2⟩
    · cases a with
      | nil => exact absurd rfl h1
      | cons c x =>
        have hc : isAtomB c = true := by rw [List.all_cons, Bool.and_eq_true] at h2; exact h2.1
        have e : wrTr (.mk (c :: x) []) = c :: x := by simp [wrTr]
        rw [e]
        exact rd_atom k c x r h2 (atom_not_open c hc) hs
    · have e : wrTr (.mk [] ps) ++ r = 40 :: ((wrSp ps).drop 1 ++ 41 :: r) := by simp [wrTr]
      have h40 : rdPart (k + 1) (40 :: ((wrSp ps).drop 1 ++ 41 :: r)) = rdParts (rdPart k) (((wrSp ps).drop 1 ++ 41 :: r).length + 1) ((wrSp ps).drop 1 ++ 41 :: r) [] := by
        conv => lhs; unfold rdPart
        simp only [if_true]
      have hl := wrSp_length ps
      rw [e, h40, ih h1 h2 k _ r [] (by omega) (by simp; omega)]
      rfl
  · intro h; exact absurd rfl h
  · intro t ts iht ihs _ hr k n r acc hk hn
    unfold Rdbs at hr
    unfold trsDp at hk
    obtain ⟨n, rfl⟩ : ∃ q, n = q + 1 := ⟨n - 1, by simp at hn; omega⟩
    have e1 : (wrSp (t :: ts)).drop 1 = wrTr t ++ wrSp ts := by simp [wrSp]
    rw [e1, List.append_assoc]
    cases ts with
    | nil =>
      have e2 : wrSp ([] : List Tr) ++ 41 :: r = 41 :: r := rfl
      rw [e2]
      simp only [rdParts, iht hr.1 k (41 :: r) (by omega) (stop_close r), if_true]
    | cons t2 ts2 =>
      have e2 := wrSp_cons (t2 :: ts2) (by simp)
      have e3 : (32 : UInt8) ≠ 41 := by decide
      rw [e2, List.cons_append]
      simp only [rdParts, iht hr.1 k (32 :: ((wrSp (t2 :: ts2)).drop 1 ++ 41 :: r)) (by omega) (stop_space _), if_neg e3, if_true]
      rw [ihs (by simp) hr.2 k n r (acc ++ [t]) (by omega) (by simp at hn ⊢; omega)]
      simp

theorem rdText_wr_some (t : Tr) (h : Rdb t) (hd : t.dp ≤ 301) (hl : (wrTr t).length ≤ 8000) : rdText (wrTr t) = some t := by
  have hr := rd_both t h 301 [] hd (.inl rfl)
  rw [List.append_nil] at hr
  unfold rdText
  rw [if_neg (by omega), hr]
theorem rdText_wr_eq (t t' : Tr) (h : Rdb t) (ht : rdText (wrTr t) = some t') : t' = t := by
  have hr := rd_both t h (301 + t.dp) [] (by omega) (.inl rfl)
  rw [List.append_nil] at hr
  unfold rdText at ht
  split at ht
  · cases ht
  · split at ht
    · rename_i t2 h1
      injection ht with ht
      subst ht
      have h3 := rdPart_more 301 t.dp _ _ h1
      rw [hr] at h3
      injection h3 with h3
      injection h3 with h3 _
      exact h3.symm
    · cases ht
theorem rdText_text (l : List UInt8) (t : Tr) (h : rdText l = some t) : wrTr t = l := by
  unfold rdText at h
  split at h
  · cases h
  · split at h
    · rename_i t' h1
      injection h with h
      subst h
      have := rdPart_wr _ _ _ _ h1
      rw [this]; simp
    · cases h

def isLet1 : List UInt8 → Bool
  | [c] => isLetB c
  | _ => false
mutual
/-- A type of any size. -/
def isTy : Tr → Bool
  | .mk a ps => if a = [] then isTy3 ps else isLet1 a
def isTy3 : List Tr → Bool
  | [p0, p1, p2] => decide (p0.atom = [62]) && isBag p1 && isTy p2
  | _ => false
/-- A bag of any size. -/
def isBag : Tr → Bool
  | .mk a ps => decide (a = []) && isBagL ps
def isBagL : List Tr → Bool
  | [] => false
  | p :: r => decide (p.atom = [109]) && isTys [] r
def isTys : List UInt8 → List Tr → Bool
  | _, [] => true
  | last, t :: ts => isTy t && decide (¬ wrTr t < last) && isTys (wrTr t) ts
end
/-- How many atoms the text of a type has. -/
def tyN (x : List UInt8) : Nat := x.countP isAtomB

theorem isTys_mem (ts : List Tr) : ∀ last, isTys last ts = true → ∀ t ∈ ts, isTy t = true := by
  induction ts with
  | nil => intro _ _ t h; cases h
  | cons t ts ih =>
    intro last h u hu
    simp only [isTys, Bool.and_eq_true] at h
    rcases List.mem_cons.1 hu with rfl | hu
    · exact h.1.1
    · exact ih _ h.2 u hu

theorem wf_atom (a : List UInt8) (ps : List Tr) (h : Wf (.mk a ps)) (ha : a ≠ []) : ps = [] := by
  unfold Wf at h
  rcases h with ⟨_, h⟩ | ⟨h, _⟩
  · exact h
  · exact absurd h ha
theorem wf_list (ps : List Tr) (h : Wf (.mk [] ps)) : ps ≠ [] ∧ Wfs ps := by
  unfold Wf at h
  rcases h with ⟨h, _⟩ | ⟨_, h⟩
  · exact absurd rfl h
  · exact h

/-- What is known of a type, and of a bag. -/
structure TyOk (t : Tr) : Prop where
  rd : Rdb t
  dp : t.dp ≤ trAtoms t
  len : (wrTr t).length + 4 ≤ 5 * trAtoms t
  num : tyN (wrTr t) = trAtoms t
structure BgOk (t : Tr) : Prop where
  rd : Rdb t
  dp : t.dp ≤ trAtoms t + 1
  len : (wrTr t).length + 2 ≤ 5 * trAtoms t
  num : tyN (wrTr t) = trAtoms t
theorem tyN_append (a b : List UInt8) : tyN (a ++ b) = tyN a + tyN b := List.countP_append
theorem tyN_cons (c : UInt8) (b : List UInt8) : tyN (c :: b) = tyN b + if isAtomB c = true then 1 else 0 := List.countP_cons

theorem tysOk (ts : List Tr) (h : ∀ t ∈ ts, TyOk t) : Rdbs ts ∧ trsDp ts ≤ trsAtoms ts ∧ (wrSp ts).length + 3 * ts.length ≤ 5 * trsAtoms ts ∧ tyN (wrSp ts) = trsAtoms ts := by
  induction ts with
  | nil => exact ⟨trivial, Nat.le_refl _, Nat.le_refl _, rfl⟩
  | cons t ts ih =>
    obtain ⟨h1, h2, h3, h4⟩ := ih fun u hu => h u (List.mem_cons_of_mem _ hu)
    have ht := h t (List.mem_cons_self ..)
    refine ⟨⟨ht.rd, h1⟩, ?_, ?_, ?_⟩
    · have := ht.dp; simp only [trsDp, trsAtoms]; omega
    · have := ht.len; simp only [wrSp, trsAtoms, List.length_cons, List.length_append]; omega
    · simp only [wrSp, trsAtoms]
      rw [tyN_append, tyN_cons, ht.num, h4]
      simp [isAtomB]
theorem wrTr_list_length (ps : List Tr) (h : ps ≠ []) : (wrTr (.mk [] ps)).length = 1 + (wrSp ps).length := by
  have := wrSp_cons ps h
  have hl := congrArg List.length this
  simp only [List.length_cons] at hl
  simp only [wrTr, if_true, List.length_cons, List.length_append, List.length_nil, List.cons_append]
  omega
theorem tyN_list (ps : List Tr) (h : ps ≠ []) : tyN (wrTr (.mk [] ps)) = tyN (wrSp ps) := by
  have e := wrSp_cons ps h
  have e2 : tyN (wrSp ps) = tyN ((wrSp ps).drop 1) := by
    conv => lhs; rw [e]
    rw [tyN_cons]; simp [isAtomB]
  rw [e2]
  simp only [wrTr, if_true, List.cons_append]
  rw [tyN_cons, tyN_append]
  simp [tyN, isAtomB]
theorem wf_one (p : Tr) (x : List UInt8) (hx : x ≠ []) (h : Wf p) (ha : p.atom = x) : p = .mk x [] := by
  obtain ⟨a, ps⟩ := p
  simp only [Tr.atom] at ha
  subst ha
  rw [wf_atom a ps h hx]

theorem ty_bag_ok : ∀ t : Tr, Wf t → (isTy t = true → TyOk t) ∧ (isBag t = true → BgOk t) := by
  intro t
  refine Tr.all (p := fun t => Wf t → (isTy t = true → TyOk t) ∧ (isBag t = true → BgOk t)) ?_ t
  intro a ps ih hw
  by_cases ha : a = []
  · subst ha
    obtain ⟨hne, hws⟩ := wf_list ps hw
    refine ⟨fun h => ?_, fun h => ?_⟩
    · simp only [isTy, if_true] at h
      match ps, h with
      | [p0, p1, p2], h =>
        simp only [isTy3, Bool.and_eq_true, decide_eq_true_eq] at h
        have w0 := Wfs_mem p0 _ (by simp) hws
        have w1 := Wfs_mem p1 _ (by simp) hws
        have w2 := Wfs_mem p2 _ (by simp) hws
        have h1 := (ih p1 (by simp) w1).2 h.1.2
        have h2 := (ih p2 (by simp) w2).1 h.2
        have e0 := wf_one p0 [62] (by simp) w0 h.1.1
        subst e0
        have l1 := h1.len
        have l2 := h2.len
        have d1 := h1.dp
        have d2 := h2.dp
        refine ⟨?_, ?_, ?_, ?_⟩
        · unfold Rdb
          refine .inr ⟨rfl, by simp, ?_⟩
          simp only [Rdbs]
          exact ⟨by unfold Rdb; exact .inl ⟨by simp, by decide, rfl⟩, h1.rd, h2.rd, trivial⟩
        · simp only [Tr.dp, trsDp, trAtoms, trsAtoms, if_true]
          simp; omega
        · rw [wrTr_list_length _ (by simp)]
          simp only [wrSp, trAtoms, trsAtoms, List.length_cons, List.length_append, if_true, wrTr]
          simp; omega
        · rw [tyN_list _ (by simp)]
          simp only [wrSp, trAtoms, trsAtoms, if_true]
          simp only [tyN_append, tyN_cons, h1.num, h2.num]
          simp [tyN, isAtomB, wrTr]
    · simp only [isBag, decide_true, Bool.true_and] at h
      cases ps with
      | nil => exact absurd rfl hne
      | cons p r =>
        simp only [isBagL, Bool.and_eq_true, decide_eq_true_eq] at h
        have w0 := Wfs_mem p _ (by simp) hws
        have e0 := wf_one p [109] (by simp) w0 h.1
        subst e0
        obtain ⟨r1, r2, r3, r4⟩ := tysOk r fun t ht => (ih t (List.mem_cons_of_mem _ ht) (Wfs_mem t _ (List.mem_cons_of_mem _ ht) hws)).1 (isTys_mem r _ h.2 t ht)
        refine ⟨?_, ?_, ?_, ?_⟩
        · unfold Rdb
          refine .inr ⟨rfl, by simp, ?_⟩
          simp only [Rdbs]
          exact ⟨by unfold Rdb; exact .inl ⟨by simp, by decide, rfl⟩, r1⟩
        · simp only [Tr.dp, trsDp, trAtoms, trsAtoms, if_true]
          simp; omega
        · rw [wrTr_list_length _ (by simp)]
          simp only [wrSp, trAtoms, trsAtoms, List.length_cons, List.length_append, if_true, wrTr]
          simp; omega
        · rw [tyN_list _ (by simp)]
          simp only [wrSp, trAtoms, trsAtoms, if_true]
          simp only [tyN_append, tyN_cons, r4]
          simp [tyN, isAtomB, wrTr]
  · have hps := wf_atom a ps hw ha
    subst hps
    refine ⟨fun h => ?_, fun h => ?_⟩
    · simp only [isTy, if_neg ha] at h
      match a, h with
      | [c], h =>
        have hc := atom_of_letter c h
        refine ⟨?_, ?_, ?_, ?_⟩
        · unfold Rdb; exact .inl ⟨by simp, by simp [hc], rfl⟩
        · simp [Tr.dp, trsDp, trAtoms]
        · simp [wrTr, trAtoms]
        · simp [wrTr, trAtoms, tyN, hc]
    · simp [isBag, ha] at h

theorem ty_not_bag (t : Tr) (h : isTy t = true) : isBag t = false := by
  obtain ⟨a, ps⟩ := t
  by_cases ha : a = []
  · subst ha
    simp only [isTy, if_true] at h
    match ps, h with
    | [p0, p1, p2], h =>
      simp only [isTy3, Bool.and_eq_true, decide_eq_true_eq] at h
      simp [isBag, isBagL, h.1.1]
  · simp [isBag, ha]

/-- The reading of a type, and of a bag. -/
def rdTy (l : List UInt8) : Option Tr := match rdText l with
  | some t => if isTy t = true ∧ trAtoms t ≤ 200 then some t else none
  | none => none
def rdBg (l : List UInt8) : Option Tr := match rdText l with
  | some t => if isBag t = true ∧ trAtoms t ≤ 200 then some t else none
  | none => none
theorem rdTy_spec (l : List UInt8) (t : Tr) (h : rdTy l = some t) : rdText l = some t ∧ Wf t ∧ isTy t = true ∧ trAtoms t ≤ 200 ∧ wrTr t = l ∧ TyOk t := by
  unfold rdTy at h
  split at h
  · rename_i t' ht
    split at h
    · rename_i hc
      injection h with h
      subst h
      have hw := (rdText_ok _ _ ht).1
      exact ⟨ht, hw, hc.1, hc.2, rdText_text _ _ ht, (ty_bag_ok t' hw).1 hc.1⟩
    · cases h
  · cases h
theorem rdBg_spec (l : List UInt8) (t : Tr) (h : rdBg l = some t) : rdText l = some t ∧ Wf t ∧ isBag t = true ∧ trAtoms t ≤ 200 ∧ wrTr t = l ∧ BgOk t := by
  unfold rdBg at h
  split at h
  · rename_i t' ht
    split at h
    · rename_i hc
      injection h with h
      subst h
      have hw := (rdText_ok _ _ ht).1
      exact ⟨ht, hw, hc.1, hc.2, rdText_text _ _ ht, (ty_bag_ok t' hw).2 hc.1⟩
    · cases h
  · cases h
theorem rdTy_wr (t : Tr) (hw : Wf t) (h : isTy t = true) : rdTy (wrTr t) = if trAtoms t ≤ 200 then some t else none := by
  have ho := (ty_bag_ok t hw).1 h
  split
  · rename_i ha
    have := ho.dp
    have := ho.len
    unfold rdTy
    rw [rdText_wr_some t ho.rd (by omega) (by omega)]
    simp only
    rw [if_pos ⟨h, ha⟩]
  · rename_i ha
    unfold rdTy
    cases hr : rdText (wrTr t) with
    | none => rfl
    | some t' =>
      have := rdText_wr_eq t t' ho.rd hr
      subst this
      simp only
      rw [if_neg (fun hc => ha hc.2)]
theorem rdBg_wr (t : Tr) (hw : Wf t) (h : isBag t = true) : rdBg (wrTr t) = if trAtoms t ≤ 200 then some t else none := by
  have ho := (ty_bag_ok t hw).2 h
  split
  · rename_i ha
    have := ho.dp
    have := ho.len
    unfold rdBg
    rw [rdText_wr_some t ho.rd (by omega) (by omega)]
    simp only
    rw [if_pos ⟨h, ha⟩]
  · rename_i ha
    unfold rdBg
    cases hr : rdText (wrTr t) with
    | none => rfl
    | some t' =>
      have := rdText_wr_eq t t' ho.rd hr
      subst this
      simp only
      rw [if_neg (fun hc => ha hc.2)]

/-- The text of a bag with these types' texts, as they stand. -/
def mkBag (L : List (List UInt8)) : List UInt8 := [40, 109] ++ (L.map fun x => 32 :: x).flatten ++ [41]
/-- The texts of the types of a bag. -/
def bagL (t : Tr) : List (List UInt8) := t.parts.tail.map wrTr
/-- The text of a type of functions. -/
def mkFn (b t : List UInt8) : List UInt8 := [40, 62, 32] ++ b ++ [32] ++ t ++ [41]
theorem wrSp_flat (ps : List Tr) : wrSp ps = ((ps.map wrTr).map fun x => 32 :: x).flatten := by
  induction ps with
  | nil => rfl
  | cons t r ih => simp [wrSp, ih]
theorem bag_form (t : Tr) (hw : Wf t) (h : isBag t = true) : ∃ r, t = .mk [] (.mk [109] [] :: r) ∧ isTys [] r = true ∧ Wfs r := by
  obtain ⟨a, ps⟩ := t
  by_cases ha : a = []
  · subst ha
    obtain ⟨hne, hws⟩ := wf_list ps hw
    simp only [isBag, decide_true, Bool.true_and] at h
    cases ps with
    | nil => exact absurd rfl hne
    | cons p r =>
      simp only [isBagL, Bool.and_eq_true, decide_eq_true_eq] at h
      have w0 := Wfs_mem p _ (by simp) hws
      have e0 := wf_one p [109] (by simp) w0 h.1
      subst e0
      simp only [Wfs] at hws
      exact ⟨r, rfl, h.2, hws.2⟩
  · simp [isBag, ha] at h
theorem wr_mk (r : List Tr) : wrTr (.mk [] (.mk [109] [] :: r)) = mkBag (r.map wrTr) := by
  simp [wrTr, wrSp, mkBag, wrSp_flat]
theorem wr_bag (t : Tr) (hw : Wf t) (h : isBag t = true) : wrTr t = mkBag (bagL t) := by
  obtain ⟨r, rfl, _⟩ := bag_form t hw h
  exact wr_mk r
theorem fn_form (ps : List Tr) (hw : Wf (.mk [] ps)) (h : isTy (.mk [] ps) = true) : ∃ b t, ps = [.mk [62] [], b, t] ∧ isBag b = true ∧ isTy t = true ∧ Wf b ∧ Wf t := by
  obtain ⟨hne, hws⟩ := wf_list ps hw
  simp only [isTy, if_true] at h
  match ps, h with
  | [p0, p1, p2], h =>
    simp only [isTy3, Bool.and_eq_true, decide_eq_true_eq] at h
    have w0 := Wfs_mem p0 _ (by simp) hws
    have e0 := wf_one p0 [62] (by simp) w0 h.1.1
    subst e0
    exact ⟨p1, p2, rfl, h.1.2, h.2, Wfs_mem p1 _ (by simp) hws, Wfs_mem p2 _ (by simp) hws⟩
theorem wr_fn (b t : Tr) : wrTr (.mk [] [.mk [62] [], b, t]) = mkFn (wrTr b) (wrTr t) := by simp [wrTr, wrSp, mkFn]
theorem fn_ty (b t : Tr) (wb : Wf b) (wt : Wf t) (hb : isBag b = true) (ht : isTy t = true) : Wf (.mk [] [.mk [62] [], b, t]) ∧ isTy (.mk [] [.mk [62] [], b, t]) = true ∧ trAtoms (.mk [] [.mk [62] [], b, t]) = 1 + trAtoms b + trAtoms t := by
  refine ⟨?_, by simp [isTy, isTy3, Tr.atom, hb, ht], by simp [trAtoms, trsAtoms]; omega⟩
  unfold Wf
  refine .inr ⟨rfl, by simp, ?_⟩
  simp only [Wfs]
  exact ⟨by unfold Wf; exact .inl ⟨by simp, rfl⟩, wb, wt, trivial⟩
theorem bag_tr (r : List Tr) (hw : Wfs r) (h : isTys [] r = true) : Wf (.mk [] (.mk [109] [] :: r)) ∧ isBag (.mk [] (.mk [109] [] :: r)) = true ∧ trAtoms (.mk [] (.mk [109] [] :: r)) = 1 + trsAtoms r := by
  refine ⟨?_, by simp [isBag, isBagL, Tr.atom, h], by simp [trAtoms, trsAtoms]⟩
  unfold Wf
  refine .inr ⟨rfl, by simp, ?_⟩
  simp only [Wfs]
  exact ⟨by unfold Wf; exact .inl ⟨by simp, rfl⟩, hw⟩

/-- Sorted by their texts. -/
def srt (L : List (List UInt8)) : List (List UInt8) := L.mergeSort leB
theorem srt_perm (L : List (List UInt8)) : (srt L).Perm L := List.mergeSort_perm L leB
theorem leB_trans (a b c : List UInt8) : leB a b = true → leB b c = true → leB a c = true := fun h1 h2 => by
  simp only [leB, decide_eq_true_eq] at *; exact List.le_trans h1 h2
theorem leB_total (a b : List UInt8) : (leB a b || leB b a) = true := by
  simp only [leB, Bool.or_eq_true, decide_eq_true_eq]; exact List.le_total a b
theorem srt_sorted (L : List (List UInt8)) : (srt L).Pairwise (fun a b => leB a b = true) := List.pairwise_mergeSort leB_trans leB_total L
theorem srt_eq (L M : List (List UInt8)) (hs : M.Pairwise (fun a b => leB a b = true)) (hp : L.Perm M) : srt L = M := by
  refine List.Perm.eq_of_pairwise (le := fun a b => leB a b = true) (fun a b _ _ h1 h2 => ?_) (srt_sorted L) hs ((srt_perm L).trans hp)
  simp only [leB, decide_eq_true_eq] at h1 h2
  exact List.le_antisymm h1 h2
theorem srt_congr {L M : List (List UInt8)} (h : L.Perm M) : srt L = srt M := mergeSort_of_perm h
theorem not_lt_leB (a b : List UInt8) : (¬ b < a) ↔ leB a b = true := by simp [leB]
theorem tys_sorted (ts : List Tr) : ∀ last, isTys last ts = true → (last :: ts.map wrTr).Pairwise (fun a b => leB a b = true) := by
  induction ts with
  | nil => intro last _; simp
  | cons t ts ih =>
    intro last h
    simp only [isTys, Bool.and_eq_true, decide_eq_true_eq] at h
    have h1 := (not_lt_leB _ _).1 h.1.2
    have h2 := ih _ h.2
    rw [List.map_cons]
    refine List.pairwise_cons.2 ⟨fun x hx => ?_, h2⟩
    rcases List.mem_cons.1 hx with rfl | hx
    · exact h1
    · exact leB_trans _ _ _ h1 ((List.pairwise_cons.1 h2).1 x hx)
theorem sorted_tys (ts : List Tr) (ht : ∀ t ∈ ts, isTy t = true) : ∀ last, (last :: ts.map wrTr).Pairwise (fun a b => leB a b = true) → isTys last ts = true := by
  induction ts with
  | nil => intro last _; rfl
  | cons t ts ih =>
    intro last h
    rw [List.map_cons] at h
    obtain ⟨h1, h2⟩ := List.pairwise_cons.1 h
    simp only [isTys, Bool.and_eq_true, decide_eq_true_eq]
    exact ⟨⟨ht t (by simp), (not_lt_leB _ _).2 (h1 _ (by simp))⟩, ih (fun u hu => ht u (List.mem_cons_of_mem _ hu)) _ h2⟩
theorem nil_leB (x : List UInt8) : leB [] x = true := by simp [leB]
theorem bag_srt (t : Tr) (hw : Wf t) (h : isBag t = true) : srt (bagL t) = bagL t := by
  obtain ⟨r, rfl, hr, _⟩ := bag_form t hw h
  exact srt_eq _ _ (List.pairwise_cons.1 (tys_sorted r [] hr)).2 (List.Perm.refl _)

/-- How many atoms a bag of these types has. -/
def bgN (L : List (List UInt8)) : Nat := 1 + (L.map tyN).sum
theorem bgN_perm {L M : List (List UInt8)} (h : L.Perm M) : bgN L = bgN M := by
  unfold bgN
  rw [(h.map tyN).sum_nat]
theorem trsAtoms_sum (ts : List Tr) (h : ∀ t ∈ ts, TyOk t) : trsAtoms ts = ((ts.map wrTr).map tyN).sum := by
  induction ts with
  | nil => rfl
  | cons t ts ih => simp only [trsAtoms, List.map_cons, List.sum_cons, (h t (by simp)).num, ih fun u hu => h u (List.mem_cons_of_mem _ hu)]
theorem trees_of (L : List (List UInt8)) (h : ∀ x ∈ L, (rdTy x).isSome = true) : ∃ ts : List Tr, ts.map wrTr = L ∧ Wfs ts ∧ (∀ t ∈ ts, isTy t = true) ∧ (∀ t ∈ ts, TyOk t) := by
  induction L with
  | nil => exact ⟨[], rfl, trivial, (fun t h => nomatch h), (fun t h => nomatch h)⟩
  | cons x L ih =>
    obtain ⟨ts, h1, h2, h3, h4⟩ := ih fun y hy => h y (List.mem_cons_of_mem _ hy)
    obtain ⟨t, ht⟩ := Option.isSome_iff_exists.1 (h x (by simp))
    obtain ⟨_, hw, hi, _, he, ho⟩ := rdTy_spec _ _ ht
    refine ⟨t :: ts, by rw [List.map_cons, he, h1], ⟨hw, h2⟩, fun u hu => ?_, fun u hu => ?_⟩
    · rcases List.mem_cons.1 hu with rfl | hu
      · exact hi
      · exact h3 u hu
    · rcases List.mem_cons.1 hu with rfl | hu
      · exact ho
      · exact h4 u hu
/-- Whether the sorted text of types is a bag. -/
theorem rdBg_mk (L : List (List UInt8)) (h : ∀ x ∈ L, (rdTy x).isSome = true) : (rdBg (mkBag (srt L))).isSome = decide (bgN L ≤ 200) ∧ ∀ t, rdBg (mkBag (srt L)) = some t → bagL t = srt L := by
  have hp := srt_perm L
  obtain ⟨ts, h1, h2, h3, h4⟩ := trees_of (srt L) fun x hx => h x (hp.mem_iff.1 hx)
  have hs : isTys [] ts = true := sorted_tys ts h3 [] (by
    rw [h1]
    exact List.pairwise_cons.2 ⟨fun x _ => nil_leB x, srt_sorted L⟩)
  obtain ⟨b1, b2, b3⟩ := bag_tr ts h2 hs
  have e : trAtoms (.mk [] (.mk [109] [] :: ts)) = bgN L := by
    rw [b3, trsAtoms_sum ts h4, h1, ← bgN_perm hp]; rfl
  have hw := rdBg_wr _ b1 b2
  rw [wr_mk, h1, e] at hw
  rw [hw]
  by_cases hc : bgN L ≤ 200
  · rw [if_pos hc]
    refine ⟨by simp [hc], fun t ht => ?_⟩
    injection ht with ht
    rw [← ht]
    exact h1
  · rw [if_neg hc]
    exact ⟨by simp [hc], fun t ht => by cases ht⟩
theorem bag_types (t : Tr) (hw : Wf t) (h : isBag t = true) (ha : trAtoms t ≤ 200) : (∀ x ∈ bagL t, (rdTy x).isSome = true) ∧ bgN (bagL t) = trAtoms t := by
  obtain ⟨r, rfl, hr, hws⟩ := bag_form t hw h
  have hm : ∀ u ∈ r, isTy u = true := isTys_mem r [] hr
  have hat : trAtoms (.mk [] (.mk [109] [] :: r)) = 1 + trsAtoms r := by simp [trAtoms, trsAtoms]
  have hok : ∀ u ∈ r, TyOk u := fun u hu => (ty_bag_ok u (Wfs_mem u r hu hws)).1 (hm u hu)
  refine ⟨fun x hx => ?_, ?_⟩
  · obtain ⟨u, hu, rfl⟩ := List.mem_map.1 hx
    have := trsAtoms_mem u r hu
    rw [rdTy_wr u (Wfs_mem u r hu hws) (hm u hu), if_pos (by omega)]
    rfl
  · rw [hat, trsAtoms_sum r hok]
    rfl

/-- The tight types' texts. -/
def tight1 (x : List UInt8) : Bool := x == [110] || x == [108]
mutual
def tightT : Tr → Bool
  | .mk a ps => if a = [] then tightB ps else tight1 a
def tightB : List Tr → Bool
  | [] => false
  | p :: r => tightA r && decide (p.atom = [109])
def tightA : List Tr → Bool
  | [] => true
  | t :: ts => tightT t && tightA ts
end
theorem tightT_ty (t : Tr) (hw : Wf t) (h : isTy t = true) : tightT t = tight1 (wrTr t) := by
  obtain ⟨a, ps⟩ := t
  by_cases ha : a = []
  · subst ha
    obtain ⟨b, t, rfl, _⟩ := fn_form ps hw h
    have e1 : tightT (.mk [] [.mk [62] [], b, t]) = false := by simp [tightT, tightB, Tr.atom]
    rw [e1, wr_fn]
    simp [mkFn, tight1]
  · simp [tightT, ha, wrTr]
theorem tightA_all (ts : List Tr) : tightA ts = ts.all tightT := by
  induction ts with
  | nil => rfl
  | cons t ts ih => simp [tightA, ih]
theorem tightT_bag (t : Tr) (hw : Wf t) (h : isBag t = true) : tightT t = (bagL t).all tight1 := by
  obtain ⟨r, rfl, hr, hws⟩ := bag_form t hw h
  have e : tightT (.mk [] (.mk [109] [] :: r)) = tightA r := by simp [tightT, tightB, Tr.atom]
  rw [e, tightA_all]
  simp only [bagL, Tr.parts, List.tail_cons, List.all_map]
  rw [Bool.eq_iff_iff, List.all_eq_true, List.all_eq_true]
  have hm := isTys_mem r [] hr
  constructor
  · intro h1 u hu
    have := h1 u hu
    rw [tightT_ty u (Wfs_mem u r hu hws) (hm u hu)] at this
    exact this
  · intro h1 u hu
    rw [tightT_ty u (Wfs_mem u r hu hws) (hm u hu)]
    exact h1 u hu
end Go.Proofs.YtnnnphammfeemaaGreat
