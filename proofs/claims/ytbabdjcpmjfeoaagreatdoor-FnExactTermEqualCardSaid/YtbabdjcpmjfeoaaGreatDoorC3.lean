/- What is written is read as it was; new names are names: plain mathematics. -/
import Derived.Test.YtbabdjcpmjfeoaaGreatDoorC2
import Derived.Test.YtbabdjcpmjfeoaaGreatDoorU0
namespace Go.Proofs.YtbabdjcpmjfeoaaGreatDoor
set_option linter.unusedVariables false

/-- All numbers below n are given, or their names are among fr. -/
def Cov (fr : List (List UInt8)) (ks : List Nat) (n : Nat) : Prop := ∀ j, j < n → j ∈ ks ∨ zN j ∈ fr
theorem Cov.cons {fr : List (List UInt8)} {ks : List Nat} {n : Nat} (h : Cov fr ks n) : Cov fr (fresh fr n :: ks) (fresh fr n + 1) := by
  intro j hj
  obtain ⟨g1, g2, g3, g4⟩ := fresh_spec fr n
  by_cases h1 : j < n
  · rcases h j h1 with h2 | h2
    · exact .inl (List.mem_cons_of_mem _ h2)
    · exact .inr h2
  · by_cases h2 : j = fresh fr n
    · exact .inl (by simp [h2])
    · exact .inr (g3 j (by omega) (by omega))
theorem Cov.le {fr : List (List UInt8)} {ks : List Nat} {n : Nat} (h : Cov fr ks n) : n ≤ ks.length + fr.length := by
  have hnd : ((List.range n).map zN).Nodup := by
    refine List.pairwise_map.2 ((List.nodup_range (n := n)).imp ?_)
    intro a b hab e
    exact hab (zN_inj e)
  have hsub : ((List.range n).map zN) ⊆ ks.map zN ++ fr := by
    intro x hx
    obtain ⟨i, hi, rfl⟩ := List.mem_map.1 hx
    rcases h i (List.mem_range.1 hi) with h1 | h1
    · exact List.mem_append.2 (.inl (List.mem_map.2 ⟨i, h1, rfl⟩))
    · exact List.mem_append.2 (.inr h1)
  have := hnd.length_le_of_subset hsub
  simpa using this
theorem renT_cov (fr : List (List UInt8)) (t : Tm) : ∀ rs ts n ks, Cov fr ks n → ∃ ks', ks'.length = ks.length + t.lams ∧ Cov fr ks' (renT fr t rs ts n).2 := by
  induction t with
  | var x => intro rs ts n ks h; exact ⟨ks, rfl, h⟩
  | lam x b ih =>
    intro rs ts n ks h
    obtain ⟨ks', h1, h2⟩ := ih (x :: rs) (zN (fresh fr n) :: ts) _ _ h.cons
    exact ⟨ks', by simp only [List.length_cons] at h1; simp only [Tm.lams]; omega, h2⟩
  | app f a ihf iha =>
    intro rs ts n ks h
    obtain ⟨k1, h1, h2⟩ := ihf rs ts n ks h
    obtain ⟨k2, h3, h4⟩ := iha rs ts _ k1 h2
    exact ⟨k2, by simp only [Tm.lams]; omega, h4⟩
theorem renT_le (fr : List (List UInt8)) (t : Tm) (rs ts : List (List UInt8)) : (renT fr t rs ts 0).2 ≤ t.lams + fr.length := by
  obtain ⟨ks, h1, h2⟩ := renT_cov fr t rs ts 0 [] (fun j hj => by omega)
  have := h2.le
  simp at h1
  omega
theorem renT_mono (fr : List (List UInt8)) (t : Tm) : ∀ rs ts n, n ≤ (renT fr t rs ts n).2 := by
  induction t with
  | var x => intro rs ts n; exact Nat.le_refl _
  | lam x b ih => intro rs ts n; have := (fresh_spec fr n).1; have := ih (x :: rs) (zN (fresh fr n) :: ts) (fresh fr n + 1); simp only [renT]; omega
  | app f a ihf iha => intro rs ts n; have := ihf rs ts n; have := iha rs ts (renT fr f rs ts n).2; simp only [renT]; omega
theorem renT_ok (fr : List (List UInt8)) (t : Tm) : ∀ rs ts n, t.ok → (∀ x ∈ ts, isNm x = true) → ts.length = rs.length → (renT fr t rs ts n).2 ≤ 1000 → (renT fr t rs ts n).1.ok := by
  induction t with
  | var x =>
    intro rs ts n hok hts hlen _
    simp only [renT]
    cases h : lk rs x with
    | none => exact hok
    | some i =>
      have hi := lk_lt rs x i h
      show (Tm.var (ts[i]?.getD [])).ok
      rw [List.getElem?_eq_getElem (by omega)]
      exact hts _ (List.getElem_mem _)
  | lam x b ih =>
    intro rs ts n hok hts hlen hle
    simp only [renT] at hle ⊢
    have h1 := renT_mono fr b (x :: rs) (zN (fresh fr n) :: ts) (fresh fr n + 1)
    have h2 := isNm_zN (fresh fr n) (by omega)
    exact ⟨h2, ih _ _ _ hok.2 (fun y hy => (List.mem_cons.1 hy).elim (fun e => e ▸ h2) (hts y)) (by simp [hlen]) hle⟩
  | app f a ihf iha =>
    intro rs ts n hok hts hlen hle
    simp only [renT] at hle ⊢
    have h1 := renT_mono fr a rs ts (renT fr f rs ts n).2
    exact ⟨ihf _ _ _ hok.1 hts hlen (by omega), iha _ _ _ hok.2 hts hlen hle⟩
theorem freeS_lams (t : Tm) : ∀ b l, (freeS b t l).length + 2 * t.lams ≤ l.length + t.atoms := by
  induction t with
  | var x => intro b l; simp only [freeS, Tm.atoms, Tm.lams]; split <;> simp
  | lam x d ih => intro b l; have := ih (b ++ [x]) l; simp only [freeS, Tm.atoms, Tm.lams]; omega
  | app f a ihf iha => intro b l; have h1 := ihf b l; have h2 := iha b (freeS b f l); simp only [freeS, Tm.atoms, Tm.lams]; omega
theorem canT_ok (t : Tm) (h : t.ok) (ha : t.atoms ≤ 400) : (canT t).ok := by
  have h1 := renT_le (freeS [] t []) t [] []
  have h2 := freeS_lams t [] []
  simp only [List.length_nil] at h2
  exact renT_ok _ t [] [] 0 h (by simp) rfl (by omega)
theorem canT_atoms (t : Tm) : (canT t).atoms = t.atoms := atoms_renT _ _ _ _ _
theorem subT_ok (t c : Tm) (x : List UInt8) (h : t.ok) (hc : c.ok) (ha : t.atoms ≤ 400) (hca : c.atoms ≤ 400) : (subT t x c).ok := by
  have h1 := renT_le (avoid t c x) t [] []
  have h2 := freeS_lams t [] []
  have h3 := freeS_lams c [] []
  simp only [List.length_nil] at h2 h3
  have h4 : (avoid t c x).length = (freeS [] t []).length + (freeS [] c []).length + 1 := by simp [avoid]; omega
  exact ok_putT x c hc _ (renT_ok _ t [] [] 0 h (by simp) rfl (by omega))

/-- How deep the parentheses of a term are, and one more. -/
def Tm.deep : Tm → Nat
  | .var _ => 1
  | .lam _ b => 1 + b.deep
  | .app f a => 1 + max f.deep a.deep
theorem deep_pos (t : Tm) : 1 ≤ t.deep := by cases t <;> simp [Tm.deep]
theorem deep_atoms (t : Tm) : 2 * t.deep ≤ t.atoms + 1 := by
  induction t with
  | var x => simp [Tm.deep, Tm.atoms]
  | lam x b ih => simp only [Tm.deep, Tm.atoms]; omega
  | app f a ihf iha => simp only [Tm.deep, Tm.atoms]; have := deep_pos f; have := deep_pos a; omega

theorem atom_of_letter (c : UInt8) (h : isLetB c = true) : isAtomB c = true := by simp [isLetB, isAtomB] at *; omega
theorem atom_of_digit (c : UInt8) (h : isDigB c = true) : isAtomB c = true := by simp [isDigB, isAtomB] at *; omega
theorem isNm_atoms (x : List UInt8) (h : isNm x = true) : ∃ c r, x = c :: r ∧ x.all isAtomB = true ∧ c ≠ 40 ∧ x.length ≤ 4 := by
  cases x with
  | nil => simp [isNm] at h
  | cons c r =>
    simp only [isNm, Bool.and_eq_true, decide_eq_true_eq] at h
    obtain ⟨⟨h1, h2⟩, h3⟩ := h
    refine ⟨c, r, rfl, ?_, ?_, by simp; omega⟩
    · rw [List.all_cons, Bool.and_eq_true, atom_of_letter c h1, List.all_eq_true]
      exact ⟨rfl, fun d hd => atom_of_digit d (List.all_eq_true.1 h3 d hd)⟩
    · rintro rfl; simp [isLetB] at h1
def Stop (r : List UInt8) : Prop := r = [] ∨ ∃ c r', r = c :: r' ∧ isAtomB c = false
theorem take_atoms (x : List UInt8) : ∀ r, x.all isAtomB = true → Stop r → (x ++ r).takeWhile isAtomB = x ∧ (x ++ r).dropWhile isAtomB = r := by
  induction x with
  | nil =>
    rintro r _ (rfl | ⟨c, r', rfl, h⟩)
    · simp
    · simp [h]
  | cons c x ih =>
    intro r h hs
    rw [List.all_cons, Bool.and_eq_true] at h
    obtain ⟨h1, h2⟩ := ih r h.2 hs
    simp [h.1, h1, h2]
theorem rd_atom (k : Nat) (c : UInt8) (x r : List UInt8) (h : (c :: x).all isAtomB = true) (hc : c ≠ 40) (hs : Stop r) : rdPart (k + 1) (c :: x ++ r) = some (.mk (c :: x) [], r) := by
  have hh := take_atoms (c :: x) r h hs
  have h1 : isAtomB c = true := by rw [List.all_cons, Bool.and_eq_true] at h; exact h.1
  rw [List.cons_append] at hh ⊢
  simp only [rdPart, if_neg hc, h1, if_true, hh.1, hh.2]
theorem rd_name (k : Nat) (x r : List UInt8) (h : isNm x = true) (hs : Stop r) : rdPart (k + 1) (x ++ r) = some (.mk x [], r) := by
  obtain ⟨c, y, rfl, h1, h2, _⟩ := isNm_atoms x h
  exact rd_atom k c y r h1 h2 hs
theorem stop_space (r : List UInt8) : Stop (32 :: r) := .inr ⟨32, r, rfl, by decide⟩
theorem stop_close (r : List UInt8) : Stop (41 :: r) := .inr ⟨41, r, rfl, by decide⟩
theorem rd_three (rd : List UInt8 → Option (Tr × List UInt8)) (n : Nat) (l l1 l2 r : List UInt8) (p0 p1 p2 : Tr) (h0 : rd l = some (p0, 32 :: l1)) (h1 : rd l1 = some (p1, 32 :: l2)) (h2 : rd l2 = some (p2, 41 :: r)) :
    rdParts rd (n + 3) l [] = some (.mk [] [p0, p1, p2], r) := by
  have e : (32 : UInt8) ≠ 41 := by decide
  simp only [rdParts, h0, h1, h2, if_neg e, if_true]
  rfl
/-- What is written of a term is read as the term's tree. -/
theorem rd_wr (t : Tm) : t.ok → ∀ k r, t.deep ≤ k → Stop r → rdPart k (wrTm t ++ r) = some (tmTr t, r) := by
  induction t with
  | var x =>
    intro hok k r hk hs
    obtain ⟨k, rfl⟩ : ∃ q, k = q + 1 := ⟨k - 1, by simp only [Tm.deep] at hk; omega⟩
    exact rd_name k x r hok hs
  | lam x b ih =>
    intro hok k r hk hs
    have hd := deep_pos b
    obtain ⟨k, rfl⟩ : ∃ q, k = q + 2 := ⟨k - 2, by simp only [Tm.deep] at hk; omega⟩
    have e : wrTm (.lam x b) ++ r = 40 :: ([108, 97, 109] ++ 32 :: (x ++ 32 :: (wrTm b ++ 41 :: r))) := by simp [wrTm]
    rw [e]
    have hl : ([108, 97, 109] ++ 32 :: (x ++ 32 :: (wrTm b ++ 41 :: r))).length + 1 = ((x ++ 32 :: (wrTm b ++ 41 :: r)).length + 2) + 3 := by
      simp only [List.length_append, List.length_cons, List.length_nil]; omega
    have h40 : rdPart (k + 2) (40 :: ([108, 97, 109] ++ 32 :: (x ++ 32 :: (wrTm b ++ 41 :: r)))) = rdParts (rdPart (k + 1)) (([108, 97, 109] ++ 32 :: (x ++ 32 :: (wrTm b ++ 41 :: r))).length + 1) ([108, 97, 109] ++ 32 :: (x ++ 32 :: (wrTm b ++ 41 :: r))) [] := by
      show rdPart (k + 1 + 1) _ = _
      conv => lhs; unfold rdPart
      simp only [if_true]
    rw [h40, hl]
    rw [rd_three (rdPart (k + 1)) _ _ _ _ r (.mk sLam []) (.mk x []) (tmTr b) (rd_atom k 108 [97, 109] _ (by decide) (by decide) (stop_space _)) (rd_name k x _ hok.1 (stop_space _)) (ih hok.2 _ _ (by simp only [Tm.deep] at hk; omega) (stop_close _))]
    rfl
  | app f a ihf iha =>
    intro hok k r hk hs
    have hd := deep_pos f
    obtain ⟨k, rfl⟩ : ∃ q, k = q + 2 := ⟨k - 2, by simp only [Tm.deep] at hk; omega⟩
    have e : wrTm (.app f a) ++ r = 40 :: ([97, 112, 112] ++ 32 :: (wrTm f ++ 32 :: (wrTm a ++ 41 :: r))) := by simp [wrTm]
    rw [e]
    have hl : ([97, 112, 112] ++ 32 :: (wrTm f ++ 32 :: (wrTm a ++ 41 :: r))).length + 1 = ((wrTm f ++ 32 :: (wrTm a ++ 41 :: r)).length + 2) + 3 := by
      simp only [List.length_append, List.length_cons, List.length_nil]; omega
    have h40 : rdPart (k + 2) (40 :: ([97, 112, 112] ++ 32 :: (wrTm f ++ 32 :: (wrTm a ++ 41 :: r)))) = rdParts (rdPart (k + 1)) (([97, 112, 112] ++ 32 :: (wrTm f ++ 32 :: (wrTm a ++ 41 :: r))).length + 1) ([97, 112, 112] ++ 32 :: (wrTm f ++ 32 :: (wrTm a ++ 41 :: r))) [] := by
      show rdPart (k + 1 + 1) _ = _
      conv => lhs; unfold rdPart
      simp only [if_true]
    rw [h40, hl]
    rw [rd_three (rdPart (k + 1)) _ _ _ _ r (.mk sApp []) (tmTr f) (tmTr a) (rd_atom k 97 [112, 112] _ (by decide) (by decide) (stop_space _)) (ihf hok.1 _ _ (by simp only [Tm.deep] at hk; omega) (stop_space _)) (iha hok.2 _ _ (by simp only [Tm.deep] at hk; omega) (stop_close _))]
    rfl

theorem trTm_tmTr (t : Tm) (h : t.ok) : trTm (tmTr t) = some t := by
  induction t with
  | var x =>
    have hx : isNm x = true := h
    rw [tmTr, trTm_atom x [] (isNm_ne x hx), if_pos hx]
  | lam x b ih =>
    have hx : isNm x = true := h.1
    rw [tmTr, trTm_lam _ _ _ (show (Tr.mk sLam []).atom = sLam from rfl), ih h.2]
    show (if isNm x = true then _ else _) = _
    rw [if_pos hx]; rfl
  | app f a ihf iha =>
    rw [tmTr, trTm_app _ _ _ (show (Tr.mk sApp []).atom ≠ sLam from by decide) rfl, ihf h.1, iha h.2]; rfl
theorem rdParts_more (rd rd' : List UInt8 → Option (Tr × List UInt8)) (h : ∀ l p, rd l = some p → rd' l = some p) : ∀ n l acc p, rdParts rd n l acc = some p → rdParts rd' n l acc = some p := by
  intro n
  induction n with
  | zero => intro l acc p hp; simp [rdParts] at hp
  | succ n ih =>
    intro l acc p hp
    unfold rdParts at hp ⊢
    split at hp
    · cases hp
    · cases hp
    · rename_i t c r h1
      rw [h l _ h1]
      simp only
      split at hp
      · rename_i hc; rw [if_pos hc]; exact hp
      · rename_i hc
        rw [if_neg hc]
        split at hp
        · rename_i hc2; rw [if_pos hc2]; exact ih _ _ _ hp
        · cases hp
theorem rdPart_succ : ∀ k l p, rdPart k l = some p → rdPart (k + 1) l = some p := by
  intro k
  induction k with
  | zero => intro l p h; simp [rdPart] at h
  | succ k ih =>
    intro l p h
    cases l with
    | nil => simp [rdPart] at h
    | cons c r =>
      have e1 : rdPart (k + 1) (c :: r) = if c = 40 then rdParts (rdPart k) (r.length + 1) r [] else if isAtomB c = true then some (.mk ((c :: r).takeWhile isAtomB) [], (c :: r).dropWhile isAtomB) else none := rfl
      have e2 : rdPart (k + 1 + 1) (c :: r) = if c = 40 then rdParts (rdPart (k + 1)) (r.length + 1) r [] else if isAtomB c = true then some (.mk ((c :: r).takeWhile isAtomB) [], (c :: r).dropWhile isAtomB) else none := rfl
      rw [e1] at h
      rw [e2]
      split at h
      · rename_i hc; rw [if_pos hc]; exact rdParts_more _ _ ih _ _ _ _ h
      · rename_i hc; rw [if_neg hc]; exact h
theorem rdPart_more (k j : Nat) (l : List UInt8) (p : Tr × List UInt8) (h : rdPart k l = some p) : rdPart (k + j) l = some p := by
  induction j with
  | zero => exact h
  | succ j ih => exact rdPart_succ _ _ _ ih

theorem wrTm_short (t : Tm) (h : t.ok) : (wrTm t).length ≤ 12 * t.atoms := by
  refine wrTm_length 4 t (fun x => ?_) h
  by_cases hx : isNm x = true
  · obtain ⟨_, _, _, _, _, h4⟩ := isNm_atoms x hx
    exact .inl h4
  · exact .inr hx
/-- A text that is written is read as the term, if this has few atoms, and else not at all. -/
theorem rdTerm_wr (t : Tm) (h : t.ok) : rdTerm (wrTm t) = if t.atoms ≤ 400 then some t else none := by
  have hr := fun k (hk : t.deep ≤ k) => rd_wr t h k [] hk (.inl rfl)
  simp only [List.append_nil] at hr
  split
  · rename_i ha
    have h1 := wrTm_short t h
    have h2 := deep_atoms t
    have ht : rdText (wrTm t) = some (tmTr t) := by
      unfold rdText
      rw [if_neg (by omega), hr 301 (by omega)]
    unfold rdTerm
    simp only [ht]
    rw [tmTr_atoms t h, if_pos ha, trTm_tmTr t h]
  · rename_i ha
    unfold rdTerm
    cases ht : rdText (wrTm t) with
    | none => rfl
    | some tr =>
      have e : tr = tmTr t := by
        unfold rdText at ht
        split at ht
        · cases ht
        · split at ht
          · rename_i t' h1
            injection ht with ht
            subst ht
            have h3 := rdPart_more 301 t.deep _ _ h1
            rw [hr (301 + t.deep) (by omega)] at h3
            injection h3 with h3
            injection h3 with h3 _
            exact h3.symm
          · cases ht
      simp only
      rw [e, tmTr_atoms t h, if_neg ha]

theorem wrSp_cons (ps : List Tr) (h : ps ≠ []) : wrSp ps = 32 :: (wrSp ps).drop 1 := by
  cases ps with
  | nil => exact absurd rfl h
  | cons t r => simp [wrSp]
theorem rdParts_wr (rd : List UInt8 → Option (Tr × List UInt8)) (hrd : ∀ l t r, rd l = some (t, r) → l = wrTr t ++ r) : ∀ n l acc t r, rdParts rd n l acc = some (t, r) → ∃ ps, ps ≠ [] ∧ t = .mk [] (acc ++ ps) ∧ l = (wrSp ps).drop 1 ++ 41 :: r := by
  intro n
  induction n with
  | zero => intro l acc t r h; simp [rdParts] at h
  | succ n ih =>
    intro l acc t r h
    unfold rdParts at h
    split at h
    · cases h
    · cases h
    · rename_i t1 c r1 h1
      have hl := hrd _ _ _ h1
      split at h
      · rename_i hc
        injection h with h
        injection h with h2 h3
        refine ⟨[t1], by simp, h2.symm, ?_⟩
        rw [hl, hc, h3]
        simp [wrSp]
      · split at h
        · rename_i hc
          obtain ⟨ps, hne, h2, h3⟩ := ih _ _ _ _ h
          refine ⟨t1 :: ps, by simp, by rw [h2]; simp, ?_⟩
          rw [hl, hc]
          simp only [wrSp, List.cons_append, List.drop_succ_cons, List.drop_zero, List.append_assoc]
          rw [wrSp_cons ps hne, h3]
          simp
        · cases h
theorem rdPart_wr : ∀ k l t r, rdPart k l = some (t, r) → l = wrTr t ++ r := by
  intro k
  induction k with
  | zero => intro l t r h; simp [rdPart] at h
  | succ k ih =>
    intro l t r h
    cases l with
    | nil => simp [rdPart] at h
    | cons c l =>
      have e1 : rdPart (k + 1) (c :: l) = if c = 40 then rdParts (rdPart k) (l.length + 1) l [] else if isAtomB c = true then some (.mk ((c :: l).takeWhile isAtomB) [], (c :: l).dropWhile isAtomB) else none := rfl
      rw [e1] at h
      split at h
      · rename_i hc
        obtain ⟨ps, hne, h2, h3⟩ := rdParts_wr _ ih _ _ _ _ _ h
        rw [h2, hc, h3]
        simp [wrTr]
      · split at h
        · rename_i hc
          injection h with h
          injection h with h2 h3
          rw [← h2, ← h3]
          have hne : (c :: l).takeWhile isAtomB ≠ [] := by simp [hc]
          simp only [wrTr, if_neg hne]
          exact List.takeWhile_append_dropWhile.symm
        · cases h
/-- A text that is a term is what is written of the term. -/
theorem wr_rdTerm (l : List UInt8) (t : Tm) (h : rdTerm l = some t) : l = wrTm t := by
  obtain ⟨hok, _⟩ := rdTerm_good l t h
  unfold rdTerm at h
  split at h
  · cases h
  · rename_i tr htr
    split at h
    · have he := trTm_eq t tr (rdText_ok _ _ htr).1 h
      unfold rdText at htr
      split at htr
      · cases htr
      · split at htr
        · rename_i t' h1
          injection htr with htr
          have := rdPart_wr _ _ _ _ h1
          rw [this, htr, he, wrTr_tm t hok]
          simp
        · cases htr
    · cases h
end Go.Proofs.YtbabdjcpmjfeoaaGreatDoor
