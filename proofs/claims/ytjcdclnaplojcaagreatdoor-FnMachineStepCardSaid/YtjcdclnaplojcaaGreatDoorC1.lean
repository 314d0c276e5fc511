/- Canonical terms: plain mathematics of new names and of renaming, with names and with depths. -/
import Derived.Test.YtjcdclnaplojcaaGreatDoorU
import Derived.Lib.ItoaNum
namespace Go.Proofs.YtjcdclnaplojcaaGreatDoor
set_option linter.unusedVariables false

/-- The value of a text of digits. -/
def digVal (l : List UInt8) : Nat := l.foldl (fun a c => a * 10 + (c.toNat - 48)) 0
theorem digVal_snoc (l : List UInt8) (c : UInt8) : digVal (l ++ [c]) = digVal l * 10 + (c.toNat - 48) := by
  simp [digVal, List.foldl_append]
theorem dig_toNat (d : Nat) (h : d < 10) : (UInt8.ofNat (48 + d)).toNat = 48 + d := by
  rw [UInt8.toNat_ofNat']; omega
theorem digVal_dec (u : Nat) : digVal (Lib.decDigits u) = u := by
  induction u using Nat.strongRecOn with
  | _ u ih =>
    by_cases h : u < 10
    · rw [Lib.decDigits, dif_pos h]
      have := dig_toNat u h
      simp only [digVal, List.foldl_cons, List.foldl_nil]
      omega
    · rw [Lib.decDigits, dif_neg h, digVal_snoc, ih (u / 10) (by omega), dig_toNat _ (by omega)]
      omega
theorem decDigits_inj {a b : Nat} (h : Lib.decDigits a = Lib.decDigits b) : a = b := by
  rw [← digVal_dec a, ← digVal_dec b, h]
theorem dec_digits (u : Nat) : (Lib.decDigits u).all isDigB = true := by
  induction u using Nat.strongRecOn with
  | _ u ih =>
    by_cases h : u < 10
    · rw [Lib.decDigits, dif_pos h]
      have := dig_toNat u h
      simp only [List.all_cons, List.all_nil, isDigB, Bool.and_true, decide_eq_true_eq]
      omega
    · rw [Lib.decDigits, dif_neg h, List.all_append, ih (u / 10) (by omega)]
      have := dig_toNat (u % 10) (by omega)
      simp only [List.all_cons, List.all_nil, isDigB, Bool.and_true, Bool.true_and, decide_eq_true_eq]
      omega
theorem dec_short (u : Nat) (h : u < 1000) : (Lib.decDigits u).length ≤ 3 := by
  by_cases h1 : u < 10
  · rw [Lib.decDigits, dif_pos h1]; simp
  · rw [Lib.decDigits, dif_neg h1, List.length_append]
    by_cases h2 : u / 10 < 10
    · rw [Lib.decDigits, dif_pos h2]; simp
    · rw [Lib.decDigits, dif_neg h2, List.length_append]
      have h3 : u / 10 / 10 < 10 := by omega
      rw [Lib.decDigits, dif_pos h3]; simp

/-- The name z and a number. -/
def zN (k : Nat) : List UInt8 := 122 :: Lib.decDigits k
theorem zN_inj {a b : Nat} (h : zN a = zN b) : a = b := by
  unfold zN at h
  injection h with _ h
  exact decDigits_inj h
theorem isNm_zN (k : Nat) (h : k < 1000) : isNm (zN k) = true := by
  have h1 := dec_digits k
  have h2 := dec_short k h
  simp only [zN, isNm, h1, Bool.and_true, Bool.and_eq_true, decide_eq_true_eq]
  exact ⟨by decide, h2⟩

def nxt : Nat → List (List UInt8) → Nat → Nat
  | 0, _, n => n
  | f + 1, fr, n => if zN n ∈ fr then nxt f fr (n + 1) else n
/-- The first number from n on whose name is not among some. -/
def fresh (fr : List (List UInt8)) (n : Nat) : Nat := nxt fr.length fr n
theorem nxt_spec (fr : List (List UInt8)) : ∀ f n, n ≤ nxt f fr n ∧ nxt f fr n ≤ n + f ∧ (∀ j, n ≤ j → j < nxt f fr n → zN j ∈ fr) ∧ (zN (nxt f fr n) ∉ fr ∨ nxt f fr n = n + f) := by
  intro f
  induction f with
  | zero => intro n; simp only [nxt]; exact ⟨Nat.le_refl _, Nat.le_refl _, fun j h1 h2 => by omega, .inr rfl⟩
  | succ f ih =>
    intro n
    simp only [nxt]
    split
    · rename_i h
      obtain ⟨h1, h2, h3, h4⟩ := ih (n + 1)
      refine ⟨by omega, by omega, fun j hj hj2 => ?_, ?_⟩
      · by_cases e : j = n
        · rw [e]; exact h
        · exact h3 j (by omega) hj2
      · rcases h4 with h4 | h4
        · exact .inl h4
        · exact .inr (by omega)
    · rename_i h
      exact ⟨Nat.le_refl _, by omega, fun j h1 h2 => by omega, .inl h⟩
theorem fresh_spec (fr : List (List UInt8)) (n : Nat) : n ≤ fresh fr n ∧ fresh fr n ≤ n + fr.length ∧ (∀ j, n ≤ j → j < fresh fr n → zN j ∈ fr) ∧ zN (fresh fr n) ∉ fr := by
  obtain ⟨h1, h2, h3, h4⟩ := nxt_spec fr fr.length n
  refine ⟨h1, h2, h3, ?_⟩
  rcases h4 with h4 | h4
  · exact h4
  · intro hm
    have hnd : ((List.range (fr.length + 1)).map fun i => zN (n + i)).Nodup := by
      refine List.pairwise_map.2 ((List.nodup_range (n := fr.length + 1)).imp ?_)
      intro a b hab e
      exact hab (by have := zN_inj e; omega)
    have hsub : ((List.range (fr.length + 1)).map fun i => zN (n + i)) ⊆ fr := by
      intro x hx
      obtain ⟨i, hi, rfl⟩ := List.mem_map.1 hx
      have hi := List.mem_range.1 hi
      by_cases e : i = fr.length
      · rw [e, ← h4]; exact hm
      · exact h3 _ (by omega) (by show n + i < nxt fr.length fr n; omega)
    have := hnd.length_le_of_subset hsub
    simp at this
    omega
theorem fresh_of (fr : List (List UInt8)) (n m : Nat) (h1 : n ≤ m) (h2 : ∀ j, n ≤ j → j < m → zN j ∈ fr) (h3 : zN m ∉ fr) : fresh fr n = m := by
  obtain ⟨g1, _, g3, g4⟩ := fresh_spec fr n
  rcases Nat.lt_trichotomy (fresh fr n) m with h | h | h
  · exact absurd (h2 _ g1 h) g4
  · exact h
  · exact absurd (g3 _ h1 h) h3

/-- Renaming with depths. -/
def renD (fr : List (List UInt8)) : DB → Nat → DB × Nat
  | .free x, n => (.free x, n)
  | .bnd i, n => (.bnd i, n)
  | .lam _ b, n => (.lam (zN (fresh fr n)) (renD fr b (fresh fr n + 1)).1, (renD fr b (fresh fr n + 1)).2)
  | .app f a, n => (.app (renD fr f n).1 (renD fr a (renD fr f n).2).1, (renD fr a (renD fr f n).2).2)
def canD (d : DB) : DB := (renD (freeD d []) d 0).1
/-- Renaming with names, the innermost one first. -/
def renT (fr : List (List UInt8)) : Tm → List (List UInt8) → List (List UInt8) → Nat → Tm × Nat
  | .var x, rs, ts, n => (.var (match lk rs x with | some i => ts[i]?.getD [] | none => x), n)
  | .lam x b, rs, ts, n => (.lam (zN (fresh fr n)) (renT fr b (x :: rs) (zN (fresh fr n) :: ts) (fresh fr n + 1)).1, (renT fr b (x :: rs) (zN (fresh fr n) :: ts) (fresh fr n + 1)).2)
  | .app f a, rs, ts, n => (.app (renT fr f rs ts n).1 (renT fr a rs ts (renT fr f rs ts n).2).1, (renT fr a rs ts (renT fr f rs ts n).2).2)

theorem renT_renD (fr : List (List UInt8)) (t : Tm) : ∀ rs ts n, (renT fr t rs ts n).2 = (renD fr (toDB rs t) n).2 ∧ wrTm (renT fr t rs ts n).1 = wrD ts (renD fr (toDB rs t) n).1 := by
  induction t with
  | var x =>
    intro rs ts n
    unfold toDB
    cases h : lk rs x with
    | some i => simp [renT, renD, h, wrTm, wrD]
    | none => simp [renT, renD, h, wrTm, wrD]
  | lam x b ih =>
    intro rs ts n
    simp only [renT, renD, toDB, wrTm, wrD]
    obtain ⟨h1, h2⟩ := ih (x :: rs) (zN (fresh fr n) :: ts) (fresh fr n + 1)
    exact ⟨h1, by rw [h2]⟩
  | app f a ihf iha =>
    intro rs ts n
    simp only [renT, renD, toDB, wrTm, wrD]
    obtain ⟨h1, h2⟩ := ihf rs ts n
    obtain ⟨h3, h4⟩ := iha rs ts (renD fr (toDB rs f) n).2
    rw [h1]
    exact ⟨h3, by rw [h2, h4]⟩

/-- The canonical term that is alike. -/
def canT (t : Tm) : Tm := (renT (freeS [] t []) t [] [] 0).1
theorem wr_canT (t : Tm) : wrTm (canT t) = wrD [] (canD (toDB [] t)) := by
  unfold canT canD
  rw [freeD_toDB]
  exact (renT_renD _ t [] [] 0).2

/-- Terms with depths but for the names at lam. -/
def DB.bare : DB → DB
  | .free x => .free x
  | .bnd i => .bnd i
  | .lam _ b => .lam [] b.bare
  | .app f a => .app f.bare a.bare
theorem bare_bare (d : DB) : d.bare.bare = d.bare := by
  induction d with
  | free x => rfl
  | bnd i => rfl
  | lam x b ih => simp [DB.bare, ih]
  | app f a ihf iha => simp [DB.bare, ihf, iha]
theorem renD_bare (fr : List (List UInt8)) (d : DB) : ∀ n, renD fr d.bare n = renD fr d n := by
  induction d with
  | free x => intro n; rfl
  | bnd i => intro n; rfl
  | lam x b ih => intro n; simp [DB.bare, renD, ih]
  | app f a ihf iha => intro n; simp [DB.bare, renD, ihf, iha]
theorem bare_renD (fr : List (List UInt8)) (d : DB) : ∀ n, (renD fr d n).1.bare = d.bare := by
  induction d with
  | free x => intro n; rfl
  | bnd i => intro n; rfl
  | lam x b ih => intro n; simp [DB.bare, renD, ih]
  | app f a ihf iha => intro n; simp [DB.bare, renD, ihf, iha]
theorem freeD_bare (d : DB) : ∀ l, freeD d.bare l = freeD d l := by
  induction d with
  | free x => intro l; rfl
  | bnd i => intro l; rfl
  | lam x b ih => intro l; simp [DB.bare, freeD, ih]
  | app f a ihf iha => intro l; simp [DB.bare, freeD, ihf, iha]
theorem canD_bare (d : DB) : canD d.bare = canD d := by
  unfold canD
  rw [freeD_bare, renD_bare]
theorem canD_congr {d e : DB} (h : d.bare = e.bare) : canD d = canD e := by rw [← canD_bare d, h, canD_bare]
theorem bare_canD (d : DB) : (canD d).bare = d.bare := bare_renD _ _ _

def DB.atoms : DB → Nat
  | .free _ => 1
  | .bnd _ => 1
  | .lam _ b => 2 + b.atoms
  | .app f a => 1 + f.atoms + a.atoms
theorem atoms_bare (d : DB) : d.bare.atoms = d.atoms := by
  induction d with
  | free x => rfl
  | bnd i => rfl
  | lam x b ih => simp [DB.bare, DB.atoms, ih]
  | app f a ihf iha => simp [DB.bare, DB.atoms, ihf, iha]
theorem atoms_congr {d e : DB} (h : d.bare = e.bare) : d.atoms = e.atoms := by rw [← atoms_bare d, h, atoms_bare]
theorem atoms_toDB (t : Tm) : ∀ rs, (toDB rs t).atoms = t.atoms := by
  induction t with
  | var x => intro rs; unfold toDB; split <;> rfl
  | lam x b ih => intro rs; simp [toDB, DB.atoms, Tm.atoms, ih]
  | app f a ihf iha => intro rs; simp [toDB, DB.atoms, Tm.atoms, ihf, iha]

/-- A name stands free in a term. -/
def FV : Tm → List UInt8 → Prop
  | .var y, x => y = x
  | .lam y b, x => y ≠ x ∧ FV b x
  | .app f a, x => FV f x ∨ FV a x
theorem mem_freeS (x : List UInt8) (t : Tm) : ∀ b l, x ∈ freeS b t l ↔ x ∈ l ∨ (FV t x ∧ x ∉ b) := by
  induction t with
  | var y =>
    intro b l
    simp only [freeS, FV]
    split
    · rename_i h
      constructor
      · exact .inl
      · rintro (h1 | ⟨rfl, h2⟩)
        · exact h1
        · exact h.resolve_left h2
    · rename_i h
      have hb : y ∉ b := fun hb => h (.inl hb)
      simp only [List.mem_append, List.mem_singleton]
      constructor
      · rintro (h1 | rfl)
        · exact .inl h1
        · exact .inr ⟨rfl, hb⟩
      · rintro (h1 | ⟨rfl, _⟩)
        · exact .inl h1
        · exact .inr rfl
  | lam y b ih =>
    intro bd l
    simp only [freeS, FV, ih, List.mem_append, List.mem_singleton, not_or]
    constructor
    · rintro (h | ⟨h1, h2, h3⟩)
      · exact .inl h
      · exact .inr ⟨⟨fun e => h3 e.symm, h1⟩, h2⟩
    · rintro (h | ⟨⟨h1, h2⟩, h3⟩)
      · exact .inl h
      · exact .inr ⟨h2, h3, fun e => h1 e.symm⟩
  | app f a ihf iha =>
    intro b l
    simp only [freeS, FV, ihf, iha]
    constructor
    · rintro ((h | ⟨h1, h2⟩) | ⟨h1, h2⟩)
      · exact .inl h
      · exact .inr ⟨.inl h1, h2⟩
      · exact .inr ⟨.inr h1, h2⟩
    · rintro (h | ⟨h1 | h1, h2⟩)
      · exact .inl (.inl h)
      · exact .inl (.inr ⟨h1, h2⟩)
      · exact .inr ⟨h1, h2⟩

theorem lk_append (us os : List (List UInt8)) (x : List UInt8) : lk (us ++ os) x = match lk us x with
    | some i => some i
    | none => (lk os x).map (· + us.length) := by
  induction us with
  | nil => simp [lk]
  | cons y r ih =>
    simp only [List.cons_append, lk]
    split
    · rfl
    · rw [ih]
      cases lk r x with
      | some i => rfl
      | none =>
        simp only [Option.map_none, Option.map_map, List.length_cons]
        congr 1
theorem lk_lt (us : List (List UInt8)) (x : List UInt8) : ∀ i, lk us x = some i → i < us.length := by
  intro i h
  have := lk_some us x i h
  exact (List.getElem?_eq_some_iff.1 this).1

/-- The new names: of numbers that fall, below n, none of them among fr. -/
structure New (fr : List (List UInt8)) (ts : List (List UInt8)) (n : Nat) : Prop where
  nums : ∃ ks : List Nat, ts = ks.map zN ∧ ks.Pairwise (· > ·) ∧ ∀ k ∈ ks, k < n
  out : ∀ x ∈ ts, x ∉ fr
theorem New.nil (fr : List (List UInt8)) (n : Nat) : New fr [] n := ⟨⟨[], rfl, List.Pairwise.nil, by simp⟩, by simp⟩
theorem New.cons {fr ts : List (List UInt8)} {n : Nat} (h : New fr ts n) : New fr (zN (fresh fr n) :: ts) (fresh fr n + 1) := by
  obtain ⟨⟨ks, rfl, h1, h2⟩, h3⟩ := h
  obtain ⟨g1, _, _, g4⟩ := fresh_spec fr n
  refine ⟨⟨fresh fr n :: ks, rfl, List.pairwise_cons.2 ⟨fun k hk => ?_, h1⟩, fun k hk => ?_⟩, fun x hx => ?_⟩
  · have := h2 k hk
    omega
  · rcases List.mem_cons.1 hk with rfl | hk
    · omega
    · have := h2 k hk; omega
  · rcases List.mem_cons.1 hx with rfl | hx
    · exact g4
    · exact h3 x hx
theorem New.mono {fr ts : List (List UInt8)} {n m : Nat} (h : New fr ts n) (hm : n ≤ m) : New fr ts m := by
  obtain ⟨⟨ks, h0, h1, h2⟩, h3⟩ := h
  exact ⟨⟨ks, h0, h1, fun k hk => Nat.lt_of_lt_of_le (h2 k hk) hm⟩, h3⟩
theorem lk_nums : ∀ (ks : List Nat), ks.Pairwise (· > ·) → ∀ i k, ks[i]? = some k → lk (ks.map zN) (zN k) = some i
  | [], _, i, k, h => by simp at h
  | a :: r, hp, i, k, h => by
    obtain ⟨h1, h2⟩ := List.pairwise_cons.1 hp
    cases i with
    | zero => simp at h; subst h; simp [lk]
    | succ i =>
      simp at h
      have hk : k ∈ r := List.mem_of_getElem? h
      have hne : zN a ≠ zN k := fun e => by have := zN_inj e; have := h1 k hk; omega
      simp [lk, hne, lk_nums r h2 i k h]
theorem New.lk {fr ts : List (List UInt8)} {n : Nat} (h : New fr ts n) {i : Nat} {x : List UInt8} (hx : ts[i]? = some x) : lk ts x = some i := by
  obtain ⟨⟨ks, rfl, h1, h2⟩, h3⟩ := h
  rw [List.getElem?_map] at hx
  cases hk : ks[i]? with
  | none => rw [hk] at hx; simp at hx
  | some k =>
    rw [hk] at hx
    simp at hx
    rw [← hx]
    exact lk_nums ks h1 i k hk

theorem renD_le (fr : List (List UInt8)) (d : DB) : ∀ n, n ≤ (renD fr d n).2 := by
  induction d with
  | free x => intro n; exact Nat.le_refl _
  | bnd i => intro n; exact Nat.le_refl _
  | lam x b ih => intro n; have := (fresh_spec fr n).1; have := ih (fresh fr n + 1); simp only [renD]; omega
  | app f a ihf iha => intro n; have := ihf n; have := iha (renD fr f n).2; simp only [renD]; omega

/-- Renaming with names is renaming with depths, within other names, too. -/
theorem toDB_renT (fr : List (List UInt8)) (os : List (List UInt8)) (t : Tm) : ∀ rs ts n, ts.length = rs.length → New fr ts n → (∀ x, FV t x → x ∉ rs → x ∈ fr) →
    toDB (ts ++ os) (renT fr t rs ts n).1 = (renD fr (toDB (rs ++ os) t) n).1 ∧ (renT fr t rs ts n).2 = (renD fr (toDB (rs ++ os) t) n).2 := by
  induction t with
  | var x =>
    intro rs ts n hlen hnew hfr
    cases h : lk rs x with
    | some i =>
      have hi := lk_lt rs x i h
      have hts : ts[i]? = some (ts[i]'(by omega)) := List.getElem?_eq_getElem (by omega)
      have h1 := hnew.lk hts
      simp only [renT, h, hts, Option.getD_some, toDB, lk_append, h1, renD]
      exact ⟨trivial, trivial⟩
    | none =>
      have hx := (lk_none rs x).1 h
      have hxf := hfr x rfl hx
      have hxt : x ∉ ts := fun hx => hnew.out x hx hxf
      have h1 := (lk_none ts x).2 hxt
      simp only [renT, h, toDB, lk_append, h1, hlen]
      cases lk os x with
      | none => exact ⟨rfl, rfl⟩
      | some j => exact ⟨rfl, rfl⟩
  | lam x b ih =>
    intro rs ts n hlen hnew hfr
    obtain ⟨h1, h2⟩ := ih (x :: rs) (zN (fresh fr n) :: ts) (fresh fr n + 1) (by simp [hlen]) hnew.cons (fun y hy hyr => hfr y ⟨fun e => hyr (by simp [e]), hy⟩ (fun h => hyr (by simp [h])))
    simp only [renT, toDB, renD]
    rw [List.cons_append, List.cons_append] at h1
    rw [List.cons_append] at h2
    exact ⟨by rw [h1], h2⟩
  | app f a ihf iha =>
    intro rs ts n hlen hnew hfr
    obtain ⟨h1, h2⟩ := ihf rs ts n hlen hnew (fun y hy => hfr y (.inl hy))
    obtain ⟨h3, h4⟩ := iha rs ts (renD fr (toDB (rs ++ os) f) n).2 hlen (hnew.mono (renD_le _ _ _)) (fun y hy => hfr y (.inr hy))
    simp only [renT, toDB, renD]
    rw [h2]
    exact ⟨by rw [h1, h3], h4⟩
theorem toDB_canT (t : Tm) : toDB [] (canT t) = canD (toDB [] t) := by
  unfold canT canD
  rw [freeD_toDB]
  have := (toDB_renT (freeS [] t []) [] t [] [] 0 rfl (New.nil _ _) (fun x hx _ => (mem_freeS x t [] []).2 (.inr ⟨hx, by simp⟩))).1
  simpa using this
end Go.Proofs.YtjcdclnaplojcaaGreatDoor
