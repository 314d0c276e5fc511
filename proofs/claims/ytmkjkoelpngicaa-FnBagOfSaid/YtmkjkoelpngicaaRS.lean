/- What the functions of chapter 3 answer: plain mathematics. -/
import Derived.Test.YtmkjkoelpngicaaBG
namespace Go.Proofs.Ytmkjkoelpngicaa
set_option linter.unusedVariables false

/-- The bag of a list of texts. -/
def bgOf (L : List (List UInt8)) : Option (List UInt8) := if L.all (fun x => (rdTy x).isSome) = true ∧ bgN L ≤ 200 then some (mkBag (srt L)) else none
def sumR (a b : List UInt8) : Option (List UInt8) := match rdBg a, rdBg b with
  | some s, some t => bgOf (bagL s ++ bagL t)
  | _, _ => none
def cntR (a s : List UInt8) : Int := match rdBg a with
  | some t => if (rdTy s).isSome = true then ((bagL t).count s : Nat) else -1
  | none => -1
def mkR (a s : List UInt8) : Option (List UInt8) := match rdBg a, rdTy s with
  | some b, some t => if 1 + trAtoms b + trAtoms t ≤ 200 then some (mkFn a s) else none
  | _, _ => none
def partsR (l : List UInt8) : Option (List UInt8 × List UInt8) := match rdTy l with
  | some (.mk [] [_, b, t]) => some (wrTr b, wrTr t)
  | _ => none
def tightR (l : List UInt8) : Bool := match rdTy l with
  | some _ => tight1 l
  | none => match rdBg l with
    | some b => (bagL b).all tight1
    | none => false
def sizeR (l : List UInt8) : Int := match rdTy l with
  | some t => (trAtoms t : Nat)
  | none => match rdBg l with
    | some b => (trAtoms b : Nat)
    | none => -1
def typesR (l : List UInt8) : Option (List (List UInt8)) := (rdBg l).map bagL

theorem all_types (L : List (List UInt8)) : L.all (fun x => (rdTy x).isSome) = true ↔ ∀ x ∈ L, (rdTy x).isSome = true := List.all_eq_true
theorem ty_short (x : List UInt8) (h : (rdTy x).isSome = true) : x.length ≤ 1000 ∧ tyN x ≤ 200 := by
  obtain ⟨t, ht⟩ := Option.isSome_iff_exists.1 h
  obtain ⟨_, _, _, ha, he, ho⟩ := rdTy_spec _ _ ht
  have h1 := ho.len
  have h2 := ho.num
  rw [he] at h1 h2
  exact ⟨by omega, by omega⟩
theorem ty_num (x : List UInt8) (t : Tr) (h : rdTy x = some t) : tyN x = trAtoms t := by
  obtain ⟨_, _, _, ha, he, ho⟩ := rdTy_spec _ _ h
  have h2 := ho.num
  rwa [he] at h2
theorem bg_short (x : List UInt8) (t : Tr) (h : rdBg x = some t) : x.length ≤ 1000 ∧ tyN x = trAtoms t ∧ trAtoms t ≤ 200 ∧ (∀ y ∈ bagL t, (rdTy y).isSome = true) ∧ bgN (bagL t) = trAtoms t ∧ mkBag (srt (bagL t)) = x ∧ srt (bagL t) = bagL t ∧ (bagL t).length ≤ 200 := by
  obtain ⟨_, hw, hb, ha, he, ho⟩ := rdBg_spec _ _ h
  obtain ⟨h1, h2⟩ := bag_types t hw hb ha
  have h3 := ho.len
  have h4 := ho.num
  rw [he] at h3 h4
  refine ⟨by omega, h4, ha, h1, h2, by rw [bag_srt t hw hb, ← wr_bag t hw hb, he], bag_srt t hw hb, ?_⟩
  have : ∀ L : List (List UInt8), (∀ y ∈ L, (rdTy y).isSome = true) → L.length ≤ (L.map tyN).sum := by
    intro L
    induction L with
    | nil => intro _; simp
    | cons y r ih =>
      intro h
      have h5 := ih fun z hz => h z (List.mem_cons_of_mem _ hz)
      obtain ⟨u, hu⟩ := Option.isSome_iff_exists.1 (h y (by simp))
      have h6 := ty_num y u hu
      have h7 : 1 ≤ trAtoms u := by
        obtain ⟨_, hw, hi, _, _, _⟩ := rdTy_spec _ _ hu
        obtain ⟨a, ps⟩ := u
        by_cases ha : a = []
        · subst ha
          obtain ⟨b, t, rfl, _⟩ := fn_form ps hw hi
          simp [trAtoms, trsAtoms]
        · simp [trAtoms, ha]
      simp only [List.length_cons, List.map_cons, List.sum_cons]
      omega
  have := this _ h1
  unfold bgN at h2
  omega
theorem sum_bound (L : List (List UInt8)) (h : ∀ y ∈ L, (rdTy y).isSome = true) : bgN L ≤ 1 + 200 * L.length := by
  unfold bgN
  induction L with
  | nil => simp
  | cons y r ih =>
    have h1 := ih fun z hz => h z (List.mem_cons_of_mem _ hz)
    have h2 := (ty_short y (h y (by simp))).2
    simp only [List.length_cons, List.map_cons, List.sum_cons]
    omega
theorem sum_low (L : List (List UInt8)) (h : ∀ y ∈ L, (rdTy y).isSome = true) : 1 + L.length ≤ bgN L := by
  unfold bgN
  induction L with
  | nil => simp
  | cons y r ih =>
    have h1 := ih fun z hz => h z (List.mem_cons_of_mem _ hz)
    obtain ⟨u, hu⟩ := Option.isSome_iff_exists.1 (h y (by simp))
    have h6 := ty_num y u hu
    have h7 : 1 ≤ trAtoms u := by
      obtain ⟨_, hw, hi, _, _, _⟩ := rdTy_spec _ _ hu
      obtain ⟨a, ps⟩ := u
      by_cases ha : a = []
      · subst ha
        obtain ⟨b, t, rfl, _⟩ := fn_form ps hw hi
        simp [trAtoms, trsAtoms]
      · simp [trAtoms, ha]
    simp only [List.length_cons, List.map_cons, List.sum_cons]
    omega
/-- A text is no type and a bag at once. -/
theorem ty_no_bg (l : List UInt8) (t : Tr) (h : rdTy l = some t) : rdBg l = none := by
  obtain ⟨hr, _, hi, _⟩ := rdTy_spec _ _ h
  unfold rdBg
  rw [hr]
  simp only
  rw [if_neg (by rw [ty_not_bag t hi]; simp)]
/-- What is made of a bag and a type. -/
theorem mkFn_num (a s : List UInt8) : tyN (mkFn a s) = 1 + tyN a + tyN s := by
  unfold mkFn
  simp only [tyN_append]
  have h1 : tyN [40, 62, 32] = 1 := by decide
  have h2 : tyN [32] = 0 := by decide
  have h3 : tyN [41] = 0 := by decide
  omega
theorem rdTy_mkFn (a s : List UInt8) (b t : Tr) (hb : rdBg a = some b) (ht : rdTy s = some t) : (rdTy (mkFn a s)).isSome = decide (1 + trAtoms b + trAtoms t ≤ 200) := by
  obtain ⟨_, wb, ib, _, eb, _⟩ := rdBg_spec _ _ hb
  obtain ⟨_, wt, it, _, et, _⟩ := rdTy_spec _ _ ht
  obtain ⟨h1, h2, h3⟩ := fn_ty b t wb wt ib it
  have h := rdTy_wr _ h1 h2
  rw [wr_fn, eb, et, h3] at h
  rw [h]
  by_cases hc : 1 + trAtoms b + trAtoms t ≤ 200
  · simp [hc]
  · simp [hc]
end Go.Proofs.Ytmkjkoelpngicaa
