/- Derivations as trees that were read: plain mathematics. -/
import Derived.Test.YtnnnphammfeemaaGreatTY
namespace Go.Proofs.YtnnnphammfeemaaGreat
set_option linter.unusedVariables false

def sAx : List UInt8 := [97, 120]
def sFun : List UInt8 := [102, 117, 110]
def sTfun : List UInt8 := [116, 102, 117, 110]
def sHap : List UInt8 := [104, 97, 112]
def sTap : List UInt8 := [116, 97, 112]
/-- The type of an ax. -/
def axL : List Tr → Bool
  | [t] => isTy t && decide (trAtoms t ≤ 200)
  | _ => false
/-- Which nodes a word makes of so many derivations: k is true for head. -/
def ndOk (k : Bool) (x : List UInt8) (n : Nat) : Bool :=
  if x = sFun then decide (n = 1) else if x = sTfun then decide (n = 1) else if x = sHap then k && decide (n = 1)
  else if x = sApp then decide (1 ≤ n) else if x = sTap then !k && decide (n = 2) else false
mutual
/-- A derivation of any size, of a kind. -/
def isDv (k : Bool) : Tr → Bool
  | .mk a ps => if a = [] then isDvP k ps else false
def isDvP (k : Bool) : List Tr → Bool
  | [] => false
  | p :: r => if p.atom = sAx then axL r else ndOk k p.atom r.length && isDvs k r
def isDvs (k : Bool) : List Tr → Bool
  | [] => true
  | t :: ts => isDv k t && isDvs k ts
end
mutual
/-- How many nodes. -/
def dvN : Tr → Nat
  | .mk _ ps => 1 + dvNP ps
def dvNP : List Tr → Nat
  | [] => 0
  | p :: r => if p.atom = sAx then 0 else dvNs r
def dvNs : List Tr → Nat
  | [] => 0
  | t :: ts => dvN t + dvNs ts
end
mutual
/-- The types of all ax. -/
def dvA : Tr → List (List UInt8)
  | .mk _ ps => dvAP ps
def dvAP : List Tr → List (List UInt8)
  | [] => []
  | p :: r => if p.atom = sAx then r.map wrTr else dvAs r
def dvAs : List Tr → List (List UInt8)
  | [] => []
  | t :: ts => dvA t ++ dvAs ts
end
mutual
/-- Without tfun and tap. -/
def dvP : Tr → Bool
  | .mk _ ps => dvPP ps
def dvPP : List Tr → Bool
  | [] => true
  | p :: r => if p.atom = sAx then true else if p.atom = sTfun then false else if p.atom = sTap then false else dvPs r
def dvPs : List Tr → Bool
  | [] => true
  | t :: ts => dvP t && dvPs ts
end
/-- The word of a node. -/
def Tr.wd : Tr → List UInt8
  | .mk a ps => if a ≠ [] then [] else match ps with
    | [] => []
    | p :: _ => p.atom
/-- The derivations that a node is made of. -/
def Tr.kids : Tr → List Tr
  | .mk _ [] => []
  | .mk _ (p :: r) => if p.atom = sAx then [] else r
theorem isDvs_all (k : Bool) (ts : List Tr) : isDvs k ts = ts.all (isDv k) := by
  induction ts with
  | nil => rfl
  | cons t ts ih => simp only [isDvs, List.all_cons, ih]
theorem dvNs_sum (ts : List Tr) : dvNs ts = (ts.map dvN).sum := by
  induction ts with
  | nil => rfl
  | cons t ts ih => simp only [dvNs, List.map_cons, List.sum_cons, ih]
theorem dvAs_flat (ts : List Tr) : dvAs ts = ts.flatMap dvA := by
  induction ts with
  | nil => rfl
  | cons t ts ih => simp only [dvAs, List.flatMap_cons, ih]
theorem dvPs_all (ts : List Tr) : dvPs ts = ts.all dvP := by
  induction ts with
  | nil => rfl
  | cons t ts ih => simp only [dvPs, List.all_cons, ih]
theorem dvN_pos (t : Tr) : 1 ≤ dvN t := by obtain ⟨a, ps⟩ := t; simp [dvN]
mutual
/-- The nodes of a derivation in the order of the text. -/
def nodesT : Tr → List Tr
  | .mk a ps => .mk a ps :: nodesP ps
def nodesP : List Tr → List Tr
  | [] => []
  | p :: r => if p.atom = sAx then [] else nodesS r
def nodesS : List Tr → List Tr
  | [] => []
  | t :: ts => nodesT t ++ nodesS ts
end
theorem nodes_length : ∀ t : Tr, (nodesT t).length = dvN t := by
  intro t
  refine Tr.rec (motive_1 := fun t => (nodesT t).length = dvN t) (motive_2 := fun ts => (nodesS ts).length = dvNs ts ∧ (nodesP ts).length = dvNP ts) ?_ ?_ ?_ t
  · intro a ps ih; simp only [nodesT, dvN, List.length_cons, ih.2]; omega
  · exact ⟨rfl, rfl⟩
  · intro t ts h1 h2
    refine ⟨by simp only [nodesS, dvNs, List.length_append, h1, h2.1], ?_⟩
    simp only [nodesP, dvNP]
    split
    · rfl
    · exact h2.1
/-- What a node says of types: an ax its own. -/
def axOne : Tr → List (List UInt8)
  | .mk _ [] => []
  | .mk _ (p :: r) => if p.atom = sAx then r.map wrTr else []
theorem nodes_types : ∀ t : Tr, (nodesT t).flatMap axOne = dvA t := by
  intro t
  refine Tr.rec (motive_1 := fun t => (nodesT t).flatMap axOne = dvA t) (motive_2 := fun ts => (nodesS ts).flatMap axOne = dvAs ts ∧ axOne (.mk [] ts) ++ (nodesP ts).flatMap axOne = dvAP ts) ?_ ?_ ?_ t
  · intro a ps ih
    simp only [nodesT, dvA, List.flatMap_cons]
    rw [← ih.2]
    congr 1
    cases ps <;> rfl
  · exact ⟨rfl, rfl⟩
  · intro t ts h1 h2
    refine ⟨by simp only [nodesS, dvAs, List.flatMap_append, h1, h2.1], ?_⟩
    simp only [nodesP, dvAP, axOne]
    split
    · simp
    · simp [h2.1]
/-- Whether a node is one of a plain derivation. -/
def plOne (t : Tr) : Bool := t.wd == sAx || t.wd == sFun || t.wd == sApp
theorem nodes_of (k : Bool) : ∀ t : Tr, isDv k t = true → ∀ u ∈ nodesT t, isDv k u = true := by
  intro t
  refine Tr.rec (motive_1 := fun t => isDv k t = true → ∀ u ∈ nodesT t, isDv k u = true) (motive_2 := fun ts => (isDvs k ts = true → ∀ u ∈ nodesS ts, isDv k u = true) ∧ (isDvP k ts = true → ∀ u ∈ nodesP ts, isDv k u = true)) ?_ ?_ ?_ t
  · intro a ps ih h u hu
    have h0 := h
    unfold isDv at h
    split at h
    · simp only [nodesT, List.mem_cons] at hu
      rcases hu with rfl | hu
      · exact h0
      · exact ih.2 h u hu
    · cases h
  · exact ⟨fun _ u hu => (by cases hu), fun _ u hu => (by cases hu)⟩
  · intro t ts h1 h2
    refine ⟨fun h u hu => ?_, fun h u hu => ?_⟩
    · simp only [isDvs, Bool.and_eq_true] at h
      simp only [nodesS, List.mem_append] at hu
      rcases hu with hu | hu
      · exact h1 h.1 u hu
      · exact h2.1 h.2 u hu
    · simp only [isDvP] at h
      simp only [nodesP] at hu
      split at h
      · rename_i he; rw [if_pos he] at hu; cases hu
      · rename_i he
        rw [if_neg he] at hu
        simp only [Bool.and_eq_true] at h
        exact h2.1 h.2 u hu
/-- Of the kind full: plain is what has plain nodes alone. -/
theorem nodes_plain : ∀ t : Tr, isDv false t = true → (nodesT t).all plOne = dvP t := by
  intro t
  refine Tr.rec (motive_1 := fun t => isDv false t = true → (nodesT t).all plOne = dvP t) (motive_2 := fun ts => (isDvs false ts = true → (nodesS ts).all plOne = dvPs ts) ∧ (isDvP false ts = true → (plOne (.mk [] ts) && (nodesP ts).all plOne) = dvPP ts)) ?_ ?_ ?_ t
  · intro a ps ih h
    unfold isDv at h
    split at h
    · rename_i ha
      subst ha
      simp only [nodesT, List.all_cons, dvP]
      exact ih.2 h
    · cases h
  · exact ⟨fun _ => rfl, fun h => by cases h⟩
  · intro t ts h1 h2
    refine ⟨fun h => ?_, fun h => ?_⟩
    · simp only [isDvs, Bool.and_eq_true] at h
      simp only [nodesS, List.all_append, dvPs, h1 h.1, h2.1 h.2]
    · simp only [isDvP] at h
      have hw : (Tr.mk [] (t :: ts)).wd = t.atom := rfl
      simp only [nodesP, dvPP, plOne, hw]
      split at h
      · rename_i he
        rw [if_pos he, if_pos he, he]
        rfl
      · rename_i he
        rw [if_neg he, if_neg he]
        simp only [Bool.and_eq_true] at h
        rw [h2.1 h.2]
        have hn := h.1
        unfold ndOk at hn
        split at hn
        · rename_i e; rw [e]; rfl
        · split at hn
          · rename_i e; rw [e]; rfl
          · split at hn
            · cases hn
            · split at hn
              · rename_i e; rw [e]; rfl
              · split at hn
                · rename_i e; rw [e]; rfl
                · cases hn
end Go.Proofs.YtnnnphammfeemaaGreat
