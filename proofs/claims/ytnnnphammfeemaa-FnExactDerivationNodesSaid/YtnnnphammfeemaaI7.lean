/- Reading derivations: mathematics. -/
import Derived.Test.YtnnnphammfeemaaI5
import Derived.Test.YtnnnphammfeemaaMU
import Derived.Test.YtnnnphammfeemaaKD
namespace Go.Proofs.Ytnnnphammfeemaa
set_option linter.unusedVariables false
open Go.RowKit

/-- The derivation that a text is, for a kind's word. -/
def rdDv (x l : List UInt8) : Option Tr := match rdKind x with
  | none => none
  | some k => match rdText l with
    | none => none
    | some t => if isDv k t = true ∧ dvN t ≤ 600 then some t else none
theorem ndOk_atoms (k : Bool) : ∀ t : Tr, isDv k t = true → dvN t ≤ trAtoms t := by
  intro t
  refine Tr.all (p := fun t => isDv k t = true → dvN t ≤ trAtoms t) ?_ t
  intro a ps ih h
  obtain ⟨pa, pq, r, e, hr⟩ := isDv_form k _ h
  injection e with e1 e2
  subst e1 e2
  have hp : 1 ≤ trAtoms (.mk pa pq) := by
    rw [isDv_node] at h
    have hne : pa ≠ [] := by
      rintro rfl
      rw [if_neg (by decide)] at h
      simp [ndOk, sFun, sTfun, sHap, sApp, sTap] at h
    simp only [trAtoms]
    rw [if_neg hne]
    exact Nat.le_refl _
  have hs : ∀ l : List Tr, (∀ t ∈ l, dvN t ≤ trAtoms t) → dvNs l ≤ trsAtoms l := by
    intro l hl
    induction l with
    | nil => exact Nat.le_refl _
    | cons u l ihl =>
      have h1 := hl u (by simp)
      have h2 := ihl (fun t ht => hl t (List.mem_cons_of_mem _ ht))
      simp only [dvNs, trsAtoms]
      omega
  have e1 : trAtoms (.mk [] (.mk pa pq :: r)) = trAtoms (.mk pa pq) + trsAtoms r := by simp only [trAtoms, trsAtoms, if_true]
  rw [e1]
  rcases hr with rfl | ⟨hx, hr⟩
  · have e2 : dvN (.mk [] (.mk sAx pq :: r)) = 1 := by
      show 1 + (if (Tr.mk sAx pq).atom = sAx then 0 else dvNs r) = 1
      rw [if_pos (show (Tr.mk sAx pq).atom = sAx from rfl)]
    omega
  · have e2 : dvN (.mk [] (.mk pa pq :: r)) = 1 + dvNs r := by
      show 1 + (if (Tr.mk pa pq).atom = sAx then 0 else dvNs r) = _
      rw [if_neg (show ¬ (Tr.mk pa pq).atom = sAx from hx)]
    have := hs r fun t ht => ih t (List.mem_cons_of_mem _ ht) (hr t ht)
    omega
end Go.Proofs.Ytnnnphammfeemaa
