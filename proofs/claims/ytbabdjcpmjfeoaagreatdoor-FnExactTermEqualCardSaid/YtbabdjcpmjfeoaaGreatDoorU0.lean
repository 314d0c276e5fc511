/- The text of a tree: plain mathematics. -/
import Derived.Test.YtbabdjcpmjfeoaaGreatDoorU
namespace Go.Proofs.YtbabdjcpmjfeoaaGreatDoor
set_option linter.unusedVariables false

mutual
def wrTr : Tr → List UInt8
  | .mk a ps => if a = [] then 40 :: (wrSp ps).drop 1 ++ [41] else a
def wrSp : List Tr → List UInt8
  | [] => []
  | t :: r => (32 :: wrTr t) ++ wrSp r
end
theorem wrSp_append (a b : List Tr) : wrSp (a ++ b) = wrSp a ++ wrSp b := by
  induction a with
  | nil => rfl
  | cons t r ih => simp [wrSp, ih]
theorem wrSp_take (ps : List Tr) (k : Nat) (t : Tr) (h : ps[k]? = some t) : wrSp (ps.take (k + 1)) = wrSp (ps.take k) ++ 32 :: wrTr t := by
  rw [List.take_add_one, h, wrSp_append]
  simp [wrSp]
theorem wrSp_take_le (ps : List Tr) (k : Nat) : (wrSp (ps.take k)).length ≤ (wrSp ps).length := by
  have h := wrSp_append (ps.take k) (ps.drop k)
  rw [List.take_append_drop] at h
  rw [h, List.length_append]
  omega
theorem wrSp_one (ps : List Tr) (k : Nat) (hk : 0 < k) (hl : 0 < ps.length) : 0 < (wrSp (ps.take k)).length := by
  cases ps with
  | nil => simp at hl
  | cons t r =>
    cases k with
    | zero => omega
    | succ k => simp [wrSp]
theorem wrTr_tm (t : Tm) (h : t.ok) : wrTr (tmTr t) = wrTm t := by
  induction t with
  | var x =>
    have := isNm_ne x h
    simp [tmTr, wrTr, wrTm, this]
  | lam x b ih =>
    have := isNm_ne x h.1
    simp [tmTr, wrTr, wrTm, wrSp, this, ih h.2, sLam]
  | app f a ihf iha => simp [tmTr, wrTr, wrTm, wrSp, ihf h.1, iha h.2, sApp]

end Go.Proofs.YtbabdjcpmjfeoaaGreatDoor
