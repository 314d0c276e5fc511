/- Whether two lists of texts are the same. -/
import Derived.Test.YtnnnphammfeemaaGreatS0
namespace Go.Proofs.YtnnnphammfeemaaGreat
set_option linter.unusedVariables false
open Go.RowKit

/-- Two lists of texts are the same. -/
theorem eqS_any (l m : List (List UInt8)) (b1 b2 : Nat) (v1 v2 : Value) (w : World) (h1 : SRow w b1 v1 l) (h2 : SRow w b2 v2 m) (hn : l.length ≤ 2000000) (hn2 : m.length ≤ 2000000) :
    Calls Tryz.prog 19 #[v1, v2] w fun e w' => e = .returned (.bool (decide (l = m))) ∧ ∃ n, w' = w.drewN n := by
  obtain ⟨A1, c1, rfl⟩ := own_shape h1
  obtain ⟨A2, c2, rfl⟩ := own_shape h2
  have H1 := Lib.hid h1
  have H2 := Lib.hid h2
  clear h1 h2
  by_cases hlen : l.length = m.length
  · have hb : ((l.length : Int) != (m.length : Int)) = false := by simp [hlen]
    have HLEN := Lib.hid hlen
    clear hlen
    go_enter Tryz.func19, Tryz.ntmps19
    go_wp2
    go_loopw [5] (fun i wr => ∃ k : Nat, k ≤ l.length ∧ i = .int .i64 k ∧ Hid (∀ j, j < k → l[j]? = m[j]?) ∧ ∃ n, wr = w.drewN n) (fun i _ => l.length - (intOf i).toNat)
    case atStart => exact ⟨0, by omega, rfl, Lib.hid (fun j hj => by omega), 0, rfl⟩
    case round =>
      obtain ⟨k, hk, rfl, HA, n, rfl⟩ := hrel
      by_cases hlt : k < l.length
      · have hlt2 : k < m.length := by have := HLEN.out; omega
        obtain ⟨g1, rfl, _, _, _, hc1⟩ := H1.out.cell hlt
        obtain ⟨g2, rfl, _, _, _, hc2⟩ := H2.out.cell hlt2
        cases hq : (l[k] == m[k]) with
        | false =>
          have HQ := Lib.hid hq
          go_wp2
          go_quiet (fail)
          go_wp2
          go_ret
          refine ⟨ret_bool ?_, n + nq, (by first | rfl | exact World.drewN_drewN _ _ _)⟩
          rw [eq_comm, decide_eq_false_iff_not]
          rintro rfl
          have := HQ.out
          simp at this
        | true =>
          have HQ := Lib.hid hq
          go_wp2
          go_quiet (fail)
          go_wp2
          go_roundw
          case rel =>
            refine ⟨k + 1, by omega, by go_num, Lib.hid (fun j hj => ?_), n + nq, (by first | rfl | exact World.drewN_drewN _ _ _)⟩
            by_cases hjk : j = k
            · rw [hjk, List.getElem?_eq_getElem hlt, List.getElem?_eq_getElem hlt2]
              have := HQ.out
              simp at this
              rw [this]
            · exact HA.out j (by omega)
          case measure => simp [intOf]; omega
      · go_wp2
        go_ret
        refine ⟨ret_bool ?_, _, rfl⟩
        rw [eq_comm, decide_eq_true_eq]
        apply List.ext_getElem?
        intro j
        by_cases hj : j < k
        · exact HA.out j hj
        · rw [List.getElem?_eq_none (by omega), List.getElem?_eq_none (by have := HLEN.out; omega)]
  · have hb : ((l.length : Int) != (m.length : Int)) = true := by rw [bne_iff_ne]; omega
    have HLEN := Lib.hid hlen
    clear hlen
    go_enter Tryz.func19, Tryz.ntmps19
    go_wp2
    go_ret
    refine ⟨ret_bool ?_, 0, rfl⟩
    rw [eq_comm, decide_eq_false_iff_not]
    rintro rfl
    exact HLEN.out rfl
end Go.Proofs.YtnnnphammfeemaaGreat
