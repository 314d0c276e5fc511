/- slices.Reverse of a list of pointers. -/
import Derived.Test.YtgceephloklpbacI
import Derived.RegionTactic
import Derived.BigRegion
import Derived.Laws.OwnMore
namespace Go.Proofs.Ytgceephloklpbac
set_option linter.unusedVariables false
open Go.RowKit

theorem grown_drew' {a w : World} {row : Option Nat} (h : a.grownBy w row) : a.grownBy w.drew row := ⟨h.os, h.tape, h.output, h.size, h.block⟩

/-- The first k elements and the last k are exchanged. -/
def swp (xs : List Value) : Nat → List Value
  | 0 => xs
  | k + 1 => ((swp xs k).set k (xs[xs.length - 1 - k]?.getD undef)).set (xs.length - 1 - k) (xs[k]?.getD undef)
theorem swp_length (xs : List Value) : ∀ k, (swp xs k).length = xs.length := by
  intro k
  induction k with
  | zero => rfl
  | succ k ih => simp [swp, ih]
theorem swp_get (xs : List Value) : ∀ k, 2 * k ≤ xs.length → ∀ p, p < xs.length → (swp xs k)[p]? = if p < k ∨ xs.length - k ≤ p then xs[xs.length - 1 - p]? else xs[p]? := by
  intro k
  induction k with
  | zero => intro h p hp; rw [if_neg (by omega)]; rfl
  | succ k ih =>
    intro h p hp
    simp only [swp, List.getElem?_set, List.length_set, swp_length]
    by_cases h1 : xs.length - 1 - k = p
    · subst h1
      rw [if_pos rfl, if_pos hp, if_pos (by omega), show xs.length - 1 - (xs.length - 1 - k) = k from by omega, List.getElem?_eq_getElem (by omega)]
      rfl
    · rw [if_neg h1]
      by_cases h2 : k = p
      · subst h2
        rw [if_pos rfl, if_pos hp, if_pos (by omega), List.getElem?_eq_getElem (by omega)]
        rfl
      · rw [if_neg h2, ih (by omega) p hp]
        by_cases h3 : p < k ∨ xs.length - k ≤ p
        · rw [if_pos h3, if_pos (by omega)]
        · rw [if_neg h3, if_neg (by omega)]
theorem swp_done (xs : List Value) (k : Nat) (h : 2 * k ≤ xs.length) (h2 : xs.length ≤ 2 * k + 1) : swp xs k = xs.reverse := by
  apply List.ext_getElem?
  intro p
  by_cases hp : p < xs.length
  · rw [swp_get xs k h p hp, List.getElem?_reverse hp]
    split
    · rfl
    · rw [show xs.length - 1 - p = p from by omega]
  · rw [List.getElem?_eq_none (by rw [swp_length]; omega), List.getElem?_eq_none (by simp; omega)]

set_option maxRecDepth 100000 in
set_option maxHeartbeats 2000000 in
theorem rev_any (xs : List Value) (base : Nat) (v : Value) (w : World) (hl : w.ownsRow base 38 1 v xs.length xs) (hp : ∀ u ∈ xs, ∃ b, u = .pointer (some ⟨b, 0, none⟩)) (hn : xs.length ≤ 10000) :
    Calls Try.prog 52 #[v] w fun e w' => e = .returned (.tuple #[]) ∧ w'.ownsRow base 38 1 v xs.length xs.reverse ∧ w.grownBy w' v.ownBlock := by
  obtain ⟨A, c, rfl⟩ := own_shape hl
  have HL := Lib.hid hl
  have HP := Lib.hid hp
  clear hl hp
  go_enter Try.func52, Try.ntmps52
  go_wp2
  go_loopw [2, 3] (fun i j wr => ∃ k : Nat, 2 * k ≤ xs.length ∧ i = .int .i64 k ∧ j = .int .i64 ((xs.length : Int) - 1 - k) ∧ w.grownBy wr (Value.slice A xs.length c).ownBlock ∧ Hid (wr.ownsRow base 38 1 (.slice A xs.length c) xs.length (swp xs k))) (fun i _ _ => xs.length - (intOf i).toNat)
  case atStart => exact ⟨0, by omega, rfl, by simp, grown_refl _ _, Lib.hid HL.out⟩
  case round =>
    obtain ⟨k, hk, rfl, rfl, hg, HR⟩ := hrel
    by_cases hlt : 2 * k + 1 < xs.length
    · obtain ⟨q, hq, hqi⟩ : ∃ q : Nat, q = xs.length - 1 - k ∧ (xs.length : Int) - 1 - k = (q : Int) := ⟨xs.length - 1 - k, rfl, by omega⟩
      rw [hqi]
      obtain ⟨g, hA⟩ : ∃ g, A = some ⟨g, 0, none⟩ := by
        rcases HR.out.2 with ⟨_, h0⟩ | ⟨g, cap, cur, hv, _⟩
        · omega
        · injection hv with h1 _ _; exact ⟨g, h1⟩
      subst hA
      have hkn : k < xs.length := by omega
      have hqn : q < xs.length := by omega
      obtain ⟨bk, hbk⟩ := HP.out (xs[k]'hkn) (List.getElem_mem _)
      obtain ⟨bq, hbq⟩ := HP.out (xs[q]'hqn) (List.getElem_mem _)
      have hck := HR.out.cellAt k (by omega)
      have hcq := HR.out.cellAt q (by omega)
      have hfk := HR.out.frozenAt k
      have hfq := HR.out.frozenAt q
      rw [swp_get xs k hk k (by omega), if_neg (by omega), List.getElem?_eq_getElem hkn, hbk] at hck
      rw [swp_get xs k hk q (by omega), if_neg (by omega), List.getElem?_eq_getElem hqn, hbq] at hcq
      have hgl := (HR.out.lt g rfl).2
      have HG := Lib.hid hg
      have HQ := Lib.hid hq
      have HQI := Lib.hid hqi
      have HBK := Lib.hid hbk
      have HBQ := Lib.hid hbq
      have hkq : k < q := by omega
      have hstep : Hid (swp xs (k + 1) = ((swp xs k).set k (.pointer (some ⟨bq, 0, none⟩))).set q (.pointer (some ⟨bk, 0, none⟩))) := by
        refine Lib.hid ?_
        simp only [swp]
        rw [← HQ.out, List.getElem?_eq_getElem hqn, List.getElem?_eq_getElem hkn, HBQ.out, HBK.out]
        rfl
      clear hg hq hqi hbk hbq
      go_wp2
      go_region
      all_goals
        go_wp2
        go_roundw
        case rel =>
          have h1 := (HR.out.stored k (.pointer (some ⟨bq, 0, none⟩)))
          have h2 := h1.1.stored q (.pointer (some ⟨bk, 0, none⟩))
          refine ⟨k + 1, by omega, by go_num, ?_, ?_, Lib.hid ?_⟩
          · have := HQI.out
            exact congrArg (Value.int .i64) (by omega)
          · exact grown_drew' ((HG.out.trans h1.2).trans h2.2)
          · rw [hstep.out]
            exact h2.1
        case measure => simp [intOf]; omega
    · have HF := Lib.hid (swp_done xs k hk (by omega))
      go_wp2
      go_end0
      exact ⟨rfl, by rw [← HF.out]; exact HR.out, hg⟩
end Go.Proofs.Ytgceephloklpbac
