/- Lists of texts in memory: whether one is among them, whether two are the same. -/
import Derived.Test.YteaopemnlinknaaL
namespace Go.Proofs.Yteaopemnlinknaa
set_option linter.unusedVariables false
open Go.RowKit

/-- A list of texts, as a slice of strings that the call owns. -/
abbrev SRow (w : World) (base : Nat) (v : Value) (l : List (List UInt8)) : Prop := w.ownsRow base 9 1 v l.length (l.map strV)

theorem SRow.cell {w : World} {base : Nat} {A : Option Addr} {n c : Nat} {l : List (List UInt8)} (h : SRow w base (.slice A n c) l) {k : Nat} (hk : k < l.length) : ∃ g, A = some ⟨g, 0, none⟩ ∧ n = l.length ∧ base ≤ g ∧ g < w.heap.size ∧ w.cell? ⟨g, k, none⟩ = some (.string ⟨(l[k]).toArray⟩) := by
  rcases h.2 with ⟨_, h0⟩ | ⟨g, cap, cur, hv, hb, hg, _⟩
  · omega
  · injection hv with h1 h2 h3
    subst h1
    refine ⟨g, rfl, h2, hb, (Array.getElem?_eq_some_iff.1 hg).1, ?_⟩
    have := h.cells (g := g) rfl k (.string ⟨(l[k]).toArray⟩) (by
      rw [List.getElem?_map, List.getElem?_eq_getElem hk]
      rfl)
    rwa [add_off] at this
theorem SRow.len {w : World} {base : Nat} {A : Option Addr} {n c : Nat} {l : List (List UInt8)} (h : SRow w base (.slice A n c) l) : n = l.length := by
  obtain ⟨A', c', e⟩ := own_shape h
  injection e

theorem l1Has_any (l : List (List UInt8)) (x : List UInt8) (base : Nat) (v : Value) (w : World) (hl : SRow w base v l) (hn : l.length ≤ 10000) :
    Calls Try.prog 46 #[v, .string ⟨x.toArray⟩] w fun e w' => e = .returned (.bool (decide (x ∈ l))) ∧ w = w' := by
  obtain ⟨A, c, rfl⟩ := own_shape hl
  have HL := Lib.hid hl
  clear hl
  go_enter Try.func46, Try.ntmps46
  go_wp2
  go_loop [5] (fun i => ∃ k : Nat, k ≤ l.length ∧ i = .int .i64 k ∧ Hid (∀ j, j < k → l[j]? ≠ some x)) (fun i => l.length - (intOf i).toNat)
  case atStart => exact ⟨0, by omega, rfl, Lib.hid (fun j hj => by omega)⟩
  case round =>
    obtain ⟨k, hk, rfl, HA⟩ := hrel
    by_cases hlt : k < l.length
    · obtain ⟨g, rfl, _, _, _, hcell⟩ := HL.out.cell hlt
      go_wp2
      all_goals first
        | (go_round
           case rel =>
             have hne : (l[k] == x) = false := by assumption
             refine ⟨k + 1, by omega, by go_num, Lib.hid (fun j hj => ?_)⟩
             by_cases hjk : j = k
             · rw [hjk, List.getElem?_eq_getElem hlt]
               intro e
               injection e with e
               rw [e] at hne
               simp at hne
             · exact HA.out j (by omega)
           case measure => simp [intOf]; omega)
        | (have heq : (l[k] == x) = true := by assumption
           go_ret
           refine ⟨ret_bool ?_, rfl⟩
           rw [eq_comm, decide_eq_true_eq, ← beq_iff_eq.1 heq]
           exact List.getElem_mem _)
    · go_wp2
      go_ret
      refine ⟨ret_bool ?_, rfl⟩
      rw [eq_comm, decide_eq_false_iff_not]
      intro hx
      obtain ⟨j, hj, e⟩ := List.getElem_of_mem hx
      exact HA.out j (by omega) (by rw [List.getElem?_eq_getElem hj, e])

/-- What slices.Index answers. -/
def IxPost (l : List (List UInt8)) (x : List UInt8) (w : World) (e : Ending) (w' : World) : Prop :=
  w = w' ∧ ((x ∈ l ∧ ∃ k : Nat, e = .returned (.int .i64 k)) ∨ (x ∉ l ∧ e = .returned (.int .i64 (-1))))

theorem sIndex_any (l : List (List UInt8)) (x : List UInt8) (base : Nat) (v : Value) (w : World) (hl : SRow w base v l) (hn : l.length ≤ 10000) :
    Calls Try.prog 61 #[v, .string ⟨x.toArray⟩] w (IxPost l x w) := by
  obtain ⟨A, c, rfl⟩ := own_shape hl
  have HL := Lib.hid hl
  clear hl
  go_enter Try.func61, Try.ntmps61
  go_wp2
  go_loop [8] (fun i => ∃ k : Nat, k ≤ l.length ∧ i = .int .i64 k ∧ Hid (∀ j, j < k → l[j]? ≠ some x)) (fun i => l.length - (intOf i).toNat)
  case atStart => exact ⟨0, by omega, rfl, Lib.hid (fun j hj => by omega)⟩
  case round =>
    obtain ⟨k, hk, rfl, HA⟩ := hrel
    by_cases hlt : k < l.length
    · obtain ⟨g, rfl, _, _, _, hcell⟩ := HL.out.cell hlt
      go_wp2
      all_goals first
        | (go_round
           case rel =>
             have hne : (x == l[k]) = false := by assumption
             refine ⟨k + 1, by omega, by go_num, Lib.hid (fun j hj => ?_)⟩
             by_cases hjk : j = k
             · rw [hjk, List.getElem?_eq_getElem hlt]
               intro e
               injection e with e
               rw [e] at hne
               simp at hne
             · exact HA.out j (by omega)
           case measure => simp [intOf]; omega)
        | (have heq : (x == l[k]) = true := by assumption
           go_ret
           refine ⟨rfl, .inl ⟨?_, k, rfl⟩⟩
           rw [beq_iff_eq.1 heq]
           exact List.getElem_mem _)
    · go_wp2
      go_ret
      refine ⟨rfl, .inr ⟨?_, rfl⟩⟩
      intro hx
      obtain ⟨j, hj, e⟩ := List.getElem_of_mem hx
      exact HA.out j (by omega) (by rw [List.getElem?_eq_getElem hj, e])

theorem sContains_any (l : List (List UInt8)) (x : List UInt8) (base : Nat) (v : Value) (w : World) (hl : SRow w base v l) (hn : l.length ≤ 10000) :
    Calls Try.prog 49 #[v, .string ⟨x.toArray⟩] w fun e w' => e = .returned (.bool (decide (x ∈ l))) ∧ w = w' := by
  have HL := Lib.hid hl
  clear hl
  go_enter Try.func49, Try.ntmps49
  go_wp2_with fail
  refine (sIndex_any l x base v _ HL.out hn).mono ?_
  rintro e w1 ⟨rfl, ⟨hx, k, rfl⟩ | ⟨hx, rfl⟩⟩
  · have HX := Lib.hid hx
    clear hx
    go_wp2_with fail
    go_ret
    exact ⟨ret_bool (by simp [HX.out]), rfl⟩
  · have HX := Lib.hid hx
    clear hx
    go_wp2_with fail
    go_ret
    exact ⟨ret_bool (by simp [HX.out]), rfl⟩

/-- Two lists of texts are the same. -/
theorem eqS_any (l m : List (List UInt8)) (b1 b2 : Nat) (v1 v2 : Value) (w : World) (h1 : SRow w b1 v1 l) (h2 : SRow w b2 v2 m) (hn : l.length ≤ 10000) (hn2 : m.length ≤ 10000) :
    Calls Try.prog 13 #[v1, v2] w fun e w' => e = .returned (.bool (decide (l = m))) ∧ ∃ n, w' = w.drewN n := by
  obtain ⟨A1, c1, rfl⟩ := own_shape h1
  obtain ⟨A2, c2, rfl⟩ := own_shape h2
  have H1 := Lib.hid h1
  have H2 := Lib.hid h2
  clear h1 h2
  by_cases hlen : l.length = m.length
  · have hb : ((l.length : Int) != (m.length : Int)) = false := by simp [hlen]
    have HLEN := Lib.hid hlen
    clear hlen
    go_enter Try.func13, Try.ntmps13
    go_wp2
    go_loopw [5] (fun i wr => ∃ k : Nat, k ≤ l.length ∧ i = .int .i64 k ∧ Hid (∀ j, j < k → l[j]? = m[j]?) ∧ ∃ n, wr = w.drewN n) (fun i _ => l.length - (intOf i).toNat)
    case atStart => exact ⟨0, by omega, rfl, Lib.hid (fun j hj => by omega), 0, rfl⟩
    case round =>
      obtain ⟨k, hk, rfl, HA, n, rfl⟩ := hrel
      by_cases hlt : k < l.length
      · have hlt2 : k < m.length := by have := HLEN.out; omega
        obtain ⟨g1, rfl, _, _, _, hc1⟩ := H1.out.cell hlt
        obtain ⟨g2, rfl, _, _, _, hc2⟩ := H2.out.cell hlt2
        cases hq : (l[k] == m[k]) with
        | false =>
          have HQ := Lib.hid hq
          go_wp2
          go_quiet (fail)
          go_wp2
          go_ret
          refine ⟨ret_bool ?_, n + nq, (by first | rfl | exact World.drewN_drewN _ _ _)⟩
          rw [eq_comm, decide_eq_false_iff_not]
          rintro rfl
          have := HQ.out
          simp at this
        | true =>
          have HQ := Lib.hid hq
          go_wp2
          go_quiet (fail)
          go_wp2
          go_roundw
          case rel =>
            refine ⟨k + 1, by omega, by go_num, Lib.hid (fun j hj => ?_), n + nq, (by first | rfl | exact World.drewN_drewN _ _ _)⟩
            by_cases hjk : j = k
            · rw [hjk, List.getElem?_eq_getElem hlt, List.getElem?_eq_getElem hlt2]
              have := HQ.out
              simp at this
              rw [this]
            · exact HA.out j (by omega)
          case measure => simp [intOf]; omega
      · go_wp2
        go_ret
        refine ⟨ret_bool ?_, _, rfl⟩
        rw [eq_comm, decide_eq_true_eq]
        apply List.ext_getElem?
        intro j
        by_cases hj : j < k
        · exact HA.out j hj
        · rw [List.getElem?_eq_none (by omega), List.getElem?_eq_none (by have := HLEN.out; omega)]
  · have hb : ((l.length : Int) != (m.length : Int)) = true := by rw [bne_iff_ne]; omega
    have HLEN := Lib.hid hlen
    clear hlen
    go_enter Try.func13, Try.ntmps13
    go_wp2
    go_ret
    refine ⟨ret_bool ?_, 0, rfl⟩
    rw [eq_comm, decide_eq_false_iff_not]
    rintro rfl
    exact HLEN.out rfl
end Go.Proofs.Yteaopemnlinknaa
