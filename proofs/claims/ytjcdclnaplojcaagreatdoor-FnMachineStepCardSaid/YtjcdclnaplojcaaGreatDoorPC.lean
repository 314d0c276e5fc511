/- The program counts the atoms of parts. -/
import Derived.Test.YtjcdclnaplojcaaGreatDoorK
import Derived.Test.YtjcdclnaplojcaaGreatDoorF
namespace Go.Proofs.YtjcdclnaplojcaaGreatDoor
set_option linter.unusedVariables false
open Go.RowKit

/-- A part in memory: its two cells, for the walk. -/
theorem PAt.cells {w : World} {P : Nat → Prop} {a : List UInt8} {ps : List Tr} {b : Nat} (h : PAt w P (.mk a ps) (.pointer (some ⟨b, 0, none⟩))) : ∃ A n c, w.cell? ⟨b, 0, none⟩ = some (.string ⟨a.toArray⟩) ∧ w.cell? ⟨b, 1, none⟩ = some (.slice A n c) ∧ n = ps.length ∧ P b ∧ a.length ≤ 8000 ∧ ps.length ≤ 8000 := by
  obtain ⟨b', vp, hb, hP, h0, h1, hle, hle2, hv⟩ := h.form
  injection hb with hb
  injection hb with hb
  injection hb with hb
  subst hb
  rcases hv with ⟨rfl, rfl⟩ | ⟨_, g, cap, xs, rfl, _⟩
  · exact ⟨_, _, _, h0, h1, rfl, hP, hle, hle2⟩
  · exact ⟨_, _, _, h0, h1, rfl, hP, hle, hle2⟩

set_option maxRecDepth 100000 in
theorem countAtoms_any : ∀ (t : Tr) (v : Value) (w : World) (P : Nat → Prop), PAt w P t v → trAtoms t ≤ 10000 →
    Calls Tryz.prog 99 #[v] w fun e w' => e = .returned (.int .i64 (trAtoms t)) ∧ w = w' := by
  intro t
  refine Tr.all (p := fun t => ∀ (v : Value) (w : World) (P : Nat → Prop), PAt w P t v → trAtoms t ≤ 10000 →
    Calls Tryz.prog 99 #[v] w fun e w' => e = .returned (.int .i64 (trAtoms t)) ∧ w = w') ?_ t
  intro a ps ih v w P ht hat
  obtain ⟨b, vp, rfl, hPb, k0, k1, hle, hle2, hv⟩ := ht.form
  by_cases ha : a = []
  · subst ha
    have hsum : trAtoms (.mk [] ps) = trsAtoms ps := by simp [trAtoms]
    rw [hsum] at hat
    have HS := Lib.hid hsum
    clear hsum ht
    rcases hv with ⟨rfl, rfl⟩ | ⟨hne, g, cap, xs, rfl, hcap, hPg, hc, hvs⟩
    · clear ih
      go_enter Tryz.func99, Tryz.ntmps99
      go_wp2
      refine wp_loop_rounds 1 ?_; rw [rounds_succ]
      go_wp2
      go_ret
      exact ⟨ret_int (by rw [HS.out]; rfl), rfl⟩
    · have IH := Lib.hid ih
      have HC := Lib.hid hc
      have HV := Lib.hid hvs
      clear ih hc hvs
      go_enter Tryz.func99, Tryz.ntmps99
      go_wp2
      go_loop [3, 16] (fun n i => ∃ k : Nat, k ≤ ps.length ∧ i = .int .i64 k ∧ n = .int .i64 (trsAtoms (ps.take k))) (fun _ i => ps.length - (intOf i).toNat)
      case atStart => exact ⟨0, by omega, rfl, rfl⟩
      case round =>
        obtain ⟨k, hk, rfl, rfl⟩ := hrel
        by_cases hkl : k < ps.length
        · obtain ⟨x, hx, hxp⟩ := HV.out.at_ k ps[k] (by simp [hkl])
          obtain ⟨c, rfl, hcP⟩ := hxp.shape
          have q0 := HC.out _ _ hx
          have htk := Lib.hid (trsAtoms_take ps k ps[k] (by simp [hkl]))
          have hb1 := trsAtoms_take_le ps (k + 1)
          rw [htk.out] at hb1
          go_wp2_with fail
          refine (IH.out ps[k] (List.getElem_mem _) _ _ P hxp (by omega)).mono ?_
          rintro e w1 ⟨rfl, rfl⟩
          go_wp2_with fail
          go_round
          case rel => exact ⟨k + 1, by omega, by go_num, by rw [htk.out]; go_num⟩
          case measure => simp [intOf]; omega
        · have hfin : trsAtoms (ps.take k) = trsAtoms ps := by rw [List.take_of_length_le (by omega)]
          have HF := Lib.hid hfin
          clear hfin
          go_wp2
          go_ret
          exact ⟨ret_int (by rw [HS.out, HF.out]), rfl⟩
  · have hae : (!a.isEmpty) = true := by cases a with
      | nil => exact absurd rfl ha
      | cons => rfl
    have hone : trAtoms (.mk a ps) = 1 := by simp [trAtoms, ha]
    have HX := Lib.hid hone
    clear ih hv ht hone
    go_enter Tryz.func99, Tryz.ntmps99
    go_wp2
    go_ret
    exact ⟨ret_int (by rw [HX.out]; rfl), rfl⟩
end Go.Proofs.YtjcdclnaplojcaaGreatDoor
