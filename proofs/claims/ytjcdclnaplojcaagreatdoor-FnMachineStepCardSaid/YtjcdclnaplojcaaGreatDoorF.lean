/- The model counts the atoms of a tree. -/
import Derived.Test.YtjcdclnaplojcaaGreatDoorD
namespace Go.Proofs.YtjcdclnaplojcaaGreatDoor
set_option linter.unusedVariables false
open Go.RowKit

theorem trsAtoms_take (ps : List Tr) (k : Nat) (t : Tr) (h : ps[k]? = some t) : trsAtoms (ps.take (k + 1)) = trsAtoms (ps.take k) + trAtoms t := by
  rw [List.take_add_one, h, trsAtoms_append]
  simp [trsAtoms]
theorem trsAtoms_take_le (ps : List Tr) (k : Nat) : trsAtoms (ps.take k) ≤ trsAtoms ps := by
  have := trsAtoms_append (ps.take k) (ps.drop k)
  rw [List.take_append_drop] at this
  omega

set_option maxRecDepth 100000 in
theorem l1Atoms_any : ∀ (t : Tr) (v : Value) (w : World) (P : Nat → Prop), TAt w P t v → (∀ b, P b → b < w.heap.size) → trAtoms t ≤ 10000 →
    Calls Tryz.prog 32 #[v] w fun e w' => e = .returned (.int .i64 (trAtoms t)) ∧ Below w.heap.size w w' := by
  intro t
  refine Tr.all (p := fun t => ∀ (v : Value) (w : World) (P : Nat → Prop), TAt w P t v → (∀ b, P b → b < w.heap.size) → trAtoms t ≤ 10000 →
    Calls Tryz.prog 32 #[v] w fun e w' => e = .returned (.int .i64 (trAtoms t)) ∧ Below w.heap.size w w') ?_ t
  intro a ps ih v w P ht hP hat
  obtain ⟨vp, rfl, hle, hle2, hv⟩ := ht.form
  by_cases ha : a = []
  · subst ha
    have hsum : trAtoms (.mk [] ps) = trsAtoms ps := by simp [trAtoms]
    rw [hsum] at hat
    have HS := Lib.hid hsum
    clear hsum
    rcases hv with ⟨rfl, rfl⟩ | ⟨hne, g, cap, xs, rfl, hcap, hPg, hc, hvs⟩
    · clear ih
      go_enter Tryz.func32, Tryz.ntmps32
      go_wp2
      refine wp_loop_rounds 1 ?_; rw [rounds_succ]
      go_wp2
      go_ret
      exact ⟨ret_int (by rw [HS.out]; rfl), by go_grown⟩
    · have IH := Lib.hid ih
      have HP := Lib.hid hP
      have HC := Lib.hid hc
      have HV := Lib.hid hvs
      have hg := hP g hPg
      clear ih hP hc hvs ht
      go_enter Tryz.func32, Tryz.ntmps32
      go_wp2
      go_loopw [3, 4] (fun n i wr => ∃ k : Nat, k ≤ ps.length ∧ i = .int .i64 k ∧ n = .int .i64 (trsAtoms (ps.take k)) ∧ Below w.heap.size w wr ∧ Blk wr w.heap.size 51 #[.string ⟨#[]⟩, .slice (some ⟨g, 0, none⟩) ps.length cap]) (fun _ i _ => ps.length - (intOf i).toNat)
      case atStart => exact ⟨0, by omega, rfl, rfl, by go_grown, Blk.new _ _ _⟩
      case round =>
        obtain ⟨k, hk, rfl, rfl, hbw, hblk⟩ := hrel
        have r1 := hblk.cell 1
        have hlt := hblk.lt
        simp at r1
        by_cases hkl : k < ps.length
        · obtain ⟨x, y, hx, hy, hxy⟩ := HV.out.at_ k ps[k] (by simp [hkl])
          rw [Nat.mul_comm] at hx hy
          obtain ⟨A, n, c, e⟩ := hxy.shape
          simp at e
          obtain ⟨rfl, rfl⟩ := e
          have q0 := (hbw.cell (p := ⟨g, k * 2, none⟩) hg).trans (HC.out _ _ hx)
          have q1 := (hbw.cell (p := ⟨g, k * 2 + 1, none⟩) hg).trans (HC.out _ _ hy)
          have htk := Lib.hid (trsAtoms_take ps k ps[k] (by simp [hkl]))
          have hb1 := trsAtoms_take_le ps (k + 1)
          rw [htk.out] at hb1
          have hxy' := hxy.below hbw HP.out
          have hbd := htk.out
          go_wp2_with fail
          refine (IH.out ps[k] (List.getElem_mem _) _ _ P hxy' (fun b hb => by have := HP.out b hb; omega) (by omega)).mono ?_
          rintro e w1 ⟨rfl, hb1'⟩
          have hblk1 := hblk.below hb1' hblk.lt
          have hB := hbw.trans (hb1'.mono (by omega))
          clear hbd
          go_wp2_with fail
          go_roundw
          case rel => exact ⟨k + 1, by omega, by go_num, by rw [htk.out]; go_num, hB, hblk1⟩
          case measure => simp [intOf]; omega
        · have hfin : trsAtoms (ps.take k) = trsAtoms ps := by rw [List.take_of_length_le (by omega)]
          have HF := Lib.hid hfin
          clear hfin
          go_wp2
          go_ret
          exact ⟨ret_int (by rw [HS.out, HF.out]), hbw⟩
  · have hae : (!a.isEmpty) = true := by cases a with
      | nil => exact absurd rfl ha
      | cons => rfl
    have hone : trAtoms (.mk a ps) = 1 := by simp [trAtoms, ha]
    have HX := Lib.hid hone
    clear ih hv ht hone
    go_enter Tryz.func32, Tryz.ntmps32
    go_wp2
    go_ret
    exact ⟨ret_int (by rw [HX.out]; rfl), by go_grown⟩
end Go.Proofs.YtjcdclnaplojcaaGreatDoor
