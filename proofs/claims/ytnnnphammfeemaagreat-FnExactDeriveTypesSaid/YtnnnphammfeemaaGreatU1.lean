/- The model writes a tree. -/
import Derived.Test.YtnnnphammfeemaaGreatU0
import Derived.Test.YtnnnphammfeemaaGreatR0
namespace Go.Proofs.YtnnnphammfeemaaGreat
set_option linter.unusedVariables false
open Go.RowKit

theorem ba_list (a b : ByteArray) : (a ++ b).data.toList = a.data.toList ++ b.data.toList := by rw [ByteArray.data_append, Array.toList_append]
theorem ba_eq (a : ByteArray) (l : List UInt8) (h : a.data.toList = l) : a = ⟨l.toArray⟩ := by
  obtain ⟨⟨m⟩⟩ := a
  simp at h
  rw [h]
theorem ba_size (a : ByteArray) : a.size = a.data.toList.length := by rw [Array.length_toList]; rfl

set_option maxRecDepth 100000 in
theorem l1Text_any : ∀ (t : Tr) (v : Value) (w : World) (P : Nat → Prop), TAt w P t v → (∀ b, P b → b < w.heap.size) → (wrTr t).length ≤ 1000000 →
    Calls Tryz.prog 72 #[v] w fun e w' => e = .returned (.string ⟨(wrTr t).toArray⟩) ∧ Below w.heap.size w w' := by
  intro t
  refine Tr.all (p := fun t => ∀ (v : Value) (w : World) (P : Nat → Prop), TAt w P t v → (∀ b, P b → b < w.heap.size) → (wrTr t).length ≤ 1000000 →
    Calls Tryz.prog 72 #[v] w fun e w' => e = .returned (.string ⟨(wrTr t).toArray⟩) ∧ Below w.heap.size w w') ?_ t
  intro a ps ih v w P ht hP hat
  obtain ⟨vp, rfl, hle, hle2, hv⟩ := ht.form
  by_cases ha : a = []
  · subst ha
    have hsum : wrTr (.mk [] ps) = 40 :: (wrSp ps).drop 1 ++ [41] := by simp [wrTr]
    rw [hsum] at hat
    simp at hat
    have HS := Lib.hid hsum
    clear hsum
    rcases hv with ⟨rfl, rfl⟩ | ⟨hne, g, cap, xs, rfl, hcap, hPg, hc, hvs⟩
    · clear ih
      go_enter Tryz.func72, Tryz.ntmps72
      go_wp2
      refine wp_loop_rounds 1 ?_; rw [rounds_succ]
      go_wp2
      go_ret
      exact ⟨by rw [HS.out]; rfl, by go_grown⟩
    · have IH := Lib.hid ih
      have HP := Lib.hid hP
      have HC := Lib.hid hc
      have HV := Lib.hid hvs
      have hg := hP g hPg
      clear ih hP hc hvs ht
      go_enter Tryz.func72, Tryz.ntmps72
      go_wp2
      go_loopw [3, 4] (fun n i wr => ∃ (k : Nat) (so : ByteArray), k ≤ ps.length ∧ i = .int .i64 k ∧ n = .string so ∧ so.data.toList = 40 :: (wrSp (ps.take k)).drop 1 ∧ Below w.heap.size w wr ∧ Blk wr w.heap.size 52 #[.string ⟨#[]⟩, .slice (some ⟨g, 0, none⟩) ps.length cap]) (fun _ i _ => ps.length - (intOf i).toNat)
      case atStart => exact ⟨0, ⟨#[40]⟩, by omega, rfl, rfl, rfl, by go_grown, Blk.new _ _ _⟩
      case round =>
        obtain ⟨k, so, hk, rfl, rfl, hso, hbw, hblk⟩ := hrel
        have r1 := hblk.cell 1
        have hlt := hblk.lt
        simp at r1
        have hsz := ba_size so
        have hb0 := wrSp_take_le ps k
        rw [hso] at hsz
        simp at hsz
        have hsl : so.size ≤ 1000000 := by omega
        have HSO := Lib.hid hso
        have HSZ := Lib.hid hsz
        clear hso hsz
        by_cases hkl : k < ps.length
        · obtain ⟨x, y, hx, hy, hxy⟩ := HV.out.at_ k ps[k] (by simp [hkl])
          rw [Nat.mul_comm] at hx hy
          obtain ⟨A, n, c, e⟩ := hxy.shape
          simp at e
          obtain ⟨rfl, rfl⟩ := e
          have q0 := (hbw.cell (p := ⟨g, k * 2, none⟩) hg).trans (HC.out _ _ hx)
          have q1 := (hbw.cell (p := ⟨g, k * 2 + 1, none⟩) hg).trans (HC.out _ _ hy)
          have htk := wrSp_take ps k ps[k] (by simp [hkl])
          have hb1 := wrSp_take_le ps (k + 1)
          rw [htk] at hb1
          simp at hb1
          have hsx : (wrTr ps[k]).length ≤ 1000000 := by omega
          have HTK := Lib.hid htk
          have HXY := Lib.hid (hxy.below hbw HP.out)
          clear htk hxy
          by_cases hk0 : ¬ 0 < k
          · go_wp2_with fail
            refine (IH.out ps[k] (List.getElem_mem _) _ _ P HXY.out (fun b hb => by have := HP.out b hb; omega) hsx).mono ?_
            rintro e w1 ⟨rfl, hb1'⟩
            have hblk1 := hblk.below hb1' hblk.lt
            have hB := hbw.trans (hb1'.mono (by omega))
            go_wp2_with fail
            go_roundw
            case rel =>
              refine ⟨k + 1, _, by omega, by go_num, rfl, ?_, hB, hblk1⟩
              have hkz : k = 0 := by omega
              have hz : wrSp (ps.take k) = [] := by rw [hkz]; rfl
              rw [ba_list, HSO.out, HTK.out, hz]
              simp
            case measure => simp [intOf]; omega
          · go_wp2_with fail
            refine (IH.out ps[k] (List.getElem_mem _) _ _ P HXY.out (fun b hb => by have := HP.out b hb; omega) hsx).mono ?_
            rintro e w1 ⟨rfl, hb1'⟩
            have hblk1 := hblk.below hb1' hblk.lt
            have hB := hbw.trans (hb1'.mono (by omega))
            go_wp2_with fail
            go_roundw
            case rel =>
              refine ⟨k + 1, _, by omega, by go_num, rfl, ?_, hB, hblk1⟩
              have hpos := wrSp_one ps k (by omega) (by omega)
              rw [ba_list, ba_list, HSO.out, HTK.out, List.drop_append_of_le_length (by omega)]
              simp
            case measure => simp [intOf]; omega
        · have hfin : wrSp (ps.take k) = wrSp ps := by rw [List.take_of_length_le (by omega)]
          have HF := Lib.hid hfin
          clear hfin
          go_wp2
          go_ret
          refine ⟨?_, hbw⟩
          rw [HS.out, ← HF.out]
          refine congrArg (fun s => Ending.returned (.string s)) (ba_eq _ _ ?_)
          rw [ba_list, HSO.out]
  · have hae : (!a.isEmpty) = true := by cases a with
      | nil => exact absurd rfl ha
      | cons => rfl
    have hone : wrTr (.mk a ps) = a := by simp [wrTr, ha]
    have HX := Lib.hid hone
    clear ih hv ht hone
    go_enter Tryz.func72, Tryz.ntmps72
    go_wp2
    go_ret
    exact ⟨by rw [HX.out]; rfl, by go_grown⟩
end Go.Proofs.YtnnnphammfeemaaGreat
