/- The law's marks: the text of a number, a list that is marked, a list that still holds its marks. -/
import Derived.Test.YtnnnphammfeemaaGreatS0
import Derived.Test.YtnnnphammfeemaaGreatI
import Derived.Test.YtnnnphammfeemaaGreatX
import Derived.Lib.Strings
import Derived.Deep.RegionWith
namespace Go.Proofs.YtnnnphammfeemaaGreat
set_option linter.unusedVariables false
open Go.RowKit

theorem bytes_cons (c : UInt8) (acc : List UInt8) : (ByteArray.mk #[c]) ++ (ByteArray.mk acc.toArray) = ⟨(c :: acc).toArray⟩ := by
  apply WideShapes.bytes_inj
  simp [ByteArray.data_append]

theorem run_convert_one (w : World) (n : Int) :
    (convert 42 9 (.slice (some ⟨w.heap.size, 0, none⟩) 1 1)).run Tryz.prog (w.alloc (.cells #[.int .u8 n] 5)) = .ok (.string ⟨#[UInt8.ofNat n.toNat]⟩) (w.alloc (.cells #[.int .u8 n] 5)) := by
  rw [run_convert_bytes_string _ _ _ 5 _ _ _ Tryz.underlying42 Tryz.underlying5 Tryz.underlying9]
  rw [run_bytesToString _ _ _ _ [n] (by simp [loadCells, loadCellsFrom, go_sem])]
  rfl

set_option maxRecDepth 100000 in
theorem markText_any (k : Nat) (hk : 1 ≤ k) (hk2 : k ≤ 100000) (w : World) :
    Calls Tryz.prog 42 #[.int .i64 k] w fun e w' => e = .returned (.string ⟨(mkT k).toArray⟩) ∧ Below w.heap.size w w' := by
  go_enter Tryz.func42, Tryz.ntmps42
  go_wp2
  go_loopw [0, 3] (fun v o wr => ∃ (j f : Nat) (acc : List UInt8), v = .int .i64 j ∧ o = .string ⟨acc.toArray⟩ ∧ j ≤ f ∧ j ≤ 100000 ∧ acc.length + j ≤ 100000 ∧ Hid (mkD f j acc = mkD k k []) ∧ Below w.heap.size w wr) (fun v _ _ => (intOf v).toNat)
  case atStart => exact ⟨k, k, [], rfl, rfl, Nat.le_refl _, hk2, by simpa using hk2, Lib.hid rfl, Below.refl _ _⟩
  case round =>
    obtain ⟨j, f, acc, rfl, rfl, hjf, hj, hacc, HM, hB⟩ := hrel
    have hcv := run_convert_one wr
    by_cases hj0 : 0 < j
    · obtain ⟨f, rfl⟩ : ∃ f', f = f' + 1 := ⟨f - 1, by omega⟩
      have hst : mkD f (j / 10) ((48 + UInt8.ofNat (j % 10)) :: acc) = mkD k k [] := by
        rw [← HM.out]
        simp only [mkD]
        rw [if_neg (by omega)]
      have HST := Lib.hid hst
      clear hst
      go_wp2
      go_roundw
      case rel => exact ⟨j / 10, f, (48 + UInt8.ofNat (j % 10)) :: acc, by simp, by rw [bytes_cons], by omega, by omega, by simp; omega, Lib.hid HST.out, hB.alloc hB.size _⟩
      case measure => simp [intOf]; omega
    · have hj1 : j = 0 := by omega
      have hst : mkT k = 109 :: acc := by
        unfold mkT
        rw [← HM.out, hj1]
        cases f <;> simp [mkD]
      have HST := Lib.hid hst
      clear hst hj1
      go_wp2
      go_ret
      exact ⟨by rw [HST.out, bytes_cons]; rfl, hB⟩

theorem mkTs_length (k n : Nat) : (mkTs k n).length = n := by simp [mkTs]
theorem mkTs_succ (k n : Nat) : mkTs k (n + 1) = mkTs k n ++ [mkT (k + n)] := by simp [mkTs, List.range_succ]
theorem mkTs_at (k n i : Nat) (h : i < n) : (mkTs k n)[i]? = some (mkT (k + i)) := by simp [mkTs, h]
theorem marked_set (k i : Nat) (l : List (List UInt8)) (h : i < l.length) : (mkTs k i ++ l.drop i).set i (mkT (k + i)) = mkTs k (i + 1) ++ l.drop (i + 1) := by
  rw [List.set_append_right _ _ (by rw [mkTs_length]; exact Nat.le_refl _), mkTs_length, Nat.sub_self, List.drop_eq_getElem_cons h, List.set_cons_zero, mkTs_succ]
  simp
theorem marked_length (k i : Nat) (l : List (List UInt8)) (h : i ≤ l.length) : (mkTs k i ++ l.drop i).length = l.length := by
  rw [List.length_append, mkTs_length, List.length_drop]; omega

set_option maxRecDepth 100000 in
/-- The mark of each cell of a list. -/
theorem markS_any (l : List (List UInt8)) (k base : Nat) (v : Value) (w : World) (hl : SRow w base v l) (hk : 1 ≤ k) (hn : k + l.length ≤ 10000) :
    Calls Tryz.prog 20 #[v, .int .i64 k] w fun e w' => e = .returned (.int .i64 ((k + l.length : Nat) : Int)) ∧ w.grownBy w' v.ownBlock ∧ SRow w' base v (mkTs k l.length) := by
  obtain ⟨A, c, rfl⟩ := own_shape hl
  have HL := Lib.hid hl
  have hlt0 := Lib.hid hl.lt
  clear hl
  go_enter Tryz.func20, Tryz.ntmps20
  go_wp2
  go_loopw [1, 5] (fun q i wr => ∃ (j p : Nat), j ≤ l.length ∧ q = .int .i64 p ∧ i = .int .i64 j ∧ Hid (p = k + j) ∧ w.grownBy wr (Value.slice A l.length c).ownBlock ∧ Hid (SRow wr base (.slice A l.length c) (mkTs k j ++ l.drop j))) (fun _ i _ => l.length - (intOf i).toNat)
  case atStart => exact ⟨0, k, by omega, rfl, rfl, Lib.hid rfl, grown_refl _ _, Lib.hid (by rw [show mkTs k 0 = [] from rfl, List.drop_zero, List.nil_append]; exact HL.out)⟩
  case round =>
    obtain ⟨j, p, hj, rfl, rfl, HP, hg, HR⟩ := hrel
    by_cases hlt : j < l.length
    · have hlen := marked_length k j l hj
      obtain ⟨g, hA, -, hgb, hgw, -⟩ := SRow.cell HR.out (k := j) (by rw [hlen]; exact hlt)
      subst hA
      have hp1 : 1 ≤ p := by have := HP.out; omega
      have hp2 : p ≤ 100000 := by have := HP.out; omega
      have HLEN := Lib.hid hlen
      have HG := Lib.hid hg
      clear hlen hg
      go_wp2_with fail
      refine (markText_any p hp1 hp2 _).mono ?_
      rintro e w1 ⟨rfl, hb1⟩
      have hr1 : SRow w1 base (.slice (some ⟨g, 0, none⟩) l.length c) (mkTs k j ++ l.drop j) := HR.out.kept (grown_of_below hb1 none) (.inr (by simp [Value.ownBlock]))
      have hr1' := hr1
      unfold SRow at hr1'
      rw [HLEN.out] at hr1'
      have hf := hr1'.frozenAt j
      have hst := hr1'.stored j (.string ⟨(mkT p).toArray⟩)
      have hc1 := hr1'.cellAt j (by omega)
      have hcs : ∃ u, w1.cell? ⟨g, j, none⟩ = some u := by
        rw [hc1]
        exact ⟨_, List.getElem?_eq_getElem (by rw [List.length_map, HLEN.out]; exact hlt)⟩
      obtain ⟨u, hcu⟩ := hcs
      have HST := Lib.hid hst
      have hzw := hb1.size
      clear hst hr1 hr1' hc1
      go_wp2_with fail
      go_roundw
      case rel =>
        refine ⟨j + 1, p + 1, by omega, by go_num, by go_num, Lib.hid (by have := HP.out; omega), ?_, Lib.hid ?_⟩
        · exact (HG.out.trans (grown_of_below hb1 _)).trans HST.out.2
        · have h1 := HST.out.1
          rw [HP.out] at h1
          have e1 : ((mkTs k j ++ l.drop j).map strV).set j (.string ⟨(mkT (k + j)).toArray⟩) = (mkTs k (j + 1) ++ l.drop (j + 1)).map strV := by
            rw [← marked_set k j l hlt, List.map_set]; rfl
          rw [e1] at h1
          unfold SRow
          rw [marked_length k (j + 1) l (by omega), HP.out]
          exact h1
      case measure => simp [intOf]; omega
    · have hj2 : j = l.length := by omega
      have HJ := Lib.hid hj2
      clear hj2
      go_wp2
      go_ret
      refine ⟨ret_int (by rw [HP.out, HJ.out]), hg, ?_⟩
      have := HR.out
      rw [HJ.out, List.drop_length, List.append_nil] at this
      exact this

set_option maxRecDepth 100000 in
/-- A list that bears its marks is held. -/
theorem heldS_any (k n base : Nat) (v : Value) (w : World) (hl : SRow w base v (mkTs k n)) (hk : 1 ≤ k) (hn : k + n ≤ 10000) :
    Calls Tryz.prog 21 #[v, .int .i64 k] w fun e w' => e = .returned (.int .i64 ((k + n : Nat) : Int)) ∧ Below w.heap.size w w' := by
  obtain ⟨A, c, rfl⟩ := own_shape hl
  rw [mkTs_length]
  have HL := Lib.hid hl
  clear hl
  go_enter Tryz.func21, Tryz.ntmps21
  go_wp2
  go_loopw [1, 5] (fun q i wr => ∃ (j p : Nat), j ≤ n ∧ q = .int .i64 p ∧ i = .int .i64 j ∧ Hid (p = k + j) ∧ Below w.heap.size w wr) (fun _ i _ => n - (intOf i).toNat)
  case atStart => exact ⟨0, k, by omega, rfl, rfl, Lib.hid rfl, Below.refl _ _⟩
  case round =>
    obtain ⟨j, p, hj, rfl, rfl, HP, hB⟩ := hrel
    by_cases hlt : j < n
    · obtain ⟨g, hA, _, hgb, hgw, hcell⟩ := SRow.cell HL.out (k := j) (by rw [mkTs_length]; exact hlt)
      subst hA
      have hp1 : 1 ≤ p := by have := HP.out; omega
      have hp2 : p ≤ 100000 := by have := HP.out; omega
      have hm : (mkTs k n)[j]'(by rw [mkTs_length]; exact hlt) = mkT p := by
        have h1 := mkTs_at k n j hlt
        rw [← HP.out] at h1
        rw [List.getElem?_eq_getElem (by rw [mkTs_length]; exact hlt)] at h1
        injection h1
      rw [hm] at hcell
      have hcw := (hB.cell (p := ⟨g, j, none⟩) hgw).trans hcell
      have hzw := hB.size
      have HCW := Lib.hid hcw
      have hgr : g < wr.heap.size := by omega
      have hqq : (mkT p == mkT p) = true := by simp
      clear hcell hm
      go_wp2
      go_region_with (first
        | (go_at_call 42; refine (markText_any p hp1 hp2 _).mono ?_; rintro e w1 ⟨rfl, hb1⟩; have hcw1 := (hb1.cell (p := ⟨g, j, none⟩) (by first | exact hgr | (simp; exact hgr))).trans HCW.out))
      all_goals
        go_wp2
        go_roundw
        case rel => exact ⟨j + 1, p + 1, by omega, by go_num, by go_num, Lib.hid (by have := HP.out; omega), hB.trans (Below.mono (show Below wr.heap.size wr w1 from ⟨hb1.os, hb1.tape, hb1.output, hb1.size, hb1.block⟩) hzw)⟩
        case measure => simp [intOf]; omega
    · have hj2 : j = n := by omega
      have HJ := Lib.hid hj2
      clear hj2
      go_wp2
      go_ret
      exact ⟨ret_int (by rw [HP.out, HJ.out]), hB⟩
end Go.Proofs.YtnnnphammfeemaaGreat
