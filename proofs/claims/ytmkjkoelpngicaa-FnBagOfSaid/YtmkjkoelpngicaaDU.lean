/- A list of types that is drawn. -/
import Derived.Test.YtmkjkoelpngicaaDT
namespace Go.Proofs.Ytmkjkoelpngicaa
set_option linter.unusedVariables false
open Go.RowKit

theorem Short.set {m : Nat} {L : List (List UInt8)} {x : List UInt8} (h : Short m L) (hx : x.length ≤ m) (i : Nat) : Short m (L.set i x) := fun y hy => by
  rcases List.mem_or_eq_of_mem_set hy with h1 | h1
  · exact h y h1
  · rw [h1]; exact hx
theorem Short.mono {m m' : Nat} {L : List (List UInt8)} (h : Short m L) (hm : m ≤ m') : Short m' L := fun y hy => Nat.le_trans (h y hy) hm
theorem gr_to_below {B : Nat} {a w w' : World} {r : Nat} (h : Below B a w) (hg : w.grownBy w' (some r)) (hB : B ≤ w.heap.size) (hr : B ≤ r) : Below B a w' :=
  h.grown hg hB (fun k e => by injection e with e; omega)

set_option maxRecDepth 100000 in
set_option maxHeartbeats 4000000 in
theorem drawBagOf_any (b off n c : Nat) (A : Option Addr) (w : World) (h : CodeAt w b off n A) (hn : n ≤ 1048576) (hc : n ≤ c) (hc2 : c ≤ maxLen) :
    Calls Try.prog 39 #[.slice A n c] w fun e w' => ∃ (g k : Nat) (L : List (List UInt8)), e = .returned (.slice (some ⟨g, 0, none⟩) L.length k) ∧ SRow w' w.heap.size (.slice (some ⟨g, 0, none⟩) L.length k) L ∧ L.length ≤ 4 ∧ Short 200 L ∧ Below w.heap.size w w' := by
  obtain ⟨i0, hinf, hz0, hzs, hzb⟩ := info_parts Try.infoS'
  have HO := Lib.hid (l6Open_any b off n c A w h hn hc hc2)
  clear h
  go_enter Try.func39, Try.ntmps39
  go_wp2_with fail
  refine HO.out.mono ?_
  rintro e w1 ⟨m, c', rfl, hr1, hb1⟩
  have hlt1 := hr1.lt
  have HP := Lib.hid (pick_any w.heap.size b off m c' 0 5 A _ (hr1.alloc (.cells #[] 9)) (by decide) (by decide) (by omega))
  have HB1 := Lib.hid (hb1.alloc (by omega) (.cells #[] 9))
  have hz1 := hb1.size
  clear hr1 hb1
  go_wp2_with fail
  refine HP.out.mono ?_
  rintro e w2 ⟨z2, hz2, rfl, hr2, hg2⟩
  have hs2 := hg2.size
  simp at hs2
  have HR2 := Lib.hid hr2
  have HB2 := Lib.hid (gr_to_below HB1.out hg2 (by simp; omega) (Nat.le_refl _))
  have HL2 : Hid (SRow w2 (w.heap.size + 1) (.slice (some ⟨w1.heap.size, 0, none⟩) 0 0) []) := Lib.hid ((show SRow (w1.alloc (.cells #[] 9)) (w.heap.size + 1) (.slice (some ⟨w1.heap.size, 0, none⟩) 0 0) [] from World.ownsRow_made (base := w.heap.size + 1) (e := 9) (size := 1) w1 #[] 0 (by omega) (Nat.zero_le _) rfl).over hg2 (by omega))
  clear hr2 hg2
  go_wp2_with fail
  go_loopw [4, 6] (fun lv i wr => ∃ (j g0 c0 q : Nat) (L : List (List UInt8)), j ≤ z2 ∧ L.length = j ∧ i = .int .i64 (j : Nat) ∧ lv = .slice (some ⟨g0, 0, none⟩) j c0 ∧ Hid (SRow wr (w.heap.size + 1) (.slice (some ⟨g0, 0, none⟩) j c0) L) ∧ Hid (Short 200 L) ∧ RdAt wr w.heap.size b off m c' A q ∧ q ≤ 1 + j * 1000 ∧ Hid (Below w.heap.size w wr) ∧ w.heap.size + 1 ≤ wr.heap.size) (fun _ i _ => z2 - (intOf i).toNat)
  case atStart => exact ⟨0, w1.heap.size, 0, 1, [], by omega, rfl, rfl, rfl, HL2, Lib.hid (fun x hx => by cases hx), HR2.out, by omega, HB2, by omega⟩
  case round =>
    obtain ⟨j, g0, c0, q, L, hj, hLl, rfl, rfl, HL, HSH, hrd, hq2, HB, hsz⟩ := hrel
    have HRD := Lib.hid hrd
    clear hrd
    by_cases hjz : j < z2
    · have HC := Lib.hid (l91Type_any w.heap.size b off m c' A 2 (by decide) q _ HRD.out (by omega))
      go_wp2_with fail
      refine HC.out.mono ?_
      rintro e w3 ⟨x, q3, rfl, hxM, hq3, hq4, hr3, hg3⟩
      have hx2 : x.length ≤ 200 := Nat.le_trans hxM (by decide)
      have hq5 : q3 ≤ q + 1000 := Nat.le_trans hq4 (by show q + 17 ≤ q + 1000; omega)
      have hs3 := hg3.size
      have HR3 := Lib.hid hr3
      have HL3 := Lib.hid (HL.out.over hg3 (by omega))
      have HB3 := Lib.hid (gr_to_below HB.out hg3 (by omega) (Nat.le_refl _))
      clear hr3 hg3 hxM hq4
      go_wp2_with (first
        | (at_builtin
           refine wpList_append_own_at _ rfl (.tmp 17) (.tmp 20) 23 rfl (w.heap.size + 1) 9 i0 (.string ⟨#[]⟩) 1 16 Try.underlying23 hinf hz0 hzs hzb rfl (by decide) (.slice (some ⟨g0, 0, none⟩) j c0) j (L.map strV) rfl (by have h := HL3.out.alloc (.cells #[.string ⟨x.toArray⟩] 9); rw [hLl] at h; exact h) ⟨w3.heap.size, 0, none⟩ 1 1 [.string ⟨x.toArray⟩] rfl rfl (cell_one_new _ _ _) ?_ ?_ ?_ ?_ ?_
           · intro u hu
             simp at hu
             subst hu
             rfl
           · unfold maxLen; omega
           · omega
           · simp; omega
           intro v4 w4 hown4 hg4 _ hat4)
        | fail)
      have hsh : ∃ g6 c6, v4 = .slice (some ⟨g6, 0, none⟩) (j + 1) c6 := by
        rcases hown4.2 with ⟨_, h⟩ | ⟨g6, c6, cur, hv, _⟩
        · omega
        · exact ⟨g6, c6, hv⟩
      obtain ⟨g6, c6, hv4⟩ := hsh
      subst hv4
      have hlo := (HL3.out.lt g0 rfl).1
      have hs4 := hg4.size
      simp at hs4
      go_roundw
      case rel =>
        refine ⟨j + 1, g6, c6, q3, L ++ [x], by omega, by simp [hLl], by go_num, rfl, Lib.hid ?_, Lib.hid (HSH.out.snoc hx2), (HR3.out.alloc _).grown hg4 (fun k e => by simp [Value.ownBlock] at e; omega), by omega, Lib.hid ((HB3.out.alloc (by omega) _).grown hg4 (by simp; omega) (fun k e => by simp [Value.ownBlock] at e; omega)), by omega⟩
        have e : (L ++ [x]).length = j + 1 := by simp [hLl]
        unfold SRow
        rw [e, List.map_append]
        exact hown4
      case measure => simp [intOf]; omega
    · have hjz2 : j = z2 := by omega
      subst hjz2
      by_cases hj0 : j = 0
      · subst hj0
        go_wp2_with fail
        go_ret
        exact ⟨g0, c0, L, by rw [hLl]; rfl, by rw [hLl]; exact row_low HL.out (by omega), by omega, HSH.out, HB.out⟩
      · have hjp : decide ((0 : Int) < (j : Int)) = true := by simp; omega
        have HP5 := Lib.hid (pick_any w.heap.size b off m c' q 12 A _ HRD.out (by decide) (by decide) (by omega))
        go_wp2_with fail
        refine HP5.out.mono ?_
        rintro e w5 ⟨z5, hz5, rfl, hr5, hg5⟩
        have hs5 := hg5.size
        have HR5 := Lib.hid hr5
        have HL5 := Lib.hid (HL.out.over hg5 (by omega))
        have HB5 := Lib.hid (gr_to_below HB.out hg5 (by omega) (Nat.le_refl _))
        clear hr5 hg5
        by_cases hz50 : z5 = 0
        · subst hz50
          have HT := Lib.hid (l91Types_any w.heap.size b off m c' (q + 1) A _ HR5.out (by omega))
          go_wp2_with fail
          refine HT.out.mono ?_
          rintro e w6 ⟨x, q6, rfl, hxM, hq3, hq4, hr6, hg6⟩
          have hs6 := hg6.size
          have HL6 := Lib.hid (HL5.out.over hg6 (by omega))
          have HB6 := Lib.hid (gr_to_below HB5.out hg6 (by omega) (Nat.le_refl _))
          have HJ6 : Hid (w6.ownsRow (w.heap.size + 1) 9 1 (.slice (some ⟨g0, 0, none⟩) j c0) j (L.map strV)) := Lib.hid (by have h := HL6.out; unfold SRow at h; rw [hLl] at h; exact h)
          have HST := Lib.hid (HJ6.out.stored 0 (strV x))
          have hlo := (HL6.out.lt g0 rfl).1
          have hf6 := HJ6.out.frozenAt 0
          obtain ⟨g', hg', _, _, _, hcell⟩ := HL6.out.cell (k := 0) (by omega)
          injection hg' with hg'
          injection hg' with hg'
          subst hg'
          generalize L[0] = y at hcell
          have i1 : (0 : Int) < (j : Int) := by omega
          have HXM := Lib.hid hxM
          have HLO := Lib.hid hlo
          have HLl := Lib.hid hLl
          have hj5 : j ≤ 4 := by omega
          clear hr6 hg6 hLl
          go_wp2_with fail
          go_ret
          refine ⟨g0, c0, L.set 0 x, by rw [List.length_set, HLl.out]; rfl, ?_, by rw [List.length_set, HLl.out]; omega, HSH.out.set HXM.out 0, HB6.out.setCell (by have := HLO.out; show w.heap.size ≤ g0; omega) _⟩
          have h1 := row_low HST.out.1 (by omega : w.heap.size ≤ w.heap.size + 1)
          have e : (L.set 0 x).length = j := by rw [List.length_set, HLl.out]
          unfold SRow
          rw [e, List.map_set]
          exact h1
        · have hz5b : ((z5 : Int) == 0) = false := by simp; omega
          go_wp2_with fail
          go_ret
          exact ⟨g0, c0, L, by rw [hLl]; rfl, by rw [hLl]; exact row_low HL5.out (by omega), by omega, HSH.out, HB5.out⟩
end Go.Proofs.Ytmkjkoelpngicaa
