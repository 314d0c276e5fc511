/- The text of a bag, and of a type of functions. -/
import Derived.Test.YtnnnphammfeemaaGreatPL
import Derived.Test.YtnnnphammfeemaaGreatBW
import Derived.Test.YtnnnphammfeemaaGreatTY
namespace Go.Proofs.YtnnnphammfeemaaGreat
set_option linter.unusedVariables false
open Go.RowKit Go.Maps

theorem Bld.only {B b : Nat} {l : List UInt8} {w w' : World} (h : Bld B b l w) (hg : w.grownBy w' none) : Bld B b l w' := by
  have key : ∀ p, Lib.BuilderAtF 132 5 B b p (Lib.byteCells l) w → Lib.BuilderAtF 132 5 B b p (Lib.byteCells l) w' := by
    rintro p ⟨hB, v, hb, hown, hne⟩
    have hbk : Blk w b 132 #[p, v] := hb
    refine ⟨hB, v, ?_, hown.kept hg ?_, hne⟩
    · rw [hg.block b hbk.lt (by simp)]; exact hb
    · cases hv : v.ownBlock with
      | none => exact .inl rfl
      | some k => exact .inr (by simp)
  exact h.elim (fun h => .inl (key _ h)) (fun h => .inr (key _ h))
theorem Bld.cellsAt {B b : Nat} {l : List UInt8} {w : World} (h : Bld B b l w) : ∃ cs, w.heap[b]? = some (.cells cs 132 (0, 0)) := by
  rcases h with h | h
  · obtain ⟨_, v, hb, _⟩ := h; exact ⟨_, hb⟩
  · obtain ⟨_, v, hb, _⟩ := h; exact ⟨_, hb⟩
theorem TRow.wrote {base b : Nat} {v : Value} {xs : List (List UInt8)} {w w' : World} (h : TRow w base v xs) {B : Nat} {l : List UInt8} (hb : Bld B b l w) (ho : Oth b w w') : TRow w' base v xs := by
  obtain ⟨h1, h2⟩ := h
  refine ⟨h1, ?_⟩
  rcases h2 with h2 | ⟨g, cap, cur, rfl, hg, hh, r⟩
  · exact .inl h2
  · refine .inr ⟨g, cap, cur, rfl, hg, ho g _ hh (fun e => ?_) (fun c fz e => by injection e with _ e; exact absurd e (by decide)), r⟩
    obtain ⟨cs, hc⟩ := hb.cellsAt
    have e' : g = b := Option.some.inj e
    subst e'
    rw [hc] at hh
    injection hh with hh
    injection hh with _ h
    exact absurd h (by decide)

/-- What was written of a bag's text. -/
def bgPre (L : List (List UInt8)) (k : Nat) : List UInt8 := [40, 109] ++ ((L.take k).map fun x => 32 :: x).flatten
theorem bgPre_next (L : List (List UInt8)) (k : Nat) (x : List UInt8) (h : L[k]? = some x) : bgPre L (k + 1) = bgPre L k ++ [32] ++ x := by
  unfold bgPre
  rw [List.take_add_one, h]
  simp
theorem bgPre_end (L : List (List UInt8)) (k : Nat) (h : L.length ≤ k) : bgPre L k ++ [41] = mkBag L := by
  unfold bgPre mkBag
  rw [List.take_of_length_le h]
theorem bgPre_le (L : List (List UInt8)) (k : Nat) : (bgPre L k).length ≤ (mkBag L).length := by
  have h : mkBag L = bgPre L k ++ (((L.drop k).map fun x => 32 :: x).flatten ++ [41]) := by
    have e : L.map (fun x => 32 :: x) = (L.take k).map (fun x => 32 :: x) ++ (L.drop k).map (fun x => 32 :: x) := by rw [← List.map_append, List.take_append_drop]
    unfold mkBag bgPre
    rw [e, List.flatten_append]
    simp only [List.append_assoc]
  rw [h, List.length_append]
  omega
theorem bag_few (L : List (List UInt8)) : L.length ≤ (mkBag L).length := by
  unfold mkBag
  have : ∀ M : List (List UInt8), M.length ≤ ((M.map fun x => 32 :: x).flatten).length := by
    intro M
    induction M with
    | nil => simp
    | cons x r ih => simp only [List.map_cons, List.flatten_cons, List.length_append, List.length_cons]; omega
  have := this L
  simp only [List.length_append]
  omega

set_option maxRecDepth 100000 in
set_option maxHeartbeats 2000000 in
theorem bagText_any (b : Nat) (L : List (List UInt8)) (w : World) (h : BagIs w b L) (hlen : (mkBag (srt L)).length ≤ 100000) :
    Calls Tryz.prog 47 #[.map (some b)] w fun e w' => e = .returned (.string ⟨(mkBag (srt L)).toArray⟩) ∧ Below w.heap.size w w' := by
  have hbl := Bld.fresh w
  have hlt := h.lt
  have HB := Lib.hid (h.alloc (.cells #[.pointer none, .slice none 0 0] 132))
  have HBL := Lib.hid hbl
  have hLn : L.length ≤ 100000 := by
    have := bag_few (srt L)
    rw [(srt_perm L).length_eq] at this
    omega
  obtain ⟨M, hM⟩ : ∃ M, srt L = M := ⟨_, rfl⟩
  rw [hM] at hlen ⊢
  have HM := Lib.hid hM
  clear hM
  clear h hbl
  go_enter Tryz.func47, Tryz.ntmps47
  go_wp2_with fail
  refine (writeString_any w.heap.size w.heap.size [] ⟨#[40, 109]⟩ _ HBL.out (by simp) (by decide) (by simp)).mono ?_
  rintro e w1 ⟨rfl, h1, hb1, ho1⟩
  have hz1 := hb1.size
  simp at hz1
  have HBL1 : Hid (Bld w.heap.size w.heap.size [40, 109] w1) := Lib.hid h1
  have HB1 : Hid (BagIs w1 b L) := Lib.hid (HB.out.below hb1 hlt)
  have HW1 : Hid (Below w.heap.size w w1) := Lib.hid (((Below.refl _ _).alloc (Nat.le_refl _) _).trans hb1)
  clear h1 hb1 ho1
  go_wp2_with fail
  refine (list_any b L _ HB1.out (by omega)).mono ?_
  rintro e w2 ⟨v, rfl, hrow, hb2⟩
  rw [HM.out] at hrow
  obtain ⟨A, c, rfl⟩ := own_shape hrow
  have hz2 := hb2.size
  have HBL2 : Hid (Bld w.heap.size w.heap.size [40, 109] w2) := Lib.hid (HBL1.out.only (grown_of_below hb2 none))
  have HW2 : Hid (Below w.heap.size w w2) := Lib.hid (HW1.out.trans (hb2.mono (by omega)))
  have HROW := Lib.hid (ownsRow_base_a hrow (Nat.zero_le w1.heap.size))
  clear hrow hb2
  have hMn : M.length ≤ 100000 := by have := bag_few M; omega
  go_wp2_with fail
  go_loopw [10] (fun i wr => ∃ k : Nat, k ≤ M.length ∧ i = .int .i64 k ∧ Hid (Bld w.heap.size w.heap.size (bgPre M k) wr) ∧ Hid (TRow wr 0 (.slice A M.length c) M) ∧ Hid (Below w.heap.size w wr)) (fun i _ => M.length - (intOf i).toNat)
  case atStart => exact ⟨0, by omega, rfl, HBL2, HROW, HW2⟩
  case round =>
    obtain ⟨k, hk, rfl, HBk, HRk, HWk⟩ := hrel
    have hzk := HWk.out.size
    have hpl := bgPre_le M k
    by_cases hkl : k < M.length
    · obtain ⟨x, hx⟩ : ∃ x, M[k]? = some x := ⟨M[k], by simp⟩
      have hnx := Lib.hid (bgPre_next M k x hx)
      have hpl1 := bgPre_le M (k + 1)
      rw [hnx.out] at hpl1
      simp at hpl1
      obtain ⟨g, rfl, hgl, _, hcell⟩ := row_cell HRk.out hx
      clear hx
      go_wp2_with fail
      refine (writeString_any w.heap.size w.heap.size _ ⟨#[32]⟩ _ HBk.out (by omega) (by decide) (by omega)).mono ?_
      rintro e w3 ⟨rfl, h3, hb3, ho3⟩
      have hz3 := hb3.size
      have HB3 := Lib.hid h3
      have HR3 := Lib.hid (TRow.wrote HRk.out HBk.out ho3)
      have HW3 := Lib.hid (HWk.out.trans hb3)
      clear h3 hb3 ho3
      go_wp2_with fail
      refine (writeString_any w.heap.size w.heap.size _ ⟨x.toArray⟩ _ HB3.out (by simp; omega) (by simp [ByteArray.size]; omega) (by omega)).mono ?_
      rintro e w4 ⟨rfl, h4, hb4, ho4⟩
      have HB4 := Lib.hid h4
      have HR4 := Lib.hid (TRow.wrote HR3.out HB3.out ho4)
      have HW4 := Lib.hid (HW3.out.trans hb4)
      clear h4 hb4 ho4
      go_wp2_with fail
      go_roundw
      case rel =>
        refine ⟨k + 1, by omega, by go_num, Lib.hid ?_, HR4, HW4⟩
        rw [hnx.out]
        have := HB4.out
        simpa using this
      case measure => simp [intOf]; omega
    · have hend := Lib.hid (bgPre_end M k (by omega))
      go_wp2_with fail
      refine (writeString_any w.heap.size w.heap.size _ ⟨#[41]⟩ _ HBk.out (by omega) (by decide) (by omega)).mono ?_
      rintro e w3 ⟨rfl, h3, hb3, ho3⟩
      have hz3 := hb3.size
      have HB3 : Hid (Bld w.heap.size w.heap.size (mkBag M) w3) := by
        rw [← hend.out]
        exact Lib.hid h3
      have HW3 := Lib.hid (HWk.out.trans hb3)
      clear h3 hb3 ho3
      go_wp2_with fail
      refine (bString_any w.heap.size w.heap.size _ _ HB3.out (by omega)).mono ?_
      rintro e w4 ⟨rfl, hb4⟩
      have HW4 := Lib.hid (HW3.out.trans hb4)
      clear hb4
      go_wp2_with fail
      go_ret
      exact ⟨rfl, HW4.out⟩

theorem ba_cat (a b : List UInt8) : (⟨a.toArray⟩ : ByteArray) ++ ⟨b.toArray⟩ = ⟨(a ++ b).toArray⟩ := by
  apply WideShapes.bytes_inj
  rw [ByteArray.data_append, Array.toList_append]
theorem functions_any (b : Nat) (L : List (List UInt8)) (t : List UInt8) (w : World) (h : BagIs w b L) (hlen : (mkBag (srt L)).length ≤ 100000) (ht : t.length ≤ 100000) :
    Calls Tryz.prog 157 #[.map (some b), .string ⟨t.toArray⟩] w fun e w' => e = .returned (.string ⟨(mkFn (mkBag (srt L)) t).toArray⟩) ∧ Below w.heap.size w w' := by
  have HT := Lib.hid (bagText_any b L w h hlen)
  clear h
  generalize mkBag (srt L) = x at HT hlen ⊢
  have hx : (⟨x.toArray⟩ : ByteArray).size = x.length := by simp [ByteArray.size]
  have ht2 : (⟨t.toArray⟩ : ByteArray).size = t.length := by simp [ByteArray.size]
  go_enter Tryz.func157, Tryz.ntmps157
  go_wp2_with fail
  refine HT.out.mono ?_
  rintro e w1 ⟨rfl, hb1⟩
  have HB := Lib.hid hb1
  clear hb1
  go_wp2_with fail
  go_ret
  refine ⟨?_, HB.out⟩
  refine congrArg (fun s => Ending.returned (.string s)) ?_
  apply WideShapes.bytes_inj
  simp [mkFn, ByteArray.data_append]
end Go.Proofs.YtnnnphammfeemaaGreat
