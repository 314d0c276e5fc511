/- The model sorts texts, and makes the text of a bag of them. -/
import Derived.Test.YtmkjkoelpngicaaMH
import Derived.Test.YtmkjkoelpngicaaPE
namespace Go.Proofs.Ytmkjkoelpngicaa
set_option linter.unusedVariables false
open Go.RowKit

theorem isoT_length (l : List (List UInt8)) : (isoT l).length = l.length := by rw [isoT_srt, (srt_perm l).length_eq]
theorem isoT_mem (l : List (List UInt8)) (y : List UInt8) (h : y ∈ isoT l) : y ∈ l := by rw [isoT_srt] at h; exact (srt_perm l).mem_iff.1 h

set_option maxRecDepth 100000 in
set_option maxHeartbeats 1000000 in
theorem l3Sorted_any (l : List (List UInt8)) (v : Value) (base : Nat) (w : World) (hv : SRow w base v l) (hn : l.length ≤ 999) (hs : ∀ x ∈ l, x.length ≤ 100000) :
    Calls Try.prog 71 #[v] w (LsPost (srt l) w) := by
  obtain ⟨A, c, rfl⟩ := own_shape hv
  have HV := Lib.hid (hv.alloc (.cells #[] 9))
  have HS := Lib.hid hs
  clear hv hs
  go_enter Try.func71, Try.ntmps71
  go_wp2_with fail
  go_loopw [3, 4] (fun ov i wr => ∃ (k g0 c0 : Nat), k ≤ l.length ∧ i = .int .i64 (k : Nat) ∧ ov = .slice (some ⟨g0, 0, none⟩) (isoT (l.take k)).length c0 ∧ Hid (SRow wr w.heap.size (.slice (some ⟨g0, 0, none⟩) (isoT (l.take k)).length c0) (isoT (l.take k))) ∧ Hid (SRow wr base (.slice A l.length c) l) ∧ Hid (Below w.heap.size w wr)) (fun _ i _ => l.length - (intOf i).toNat)
  case atStart =>
    refine ⟨0, w.heap.size, 0, by omega, rfl, rfl, Lib.hid ?_, HV, Lib.hid ((Below.refl _ _).alloc (Nat.le_refl _) _)⟩
    exact World.ownsRow_made (base := w.heap.size) (e := 9) (size := 1) w #[] 0 (Nat.le_refl _) (Nat.zero_le _) rfl
  case round =>
    obtain ⟨k, g0, c0, hk, rfl, rfl, HO, HR, HW⟩ := hrel
    have hzw := HW.out.size
    by_cases hkl : k < l.length
    · obtain ⟨x, hx⟩ : ∃ x, l[k]? = some x := ⟨l[k], by simp⟩
      have hxm := List.mem_of_getElem? hx
      have hxs := HS.out x hxm
      have HTK := Lib.hid (show isoT (l.take (k + 1)) = insT x (isoT (l.take k)) by rw [List.take_add_one, hx]; exact isoT_snoc _ _)
      obtain ⟨g, rfl, hgl, _, hgs, hcell⟩ := HR.out.cell (k := k) hkl
      have hxe : l[k] = x := (List.getElem?_eq_some_iff.1 hx).2
      rw [hxe] at hcell
      have hlk : (isoT (l.take k)).length ≤ 1000 := by rw [isoT_length]; have := List.length_take_le k l; omega
      have HC : Hid (Calls Try.prog 87 #[.slice (some ⟨g0, 0, none⟩) (isoT (l.take k)).length c0, .string ⟨x.toArray⟩] wr (LsPost (insT x (isoT (l.take k))) wr)) := Lib.hid (l3Insert_any (isoT (l.take k)) x w.heap.size g0 c0 wr HO.out hlk (fun y hy => HS.out y (List.mem_of_mem_take (isoT_mem _ _ hy))) hxs)
      generalize isoT (l.take k) = L0 at HO HC HTK
      clear hx hxm hxe
      go_wp2_with fail
      refine HC.out.mono ?_
      rintro e w2 ⟨g2, c2, rfl, hrow, hb2⟩
      have hz2 := hb2.size
      have HR2 := Lib.hid (HR.out.kept (grown_of_below hb2 none) (by simp [Value.ownBlock]))
      have HW2 := Lib.hid (HW.out.trans (hb2.mono (by omega)))
      have HROW := Lib.hid (row_low hrow (by omega : w.heap.size ≤ wr.heap.size))
      clear hrow hb2
      go_wp2_with fail
      go_roundw
      case rel => exact ⟨k + 1, g2, c2, by omega, by go_num, by rw [HTK.out], Lib.hid (by rw [HTK.out]; exact HROW.out), HR2, HW2⟩
      case measure => simp [intOf]; omega
    · have HE := Lib.hid (show isoT (l.take k) = srt l by rw [List.take_of_length_le (by omega), isoT_srt])
      go_wp2_with fail
      go_ret
      refine ⟨g0, c0, by rw [HE.out]; rfl, ?_, HW.out⟩
      have h := HO.out
      rw [HE.out] at h
      exact h

theorem pre_ba (M : List (List UInt8)) (k : Nat) (x : List UInt8) (h : M[k]? = some x) : ((⟨(bgPre M k).toArray⟩ : ByteArray) ++ ⟨#[32]⟩) ++ ⟨x.toArray⟩ = ⟨(bgPre M (k + 1)).toArray⟩ := by
  apply WideShapes.bytes_inj
  rw [bgPre_next M k x h]
  simp [ByteArray.data_append]
theorem end_ba (M : List (List UInt8)) (k : Nat) (h : M.length ≤ k) : (⟨(bgPre M k).toArray⟩ : ByteArray) ++ ⟨#[41]⟩ = ⟨(mkBag M).toArray⟩ := by
  apply WideShapes.bytes_inj
  rw [← bgPre_end M k h]
  simp [ByteArray.data_append]
theorem bag_long (M : List (List UInt8)) (m : Nat) (h : ∀ x ∈ M, x.length ≤ m) : (mkBag M).length ≤ 3 + M.length * (m + 1) := by
  unfold mkBag
  have : ((M.map fun x => 32 :: x).flatten).length ≤ M.length * (m + 1) := by
    induction M with
    | nil => simp
    | cons x r ih =>
      have h1 := ih fun y hy => h y (List.mem_cons_of_mem _ hy)
      have h2 := h x (by simp)
      simp only [List.map_cons, List.flatten_cons, List.length_append, List.length_cons, Nat.add_mul, Nat.one_mul] at h1 ⊢
      omega
  simp only [List.length_append, List.length_cons, List.length_nil]
  omega

set_option maxRecDepth 100000 in
set_option maxHeartbeats 1000000 in
theorem l3Make_any (l : List (List UInt8)) (v : Value) (base : Nat) (w : World) (hv : SRow w base v l) (hn : l.length ≤ 200) (hs : ∀ x ∈ l, x.length ≤ 1000) :
    Calls Try.prog 44 #[v] w fun e w' => e = .returned (.string ⟨(mkBag (srt l)).toArray⟩) ∧ Below w.heap.size w w' := by
  have HC := Lib.hid (l3Sorted_any l v base w hv (by omega) (fun x hx => by have := hs x hx; omega))
  have hMl : (srt l).length ≤ 200 := by rw [(srt_perm l).length_eq]; exact hn
  have hMs : ∀ x ∈ srt l, x.length ≤ 1000 := fun x hx => hs x ((srt_perm l).mem_iff.1 hx)
  generalize srt l = M at HC hMl hMs ⊢
  have hlong : (mkBag M).length ≤ 300000 := by
    have h1 := bag_long M 1000 hMs
    have h2 : M.length * 1001 ≤ 200 * 1001 := Nat.mul_le_mul_right _ hMl
    omega
  have HMS := Lib.hid hMs
  clear hv hs hMs
  go_enter Try.func44, Try.ntmps44
  go_wp2_with fail
  refine HC.out.mono ?_
  rintro e w1 ⟨g, c, rfl, hrow, hb1⟩
  have HR := Lib.hid hrow
  have HB := Lib.hid hb1
  clear hrow hb1
  go_wp2_with fail
  go_loopw [4, 5] (fun ov i wr => ∃ (k : Nat) (s : ByteArray), k ≤ M.length ∧ i = .int .i64 (k : Nat) ∧ ov = .string s ∧ Hid (s = ⟨(bgPre M k).toArray⟩) ∧ s.size ≤ 300000 ∧ wr = w1) (fun _ i _ => M.length - (intOf i).toNat)
  case atStart => exact ⟨0, _, by omega, rfl, rfl, Lib.hid rfl, by decide, rfl⟩
  case round =>
    obtain ⟨k, s, hk, rfl, rfl, HSE, hsz, rfl⟩ := hrel
    by_cases hkl : k < M.length
    · obtain ⟨x, hx⟩ : ∃ x, M[k]? = some x := ⟨M[k], by simp⟩
      have hxl := HMS.out x (List.mem_of_getElem? hx)
      obtain ⟨g', hg', hgl, _, hgs, hcell⟩ := HR.out.cell (k := k) hkl
      injection hg' with hg'
      injection hg' with hg'
      subst hg'
      have hxe : M[k] = x := (List.getElem?_eq_some_iff.1 hx).2
      rw [hxe] at hcell
      have HPB := Lib.hid (pre_ba M k x hx)
      have hxsz : (⟨x.toArray⟩ : ByteArray).size ≤ 1000 := by simp [ByteArray.size]; omega
      have hps := bgPre_le M (k + 1)
      clear hx hxe
      go_wp2_with fail
      go_roundw
      case rel => exact ⟨k + 1, _, by omega, by go_num, rfl, Lib.hid (by rw [HSE.out]; exact HPB.out), by rw [HSE.out, HPB.out]; simp [ByteArray.size]; omega, by first | rfl | trivial⟩
      case measure => simp [intOf]; omega
    · have HPE := Lib.hid (end_ba M k (by omega))
      go_wp2_with fail
      go_ret
      exact ⟨by rw [HSE.out, HPE.out]; rfl, HB.out⟩
end Go.Proofs.Ytmkjkoelpngicaa
