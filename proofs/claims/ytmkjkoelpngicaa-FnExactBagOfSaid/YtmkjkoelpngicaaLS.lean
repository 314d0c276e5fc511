/- The law's functions on a list of texts that came in: how large it is, and its copy. -/
import Derived.Test.YtmkjkoelpngicaaS0
import Derived.SliceStrings
import Derived.Carry
import Derived.Deep.OwnRows
namespace Go.Proofs.Ytmkjkoelpngicaa
set_option linter.unusedVariables false
open Go.RowKit Go.ChangeShapes

/-- A list of texts that lies anywhere. -/
def RdS (w : World) (v : Value) (Xs : List ByteArray) : Prop :=
  ∃ a0 b off c, v = .slice a0 Xs.length c ∧ (0 < Xs.length → a0 = some ⟨b, off, none⟩ ∧ b < w.heap.size) ∧ ∀ (j : Nat) X, Xs[j]? = some X → w.cell? ⟨b, off + j, none⟩ = some (.string X)
theorem RdS.below {w w' : World} {v : Value} {Xs : List ByteArray} (h : RdS w v Xs) (hb : Below w.heap.size w w') : RdS w' v Xs := by
  obtain ⟨a0, b, off, c, rfl, h1, h2⟩ := h
  have hz := hb.size
  refine ⟨a0, b, off, c, rfl, fun h0 => ⟨(h1 h0).1, by have := (h1 h0).2; omega⟩, fun j X hj => ?_⟩
  have hl : 0 < Xs.length := by have := (List.getElem?_eq_some_iff.1 hj).1; omega
  rw [hb.cell (p := ⟨b, off + j, none⟩) (h1 hl).2]
  exact h2 j X hj

theorem sum_next (Xs : List ByteArray) (k : Nat) (X : ByteArray) (h : Xs[k]? = some X) : ((Xs.take (k + 1)).map ByteArray.size).sum = ((Xs.take k).map ByteArray.size).sum + X.size := by
  rw [List.take_add_one, h]
  simp
theorem le_sum (Xs : List ByteArray) : ∀ X ∈ Xs, X.size ≤ (Xs.map ByteArray.size).sum := by
  induction Xs with
  | nil => intro X h; cases h
  | cons Y r ih =>
    intro X h
    rcases List.mem_cons.1 h with rfl | h
    · simp
    · have := ih X h
      simp
      omega

set_option maxRecDepth 100000 in
set_option maxHeartbeats 1000000 in
theorem szS_any (Xs : List ByteArray) (v : Value) (w : World) (h : RdS w v Xs) (hn : Xs.length ≤ maxLen) (hs : ∀ X ∈ Xs, X.size ≤ maxLen) :
    Calls Try.prog 18 #[v, .int .i64 1048576] w fun e w' => Below w.heap.size w w' ∧ ((e = .returned (.int .i64 (-1))) ∨ ∃ m : Nat, e = .returned (.int .i64 (m : Nat)) ∧ m ≤ 1048576 ∧ Xs.length ≤ 1048576 ∧ ∀ X ∈ Xs, X.size ≤ 1048576) := by
  obtain ⟨a0, b, off, c, rfl, h1, h2⟩ := h
  have H1 := Lib.hid h1
  have H2 := Lib.hid h2
  have HS := Lib.hid hs
  clear h1 h2 hs
  unfold maxLen at hn
  obtain ⟨N, hN⟩ : ∃ N, Xs.length = N := ⟨_, rfl⟩
  have HN := Lib.hid hN
  rw [hN] at hn ⊢
  clear hN
  by_cases hbig : N ≤ 1048576
  · obtain ⟨m0, hm0⟩ : ∃ m0 : Nat, m0 + N = 1048576 := ⟨1048576 - N, by omega⟩
    have hw0 : IntKind.i64.wrap (1048576 - (N : Int)) = (m0 : Int) := by rw [show (1048576 - (N : Int)) = (m0 : Int) by omega]; exact IntWalk.i64_in _ (by omega)
    have hc0 : decide ((m0 : Int) < 0) = false := by simp
    go_enter Try.func18, Try.ntmps18
    go_wp2_with fail
    go_loopw [1, 5] (fun lv i wr => ∃ (k m : Nat), k ≤ N ∧ m ≤ 1048576 ∧ i = .int .i64 (k : Nat) ∧ lv = .int .i64 (m : Nat) ∧ Hid (m + N + ((Xs.take k).map ByteArray.size).sum = 1048576) ∧ wr = w) (fun _ i _ => N - (intOf i).toNat)
    case atStart => exact ⟨0, m0, by omega, by omega, rfl, rfl, Lib.hid (by simpa using hm0), rfl⟩
    case round =>
      obtain ⟨k, m, hk, hmm, rfl, rfl, HM, rfl⟩ := hrel
      by_cases hkl : k < N
      · obtain ⟨X, hX⟩ : ∃ X, Xs[k]? = some X := ⟨Xs[k]'(by rw [HN.out]; exact hkl), by simp⟩
        have hcell := H2.out k X hX
        have hx := HS.out X (List.mem_of_getElem? hX)
        unfold maxLen at hx
        obtain ⟨ha, hbl⟩ := H1.out (by rw [HN.out]; omega)
        subst ha
        have HX := Lib.hid (sum_next Xs k X hX)
        obtain ⟨z, hz⟩ : ∃ z, X.size = z := ⟨_, rfl⟩
        have HZ := Lib.hid hz
        rw [hz] at hx
        clear hX
        by_cases hlt : m < z
        · have hw1 : IntKind.i64.wrap ((m : Int) - (z : Int)) = (m : Int) - (z : Int) := IntWalk.i64_in _ (by omega)
          have hc1 : decide ((m : Int) - (z : Int) < 0) = true := by simp; omega
          go_wp2_with fail
          go_ret
          exact ⟨Below.refl _ _, Or.inl rfl⟩
        · obtain ⟨m', hm'⟩ : ∃ m' : Nat, m' + z = m := ⟨m - z, by omega⟩
          have hw1 : IntKind.i64.wrap ((m : Int) - (z : Int)) = (m' : Int) := by rw [show ((m : Int) - (z : Int)) = (m' : Int) by omega]; exact IntWalk.i64_in _ (by omega)
          have hc1 : decide ((m' : Int) < 0) = false := by simp
          go_wp2_with fail
          go_roundw
          case rel => exact ⟨k + 1, m', by omega, by omega, by go_num, rfl, Lib.hid (by have := HM.out; rw [HX.out, HZ.out]; omega), by first | rfl | trivial⟩
          case measure => simp [intOf]; omega
      · have hall : Hid (∀ X ∈ Xs, X.size ≤ 1048576) := Lib.hid fun X hX => by
          have h1 := HM.out
          rw [List.take_of_length_le (by rw [HN.out]; omega)] at h1
          have := le_sum Xs X hX
          omega
        go_wp2_with fail
        go_ret
        exact ⟨Below.refl _ _, Or.inr ⟨m, rfl, hmm, by omega, hall.out⟩⟩
  · have hw0 : IntKind.i64.wrap (1048576 - (N : Int)) = 1048576 - (N : Int) := IntWalk.i64_in _ (by omega)
    have hc0 : decide (1048576 - (N : Int) < 0) = true := by simp; omega
    go_enter Try.func18, Try.ntmps18
    go_wp2_with fail
    go_ret
    exact ⟨Below.refl _ _, Or.inl rfl⟩

theorem SRow.of_row {w : World} {B b n : Nat} {f : Nat → Value} {l : List (List UInt8)} (h : w.rowIs b 9 n f) (hn : l.length = n) (hf : ∀ j (hj : j < l.length), f j = strV l[j]) (hB : B ≤ b) (hm : n ≤ maxLen) : SRow w B (.slice (some ⟨b, 0, none⟩) n n) l := by
  obtain ⟨c, hb, hc, hcf⟩ := h
  subst hn
  refine ⟨by simp, .inr ⟨b, l.length, c, rfl, hB, hb, Nat.le_refl _, hm, by rw [hc]; omega, ?_⟩⟩
  apply List.ext_getElem?
  intro j
  by_cases hj : j < l.length
  · rw [List.getElem?_take_of_lt (by omega), List.getElem?_map, List.getElem?_eq_getElem hj, ← Array.getElem?_toList.symm]
    rw [hcf j hj, hf j hj]
    rfl
  · rw [List.getElem?_eq_none (by simp; omega), List.getElem?_eq_none (by simp; omega)]

set_option maxRecDepth 100000 in
set_option maxHeartbeats 1000000 in
theorem toS_any (Xs : List ByteArray) (v : Value) (w : World) (h : RdS w v Xs) (hn : Xs.length ≤ 1048576) (hs : ∀ X ∈ Xs, X.size ≤ 1048576) :
    Calls Try.prog 20 #[v] w fun e w' => ∃ v', e = .returned v' ∧ SRow w' w.heap.size v' (Xs.map (·.data.toList)) ∧ Below w.heap.size w w' := by
  obtain ⟨a0, b, off, c, rfl, h1, h2⟩ := h
  have H1 := Lib.hid h1
  have H2 := Lib.hid h2
  have HS := Lib.hid hs
  clear h1 h2 hs
  obtain ⟨N, hN⟩ : ∃ N, Xs.length = N := ⟨_, rfl⟩
  have HN := Lib.hid hN
  rw [hN] at hn ⊢
  clear hN
  have hmk := run_make_row' (P := Try.prog) 23 9 (.string ⟨#[]⟩) 16 Try.underlying23 (by kernel_rfl) rfl .i64 .i64 N (by omega) (by omega)
  go_enter Try.func20, Try.ntmps20
  go_wp2_with fail
  go_loopw [4] (fun i wr => ∃ (k : Nat), k ≤ N ∧ i = .int .i64 (k : Nat) ∧ Hid (wr.rowIs w.heap.size 9 N (fun j => if j < k then .string (Xs.getD j ByteArray.empty) else .string ⟨#[]⟩)) ∧ Hid (Below w.heap.size w wr)) (fun i _ => N - (intOf i).toNat)
  case atStart =>
    refine ⟨0, by omega, rfl, Lib.hid ?_, Lib.hid ((Below.refl _ _).alloc (Nat.le_refl _) _)⟩
    exact (World.rowIs_made w (.string ⟨#[]⟩) N 9).congr fun i hi => by simp
  case round =>
    obtain ⟨k, hk, rfl, HR, HW⟩ := hrel
    by_cases hkl : k < N
    · obtain ⟨X, hX⟩ : ∃ X, Xs[k]? = some X := ⟨Xs[k]'(by rw [HN.out]; exact hkl), by simp⟩
      have hx := HS.out X (List.mem_of_getElem? hX)
      obtain ⟨ha, hbl⟩ := H1.out (by rw [HN.out]; omega)
      subst ha
      have hcell : wr.cell? ⟨b, off + k, none⟩ = some (.string X) := by rw [HW.out.cell (p := ⟨b, off + k, none⟩) hbl]; exact H2.out k X hX
      have hc1 := HR.out.cell hkl
      have hf1 := HR.out.frozen k
      have HX := Lib.hid (show Xs.getD k ByteArray.empty = X by simp [List.getD, hX])
      clear hX
      go_wp2_with fail
      go_roundw
      case rel =>
        refine ⟨k + 1, by omega, by go_num, Lib.hid ((HR.out.set k (.string X)).congr fun i hi => ?_), Lib.hid (HW.out.setCell (Nat.le_refl _) _)⟩
        by_cases e : i = k
        · subst e
          simp [← HX.out]
        · simp only [if_neg e]
          by_cases h3 : i < k
          · rw [if_pos h3, if_pos (by omega)]
          · rw [if_neg h3, if_neg (by omega)]
      case measure => simp [intOf]; omega
    · go_wp2_with fail
      go_ret
      refine ⟨_, rfl, ?_, HW.out⟩
      have h := SRow.of_row (B := w.heap.size) (l := Xs.map (·.data.toList)) HR.out (by simpa using HN.out) (fun j hj => by
        simp at hj
        have : j < k := by have := HN.out; omega
        simp only [if_pos this]
        simp [strV, List.getD, hj]) (Nat.le_refl _) (by unfold maxLen; omega)
      exact h
end Go.Proofs.Ytmkjkoelpngicaa
