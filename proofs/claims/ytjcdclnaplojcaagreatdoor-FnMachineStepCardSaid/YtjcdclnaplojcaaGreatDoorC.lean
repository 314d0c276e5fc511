/- The model's reading of a text: it reads what the plain reading reads. -/
import Derived.Test.YtjcdclnaplojcaaGreatDoorB
import Derived.WalkSpells
import Derived.Lib.Strings
namespace Go.Proofs.YtjcdclnaplojcaaGreatDoor
set_option linter.unusedVariables false
open Go.RowKit

def RdPost (s : ByteArray) (k i : Nat) (w : World) (e : Ending) (w' : World) : Prop :=
  Below w.heap.size w w' ∧
  ((∃ t r v j, rdPart k (s.data.toList.drop i) = some (t, r) ∧ e = .returned (.tuple #[v, .int .i64 ((j : Nat) : Int)]) ∧ i < j ∧ j ≤ s.size ∧ s.data.toList.drop j = r ∧
      TAt w' (fun b => w.heap.size ≤ b ∧ b < w'.heap.size) t v) ∨
   (rdPart k (s.data.toList.drop i) = none ∧ ∃ b A n c, e = .returned (.tuple #[.agg #[.string b, .slice A n c], .int .i64 (-1)])))

theorem drop_at (s : ByteArray) (i : Nat) (h : i < s.size) : s.data.toList.drop i = s[i] :: s.data.toList.drop (i + 1) := by
  rw [List.drop_eq_getElem_cons (by simpa using h)]; rfl

theorem atoms_run (l : List UInt8) : ∀ (m : Nat), (l.take m).all isAtomB = true → (l.length ≤ m ∨ ∃ c, l[m]? = some c ∧ isAtomB c = false) → l.takeWhile isAtomB = l.take m ∧ l.dropWhile isAtomB = l.drop m := by
  induction l with
  | nil => intro m _ _; simp
  | cons c r ih =>
    intro m h1 h2
    cases m with
    | zero =>
      rcases h2 with h2 | ⟨c', h2, h3⟩
      · simp at h2
      · simp at h2
        subst h2
        simp [h3]
    | succ m =>
      simp at h1
      obtain ⟨h4, h5⟩ := h1
      obtain ⟨h6, h7⟩ := ih m (by simpa using h5) (h2.elim (fun h => .inl (by simpa using h)) fun ⟨c', h, h'⟩ => .inr ⟨c', by simpa using h, h'⟩)
      simp [h4, h6, h7]

theorem below2 (w : World) (o1 o2 : Obj) : Below w.heap.size w ((w.alloc o1).alloc o2) := ((Below.refl _ _).alloc (Nat.le_refl _) _).alloc (by simp) _

theorem l1Read_zero (s : ByteArray) (hs : s.size ≤ 8000) (i : Nat) (d : Int) (w : World) (hd : 300 < d) (hd2 : d ≤ 400) (hi : i ≤ s.size) :
    Calls Tryz.prog 93 #[.string s, .int .i64 i, .int .i64 d] w (RdPost s 0 i w) := by
  go_enter Tryz.func93, Tryz.ntmps93
  go_wp2
  go_returns
  exact ⟨by go_grown, .inr ⟨by simp [rdPart], _, _, _, _, rfl⟩⟩

theorem l1Read_end (s : ByteArray) (hs : s.size ≤ 8000) (k i : Nat) (d : Int) (w : World) (hd : d ≤ 300) (hd2 : 0 ≤ d) (hi : i = s.size) :
    Calls Tryz.prog 93 #[.string s, .int .i64 i, .int .i64 d] w (RdPost s (k + 1) i w) := by
  subst hi
  go_enter Tryz.func93, Tryz.ntmps93
  go_wp2
  go_returns
  refine ⟨by go_grown, .inr ⟨?_, _, _, _, _, rfl⟩⟩
  rw [List.drop_of_length_le (by simp)]
  simp [rdPart]

theorem take_all (s : ByteArray) (i m : Nat) (h : i + m < s.size) : ((s.data.toList.drop i).take (m + 1)).all isAtomB = (((s.data.toList.drop i).take m).all isAtomB && isAtomB s[i + m]) := by
  have e : (s.data.toList.drop i).take (m + 1) = (s.data.toList.drop i).take m ++ [s[i + m]] := by
    rw [List.take_succ_eq_append_getElem (by simp; omega)]
    simp; rfl
  rw [e, List.all_append]
  simp
theorem ext_eq (s : ByteArray) (i m : Nat) : s.extract i (i + m) = ⟨((s.data.toList.drop i).take m).toArray⟩ := by
  apply WideShapes.bytes_inj
  rw [Lib.extract_data]
  simp
theorem ext_empty (s : ByteArray) (i m : Nat) (hm : i + m ≤ s.size) : (s.extract i (i + m)).toList.isEmpty = decide (m = 0) := by
  rw [Lib.toList_data, ext_eq, Bool.eq_iff_iff]
  simp [List.isEmpty_iff]
  omega

/-- What the model answers where an atom of m bytes stands. -/
theorem atom_ends (s : ByteArray) (hs : s.size ≤ 8000) (k i m : Nat) (w w' : World) (hi : i < s.size) (hc : s[i] ≠ 40) (hm : i + m ≤ s.size) (hall : ((s.data.toList.drop i).take m).all isAtomB = true)
    (hend : i + m = s.size ∨ ∃ h : i + m < s.size, isAtomB s[i + m] = false) (hb : Below w.heap.size w w') :
    (m = 0 → ∀ b A n c, RdPost s (k + 1) i w (.returned (.tuple #[.agg #[.string b, .slice A n c], .int .i64 (-1)])) w') ∧
    (m ≠ 0 → RdPost s (k + 1) i w (.returned (.tuple #[.agg #[.string (s.extract i (i + m)), .slice none 0 0], .int .i64 ((i : Int) + (m : Int))])) w') := by
  have hd := drop_at s i hi
  have hrun := atoms_run (s.data.toList.drop i) m hall (by
    rcases hend with h | ⟨h, h'⟩
    · left; simp; omega
    · right
      refine ⟨s[i + m], ?_, h'⟩
      rw [List.getElem?_drop, List.getElem?_eq_getElem (by simpa using h)]; rfl)
  refine ⟨fun h0 b A n c => ⟨hb, .inr ⟨?_, b, A, n, c, rfl⟩⟩, fun h0 => ⟨hb, .inl ⟨.mk ((s.data.toList.drop i).take m) [], s.data.toList.drop (i + m), _, i + m, ?_, by simp; rfl, by omega, hm, rfl, ?_⟩⟩⟩
  · subst h0
    have h2 : isAtomB s[i] = false := by
      rcases hend with h | ⟨h, h'⟩
      · omega
      · simpa using h'
    rw [hd]
    simp [rdPart, hc, h2]
  · obtain ⟨m, rfl⟩ : ∃ q, m = q + 1 := ⟨m - 1, by omega⟩
    have h2 : isAtomB s[i] = true := by
      rw [hd] at hall
      simp at hall
      exact hall.1
    rw [hd] at hrun
    rw [hd]
    simp only [rdPart, hc, if_false, h2, if_true, hrun.1, hrun.2]
    rw [← hd, List.drop_drop]
  · unfold TAt
    exact ⟨_, by rw [ext_eq], by simp; omega, by simp, .inl ⟨rfl, rfl⟩⟩

set_option maxRecDepth 100000 in
theorem l1Read_atom (s : ByteArray) (hs : s.size ≤ 8000) (k i : Nat) (d : Int) (w : World) (hd : d ≤ 300) (hd2 : 0 ≤ d) (hi : i < s.size) (hc : s[i] ≠ 40) :
    Calls Tryz.prog 93 #[.string s, .int .i64 i, .int .i64 d] w (RdPost s (k + 1) i w) := by
  have hcb : ((s[i].toNat : Int) != 40) = true := by
    rw [bne_iff_ne]
    intro h
    exact hc (UInt8.toNat_inj.1 (Int.natCast_inj.1 h))
  have hdb : decide (300 < d) = false := by simp; omega
  have hib : decide (s.size ≤ i) = false := by simp; omega
  have HC := Lib.hid hc
  clear hc
  go_enter Tryz.func93, Tryz.ntmps93
  go_wp2
  go_loop [1] (fun v => ∃ m : Nat, i + m ≤ s.size ∧ v = .int .i64 ((i + m : Nat) : Int) ∧ ((s.data.toList.drop i).take m).all isAtomB = true) (fun v => s.size - (intOf v).toNat)
  case atStart => exact ⟨0, by omega, by simp, by simp⟩
  case round =>
    obtain ⟨m, hm, rfl, hall⟩ := hrel
    have HA := Lib.hid hall
    clear hall
    by_cases hlt : i + m < s.size
    · have hfin := Lib.hid (fun w' h => atom_ends s hs k i m w w' hi HC.out hm HA.out (.inr ⟨hlt, h⟩))
      have hstep := Lib.hid (take_all s i m hlt)
      have hemp := Lib.hid (ext_empty s i m (by omega))
      go_wp2_with (first
        | (go_at_call 114; refine (l1Byte_any _ _).mono ?_; rintro e w' ⟨rfl, rfl⟩))
      all_goals first
        | (go_round
           case rel => exact ⟨m + 1, by omega, by go_num, by
             have hx : isAtomB s[i + m] = true := by assumption
             rw [hstep.out, HA.out, hx]; rfl⟩
           case measure => simp [intOf]; omega)
        | (have hx : isAtomB s[i + m] = false := by assumption
           have hy : (s.extract i (i + m)).toList.isEmpty = true := by assumption
           rw [hemp.out] at hy
           go_returns
           exact (hfin.out _ hx (by go_grown)).1 (by simpa using hy) _ _ _ _)
        | (have hx : isAtomB s[i + m] = false := by assumption
           have hy : (s.extract i (i + m)).toList.isEmpty = false := by assumption
           rw [hemp.out] at hy
           go_returns
           exact (hfin.out _ hx (by go_grown)).2 (by simpa using hy))
    · have hlt2 : i + m = s.size := by omega
      have hfin := Lib.hid (fun w' => atom_ends s hs k i m w w' hi HC.out hm HA.out (.inl hlt2))
      have hemp := Lib.hid (ext_empty s i m (by omega))
      have HL := Lib.hid hlt2
      clear hlt2
      go_wp2
      all_goals first
        | (have hy : (s.extract i (i + m)).toList.isEmpty = true := by assumption
           rw [hemp.out] at hy
           go_returns
           exact (hfin.out _ (by go_grown)).1 (by simpa using hy) _ _ _ _)
        | (have hy : (s.extract i (i + m)).toList.isEmpty = false := by assumption
           rw [hemp.out] at hy
           go_returns
           exact (hfin.out _ (by go_grown)).2 (by simpa using hy))
end Go.Proofs.YtjcdclnaplojcaaGreatDoor
