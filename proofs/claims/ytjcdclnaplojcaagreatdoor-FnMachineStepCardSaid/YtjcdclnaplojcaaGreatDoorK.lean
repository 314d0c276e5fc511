/- The program's reading of a part and of a whole text. -/
import Derived.Test.YtjcdclnaplojcaaGreatDoorJ
namespace Go.Proofs.YtjcdclnaplojcaaGreatDoor
set_option linter.unusedVariables false
open Go.RowKit

theorem readParts_deep (rb : Nat) (z : Int) (hz : 300 < z) (hz2 : z ≤ 1000) (w : World) :
    Calls Tryz.prog 129 #[.pointer (some ⟨rb, 0, none⟩), .int .i64 z] w fun e w' => e = .returned (.tuple #[.pointer none, .bool false]) ∧ w = w' := by
  go_enter Tryz.func129, Tryz.ntmps129
  go_wp2
  go_ret2
  exact ⟨rfl, rfl⟩

theorem rdPart_atom (k : Nat) (l : List UInt8) (h : l.head? ≠ some 40) : rdPart (k + 1) l = if l.takeWhile isAtomB = [] then none else some (.mk (l.takeWhile isAtomB) [], l.dropWhile isAtomB) := by
  cases l with
  | nil => simp [rdPart]
  | cons c r =>
    have hc : c ≠ 40 := by simpa using h
    unfold rdPart
    simp only
    rw [if_neg hc]
    cases ha : isAtomB c
    · simp [ha]
    · simp [ha]

theorem AtPost.part {s : ByteArray} {k i rb : Nat} {w0 w w' : World} {e : Ending} (h : AtPost s i rb w e w') (hg : w0.grownBy w (some rb)) (hh : (s.data.toList.drop i).head? ≠ some 40) (hs : s.size ≤ 8000) : PartPost (rdPart (k + 1) (s.data.toList.drop i)) s i rb w0 e w' := by
  rw [rdPart_atom k _ hh]
  obtain ⟨hg2, ⟨h1, j, b, rfl, h2, h3, h4, h5, h6, h7⟩ | ⟨h1, rfl⟩⟩ := h
  · refine ⟨hg.trans hg2, .inl ⟨.mk ((s.data.toList.drop i).takeWhile isAtomB) [], _, _, j, by rw [if_neg h1], rfl, h2, h3, h4, h5, ?_⟩⟩
    have k0 := h7.cell 0
    have k1 := h7.cell 1
    simp at k0 k1
    have hl : ((s.data.toList.drop i).takeWhile isAtomB).length ≤ 8000 := by
      have h8 := (List.takeWhile_prefix isAtomB (l := s.data.toList.drop i)).length_le
      have h9 : (s.data.toList.drop i).length = s.size - i := by simp
      omega
    unfold PAt
    exact ⟨b, .slice none 0 0, rfl, ⟨by have := hg.size; omega, h7.lt⟩, k0, k1, hl, by simp, .inl ⟨rfl, rfl⟩⟩
  · exact ⟨hg.trans hg2, .inr ⟨by rw [if_pos h1], rfl⟩⟩

theorem readPart_any (s : ByteArray) (hs : s.size ≤ 8000) : ∀ (k : Nat), 1 ≤ k → k ≤ 301 → ∀ (z : Int), z = 301 - k → ∀ (rb i : Nat) (w : World), i ≤ s.size → Rdr w rb s i →
    Calls Tryz.prog 118 #[.pointer (some ⟨rb, 0, none⟩), .int .i64 z] w (PartPost (rdPart k (s.data.toList.drop i)) s i rb w) := by
  intro k
  induction k with
  | zero => intro h; omega
  | succ k ih =>
    intro _ hk z hz rb i w hi hr
    have HR := Lib.hid hr
    have hz0 : 0 ≤ z := by omega
    have hz1 : z ≤ 300 := by omega
    have HZ := Lib.hid hz
    have IH := Lib.hid ih
    clear hr hz ih
    by_cases h40 : ∃ h : i < s.size, s[i] = 40
    · obtain ⟨hil, h40⟩ := h40
      have H40 := Lib.hid h40
      clear h40
      have hrun : rdPart (k + 1) (s.data.toList.drop i) = rdParts (rdPart k) (s.size - (i + 1) + 1) (s.data.toList.drop (i + 1)) [] := by
        rw [drop_at s i hil]
        unfold rdPart
        simp only
        rw [if_pos H40.out]
        simp
      have HRUN := Lib.hid hrun
      clear hrun
      go_enter Tryz.func118, Tryz.ntmps118
      go_wp2_with fail
      refine (takeN_yes s i 40 40 rfl rb _ HR.out hs hil H40.out).mono ?_
      rintro e w1 ⟨rfl, hg1, hr1⟩
      have HR1 := Lib.hid hr1
      clear hr1
      go_wp2_with fail
      by_cases hk0 : k = 0
      · have hz3 : 300 < z + 1 := by have := HZ.out; omega
        refine (readParts_deep rb (z + 1) hz3 (by omega) _).mono ?_
        rintro e w2 ⟨rfl, rfl⟩
        have HK0 := Lib.hid hk0
        clear hk0
        go_wp2_with fail
        go_ret2
        refine ⟨hg1, .inr ⟨?_, rfl⟩⟩
        rw [HRUN.out, HK0.out]
        simp [rdParts, rdPart]
      · have hk1 : 1 ≤ k := by omega
        clear hk0
        refine (readParts_any s hs k hk1 (by omega) rb (i + 1) (z + 1) (by have := HZ.out; omega) _ HR1.out (by omega) (fun i' w' hi' hr' => IH.out hk1 (by omega) (z + 1) (by have := HZ.out; omega) rb i' w' hi' hr')).mono ?_
        rintro e w2 ⟨hg2, ⟨t, r, v, j, h1, rfl, h2, h3, h4, h5, h6⟩ | ⟨h1, rfl⟩⟩
        · have H1 := Lib.hid h1
          have H4 := Lib.hid h4
          have H5 := Lib.hid h5
          have H6 := Lib.hid h6
          clear h1 h4 h5 h6
          go_wp2_with fail
          go_ret2
          exact ⟨hg1.trans hg2, .inl ⟨t, r, v, j, by rw [HRUN.out, H1.out], rfl, by omega, h3, H4.out, H5.out, H6.out.mono fun b hb => ⟨⟨by have := hg1.size; omega, hb.2⟩, fun _ => rfl⟩⟩⟩
        · have H1 := Lib.hid h1
          clear h1
          go_wp2_with fail
          go_ret2
          exact ⟨hg1.trans hg2, .inr ⟨by rw [HRUN.out, H1.out], rfl⟩⟩
    · have H40 := Lib.hid (fun h : i < s.size => fun e : s[i] = 40 => h40 ⟨h, e⟩)
      clear h40
      go_enter Tryz.func118, Tryz.ntmps118
      go_wp2_with fail
      refine (takeN_no s i 40 40 rfl rb _ HR.out hs hi H40.out).mono ?_
      rintro e w1 ⟨rfl, hg1, hr1⟩
      have HR1 := Lib.hid hr1
      clear hr1
      go_wp2_with fail
      refine (readAtom_any s i rb _ HR1.out hs hi).mono ?_
      intro e w2 hat
      have hp := hat.part (k := k) hg1 (by
        by_cases hil : i < s.size
        · rw [drop_at s i hil]; simpa using H40.out hil
        · rw [List.drop_of_length_le (by simp; omega)]; simp) hs
      have HP := Lib.hid hp
      clear hp
      obtain ⟨hg2, ⟨h1, j, b, rfl, h2⟩ | ⟨h1, rfl⟩⟩ := hat
      · clear h1 h2 hg1 hg2
        go_wp2_with fail
        go_ret2
        exact HP.out
      · clear h1 hg1 hg2
        go_wp2_with fail
        go_ret2
        exact HP.out

/-- What the program's reading of a whole text answers. -/
def TxPost (s : ByteArray) (w : World) (e : Ending) (w' : World) : Prop :=
  Below w.heap.size w w' ∧
  ((∃ t v, rdText s.data.toList = some t ∧ e = .returned (.tuple #[v, .bool true]) ∧ PAt w' (fun b => w.heap.size ≤ b ∧ b < w'.heap.size) t v) ∨
   (rdText s.data.toList = none ∧ e = .returned (.tuple #[.pointer none, .bool false])))

theorem readText_any (s : ByteArray) (w : World) (hm : s.size ≤ maxLen) :
    Calls Tryz.prog 98 #[.string s] w (TxPost s w) := by
  unfold maxLen at hm
  by_cases hs : s.size ≤ 8000
  · go_enter Tryz.func98, Tryz.ntmps98
    go_wp2_with fail
    have hr := Blk.new w 190 #[.string s, .int .i64 0]
    refine (readPart_any s hs 301 (by omega) (by omega) 0 (by omega) w.heap.size 0 _ (by omega) hr).mono ?_
    rintro e w1 ⟨hg1, ⟨t, r, v, j, h1, rfl, h2, h3, h4, h5, h6⟩ | ⟨h1, rfl⟩⟩
    · rw [List.drop_zero] at h1
      have hB : Below w.heap.size w w1 := ((Below.refl _ _).alloc (Nat.le_refl _) _).grown hg1 (by simp) (fun k e => by injection e with e; omega)
      have r0 := h5.cell 0
      have r1 := h5.cell 1
      simp at r0 r1
      have rl := h5.lt
      have hfin : rdText s.data.toList = if j = s.size then some t else none := by
        unfold rdText
        rw [if_neg (by simp; omega), h1, ← h4]
        by_cases hj : j = s.size
        · rw [if_pos hj, List.drop_of_length_le (by simp; omega)]
        · rw [if_neg hj, drop_at s j (by omega)]
      have HF := Lib.hid hfin
      have H6 := Lib.hid h6
      clear h1 h4 h5 h6 hfin
      by_cases hj : j < s.size
      · have hjb : decide (j < s.size) = true := by simpa using hj
        go_wp2
        go_ret2
        exact ⟨hB, .inr ⟨by rw [HF.out, if_neg (by omega)], rfl⟩⟩
      · have hjb : decide (j < s.size) = false := by simpa using hj
        go_wp2
        go_ret2
        exact ⟨hB, .inl ⟨t, v, by rw [HF.out, if_pos (by omega)], rfl, H6.out.mono fun b hb => ⟨⟨by simp at hb; omega, hb.2⟩, fun _ => rfl⟩⟩⟩
    · rw [List.drop_zero] at h1
      have hB : Below w.heap.size w w1 := ((Below.refl _ _).alloc (Nat.le_refl _) _).grown hg1 (by simp) (fun k e => by injection e with e; omega)
      have hn : rdText s.data.toList = none := by unfold rdText; rw [if_neg (by simp; omega), h1]
      have HN := Lib.hid hn
      clear hn h1
      go_wp2
      go_ret2
      exact ⟨hB, .inr ⟨HN.out, rfl⟩⟩
  · have hn : rdText s.data.toList = none := by unfold rdText; rw [if_pos (by simp; omega)]
    have HN := Lib.hid hn
    clear hn
    go_enter Tryz.func98, Tryz.ntmps98
    go_wp2
    go_ret2
    exact ⟨Below.refl _ _, .inr ⟨HN.out, rfl⟩⟩
end Go.Proofs.YtjcdclnaplojcaaGreatDoor
