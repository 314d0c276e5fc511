/- The program's reader: one byte that is taken, one atom. -/
import Derived.Test.YtjcdclnaplojcaaGreatDoorC
import Derived.Test.YtjcdclnaplojcaaGreatDoorH
import Derived.Deep.RegionWith
import Derived.Deep.LoopGhost
namespace Go.Proofs.YtjcdclnaplojcaaGreatDoor
set_option linter.unusedVariables false
open Go.RowKit

/-- The reader in block rb stands at place i of the text. -/
abbrev Rdr (w : World) (rb : Nat) (s : ByteArray) (i : Int) : Prop := Blk w rb 190 #[.string s, .int .i64 i]

theorem grown_drewN {a w : World} {row : Option Nat} (h : a.grownBy w row) (n : Nat) : a.grownBy (w.drewN n) row := ⟨h.os, h.tape, h.output, h.size, h.block⟩
theorem grown_refl (w : World) (row : Option Nat) : w.grownBy w row := ⟨rfl, rfl, rfl, Nat.le_refl _, fun _ _ _ => rfl⟩
theorem grown_set (w : World) (rb o : Nat) (v : Value) : w.grownBy (w.setCell ⟨rb, o, none⟩ v) (some rb) := Lib.grownBy_setCell w rb o v

set_option maxRecDepth 100000 in
theorem take_yes (s : ByteArray) (i : Nat) (b : UInt8) (rb : Nat) (w : World) (hr : Rdr w rb s i) (hs : s.size ≤ 8000) (hi : i < s.size) (hc : s[i] = b) :
    Calls Tryz.prog 128 #[.pointer (some ⟨rb, 0, none⟩), .int .u8 b.toNat] w fun e w' =>
      e = .returned (.bool true) ∧ w.grownBy w' (some rb) ∧ Rdr w' rb s (i + 1) := by
  have r0 := hr.cell 0
  have r1 := hr.cell 1
  have rl := hr.lt
  have rf := hr.frozen
  simp at r0 r1
  have hne : ((i : Int) == (s.size : Int)) = false := beq_eq_false_iff_ne.2 (by omega)
  have hcb : ((s[i].toNat : Int) != (b.toNat : Int)) = false := by rw [hc]; simp
  have HR := Lib.hid hr
  clear hc hr
  go_enter Tryz.func128, Tryz.ntmps128
  go_wp2
  go_quiet (fail)
  go_wp2
  go_ret
  refine ⟨rfl, (grown_drewN (grown_refl _ _) _).trans (grown_set _ _ _ _), ?_⟩
  have h1 := HR.out.drewN nq
  have := h1.set_ 1 (.int .i64 (i + 1))
  simpa using this

set_option maxRecDepth 100000 in
theorem take_no (s : ByteArray) (i : Nat) (b : UInt8) (rb : Nat) (w : World) (hr : Rdr w rb s i) (hs : s.size ≤ 8000) (hi : i ≤ s.size) (hc : ∀ h : i < s.size, s[i] ≠ b) :
    Calls Tryz.prog 128 #[.pointer (some ⟨rb, 0, none⟩), .int .u8 b.toNat] w fun e w' =>
      e = .returned (.bool false) ∧ w.grownBy w' (some rb) ∧ Rdr w' rb s i := by
  have r0 := hr.cell 0
  have r1 := hr.cell 1
  have rl := hr.lt
  have rf := hr.frozen
  simp at r0 r1
  have HR := Lib.hid hr
  clear hr
  by_cases h : i < s.size
  · have hne : ((i : Int) == (s.size : Int)) = false := beq_eq_false_iff_ne.2 (by omega)
    have hcb : ((s[i].toNat : Int) != (b.toNat : Int)) = true := by
      rw [bne_iff_ne]
      intro e
      exact hc h (UInt8.toNat_inj.1 (Int.natCast_inj.1 e))
    clear hc
    go_enter Tryz.func128, Tryz.ntmps128
    go_wp2
    go_quiet (fail)
    go_wp2
    go_ret
    exact ⟨rfl, grown_drewN (grown_refl _ _) _, HR.out.drewN _⟩
  · have hne : ((i : Int) == (s.size : Int)) = true := beq_iff_eq.2 (by omega)
    clear hc
    go_enter Tryz.func128, Tryz.ntmps128
    go_wp2
    go_quiet (fail)
    go_wp2
    go_ret
    exact ⟨rfl, grown_drewN (grown_refl _ _) _, HR.out.drewN _⟩

theorem takeN_yes (s : ByteArray) (i : Nat) (b : UInt8) (n : Int) (hn : n = (b.toNat : Int)) (rb : Nat) (w : World) (hr : Rdr w rb s i) (hs : s.size ≤ 8000) (hi : i < s.size) (hc : s[i] = b) :
    Calls Tryz.prog 128 #[.pointer (some ⟨rb, 0, none⟩), .int .u8 n] w fun e w' =>
      e = .returned (.bool true) ∧ w.grownBy w' (some rb) ∧ Rdr w' rb s ((i + 1 : Nat) : Int) := by
  subst hn
  exact take_yes s i b rb w hr hs hi hc
theorem takeN_no (s : ByteArray) (i : Nat) (b : UInt8) (n : Int) (hn : n = (b.toNat : Int)) (rb : Nat) (w : World) (hr : Rdr w rb s i) (hs : s.size ≤ 8000) (hi : i ≤ s.size) (hc : ∀ h : i < s.size, s[i] ≠ b) :
    Calls Tryz.prog 128 #[.pointer (some ⟨rb, 0, none⟩), .int .u8 n] w fun e w' =>
      e = .returned (.bool false) ∧ w.grownBy w' (some rb) ∧ Rdr w' rb s i := by
  subst hn
  exact take_no s i b rb w hr hs hi hc

theorem isAtomByte_q (c : UInt8) (w : World) : Calls Tryz.prog 136 #[.int .u8 c.toNat] w fun e w' => e = .returned (.bool (isAtomB c)) ∧ w' = w :=
  (isAtomByte_any c w).mono fun _ _ ⟨h, h'⟩ => ⟨h, h'.symm⟩

/-- What the reading of an atom answers. -/
def AtPost (s : ByteArray) (i rb : Nat) (w : World) (e : Ending) (w' : World) : Prop :=
  w.grownBy w' (some rb) ∧
  (((s.data.toList.drop i).takeWhile isAtomB ≠ [] ∧ ∃ j b, e = .returned (.tuple #[.pointer (some ⟨b, 0, none⟩), .bool true]) ∧ i < j ∧ j ≤ s.size ∧ s.data.toList.drop j = (s.data.toList.drop i).dropWhile isAtomB ∧
      Rdr w' rb s (j : Nat) ∧ w.heap.size ≤ b ∧ Blk w' b 174 #[.string ⟨((s.data.toList.drop i).takeWhile isAtomB).toArray⟩, .slice none 0 0]) ∨
   ((s.data.toList.drop i).takeWhile isAtomB = [] ∧ e = .returned (.tuple #[.pointer none, .bool false])))

theorem atom_run (s : ByteArray) (i p : Nat) (hip : i ≤ p) (hp : p ≤ s.size) (hall : ((s.data.toList.drop i).take (p - i)).all isAtomB = true) (hend : p = s.size ∨ ∃ h : p < s.size, isAtomB s[p] = false) :
    (s.data.toList.drop i).takeWhile isAtomB = (s.data.toList.drop i).take (p - i) ∧ (s.data.toList.drop i).dropWhile isAtomB = s.data.toList.drop p := by
  have := atoms_run (s.data.toList.drop i) (p - i) hall (by
    rcases hend with h | ⟨h, h'⟩
    · left; simp; omega
    · right
      refine ⟨s[p], ?_, h'⟩
      rw [List.getElem?_drop, show i + (p - i) = p from by omega, List.getElem?_eq_getElem (by simpa using h)]; rfl)
  rw [List.drop_drop, show i + (p - i) = p from by omega] at this
  exact this

theorem AtPost.no {s : ByteArray} {i rb : Nat} {w w' : World} (hg : w.grownBy w' (some rb)) (h : (s.data.toList.drop i).takeWhile isAtomB = (s.data.toList.drop i).take (i - i)) :
    AtPost s i rb w (.returned (.tuple #[.pointer none, .bool false])) w' := ⟨hg, .inr ⟨by rw [h]; simp, rfl⟩⟩

theorem AtPost.yes {s : ByteArray} {i p rb : Nat} {w w1 w2 : World} (hip : i < p) (hp : p ≤ s.size) (hg : w.grownBy w1 (some rb)) (hr : Rdr w1 rb s p) (hb : Below w1.heap.size w1 w2)
    (h : (s.data.toList.drop i).takeWhile isAtomB = (s.data.toList.drop i).take (p - i) ∧ (s.data.toList.drop i).dropWhile isAtomB = s.data.toList.drop p) :
    AtPost s i rb w (.returned (.tuple #[.pointer (some ⟨w2.heap.size, 0, none⟩), .bool true])) (w2.alloc (.cells #[.string (s.extract i p), .slice none 0 0] 174)) := by
  have hg2 := hg.trans (grown_of_below hb (some rb))
  refine ⟨hg2.trans (World.grownBy_alloc _ _ _), .inl ⟨?_, p, w2.heap.size, rfl, hip, hp, h.2.symm, (hr.below hb hr.lt).alloc _, hg2.size, ?_⟩⟩
  · rw [h.1]
    intro e
    have := congrArg List.length e
    simp at this
    omega
  · rw [h.1, show s.extract i p = s.extract i (i + (p - i)) from by rw [show i + (p - i) = p from by omega], ext_eq]
    exact Blk.new _ _ _

theorem take_all' (s : ByteArray) (i p : Nat) (hip : i ≤ p) (h : p < s.size) : ((s.data.toList.drop i).take (p + 1 - i)).all isAtomB = (((s.data.toList.drop i).take (p - i)).all isAtomB && isAtomB s[p]) := by
  obtain ⟨m, rfl⟩ : ∃ m, p = i + m := ⟨p - i, by omega⟩
  have := take_all s i m h
  rw [show i + m + 1 - i = m + 1 from by omega, show i + m - i = m from by omega]
  exact this

set_option maxRecDepth 100000 in
set_option maxHeartbeats 2000000 in
theorem readAtom_any (s : ByteArray) (i : Nat) (rb : Nat) (w : World) (hr : Rdr w rb s i) (hs : s.size ≤ 8000) (hi : i ≤ s.size) :
    Calls Tryz.prog 130 #[.pointer (some ⟨rb, 0, none⟩)] w (AtPost s i rb w) := by
  have r0 := hr.cell 0
  have r1 := hr.cell 1
  have rl := hr.lt
  have rf := hr.frozen
  simp at r0 r1
  have HR := Lib.hid hr
  clear hr
  go_enter Tryz.func130, Tryz.ntmps130
  go_wp2
  clear r0 r1 rf
  go_loopg [] (s.size - i) (fun k wr => ∃ p : Nat, i ≤ p ∧ p + k = s.size ∧ ((s.data.toList.drop i).take (p - i)).all isAtomB = true ∧ w.grownBy wr (some rb) ∧ Rdr wr rb s p)
  case atStart => exact ⟨i, by omega, by omega, by simp, grown_refl _ _, HR.out⟩
  case round =>
    obtain ⟨p, hip, hm, hall, hgr, hrd⟩ := hrel
    have r0 := hrd.cell 0
    have r1 := hrd.cell 1
    have rl := hrd.lt
    have rf := hrd.frozen
    simp at r0 r1
    have HD := Lib.hid hrd
    have HA := Lib.hid hall
    have HM := Lib.hid hm
    have hps : p ≤ s.size := by omega
    clear hrd hall hm
    by_cases hlt : p < s.size
    · have hd1 : decide (p < s.size) = true := by simpa using hlt
      have hstep := Lib.hid (take_all' s i p hip hlt)
      cases hq : isAtomB s[p] with
      | true =>
        have HQ := Lib.hid hq
        go_wp2
        go_quiet ((go_at_call 136; exact Calls.quiet_of_same (isAtomByte_q _ _)))
        go_wp2
        go_roundg (s.size - (p + 1))
        case rel =>
          refine ⟨p + 1, by omega, by omega, by rw [hstep.out, HA.out, HQ.out]; rfl, hgr.trans ((grown_drewN (grown_refl _ _) _).trans (grown_set _ _ _ _)), ?_⟩
          have := (HD.out.drewN nq).set_ 1 (.int .i64 (p + 1))
          simpa using this
        case measure => have := HM.out; omega
      | false =>
        have HQ := Lib.hid hq
        have hfin := Lib.hid (atom_run s i p hip hps HA.out (.inr ⟨hlt, HQ.out⟩))
        by_cases hpi : p = i
        · subst hpi
          go_wp2
          go_quiet ((go_at_call 136; exact Calls.quiet_of_same (isAtomByte_q _ _)))
          go_wp2
          go_ret2
          exact AtPost.no (hgr.trans (grown_drewN (grown_refl _ _) _)) hfin.out.1
        · have hpe : ((p : Int) == (i : Int)) = false := beq_eq_false_iff_ne.2 (by omega)
          go_wp2
          go_quiet ((go_at_call 136; exact Calls.quiet_of_same (isAtomByte_q _ _)))
          go_wp2
          go_region_with (first
            | (go_at_call 137; refine (stringsClone_any (s.extract i p) _ (by simp [ByteArray.size_extract]; omega)).mono ?_; rintro e w2 ⟨rfl, hb2⟩))
          all_goals
            go_wp2
            go_ret2
            exact AtPost.yes (by omega) hps (hgr.trans (grown_drewN (grown_refl _ _) _)) (HD.out.drewN _) hb2 hfin.out
    · have hd1 : decide (p < s.size) = false := by simpa using hlt
      have hpe0 : p = s.size := by omega
      have hfin := Lib.hid (atom_run s i p hip hps HA.out (.inl hpe0))
      clear hpe0
      by_cases hpi : p = i
      · subst hpi
        go_wp2
        go_quiet (fail)
        go_wp2
        go_ret2
        exact AtPost.no (hgr.trans (grown_drewN (grown_refl _ _) _)) hfin.out.1
      · have hpe : ((p : Int) == (i : Int)) = false := beq_eq_false_iff_ne.2 (by omega)
        go_wp2
        go_quiet (fail)
        go_wp2
        go_region_with (first
          | (go_at_call 137; refine (stringsClone_any (s.extract i p) _ (by simp [ByteArray.size_extract]; omega)).mono ?_; rintro e w2 ⟨rfl, hb2⟩))
        all_goals
          go_wp2
          go_ret2
          exact AtPost.yes (by omega) hps (hgr.trans (grown_drewN (grown_refl _ _) _)) (HD.out.drewN _) hb2 hfin.out
end Go.Proofs.YtjcdclnaplojcaaGreatDoor
