/- The program's uses of a name, and its answers. -/
import Derived.Test.YtgceephloklpbacQ
import Derived.Test.YtgceephloklpbacT
import Derived.Test.YtgceephloklpbacS2
namespace Go.Proofs.Ytgceephloklpbac
set_option linter.unusedVariables false
open Go.RowKit

theorem dbUses_any (x : List UInt8) : ∀ (t : DB) (v : Value) (w : World) (P : Nat → Prop), DAt w P t v → t.uses x ≤ 10000 →
    Calls Try.prog 32 #[v, .string ⟨x.toArray⟩] w fun e w' => e = .returned (.int .i64 (t.uses x)) ∧ ∃ n, w' = w.drewN n := by
  intro t
  induction t with
  | free y =>
    rintro v w P ⟨b, rfl, hP, hl, hb⟩ hsz
    have k0 := hb.cell 0
    have k1 := hb.cell 1
    simp at k0 k1
    clear hb
    by_cases h : y = x
    · have hbq : (y == x) = true := beq_iff_eq.2 h
      have HU : Hid ((DB.free y).uses x = 1) := Lib.hid (by simp [DB.uses, h])
      clear h
      go_enter Try.func32, Try.ntmps32
      go_wp2
      go_ret
      exact ⟨ret_int (by rw [HU.out]; rfl), 0, rfl⟩
    · have hbq : (y == x) = false := beq_eq_false_iff_ne.2 h
      have HU : Hid ((DB.free y).uses x = 0) := Lib.hid (by simp [DB.uses, h])
      clear h
      go_enter Try.func32, Try.ntmps32
      go_wp2
      go_ret
      exact ⟨ret_int (by rw [HU.out]; rfl), 0, rfl⟩
  | bnd i =>
    rintro v w P ⟨b, rfl, hP, hb⟩ hsz
    have k0 := hb.cell 0
    simp at k0
    clear hb
    go_enter Try.func32, Try.ntmps32
    go_wp2
    go_ret
    exact ⟨rfl, 0, rfl⟩
  | lam y d ih =>
    rintro v w P ⟨b, c, rfl, hP, hl, hb, hd⟩ hsz
    have k0 := hb.cell 0
    have k3 := hb.cell 3
    simp at k0 k3
    have HD := Lib.hid hd
    have IH := Lib.hid ih
    have HSZ := Lib.hid hsz
    clear hb hd ih hsz
    go_enter Try.func32, Try.ntmps32
    go_wp2_with fail
    refine (IH.out _ _ P HD.out HSZ.out).mono ?_
    rintro e w1 ⟨rfl, n, rfl⟩
    go_wp2_with fail
    go_ret
    exact ⟨rfl, n, rfl⟩
  | app f a ihf iha =>
    rintro v w P ⟨b, c, d, rfl, hP, hb, hf, ha⟩ hsz
    have k0 := hb.cell 0
    have k3 := hb.cell 3
    have k4 := hb.cell 4
    simp at k0 k3 k4
    have IHF : Hid (∀ n, Calls Try.prog 32 #[.pointer (some ⟨c, 0, none⟩), .string ⟨x.toArray⟩] (w.drewN n) fun e w' => e = .returned (.int .i64 (f.uses x)) ∧ ∃ m, w' = w.drewN m) :=
      Lib.hid (fun n => (ihf _ (w.drewN n) P (hf.drewN n) (by simp only [DB.uses] at hsz; omega)).mono fun _ _ ⟨he, m, hm⟩ => ⟨he, n + m, by rw [hm, World.drewN_drewN]⟩)
    have IHA : Hid (∀ n, Calls Try.prog 32 #[.pointer (some ⟨d, 0, none⟩), .string ⟨x.toArray⟩] (w.drewN n) fun e w' => e = .returned (.int .i64 (a.uses x)) ∧ ∃ m, w' = w.drewN m) :=
      Lib.hid (fun n => (iha _ (w.drewN n) P (ha.drewN n) (by simp only [DB.uses] at hsz; omega)).mono fun _ _ ⟨he, m, hm⟩ => ⟨he, n + m, by rw [hm, World.drewN_drewN]⟩)
    have hsz' : f.uses x + a.uses x ≤ 10000 := by simp only [DB.uses] at hsz; omega
    clear hb hf ha ihf iha hsz
    go_enter Try.func32, Try.ntmps32
    go_wp2
    go_quiet ((first
      | (go_at_call 32; with_reducible exact IHF.out _)
      | (go_at_call 32; with_reducible exact IHA.out _)))
    go_wp2
    go_ret
    refine ⟨ret_int ?_, _, rfl⟩
    simp only [DB.uses]
    omega

theorem implTermSize_any (s : ByteArray) (w : World) (hm : s.size ≤ maxLen) :
    Calls Try.prog 19 #[.string s] w fun e w' => e = .returned (.int .i64 (szOf (rdTerm s.data.toList))) ∧ Below w.heap.size w w' := by
  go_enter Try.func19, Try.ntmps19
  go_wp2_with fail
  refine (readTerm_any s _ hm).mono ?_
  rintro e w1 ⟨hb1, ⟨t, v, hrd, rfl, hd⟩ | ⟨hrd, rfl⟩⟩
  · obtain ⟨d, rfl, _⟩ := hd.shape
    obtain ⟨hok, hat⟩ := rdTerm_good _ _ hrd
    have hsa := size_atoms t
    have hds : (toDB [] t).size ≤ 10000 := by rw [toDB_size]; omega
    have HDS := Lib.hid hds
    have HR := Lib.hid hrd
    have HD := Lib.hid hd
    clear hrd hd hok hds
    go_wp2_with fail
    refine (dbSize_any _ _ _ _ HD.out HDS.out).mono ?_
    rintro e w2 ⟨rfl, n, rfl⟩
    go_wp2_with fail
    go_ret
    exact ⟨ret_int (by rw [HR.out, toDB_size]; rfl), below_drewN' hb1 n⟩
  · have HR := Lib.hid hrd
    clear hrd
    go_wp2
    go_ret
    exact ⟨ret_int (by rw [HR.out]; rfl), hb1⟩

theorem implTermUses_any (s : ByteArray) (x : List UInt8) (w : World) (hm : s.size ≤ maxLen) (hx : x.length ≤ maxLen) :
    Calls Try.prog 17 #[.string s, .string ⟨x.toArray⟩] w fun e w' => e = .returned (.int .i64 (usOf x (rdTerm s.data.toList))) ∧ Below w.heap.size w w' := by
  go_enter Try.func17, Try.ntmps17
  go_wp2_with fail
  refine (readTerm_any s _ hm).mono ?_
  rintro e w1 ⟨hb1, ⟨t, v, hrd, rfl, hd⟩ | ⟨hrd, rfl⟩⟩
  · obtain ⟨d, rfl, _⟩ := hd.shape
    obtain ⟨hok, hat⟩ := rdTerm_good _ _ hrd
    have hsa := uses_atoms x t
    have hdu : (toDB [] t).uses x = t.uses x := by rw [toDB_uses]; simp
    have hds : (toDB [] t).uses x ≤ 10000 := by rw [hdu]; omega
    have HDS := Lib.hid hds
    have HDU := Lib.hid hdu
    have HR := Lib.hid hrd
    have HD := Lib.hid hd
    clear hrd hd hok hds hdu
    go_wp2_with fail
    refine (isName_any _ _ (by simpa [ByteArray.size] using hx)).mono ?_
    rintro e w2 ⟨rfl, rfl⟩
    rw [toNil]
    cases hn : isNm x with
    | true =>
      have HN := Lib.hid hn
      clear hn
      go_wp2_with fail
      refine (dbUses_any x _ _ _ _ HD.out HDS.out).mono ?_
      rintro e w2 ⟨rfl, n, rfl⟩
      go_wp2_with fail
      go_ret
      exact ⟨ret_int (by unfold usOf; rw [HR.out, if_pos HN.out, HDU.out]), below_drewN' hb1 n⟩
    | false =>
      have HN := Lib.hid hn
      clear hn
      go_wp2_with fail
      go_ret
      exact ⟨ret_int (by unfold usOf; rw [if_neg (by rw [HN.out]; decide)]), hb1⟩
  · have HR := Lib.hid hrd
    clear hrd
    go_wp2
    go_ret
    exact ⟨ret_int (by unfold usOf; rw [HR.out]; split <;> rfl), hb1⟩
end Go.Proofs.Ytgceephloklpbac
