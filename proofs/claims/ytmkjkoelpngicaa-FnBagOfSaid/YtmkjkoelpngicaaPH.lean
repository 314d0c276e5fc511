/- The program reads types and bags. -/
import Derived.Test.YtmkjkoelpngicaaPG
namespace Go.Proofs.Ytmkjkoelpngicaa
set_option linter.unusedVariables false
open Go.RowKit Go.Maps

theorem rdTy_eq (l : List UInt8) : rdTy l = match rdText l with | some t => if isTy t = true ∧ trAtoms t ≤ 200 then some t else none | none => none := rfl
theorem rdBg_eq (l : List UInt8) : rdBg l = match rdText l with | some t => if isBag t = true ∧ trAtoms t ≤ 200 then some t else none | none => none := rfl
def RaPost (n : Nat) (s : ByteArray) (w : World) (e : Ending) (w' : World) : Prop :=
  Below w.heap.size w w' ∧ ((∃ t v, rdText s.data.toList = some t ∧ trAtoms t ≤ n ∧ e = .returned (.tuple #[v, .bool true]) ∧ PAt w' (fun b => w.heap.size ≤ b ∧ b < w'.heap.size) t v) ∨
    ((∀ t, rdText s.data.toList = some t → n < trAtoms t) ∧ e = .returned (.tuple #[.pointer none, .bool false])))
set_option maxRecDepth 100000 in
theorem readAtMost_any (n : Nat) (hn : n ≤ 1000) (s : ByteArray) (w : World) (hm : s.size ≤ maxLen) :
    Calls Try.prog 67 #[.string s, .int .i64 n] w (RaPost n s w) := by
  go_enter Try.func67, Try.ntmps67
  go_wp2_with fail
  refine (readText_any s _ hm).mono ?_
  rintro e w1 ⟨hb1, ⟨t, v, hrd, rfl, hpt⟩ | ⟨hrd, rfl⟩⟩
  · obtain ⟨b, rfl, _⟩ := hpt.shape
    have hok := rdText_ok _ _ hrd
    have ha : trAtoms t ≤ 10000 := by omega
    have HC := Lib.hid (countAtoms_any t _ w1 _ hpt ha)
    have HR := Lib.hid hrd
    have HP := Lib.hid hpt
    have HB := Lib.hid hb1
    clear hrd hpt hok hb1
    by_cases hle : trAtoms t ≤ n
    · have hd : decide ((n : Int) < (trAtoms t : Int)) = false := by simp; omega
      have hd2 : ¬ ((n : Int) < (trAtoms t : Int)) := by omega
      go_wp2_with fail
      refine HC.out.mono ?_
      rintro e w2 ⟨rfl, rfl⟩
      go_wp2_with fail
      go_ret2
      exact ⟨HB.out, .inl ⟨t, _, HR.out, hle, rfl, HP.out⟩⟩
    · have hd : decide ((n : Int) < (trAtoms t : Int)) = true := by simp; omega
      have hd2 : ((n : Int) < (trAtoms t : Int)) := by omega
      go_wp2_with fail
      refine HC.out.mono ?_
      rintro e w2 ⟨rfl, rfl⟩
      go_wp2_with fail
      go_ret2
      refine ⟨HB.out, .inr ⟨fun u hu => ?_, rfl⟩⟩
      rw [HR.out] at hu
      injection hu with hu
      subst hu
      omega
  · have HR := Lib.hid hrd
    clear hrd
    go_wp2_with fail
    go_ret2
    refine ⟨hb1, .inr ⟨fun u hu => ?_, rfl⟩⟩
    rw [HR.out] at hu
    cases hu

def RtPost (s : ByteArray) (w : World) (e : Ending) (w' : World) : Prop :=
  Below w.heap.size w w' ∧ (((rdTy s.data.toList).isSome = true ∧ e = .returned (.tuple #[.string s, .bool true])) ∨ (rdTy s.data.toList = none ∧ e = .returned (.tuple #[.string ⟨#[]⟩, .bool false])))
theorem ba_self (s : ByteArray) : (⟨s.data.toList.toArray⟩ : ByteArray) = s := rfl
theorem readType_any (s : ByteArray) (w : World) (hm : s.size ≤ maxLen) :
    Calls Try.prog 41 #[.string s] w (RtPost s w) := by
  go_enter Try.func41, Try.ntmps41
  go_wp2_with fail
  refine (readAtMost_any 200 (by omega) s _ hm).mono ?_
  rintro e w1 ⟨hb1, ⟨t, v, hrd, hat, rfl, hpt⟩ | ⟨hrd, rfl⟩⟩
  · obtain ⟨b, rfl, _⟩ := hpt.shape
    have hok := rdText_ok _ _ hrd
    have htx := rdText_text _ _ hrd
    have HC := Lib.hid ((tf_bf_any t).1 _ w1 _ hpt (fun q hq => hq.2) hok.1 (by rw [htx]; exact hok.2.2))
    have HR := Lib.hid hrd
    have HX := Lib.hid htx
    have HB := Lib.hid hb1
    have hz1 := hb1.size
    clear hrd hpt hok hb1 htx
    go_wp2_with fail
    refine HC.out.mono ?_
    rintro e w2 ⟨hb2, ⟨hty, rfl⟩ | ⟨hty, rfl⟩⟩
    · have HT := Lib.hid hty
      have HB2 := Lib.hid (HB.out.trans (hb2.mono hz1))
      clear hty hb2
      go_wp2_with fail
      go_ret2
      refine ⟨HB2.out, .inl ⟨?_, ?_⟩⟩
      · rw [rdTy_eq, HR.out]
        simp only
        rw [if_pos ⟨HT.out, hat⟩]; rfl
      · rw [HX.out]; rfl
    · have HT := Lib.hid hty
      have HB2 := Lib.hid (HB.out.trans (hb2.mono hz1))
      clear hty hb2
      go_wp2_with fail
      go_ret2
      refine ⟨HB2.out, .inr ⟨?_, rfl⟩⟩
      rw [rdTy_eq, HR.out]
      simp only
      rw [if_neg (by rw [HT.out]; simp)]
  · have HR := Lib.hid hrd
    clear hrd
    go_wp2_with fail
    go_ret2
    refine ⟨hb1, .inr ⟨?_, rfl⟩⟩
    rw [rdTy_eq]
    cases h : rdText s.data.toList with
    | none => rfl
    | some t =>
      have := HR.out t h
      simp only
      rw [if_neg (by omega)]

def RbPost (s : ByteArray) (w : World) (e : Ending) (w' : World) : Prop :=
  Below w.heap.size w w' ∧ ((∃ t b, rdBg s.data.toList = some t ∧ e = .returned (.tuple #[.map (some b), .bool true]) ∧ w.heap.size ≤ b ∧ BagIs w' b (bagL t)) ∨ (rdBg s.data.toList = none ∧ e = .returned (.tuple #[.map none, .bool false])))
theorem readBag_any (s : ByteArray) (w : World) (hm : s.size ≤ maxLen) :
    Calls Try.prog 43 #[.string s] w (RbPost s w) := by
  go_enter Try.func43, Try.ntmps43
  go_wp2_with fail
  refine (readAtMost_any 200 (by omega) s _ hm).mono ?_
  rintro e w1 ⟨hb1, ⟨t, v, hrd, hat, rfl, hpt⟩ | ⟨hrd, rfl⟩⟩
  · obtain ⟨b, rfl, _⟩ := hpt.shape
    have hok := rdText_ok _ _ hrd
    have htx := rdText_text _ _ hrd
    have HC := Lib.hid ((tf_bf_any t).2 _ w1 _ hpt (fun q hq => hq.2) hok.1 (by rw [htx]; exact hok.2.2))
    have HR := Lib.hid hrd
    have HB := Lib.hid hb1
    have hz1 := hb1.size
    clear hrd hpt hok hb1 htx
    go_wp2_with fail
    refine HC.out.mono ?_
    rintro e w2 ⟨hb2, ⟨hty, bb, rfl, hge, hbag⟩ | ⟨hty, rfl⟩⟩
    · have HT := Lib.hid hty
      have HB2 := Lib.hid (HB.out.trans (hb2.mono hz1))
      have HBG := Lib.hid hbag
      clear hty hb2 hbag
      go_wp2_with fail
      go_ret2
      refine ⟨HB2.out, .inl ⟨t, _, ?_, rfl, by omega, HBG.out⟩⟩
      rw [rdBg_eq, HR.out]
      simp only
      rw [if_pos ⟨HT.out, hat⟩]
    · have HT := Lib.hid hty
      have HB2 := Lib.hid (HB.out.trans (hb2.mono hz1))
      clear hty hb2
      go_wp2_with fail
      go_ret2
      refine ⟨HB2.out, .inr ⟨?_, rfl⟩⟩
      rw [rdBg_eq, HR.out]
      simp only
      rw [if_neg (by rw [HT.out]; simp)]
  · have HR := Lib.hid hrd
    clear hrd
    go_wp2_with fail
    go_ret2
    refine ⟨hb1, .inr ⟨?_, rfl⟩⟩
    rw [rdBg_eq]
    cases h : rdText s.data.toList with
    | none => rfl
    | some t =>
      have := HR.out t h
      simp only
      rw [if_neg (by omega)]

def RbtPost (s u : ByteArray) (w : World) (e : Ending) (w' : World) : Prop :=
  Below w.heap.size w w' ∧ ((∃ t b, rdBg s.data.toList = some t ∧ (rdTy u.data.toList).isSome = true ∧ e = .returned (.tuple #[.map (some b), .string u, .bool true]) ∧ w.heap.size ≤ b ∧ BagIs w' b (bagL t)) ∨
    ((rdBg s.data.toList = none ∨ rdTy u.data.toList = none) ∧ ∃ m, e = .returned (.tuple #[.map m, .string ⟨#[]⟩, .bool false])))
theorem readBagAndType_any (s u : ByteArray) (w : World) (hm : s.size ≤ maxLen) (hm2 : u.size ≤ maxLen) :
    Calls Try.prog 51 #[.string s, .string u] w (RbtPost s u w) := by
  go_enter Try.func51, Try.ntmps51
  go_wp2_with fail
  refine (readBag_any s _ hm).mono ?_
  rintro e w1 ⟨hb1, ⟨t, b, hrd, rfl, hge, hbag⟩ | ⟨hrd, rfl⟩⟩
  · have HR := Lib.hid hrd
    have HB := Lib.hid hb1
    have HBG := Lib.hid hbag
    have hz1 := hb1.size
    clear hrd hbag hb1
    go_wp2_with fail
    refine (readType_any u _ hm2).mono ?_
    rintro e w2 ⟨hb2, ⟨hty, rfl⟩ | ⟨hty, rfl⟩⟩
    · have HT := Lib.hid hty
      have HB2 := Lib.hid hb2
      clear hty hb2
      go_wp2_with fail
      go_ret3
      exact ⟨HB.out.trans (HB2.out.mono hz1), .inl ⟨t, b, HR.out, HT.out, rfl, hge, HBG.out.below HB2.out HBG.out.lt⟩⟩
    · have HT := Lib.hid hty
      have HB2 := Lib.hid hb2
      clear hty hb2
      go_wp2_with fail
      go_ret3
      exact ⟨HB.out.trans (HB2.out.mono hz1), .inr ⟨.inr HT.out, _, rfl⟩⟩
  · have HR := Lib.hid hrd
    clear hrd
    go_wp2_with fail
    go_ret3
    exact ⟨hb1, .inr ⟨.inl HR.out, _, rfl⟩⟩

def RfPost (s : ByteArray) (w : World) (e : Ending) (w' : World) : Prop :=
  Below w.heap.size w w' ∧ ((∃ bt tt b, rdTy s.data.toList = some (.mk [] [.mk [62] [], bt, tt]) ∧ e = .returned (.tuple #[.map (some b), .string ⟨(wrTr tt).toArray⟩, .bool true]) ∧ w.heap.size ≤ b ∧ BagIs w' b (bagL bt)) ∨
    ((∀ t, rdTy s.data.toList = some t → t.atom ≠ []) ∧ ∃ m, e = .returned (.tuple #[.map m, .string ⟨#[]⟩, .bool false])))
theorem readFunctions_any (s : ByteArray) (w : World) (hm : s.size ≤ maxLen) :
    Calls Try.prog 54 #[.string s] w (RfPost s w) := by
  go_enter Try.func54, Try.ntmps54
  go_wp2_with fail
  refine (readAtMost_any 200 (by omega) s _ hm).mono ?_
  rintro e w1 ⟨hb1, ⟨t, v, hrd, hat, rfl, hpt⟩ | ⟨hrd, rfl⟩⟩
  · obtain ⟨b, rfl, _⟩ := hpt.shape
    have hok := rdText_ok _ _ hrd
    have htx := rdText_text _ _ hrd
    have HC := Lib.hid (functionsOf_any t (fun u hu => (tf_bf_any u).2) (fun u hu => (tf_bf_any u).1) _ w1 _ hpt (fun q hq => hq.2) hok.1 (by rw [htx]; exact hok.2.2))
    have HR := Lib.hid hrd
    have HW := Lib.hid hok.1
    have HB := Lib.hid hb1
    have hz1 := hb1.size
    clear hrd hpt hok hb1 htx
    go_wp2_with fail
    refine HC.out.mono ?_
    rintro e w2 ⟨hb2, ⟨bt, tt, bb, ht, hbg, hty, rfl, hge, hbag⟩ | ⟨h3, m, rfl⟩⟩
    · have HT := Lib.hid hty
      have HBT := Lib.hid hbg
      have HTT := Lib.hid ht
      have HB2 := Lib.hid (HB.out.trans (hb2.mono hz1))
      have HBG := Lib.hid hbag
      clear hty hb2 hbag hbg ht
      go_wp2_with fail
      go_ret3
      refine ⟨HB2.out, .inl ⟨bt, tt, bb, ?_, rfl, by omega, HBG.out⟩⟩
      have hw := HW.out
      rw [HTT.out] at hw
      have hws2 := (wf_list _ hw).2
      have h1 : isTy t = true := by rw [HTT.out]; exact (fn_ty bt tt (Wfs_mem bt _ (by simp) hws2) (Wfs_mem tt _ (by simp) hws2) HBT.out HT.out).2.1
      rw [rdTy_eq, HR.out]
      simp only
      rw [if_pos ⟨h1, hat⟩, HTT.out]
    · have H3 := Lib.hid h3
      have HB2 := Lib.hid (HB.out.trans (hb2.mono hz1))
      clear h3 hb2
      go_wp2_with fail
      go_ret3
      refine ⟨HB2.out, .inr ⟨fun u hu hne => ?_, _, rfl⟩⟩
      rw [rdTy_eq, HR.out] at hu
      simp only at hu
      split at hu
      · rename_i hc
        injection hu with hu
        subst hu
        obtain ⟨a, ps⟩ := t
        simp only [Tr.atom] at hne
        subst hne
        have h1 := hc.1
        simp only [isTy, if_true] at h1
        have h2 := H3.out
        simp only [Tr.parts] at h2
        rw [h2] at h1
        cases h1
      · cases hu
  · have HR := Lib.hid hrd
    clear hrd
    go_wp2_with fail
    go_ret3
    refine ⟨hb1, .inr ⟨fun u hu _ => ?_, _, rfl⟩⟩
    rw [rdTy_eq] at hu
    cases h : rdText s.data.toList with
    | none => rw [h] at hu; cases hu
    | some t =>
      have := HR.out t h
      rw [h] at hu
      simp only at hu
      rw [if_neg (by omega)] at hu
      cases hu
end Go.Proofs.Ytmkjkoelpngicaa
