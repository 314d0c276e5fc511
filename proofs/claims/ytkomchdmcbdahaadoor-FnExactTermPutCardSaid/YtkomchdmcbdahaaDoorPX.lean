/- TermPut of the model and of the program. -/
import Derived.Test.YtkomchdmcbdahaaDoorPW
namespace Go.Proofs.YtkomchdmcbdahaaDoor
set_option linter.unusedVariables false
open Go.RowKit

theorem uses_half (x : List UInt8) (t : Tm) : 2 * t.uses x ≤ t.atoms + 1 := by
  induction t with
  | var y => simp only [Tm.uses, Tm.atoms]; split <;> omega
  | lam y b ih => simp only [Tm.uses, Tm.atoms]; split <;> omega
  | app f a ihf iha => simp only [Tm.uses, Tm.atoms]; omega
theorem subT_le (t c : Tm) (x : List UInt8) (ha : t.atoms ≤ 400) (hca : c.atoms ≤ 400) : (subT t x c).atoms ≤ 80400 := by
  have h1 := atoms_subT t c x
  have h2 := uses_half x t
  have h3 : t.uses x * c.atoms ≤ 200 * 400 := Nat.mul_le_mul (by omega) hca
  omega
theorem cnO_wr (t : Tm) (h : t.ok) : cnO (rdTerm (wrTm t)) = canO t := by
  rw [rdTerm_wr t h]
  unfold cnO canO
  split <;> rfl

/-- What is put, if both were read and the name is one. -/
def ptO (x : List UInt8) : Option Tm → Option Tm → Option Tm
  | some t, some c => if isNm x = true then canO (subT t x c) else none
  | _, _ => none

set_option maxRecDepth 100000 in
theorem specTermPut_any (s by_ : ByteArray) (x : List UInt8) (w : World) (hm : s.size ≤ maxLen) (hm2 : by_.size ≤ maxLen) (hx : x.length ≤ maxLen) :
    Calls Tryd.prog 14 #[.string s, .string ⟨x.toArray⟩, .string by_] w (CtPost (ptO x (rdTerm s.data.toList) (rdTerm by_.data.toList)) w) := by
  go_enter Tryd.func14, Tryd.ntmps14
  go_wp2_with fail
  refine (l1Term_any s _ hm).mono ?_
  rintro e w1 ⟨hb1, ⟨t, v, hrd, rfl, htr⟩ | ⟨hrd, b, A, n, c, rfl⟩⟩
  · obtain ⟨A, n, c, rfl⟩ := htr.shape
    obtain ⟨hok, hat⟩ := rdTerm_good _ _ hrd
    have HR := Lib.hid hrd
    have HAT := Lib.hid hat
    have HT := Lib.hid (htr.alloc (fun q hq => hq.2) (.cells #[.string ⟨(tmTr t).atom.toArray⟩, .slice A n c] 35))
    have HK := Lib.hid hok
    have HB := Lib.hid (hb1.alloc hb1.size (.cells #[.string ⟨(tmTr t).atom.toArray⟩, .slice A n c] 35))
    have hz := hb1.size
    have hbx := Blk.new w1 35 #[.string ⟨(tmTr t).atom.toArray⟩, .slice A n c]
    have HBX := Lib.hid hbx
    clear hrd htr hok hat hb1 hbx
    go_wp2_with fail
    refine (l1Term_any by_ _ hm2).mono ?_
    rintro e w2 ⟨hb2, ⟨t2, v2, hrd2, rfl, htr2⟩ | ⟨hrd2, b2, A2, n2, c2, rfl⟩⟩
    · obtain ⟨A2, n2, c2, rfl⟩ := htr2.shape
      obtain ⟨hok2, hat2⟩ := rdTerm_good _ _ hrd2
      have hz2 := hb2.size
      simp at hz2
      have hbx2 := HBX.out.below hb2 (by simp)
      have bx0 := hbx2.cell 0
      have bx1 := hbx2.cell 1
      have bxl := hbx2.lt
      simp only [List.getElem?_toArray, List.getElem?_cons_zero, List.getElem?_cons_succ] at bx0 bx1
      have HR2 := Lib.hid hrd2
      have HAT2 := Lib.hid hat2
      have HK2 := Lib.hid hok2
      have HT2 := Lib.hid (((htr2.mono (Q := fun q => w.heap.size ≤ q ∧ q < w2.heap.size) fun q hq => ⟨⟨by have := hq.1; simp at this; omega, hq.2⟩, fun _ => rfl⟩).alloc (fun q hq => hq.2) (.cells #[.string ⟨(tmTr t2).atom.toArray⟩, .slice A2 n2 c2] 35)))
      have HT1 := Lib.hid (((HT.out.below hb2 (fun q hq => by have := hq.2; simp; omega)).mono (Q := fun q => w.heap.size ≤ q ∧ q < w2.heap.size) fun q hq => ⟨⟨hq.1, by have := hq.2; omega⟩, fun _ => rfl⟩).alloc (fun q hq => hq.2) (.cells #[.string ⟨(tmTr t2).atom.toArray⟩, .slice A2 n2 c2] 35))
      have HB2 := Lib.hid ((HB.out.trans (hb2.mono (by simp; omega))).alloc (by omega) (.cells #[.string ⟨(tmTr t2).atom.toArray⟩, .slice A2 n2 c2] 35))
      clear hrd2 htr2 hok2 hat2 hb2 hbx2
      go_wp2_with fail
      refine (l1Name_any _ _ (by simpa [ByteArray.size] using hx)).mono ?_
      rintro e w3 ⟨rfl, rfl⟩
      rw [toNil]
      cases hn : isNm x with
      | true =>
        have HN := Lib.hid hn
        clear hn
        go_wp2_with fail
        refine (l1Sub_any t t2 x HN.out HK.out HAT.out HK2.out HAT2.out _ _ _ _ HT1.out HT2.out (fun q hq => by have := hq.2; simp; omega)).mono ?_
        rintro e w4 ⟨u, A', m', n', rfl, h1, h2⟩
        have hz4 := h2.size
        simp at hz4
        have hle := subT_le t t2 x HAT.out HAT2.out
        have hsok := subT_ok t t2 x HK.out HK2.out HAT.out HAT2.out
        have hsh := wrTm_short (subT t x t2) hsok
        have htx := l1Text_any (tmTr (subT t x t2)) _ w4 _ h1 (fun b hb => by
          rcases hb with hb | hb
          · have := hb.2; omega
          · exact hb.2) (by rw [wrTr_tm _ hsok]; omega)
        rw [wrTr_tm _ hsok] at htx
        have HTX := Lib.hid htx
        have HB4 := Lib.hid (HB2.out.trans (h2.mono (by simp; omega)))
        have HSOK := Lib.hid hsok
        have hlen : (wrTm (subT t x t2)).length ≤ 1000000 := by omega
        clear htx h1 h2 hle hsok hsh
        go_wp2_with fail
        refine HTX.out.mono ?_
        rintro e w5 ⟨rfl, hb5⟩
        have HB5 := Lib.hid (HB4.out.trans (hb5.mono (by omega)))
        clear hb5
        go_wp2_with fail
        have hcn := specTermCanon_any ⟨(wrTm (subT t x t2)).toArray⟩ w5 (by simp only [ByteArray.size, List.size_toArray]; unfold maxLen; omega)
        have ecn : cnO (rdTerm (ByteArray.mk (wrTm (subT t x t2)).toArray).data.toList) = ptO x (rdTerm s.data.toList) (rdTerm by_.data.toList) := by
          rw [HR.out, HR2.out]
          show cnO (rdTerm (wrTm (subT t x t2))) = if isNm x = true then _ else _
          rw [if_pos HN.out, cnO_wr _ HSOK.out]
        rw [ecn] at hcn
        refine hcn.mono ?_
        rintro e w6 ⟨rfl, hb6⟩
        have HB6 := Lib.hid (HB5.out.trans (hb6.mono (by have := HB5.out.size; omega)))
        clear hb6 hcn ecn
        go_wp2_with fail
        go_ret2
        exact ⟨rfl, HB6.out⟩
      | false =>
        have HN := Lib.hid hn
        clear hn
        go_wp2_with fail
        go_ret2
        exact ⟨by rw [HR.out, HR2.out]; simp only [ptO, HN.out]; rfl, HB2.out⟩
    · have HR2 := Lib.hid hrd2
      have hz2 := hb2.size
      have hbx2 := HBX.out.below hb2 (by simp)
      have bxl := hbx2.lt
      simp at hz2
      have HB2 := Lib.hid ((HB.out.trans (hb2.mono (by simp; omega))).alloc (by omega) (.cells #[.string b2, .slice A2 n2 c2] 35))
      clear hrd2 hb2 hbx2
      go_wp2
      go_ret2
      exact ⟨by rw [HR.out, HR2.out]; rfl, HB2.out⟩
  · have HR := Lib.hid hrd
    have hz := hb1.size
    have HB := Lib.hid (hb1.alloc hb1.size (.cells #[.string b, .slice A n c] 35))
    clear hrd hb1
    go_wp2_with fail
    refine (l1Term_any by_ _ hm2).mono ?_
    rintro e w2 ⟨hb2, ⟨t2, v2, hrd2, rfl, htr2⟩ | ⟨hrd2, b2, A2, n2, c2, rfl⟩⟩
    · obtain ⟨A2, n2, c2, rfl⟩ := htr2.shape
      have hz2 := hb2.size
      simp at hz2
      have HB2 := Lib.hid ((HB.out.trans (hb2.mono (by simp; omega))).alloc (by omega) (.cells #[.string ⟨(tmTr t2).atom.toArray⟩, .slice A2 n2 c2] 35))
      clear hrd2 htr2 hb2
      go_wp2
      go_ret2
      exact ⟨by rw [HR.out]; rfl, HB2.out⟩
    · have hz2 := hb2.size
      simp at hz2
      have HB2 := Lib.hid ((HB.out.trans (hb2.mono (by simp; omega))).alloc (by omega) (.cells #[.string b2, .slice A2 n2 c2] 35))
      clear hrd2 hb2
      go_wp2
      go_ret2
      exact ⟨by rw [HR.out]; rfl, HB2.out⟩

set_option maxRecDepth 100000 in
theorem implTermPut_any (s by_ : ByteArray) (x : List UInt8) (w : World) (hm : s.size ≤ maxLen) (hm2 : by_.size ≤ maxLen) (hx : x.length ≤ maxLen) (ht : Tab w) :
    Calls Tryd.prog 15 #[.string s, .string ⟨x.toArray⟩, .string by_] w (CtPost (ptO x (rdTerm s.data.toList) (rdTerm by_.data.toList)) w) := by
  have HTB := Lib.hid ht
  clear ht
  go_enter Tryd.func15, Tryd.ntmps15
  go_wp2_with fail
  refine (readTerm_any s _ hm).mono ?_
  rintro e w1 ⟨hb1, ⟨t, v, hrd, rfl, hd⟩ | ⟨hrd, rfl⟩⟩
  · obtain ⟨d, rfl, _⟩ := hd.shape
    obtain ⟨hok, hat⟩ := rdTerm_good _ _ hrd
    have HR := Lib.hid hrd
    have HD := Lib.hid hd.tm
    have HK := Lib.hid hok
    have HAT := Lib.hid hat
    have HB1 := Lib.hid hb1
    have HT1 := Lib.hid (HTB.out.below hb1)
    have hz1 := hb1.size
    clear hrd hd hok hat hb1
    go_wp2_with fail
    refine (isName_any _ _ (by simpa [ByteArray.size] using hx)).mono ?_
    rintro e w2 ⟨rfl, rfl⟩
    rw [toNil]
    cases hn : isNm x with
    | false =>
      have HN := Lib.hid hn
      clear hn
      go_wp2_with fail
      go_ret2
      refine ⟨?_, HB1.out⟩
      rw [HR.out]
      cases rdTerm by_.data.toList with
      | none => rfl
      | some c => simp only [ptO, HN.out]; rfl
    | true =>
      have HN := Lib.hid hn
      clear hn
      go_wp2_with fail
      refine (readTerm_any by_ _ hm2).mono ?_
      rintro e w2 ⟨hb2, ⟨t2, v2, hrd2, rfl, hd2⟩ | ⟨hrd2, rfl⟩⟩
      · obtain ⟨d2, rfl, _⟩ := hd2.shape
        obtain ⟨hok2, hat2⟩ := rdTerm_good _ _ hrd2
        have HR2 := Lib.hid hrd2
        have HD2 := Lib.hid hd2.tm
        have HD1 := Lib.hid (HD.out.below2 hb2)
        have HK2 := Lib.hid hok2
        have HAT2 := Lib.hid hat2
        have HB2 := Lib.hid (HB1.out.trans (hb2.mono hz1))
        have HT2 := Lib.hid (HT1.out.below hb2)
        clear hrd2 hd2 hok2 hat2 hb2
        go_wp2_with fail
        refine (put_any (toDB [] t) x (toDB [] t2) _ _ _ HD1.out HD2.out).mono ?_
        rintro e w3 ⟨b3, rfl, hd3, hb3⟩
        have HD3 := Lib.hid hd3
        have HT3 := Lib.hid (HT2.out.below hb3)
        have HB3 := Lib.hid (HB2.out.trans (hb3.mono HB2.out.size))
        clear hd3 hb3
        go_wp2_with fail
        have hct := canonText_any (putD x (toDB [] t2) (toDB [] t)) (subT t x t2) (toDB_subT t t2 x).symm (fun _ => subT_ok t t2 x HK.out HK2.out HAT.out HAT2.out) (by have := subT_le t t2 x HAT.out HAT2.out; omega) _ w3 HD3.out HT3.out
        have ect : canO (subT t x t2) = ptO x (rdTerm s.data.toList) (rdTerm by_.data.toList) := by
          rw [HR.out, HR2.out]
          show _ = if isNm x = true then _ else _
          rw [if_pos HN.out]
        rw [ect] at hct
        refine hct.mono ?_
        rintro e w4 ⟨rfl, hb4⟩
        have HB4 := Lib.hid (HB3.out.trans (hb4.mono HB3.out.size))
        clear hb4 hct ect
        go_wp2_with fail
        go_ret2
        exact ⟨rfl, HB4.out⟩
      · have HR2 := Lib.hid hrd2
        have HB2 := Lib.hid (HB1.out.trans (hb2.mono hz1))
        clear hrd2 hb2
        go_wp2
        go_ret2
        exact ⟨by rw [HR.out, HR2.out]; rfl, HB2.out⟩
  · have HR := Lib.hid hrd
    clear hrd
    go_wp2
    go_ret2
    exact ⟨by rw [HR.out]; rfl, hb1⟩
end Go.Proofs.YtkomchdmcbdahaaDoor
