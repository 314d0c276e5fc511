/- A text and a number are answered. The model's TermValid. The model's StepOf, StepMany, NormalOf. The model's StepMany and NormalOf. -/
import Derived.Test.YtjcdclnaplojcaaGreatDoorJ4
import Derived.Test.YtjcdclnaplojcaaGreatDoorG
import Derived.Test.YtjcdclnaplojcaaGreatDoorJ5
import Derived.Test.YtjcdclnaplojcaaGreatDoorJ3
import Derived.Deep.LoopGhost
namespace Go.Proofs.YtjcdclnaplojcaaGreatDoor
set_option linter.unusedVariables false
open Go.RowKit

def tnS : Option (List UInt8 × Nat) → List UInt8
  | some p => p.1
  | none => []
def tnN : Option (List UInt8 × Nat) → Int
  | some p => (p.2 : Int)
  | none => 0
/-- A text and a number, if there is one. -/
def TnPost (o : Option (List UInt8 × Nat)) (w : World) (e : Ending) (w' : World) : Prop :=
  e = .returned (.tuple #[.string ⟨(tnS o).toArray⟩, .int .i64 (tnN o), .bool o.isSome]) ∧ Below w.heap.size w w'
end Go.Proofs.YtjcdclnaplojcaaGreatDoor

namespace Go.Proofs.YtjcdclnaplojcaaGreatDoor
set_option linter.unusedVariables false
open Go.RowKit

theorem specTermValid2_any (s : ByteArray) (w : World) (hm : s.size ≤ maxLen) :
    Calls Tryz.prog 106 #[.string s] w fun e w' => e = .returned (.bool (rdTerm s.data.toList).isSome) ∧ Below w.heap.size w w' := by
  go_enter Tryz.func106, Tryz.ntmps106
  go_wp2_with fail
  refine (l1Term_any s _ hm).mono ?_
  rintro e w1 ⟨hb1, ⟨t, v, hrd, rfl, htr⟩ | ⟨hrd, b, A, n, c, rfl⟩⟩
  · obtain ⟨A, n, c, rfl⟩ := htr.shape
    have HR := Lib.hid hrd
    clear hrd htr
    go_wp2
    go_ret
    exact ⟨ret_bool (by rw [HR.out]; rfl), hb1.alloc hb1.size _⟩
  · have HR := Lib.hid hrd
    clear hrd
    go_wp2
    go_ret
    exact ⟨ret_bool (by rw [HR.out]; rfl), hb1.alloc hb1.size _⟩
end Go.Proofs.YtjcdclnaplojcaaGreatDoor

namespace Go.Proofs.YtjcdclnaplojcaaGreatDoor
set_option linter.unusedVariables false
open Go.RowKit

set_option maxRecDepth 100000 in
set_option maxHeartbeats 2000000 in
theorem specStepOf_any (x : List UInt8) (s : ByteArray) (w : World) (hm : s.size ≤ maxLen) :
    Calls Tryz.prog 109 #[.string ⟨x.toArray⟩, .string s] w (CtPost (stO (rdKind x) (rdTerm s.data.toList)) w) := by
  have CK : Hid (∀ w', _) := Lib.hid (fun w' => l2Kind_any x w')
  go_enter Tryz.func109, Tryz.ntmps109
  go_wp2_with fail
  refine (l1Term_any s _ hm).mono ?_
  rintro e w1 ⟨hb1, ⟨t, v, hrd, rfl, htr⟩ | ⟨hrd, b, A, n, c, rfl⟩⟩
  · obtain ⟨A, n, c, rfl⟩ := htr.shape
    obtain ⟨hok, hat⟩ := rdTerm_good _ _ hrd
    have HR := Lib.hid hrd
    have HT := Lib.hid (htr.alloc (fun q hq => hq.2) (.cells #[.string ⟨(tmTr t).atom.toArray⟩, .slice A n c] 51))
    have HK := Lib.hid hok
    have HA := Lib.hid hat
    have hB : Below w.heap.size w (w1.alloc (.cells #[.string ⟨(tmTr t).atom.toArray⟩, .slice A n c] 51)) := hb1.alloc hb1.size _
    have HB := Lib.hid hB
    have hz := hb1.size
    cases hk : rdKind x with
    | none =>
      have HN := Lib.hid hk
      rw [hk] at CK
      clear hrd htr hok hat hb1 hk hB
      go_wp2_with fail
      refine (CK.out _).mono ?_
      rintro e w2 ⟨rfl, rfl⟩
      simp only [Option.isSome]
      go_wp2_with fail
      go_ret2
      exact ⟨by rw [HN.out]; rfl, HB.out⟩
    | some k =>
      have HN := Lib.hid hk
      rw [hk] at CK
      clear hrd htr hok hat hb1 hk hB
      go_wp2_with fail
      refine (CK.out _).mono ?_
      rintro e w2 ⟨rfl, rfl⟩
      simp only [Option.isSome]
      go_wp2_with fail
      refine (l2Step_any k x HN.out t _ _ _ HK.out HA.out HT.out (fun q hq => by simp; omega)).mono ?_
      rintro e w3 ⟨u, B, p, q, rfl, ht3, hb3⟩
      have hB3 := HB.out.trans (hb3.mono HB.out.size)
      have hlo3 : ∀ b, ((w.heap.size ≤ b ∧ b < w1.heap.size) ∨ (w1.heap.size + 1 ≤ b ∧ b < w3.heap.size)) → b < w3.heap.size := by
        have := hb3.size
        simp only [World.size_alloc] at this
        rintro b (h | h) <;> omega
      have ht3' : TAt w3 (fun b => (w.heap.size ≤ b ∧ b < w1.heap.size) ∨ (w1.heap.size + 1 ≤ b ∧ b < w3.heap.size)) (tmTr (stepR k t).1) (.agg #[.string ⟨u.toArray⟩, .slice B p q]) := ht3.mono fun b hb => ⟨by simpa using hb, fun _ => rfl⟩
      have ht4 := ht3'.alloc hlo3 (.cells #[.string ⟨u.toArray⟩, .slice B p q] 51)
      have hbx := Blk.new w3 51 #[.string ⟨u.toArray⟩, .slice B p q]
      have x0 := hbx.cell 0
      have x1 := hbx.cell 1
      have xl := hbx.lt
      simp only [List.getElem?_toArray, List.getElem?_cons_zero, List.getElem?_cons_succ] at x0 x1
      have hB4 := hB3.alloc hB3.size (.cells #[.string ⟨u.toArray⟩, .slice B p q] 51)
      have HB4 := Lib.hid hB4
      have HT4 := Lib.hid ht4
      have HL3 := Lib.hid hlo3
      have hsa := stepR_atoms k t
      have hsk := Lib.hid (stepR_ok k t HK.out HA.out)
      have HE : Hid (stO (some k) (some t) = if (stepR k t).2 = 1 then (if (stepR k t).1.atoms ≤ 400 then some (canT (stepR k t).1) else none) else none) := Lib.hid rfl
      clear ht3 ht3' ht4 hb3 hB3 hlo3 hB4 hbx
      generalize stepR k t = rr at HT4 hsa hsk HE ⊢
      obtain ⟨r, nn⟩ := rr
      simp only at hsa
      by_cases h1 : nn = 1
      · subst h1
        have hro := Lib.hid (hsk.out rfl)
        have hsh := wrTm_short r hro.out
        have hat2 := HA.out
        have HTX := Lib.hid (l1Text_any (tmTr r) _ _ _ HT4.out (fun b hb => by have := HL3.out b hb; simp; omega) (by rw [wrTr_tm r hro.out]; omega))
        rw [wrTr_tm r hro.out] at HTX
        have hs2 : (⟨(wrTm r).toArray⟩ : ByteArray).size ≤ maxLen := by simp only [ByteArray.size, List.size_toArray]; unfold maxLen; omega
        go_wp2_with fail
        refine HTX.out.mono ?_
        rintro e w5 ⟨rfl, hb5⟩
        have HB5 := Lib.hid (HB4.out.trans (hb5.mono HB4.out.size))
        clear hb5
        go_wp2_with fail
        refine (specTermCanon_any _ w5 hs2).mono ?_
        rintro e w6 ⟨rfl, hb6⟩
        have HB6 := Lib.hid (HB5.out.trans (hb6.mono HB5.out.size))
        have hq : cnO (rdTerm (⟨(wrTm r).toArray⟩ : ByteArray).data.toList) = if r.atoms ≤ 400 then some (canT r) else none := by
          show cnO (rdTerm (wrTm r)) = _
          rw [rdTerm_wr r hro.out]
          split <;> rfl
        have HE2 : Hid (stO (some k) (some t) = cnO (rdTerm (⟨(wrTm r).toArray⟩ : ByteArray).data.toList)) := Lib.hid (by rw [HE.out, hq]; rfl)
        clear hb6 hq
        generalize cnO (rdTerm (⟨(wrTm r).toArray⟩ : ByteArray).data.toList) = oo at HE2 ⊢
        go_wp2_with fail
        go_ret2
        exact ⟨by rw [HN.out, HR.out, HE2.out]; rfl, HB6.out⟩
      · have hne : ((nn : Int) != 1) = true := by
          simp only [bne_iff_ne, ne_eq]
          omega
        have hne2 : ¬ (nn : Int) = 1 := by omega
        have HE2 : Hid (stO (some k) (some t) = none) := Lib.hid (by rw [HE.out]; simp only [h1, if_false])
        go_wp2_with fail
        go_ret2
        exact ⟨by rw [HN.out, HR.out, HE2.out]; rfl, HB4.out⟩
  · have HR := Lib.hid hrd
    have HE : Hid (stO (rdKind x) (rdTerm s.data.toList) = none) := Lib.hid (by rw [hrd]; cases rdKind x <;> rfl)
    clear hrd
    go_wp2
    go_ret2
    exact ⟨by rw [HE.out]; rfl, hb1.alloc hb1.size _⟩
end Go.Proofs.YtjcdclnaplojcaaGreatDoor

namespace Go.Proofs.YtjcdclnaplojcaaGreatDoor
set_option linter.unusedVariables false
open Go.RowKit

theorem text_size (t : Tm) (hok : t.ok) (hat : t.atoms ≤ 400) : (⟨(wrTm t).toArray⟩ : ByteArray).size ≤ maxLen := by
  have := wrTm_short t hok
  simp only [ByteArray.size, List.size_toArray]
  unfold maxLen
  omega
theorem text_read (t : Tm) (hok : t.ok) (hat : t.atoms ≤ 400) : rdTerm (⟨(wrTm t).toArray⟩ : ByteArray).data.toList = some t := by
  show rdTerm (wrTm t) = some t
  rw [rdTerm_wr t hok, if_pos hat]
/-- On the way of many steps. -/
structure MmR (k : Bool) (n : Nat) (t : Tm) (w : World) (i : Nat) (u : Tm) (wr : World) : Prop where
  below : Below w.heap.size w wr
  walk : Walk k n t i u
  ok : u.ok
  at_ : u.atoms ≤ 400

set_option maxRecDepth 100000 in
set_option maxHeartbeats 2000000 in
theorem stepMany_some (k : Bool) (x : List UInt8) (hk : rdKind x = some k) (t : Tm) (hok : t.ok) (hat : t.atoms ≤ 400) (n : Nat) (hn : n ≤ 200) (w : World) :
    Calls Tryz.prog 73 #[.string ⟨x.toArray⟩, .string ⟨(wrTm t).toArray⟩, .int .i64 n] w (TnPost (some (wrTm (manyT k n t).1, (manyT k n t).2)) w) := by
  have CV := Lib.hid (specTermValid2_any ⟨(wrTm t).toArray⟩ w (text_size t hok hat))
  rw [text_read t hok hat] at CV
  have CK : Hid (∀ w', _) := Lib.hid (fun w' => l2Kind_any x w')
  rw [hk] at CK
  have CI : Hid (∀ w', _) := Lib.hid (fun w' => l6In_any (n : Int) 0 200 w')
  have e0 : decide ((0 : Int) ≤ (n : Int) ∧ (n : Int) ≤ 200) = true := decide_eq_true ⟨by omega, by omega⟩
  rw [e0] at CI
  have HK := Lib.hid hk
  have K0 : Hid (∀ w', Below w.heap.size w w' → MmR k n t w 0 t w') := Lib.hid (fun w' h => ⟨h, Walk.start k n t, hok, hat⟩)
  clear hk hok hat e0
  go_enter Tryz.func73, Tryz.ntmps73
  go_wp2_with fail
  refine CV.out.mono ?_
  rintro e w1 ⟨rfl, hb1⟩
  have HB1 := Lib.hid hb1
  clear hb1
  simp only [Option.isSome]
  go_wp2_with fail
  refine (CK.out _).mono ?_
  rintro e w2 ⟨rfl, rfl⟩
  simp only [Option.isSome]
  go_wp2_with fail
  refine (CI.out _).mono ?_
  rintro e w3 ⟨rfl, rfl⟩
  go_wp2_with fail
  go_loopg [1, 9] n (fun q sv kv wr => ∃ i u, q = n - i ∧ sv = .string ⟨(wrTm u).toArray⟩ ∧ kv = .int .i64 ((i : Nat) : Int) ∧ i ≤ n ∧ Hid (MmR k n t w i u wr))
  case atStart => exact ⟨0, t, rfl, rfl, rfl, Nat.zero_le _, Lib.hid (K0.out _ HB1.out)⟩
  case round =>
    obtain ⟨i, u, hq, rfl, rfl, hi, HR⟩ := hrel
    have HQ := Lib.hid hq
    clear hq K0
    by_cases hlt : i < n
    · have hc : decide ((i : Int) < (n : Int)) = true := decide_eq_true (by omega)
      have hlt' : (i : Int) < (n : Int) := by omega
      have C := Lib.hid (specStepOf_any x ⟨(wrTm u).toArray⟩ wr (text_size u HR.out.ok HR.out.at_))
      rw [HK.out, text_read u HR.out.ok HR.out.at_] at C
      have hst : stO (some k) (some u) = nextT k u := rfl
      rw [hst] at C
      cases hn1 : nextT k u with
      | none =>
        have HW := Lib.hid (HR.out.walk.stop hn1)
        rw [hn1] at C
        clear hn1 hst
        go_wp2_with fail
        refine C.out.mono ?_
        rintro e w4 ⟨rfl, hb4⟩
        have HB := Lib.hid (HR.out.below.trans (hb4.mono HR.out.below.size))
        clear hb4
        simp only [Option.isSome]
        go_wp2_with fail
        refine bodyPost_ret (v := .tuple #[.string ⟨(wrTm u).toArray⟩, .int .i64 i, .bool true]) (by simp [results, Tryz.results73, go_sem]) rfl ?_
        exact ⟨by rw [HW.out]; rfl, HB.out⟩
      | some o =>
        obtain ⟨g1, g2⟩ := next_good k u HR.out.ok HR.out.at_ o hn1
        have hw1 := HR.out.walk.next hlt hn1
        rw [hn1] at C
        have e1 : IntKind.i64.wrap ((i : Int) + 1) = ((i + 1 : Nat) : Int) := by rw [IntWalk.i64_in _ (by omega)]; omega
        have HS : Hid (∀ w4, Below wr.heap.size wr w4 → MmR k n t w (i + 1) o w4) := Lib.hid (fun w4 hb4 => ⟨HR.out.below.trans (hb4.mono HR.out.below.size), hw1, g1, g2⟩)
        clear hn1 hst g1 g2 hw1
        go_wp2_with fail
        refine C.out.mono ?_
        rintro e w4 ⟨rfl, hb4⟩
        have HN := Lib.hid (HS.out w4 hb4)
        clear hb4
        simp only [Option.isSome, ctS]
        go_wp2_with fail
        go_roundg (n - (i + 1))
        case rel => exact ⟨i + 1, o, rfl, rfl, by go_num, by omega, HN⟩
        case measure => have := HQ.out; omega
    · have hi2 : i = n := by omega
      subst hi2
      have hc : decide ((i : Int) < (i : Int)) = false := decide_eq_false (by omega)
      have HW := Lib.hid HR.out.walk.full
      go_wp2_with fail
      refine bodyPost_ret (v := .tuple #[.string ⟨(wrTm u).toArray⟩, .int .i64 i, .bool true]) (by simp [results, Tryz.results73, go_sem]) rfl ?_
      exact ⟨by rw [HW.out]; rfl, HR.out.below⟩
set_option maxRecDepth 100000 in
set_option maxHeartbeats 1000000 in
theorem specStepMany_any (x : List UInt8) (s : ByteArray) (n : Int) (w : World) (hm : s.size ≤ maxLen) :
    Calls Tryz.prog 73 #[.string ⟨x.toArray⟩, .string s, .int .i64 n] w (TnPost (smO (rdKind x) (rdTerm s.data.toList) n) w) := by
  by_cases hall : ∃ k t m, rdKind x = some k ∧ rdTerm s.data.toList = some t ∧ n = ((m : Nat) : Int) ∧ m ≤ 200
  · obtain ⟨k, t, m, hk, hrd, rfl, hmn⟩ := hall
    obtain ⟨hok, hat⟩ := rdTerm_good _ _ hrd
    have hs : s = ⟨(wrTm t).toArray⟩ := by rw [← wr_rdTerm _ _ hrd]
    have he : smO (rdKind x) (rdTerm s.data.toList) ((m : Nat) : Int) = some (wrTm (manyT k m t).1, (manyT k m t).2) := by
      rw [hk, hrd]
      simp only [smO]
      rw [if_pos (by omega)]
      rfl
    rw [he]
    have := stepMany_some k x hk t hok hat m hmn w
    rw [← hs] at this
    exact this
  · have he : smO (rdKind x) (rdTerm s.data.toList) n = none := by
      cases hk : rdKind x with
      | none => rfl
      | some k =>
        cases hrd : rdTerm s.data.toList with
        | none => rfl
        | some t =>
          simp only [smO]
          rw [if_neg]
          rintro ⟨h1, h2⟩
          exact hall ⟨k, t, n.toNat, hk, hrd, by omega, by omega⟩
    rw [he]
    have HA := Lib.hid hall
    have CV := Lib.hid (specTermValid2_any s w hm)
    have CK : Hid (∀ w', _) := Lib.hid (fun w' => l2Kind_any x w')
    have CI : Hid (∀ w', _) := Lib.hid (fun w' => l6In_any n 0 200 w')
    clear hall he
    cases hrd : rdTerm s.data.toList with
    | none =>
      rw [hrd] at CV
      clear hrd HA
      go_enter Tryz.func73, Tryz.ntmps73
      go_wp2_with fail
      refine CV.out.mono ?_
      rintro e w1 ⟨rfl, hb1⟩
      simp only [Option.isSome]
      go_wp2_with fail
      refine bodyPost_ret (v := .tuple #[.string ⟨#[]⟩, .int .i64 0, .bool false]) (by simp [results, Tryz.results73, go_sem]) rfl ?_
      exact ⟨rfl, hb1⟩
    | some t =>
      rw [hrd] at CV
      cases hk : rdKind x with
      | none =>
        rw [hk] at CK
        clear hrd HA hk
        go_enter Tryz.func73, Tryz.ntmps73
        go_wp2_with fail
        refine CV.out.mono ?_
        rintro e w1 ⟨rfl, hb1⟩
        simp only [Option.isSome]
        go_wp2_with fail
        refine (CK.out _).mono ?_
        rintro e w2 ⟨rfl, rfl⟩
        simp only [Option.isSome]
        go_wp2_with fail
        refine bodyPost_ret (v := .tuple #[.string ⟨#[]⟩, .int .i64 0, .bool false]) (by simp [results, Tryz.results73, go_sem]) rfl ?_
        exact ⟨rfl, hb1⟩
      | some k =>
        rw [hk] at CK
        have hf : decide (0 ≤ n ∧ n ≤ 200) = false := decide_eq_false (fun h => HA.out ⟨k, t, n.toNat, hk, hrd, by omega, by omega⟩)
        rw [hf] at CI
        clear hrd HA hk hf
        go_enter Tryz.func73, Tryz.ntmps73
        go_wp2_with fail
        refine CV.out.mono ?_
        rintro e w1 ⟨rfl, hb1⟩
        simp only [Option.isSome]
        go_wp2_with fail
        refine (CK.out _).mono ?_
        rintro e w2 ⟨rfl, rfl⟩
        simp only [Option.isSome]
        go_wp2_with fail
        refine (CI.out _).mono ?_
        rintro e w3 ⟨rfl, rfl⟩
        go_wp2_with fail
        refine bodyPost_ret (v := .tuple #[.string ⟨#[]⟩, .int .i64 0, .bool false]) (by simp [results, Tryz.results73, go_sem]) rfl ?_
        exact ⟨rfl, hb1⟩

set_option maxRecDepth 100000 in
set_option maxHeartbeats 1000000 in
theorem specNormalOf_any (x : List UInt8) (s : ByteArray) (w : World) (hm : s.size ≤ maxLen) :
    Calls Tryz.prog 41 #[.string ⟨x.toArray⟩, .string s] w (TnPost (noO (rdKind x) (rdTerm s.data.toList)) w) := by
  have C1 := Lib.hid (specStepMany_any x s 200 w hm)
  by_cases hno : rdKind x = none ∨ rdTerm s.data.toList = none
  · have HE := Lib.hid (noO_no _ _ hno)
    rw [smO_no _ _ 200 hno] at C1
    clear hno
    go_enter Tryz.func41, Tryz.ntmps41
    go_wp2_with fail
    refine C1.out.mono ?_
    rintro e w1 ⟨rfl, hb1⟩
    simp only [Option.isSome, tnS, tnN]
    go_wp2_with fail
    refine bodyPost_ret (v := .tuple #[.string ⟨#[]⟩, .int .i64 0, .bool false]) (by simp [results, Tryz.results41, go_sem]) rfl ?_
    exact ⟨by rw [HE.out]; rfl, hb1⟩
  · obtain ⟨k, hk⟩ : ∃ k, rdKind x = some k := Option.ne_none_iff_exists'.1 (fun h => hno (.inl h))
    obtain ⟨t, hrd⟩ : ∃ t, rdTerm s.data.toList = some t := Option.ne_none_iff_exists'.1 (fun h => hno (.inr h))
    obtain ⟨hok, hat⟩ := rdTerm_good _ _ hrd
    obtain ⟨g1, g2⟩ := many_good k 200 t hok hat
    have hsm : smO (rdKind x) (rdTerm s.data.toList) 200 = some (wrTm (manyT k 200 t).1, (manyT k 200 t).2) := by
      rw [hk, hrd]
      simp only [smO]
      rw [if_pos (by omega)]
      rfl
    rw [hsm] at C1
    have HE : Hid (noO (rdKind x) (rdTerm s.data.toList) = if (stepR k (manyT k 200 t).1).2 = 0 then some (wrTm (canT (manyT k 200 t).1), (manyT k 200 t).2) else none) := Lib.hid (by
      rw [hk, hrd]
      simp only [noO, noT]
      split <;> rfl)
    have CN : Hid (∀ w', _) := Lib.hid (fun w' => specNormalIs_any x ⟨(wrTm (manyT k 200 t).1).toArray⟩ w' (text_size _ g1 g2))
    have CC : Hid (∀ w', _) := Lib.hid (fun w' => specTermCanon_any ⟨(wrTm (manyT k 200 t).1).toArray⟩ w' (text_size _ g1 g2))
    rw [text_read _ g1 g2, hk] at CN
    rw [text_read _ g1 g2] at CC
    clear hno hk hrd hok hat g1 g2 hsm
    unfold TnPost at C1
    simp only [tnS, tnN] at C1
    generalize manyT k 200 t = mm at C1 HE CN CC
    obtain ⟨u, nn⟩ := mm
    have hnm : nmO (some k) (some u) = decide ((stepR k u).2 = 0) := rfl
    rw [hnm] at CN
    clear hnm
    by_cases h0 : (stepR k u).2 = 0
    · simp only [h0, if_true] at HE
      rw [decide_eq_true h0] at CN
      clear h0
      go_enter Tryz.func41, Tryz.ntmps41
      go_wp2_with fail
      refine C1.out.mono ?_
      rintro e w1 ⟨rfl, hb1⟩
      simp only [Option.isSome]
      go_wp2_with fail
      refine (CN.out _).mono ?_
      rintro e w2 ⟨rfl, hb2⟩
      have HB2 := Lib.hid (hb1.trans (hb2.mono hb1.size))
      clear hb1 hb2
      go_wp2_with fail
      refine (CC.out _).mono ?_
      rintro e w3 ⟨rfl, hb3⟩
      have HB3 := Lib.hid (HB2.out.trans (hb3.mono HB2.out.size))
      clear hb3
      simp only [cnO, Option.map_some, ctS, Option.isSome]
      go_wp2_with fail
      refine bodyPost_ret (v := .tuple #[.string ⟨(wrTm (canT u)).toArray⟩, .int .i64 nn, .bool true]) (by simp [results, Tryz.results41, go_sem]) rfl ?_
      exact ⟨by rw [HE.out]; rfl, HB3.out⟩
    · simp only [h0, if_false] at HE
      rw [decide_eq_false h0] at CN
      clear h0
      go_enter Tryz.func41, Tryz.ntmps41
      go_wp2_with fail
      refine C1.out.mono ?_
      rintro e w1 ⟨rfl, hb1⟩
      simp only [Option.isSome]
      go_wp2_with fail
      refine (CN.out _).mono ?_
      rintro e w2 ⟨rfl, hb2⟩
      have HB2 := Lib.hid (hb1.trans (hb2.mono hb1.size))
      clear hb1 hb2
      go_wp2_with fail
      refine bodyPost_ret (v := .tuple #[.string ⟨#[]⟩, .int .i64 0, .bool false]) (by simp [results, Tryz.results41, go_sem]) rfl ?_
      exact ⟨by rw [HE.out]; rfl, HB2.out⟩
end Go.Proofs.YtjcdclnaplojcaaGreatDoor

