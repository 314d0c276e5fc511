/- The model's functions of chapter 3: sizes, what is made, parts, types, counts. -/
import Derived.Test.YtmkjkoelpngicaaME
import Derived.Test.YtmkjkoelpngicaaR0
import Derived.Maps.AppendAt
namespace Go.Proofs.Ytmkjkoelpngicaa
set_option linter.unusedVariables false
open Go.RowKit

set_option maxRecDepth 100000 in
theorem specTypeSize_any (s : ByteArray) (w : World) (hm : s.size ≤ maxLen) :
    Calls Try.prog 37 #[.string s] w fun e w' => e = .returned (.int .i64 (sizeR s.data.toList)) ∧ Below w.heap.size w w' := by
  go_enter Try.func37, Try.ntmps37
  go_wp2_with fail
  refine (l3Type_any s _ hm).mono ?_
  intro e w1 h1
  obtain ⟨x1, A1, n1, c1, q1, rfl, hq1, ht1, hb1⟩ := h1.two
  have hz1 := hb1.size
  have HQ1 := Lib.hid hq1
  have HT1 := Lib.hid ht1
  have HB1 := Lib.hid hb1
  clear h1 hq1 ht1 hb1
  go_wp2_with fail
  refine (l3Bag_any s _ hm).mono ?_
  intro e w2 h2
  obtain ⟨x2, A2, n2, c2, q2, rfl, hq2, ht2, hb2⟩ := h2.two
  have hz2 := hb2.size
  simp at hz2
  have hlt3 : w1.heap.size < w2.heap.size := by omega
  have d0 := (hb2.cell (p := ⟨w1.heap.size, 0, none⟩) (by simp)).trans (show (w1.alloc (.cells #[.string x1, .slice A1 n1 c1] 43)).cell? ⟨w1.heap.size, 0, none⟩ = some (.string x1) by simp)
  have d1 := (hb2.cell (p := ⟨w1.heap.size, 1, none⟩) (by simp)).trans (show (w1.alloc (.cells #[.string x1, .slice A1 n1 c1] 43)).cell? ⟨w1.heap.size, 1, none⟩ = some (.slice A1 n1 c1) by simp)
  have HQ2 := Lib.hid hq2
  have HT2 := Lib.hid ht2
  have HB2 := Lib.hid hb2
  have HW2 := Lib.hid ((HB1.out.alloc hz1 (.cells #[.string x1, .slice A1 n1 c1] 43)).trans (hb2.mono (by simp; omega)))
  clear h2 hq2 ht2 hb2
  cases hr1 : rdTy s.data.toList with
  | some t =>
    have hq : q1 = true := by rw [HQ1.out, hr1]; rfl
    subst hq
    obtain ⟨_, _, _, ha, _, _⟩ := rdTy_spec _ _ hr1
    have hTA : TAt (w2.alloc (.cells #[.string x2, .slice A2 n2 c2] 43)) (fun b => w.heap.size ≤ b ∧ b < w1.heap.size) t (.agg #[.string x1, .slice A1 n1 c1]) :=
      (((HT1.out t hr1).alloc (fun q hq => hq.2) _).below HB2.out (fun q hq => by have := hq.2; simp; omega)).alloc (fun q hq => by have := hq.2; omega) _
    have HC := Lib.hid (l1Atoms_any t _ _ _ hTA (fun q hq => by have := hq.2; simp; omega) (by omega))
    have HR : Hid (sizeR s.data.toList = (trAtoms t : Nat)) := Lib.hid (by unfold sizeR; rw [hr1])
    clear ha hTA hr1
    go_wp2_with fail
    refine HC.out.mono ?_
    rintro e w3 ⟨rfl, hb3⟩
    have HB3 := Lib.hid ((HW2.out.alloc (by omega) (.cells #[.string x2, .slice A2 n2 c2] 43)).trans (hb3.mono (by simp; omega)))
    clear hb3
    go_wp2_with fail
    go_ret
    exact ⟨ret_int (by rw [HR.out]), HB3.out⟩
  | none =>
    have hq : q1 = false := by rw [HQ1.out, hr1]; rfl
    subst hq
    cases hr2 : rdBg s.data.toList with
    | some t =>
      have hq : q2 = true := by rw [HQ2.out, hr2]; rfl
      subst hq
      obtain ⟨_, _, _, ha, _, _⟩ := rdBg_spec _ _ hr2
      have hTA : TAt (w2.alloc (.cells #[.string x2, .slice A2 n2 c2] 43)) _ t (.agg #[.string x2, .slice A2 n2 c2]) := (HT2.out t hr2).alloc (fun q hq => hq.2) _
      have HC := Lib.hid (l1Atoms_any t _ _ _ hTA (fun q hq => by have := hq.2; simp; omega) (by omega))
      have HR : Hid (sizeR s.data.toList = (trAtoms t : Nat)) := Lib.hid (by unfold sizeR; rw [hr1, hr2])
      clear ha hTA hr1 hr2
      go_wp2_with fail
      refine HC.out.mono ?_
      rintro e w3 ⟨rfl, hb3⟩
      have HB3 := Lib.hid ((HW2.out.alloc (by omega) (.cells #[.string x2, .slice A2 n2 c2] 43)).trans (hb3.mono (by simp; omega)))
      clear hb3
      go_wp2_with fail
      go_ret
      exact ⟨ret_int (by rw [HR.out]), HB3.out⟩
    | none =>
      have hq : q2 = false := by rw [HQ2.out, hr2]; rfl
      subst hq
      have HR : Hid (sizeR s.data.toList = -1) := Lib.hid (by unfold sizeR; rw [hr1, hr2])
      clear hr1 hr2
      go_wp2_with fail
      go_ret
      exact ⟨ret_int (by rw [HR.out]), HW2.out.alloc (by omega) _⟩

/-- A text and whether there is one. -/
def txS (o : Option (List UInt8)) (e : Ending) : Prop := e = .returned (.tuple #[.string ⟨(o.getD []).toArray⟩, .bool o.isSome])
theorem mkFn_ba (s u : ByteArray) : ((((⟨#[40, 62, 32]⟩ : ByteArray) ++ s) ++ ⟨#[32]⟩) ++ u) ++ ⟨#[41]⟩ = ⟨(mkFn s.data.toList u.data.toList).toArray⟩ := by
  apply WideShapes.bytes_inj
  simp [mkFn, ByteArray.data_append]

set_option maxRecDepth 100000 in
theorem specTypeMake_any (s u : ByteArray) (w : World) (hm : s.size ≤ 2000000) (hm2 : u.size ≤ 2000000) :
    Calls Try.prog 31 #[.string s, .string u] w fun e w' => txS (mkR s.data.toList u.data.toList) e ∧ Below w.heap.size w w' := by
  have hs1 : s.size ≤ maxLen := by unfold maxLen; omega
  have hs2 : u.size ≤ maxLen := by unfold maxLen; omega
  have HE := Lib.hid (mkFn_ba s u)
  have HF : Hid (∀ w, Calls Try.prog 14 #[.string (((((⟨#[40, 62, 32]⟩ : ByteArray) ++ s) ++ ⟨#[32]⟩) ++ u) ++ ⟨#[41]⟩)] w fun e w' => e = .returned (.bool (rdTy (mkFn s.data.toList u.data.toList)).isSome) ∧ Below w.heap.size w w') := by
    refine Lib.hid fun w => ?_
    rw [HE.out]
    exact specTypeValid_any ⟨(mkFn s.data.toList u.data.toList).toArray⟩ w (by
      have h1 := ba_size s
      have h2 := ba_size u
      simp only [ByteArray.size, maxLen, List.size_toArray, mkFn, List.length_append, List.length_cons, List.length_nil] at *
      omega)
  cases hr1 : rdBg s.data.toList with
  | none =>
    have HR : Hid (mkR s.data.toList u.data.toList = none) := Lib.hid (by unfold mkR; rw [hr1])
    have H1 : Hid (Calls Try.prog 16 #[.string s] w fun e w' => e = .returned (.bool false) ∧ Below w.heap.size w w') := by
      have h := specBagValid_any s w hs1
      rw [hr1] at h
      exact Lib.hid h
    clear hr1
    go_enter Try.func31, Try.ntmps31
    go_wp2_with fail
    refine H1.out.mono ?_
    rintro e w1 ⟨rfl, hb1⟩
    go_wp2_with fail
    go_ret2
    exact ⟨by rw [HR.out]; rfl, hb1⟩
  | some b =>
    have H1 : Hid (Calls Try.prog 16 #[.string s] w fun e w' => e = .returned (.bool true) ∧ Below w.heap.size w w') := by
      have h := specBagValid_any s w hs1
      rw [hr1] at h
      exact Lib.hid h
    cases hr2 : rdTy u.data.toList with
    | none =>
      have HR : Hid (mkR s.data.toList u.data.toList = none) := Lib.hid (by unfold mkR; rw [hr1, hr2])
      have H2 : Hid (∀ w, Calls Try.prog 14 #[.string u] w fun e w' => e = .returned (.bool false) ∧ Below w.heap.size w w') := by
        refine Lib.hid fun w => ?_
        have h := specTypeValid_any u w hs2
        rw [hr2] at h
        exact h
      clear hr1 hr2
      go_enter Try.func31, Try.ntmps31
      go_wp2_with fail
      refine H1.out.mono ?_
      rintro e w1 ⟨rfl, hb1⟩
      have hz1 := hb1.size
      have HB1 := Lib.hid hb1
      clear hb1
      go_wp2_with fail
      refine (H2.out _).mono ?_
      rintro e w2 ⟨rfl, hb2⟩
      have HB2 := Lib.hid (HB1.out.trans (hb2.mono hz1))
      clear hb2
      go_wp2_with fail
      go_ret2
      exact ⟨by rw [HR.out]; rfl, HB2.out⟩
    | some t =>
      have hfn := rdTy_mkFn _ _ b t hr1 hr2
      have H2 : Hid (∀ w, Calls Try.prog 14 #[.string u] w fun e w' => e = .returned (.bool true) ∧ Below w.heap.size w w') := by
        refine Lib.hid fun w => ?_
        have h := specTypeValid_any u w hs2
        rw [hr2] at h
        exact h
      rw [hfn] at HF
      by_cases hle : 1 + trAtoms b + trAtoms t ≤ 200
      · have HR : Hid (mkR s.data.toList u.data.toList = some (mkFn s.data.toList u.data.toList)) := Lib.hid (by unfold mkR; rw [hr1, hr2]; simp only; rw [if_pos hle])
        rw [decide_eq_true hle] at HF
        clear hr1 hr2 hfn hle
        go_enter Try.func31, Try.ntmps31
        go_wp2_with fail
        refine H1.out.mono ?_
        rintro e w1 ⟨rfl, hb1⟩
        have hz1 := hb1.size
        have HB1 := Lib.hid hb1
        clear hb1
        go_wp2_with fail
        refine (H2.out _).mono ?_
        rintro e w2 ⟨rfl, hb2⟩
        have hz2 := hb2.size
        have HB2 := Lib.hid (HB1.out.trans (hb2.mono hz1))
        clear hb2
        go_wp2_with fail
        refine (HF.out _).mono ?_
        rintro e w3 ⟨rfl, hb3⟩
        have HB3 := Lib.hid (HB2.out.trans (hb3.mono (by omega)))
        clear hb3
        go_wp2_with fail
        go_ret2
        refine ⟨?_, HB3.out⟩
        rw [HR.out]
        show _ = Ending.returned (.tuple #[.string ⟨(mkFn s.data.toList u.data.toList).toArray⟩, .bool true])
        rw [← HE.out]
        rfl
      · have HR : Hid (mkR s.data.toList u.data.toList = none) := Lib.hid (by unfold mkR; rw [hr1, hr2]; simp only; rw [if_neg hle])
        rw [decide_eq_false hle] at HF
        clear hr1 hr2 hfn hle
        go_enter Try.func31, Try.ntmps31
        go_wp2_with fail
        refine H1.out.mono ?_
        rintro e w1 ⟨rfl, hb1⟩
        have hz1 := hb1.size
        have HB1 := Lib.hid hb1
        clear hb1
        go_wp2_with fail
        refine (H2.out _).mono ?_
        rintro e w2 ⟨rfl, hb2⟩
        have hz2 := hb2.size
        have HB2 := Lib.hid (HB1.out.trans (hb2.mono hz1))
        clear hb2
        go_wp2_with fail
        refine (HF.out _).mono ?_
        rintro e w3 ⟨rfl, hb3⟩
        have HB3 := Lib.hid (HB2.out.trans (hb3.mono (by omega)))
        clear hb3
        go_wp2_with fail
        go_ret2
        exact ⟨by rw [HR.out]; rfl, HB3.out⟩
end Go.Proofs.Ytmkjkoelpngicaa
