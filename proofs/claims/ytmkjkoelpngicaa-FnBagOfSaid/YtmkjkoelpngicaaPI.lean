/- The program's functions of chapter 3. -/
import Derived.Test.YtmkjkoelpngicaaPN
import Derived.Test.YtmkjkoelpngicaaRS
namespace Go.Proofs.Ytmkjkoelpngicaa
set_option linter.unusedVariables false
open Go.RowKit Go.Maps

theorem implTypeValid_any (s : ByteArray) (w : World) (hm : s.size ≤ maxLen) :
    Calls Try.prog 15 #[.string s] w fun e w' => e = .returned (.bool (rdTy s.data.toList).isSome) ∧ Below w.heap.size w w' := by
  go_enter Try.func15, Try.ntmps15
  go_wp2_with fail
  refine (readType_any s _ hm).mono ?_
  rintro e w1 ⟨hb, ⟨hr, rfl⟩ | ⟨hr, rfl⟩⟩
  · have HR := Lib.hid hr
    clear hr
    go_wp2_with fail
    go_ret
    exact ⟨ret_bool (by rw [HR.out]), hb⟩
  · have HR := Lib.hid hr
    clear hr
    go_wp2_with fail
    go_ret
    exact ⟨ret_bool (by rw [HR.out]; rfl), hb⟩
theorem implBagValid_any (s : ByteArray) (w : World) (hm : s.size ≤ maxLen) :
    Calls Try.prog 17 #[.string s] w fun e w' => e = .returned (.bool (rdBg s.data.toList).isSome) ∧ Below w.heap.size w w' := by
  go_enter Try.func17, Try.ntmps17
  go_wp2_with fail
  refine (readBag_any s _ hm).mono ?_
  rintro e w1 ⟨hb, ⟨t, b, hr, rfl, _, _⟩ | ⟨hr, rfl⟩⟩
  · have HR := Lib.hid hr
    clear hr
    go_wp2_with fail
    go_ret
    exact ⟨ret_bool (by rw [HR.out]; rfl), hb⟩
  · have HR := Lib.hid hr
    clear hr
    go_wp2_with fail
    go_ret
    exact ⟨ret_bool (by rw [HR.out]; rfl), hb⟩

/-- A text and whether there is one. -/
def txR (o : Option (List UInt8)) (e : Ending) : Prop := e = .returned (.tuple #[.string ⟨(o.getD []).toArray⟩, .bool o.isSome])
theorem txR.none : txR none (.returned (.tuple #[.string ⟨#[]⟩, .bool false])) := rfl
theorem txR.some (x : List UInt8) : txR (some x) (.returned (.tuple #[.string ⟨x.toArray⟩, .bool true])) := rfl
theorem bgOf_small (L : List (List UInt8)) (h : ∀ x ∈ L, (rdTy x).isSome = true) {w w' : World} {e : Ending} (hp : StPost L w e w') : txR (bgOf L) e := by
  rcases hp.2 with ⟨h1, rfl⟩ | ⟨h1, rfl⟩
  · unfold bgOf
    rw [if_pos ⟨(all_types L).2 h, h1⟩]
    rfl
  · unfold bgOf
    rw [if_neg (fun hc => by omega)]
    rfl
theorem StPost.shape {L : List (List UInt8)} {w w' : World} {e : Ending} (hp : StPost L w e w') : ∃ x q, e = .returned (.tuple #[.string x, .bool q]) := by
  rcases hp.2 with ⟨_, rfl⟩ | ⟨_, rfl⟩
  · exact ⟨_, _, rfl⟩
  · exact ⟨_, _, rfl⟩

set_option maxRecDepth 100000 in
theorem implBagSum_any (s u : ByteArray) (w : World) (hm : s.size ≤ maxLen) (hm2 : u.size ≤ maxLen) :
    Calls Try.prog 28 #[.string s, .string u] w fun e w' => txR (sumR s.data.toList u.data.toList) e ∧ Below w.heap.size w w' := by
  go_enter Try.func28, Try.ntmps28
  go_wp2_with fail
  refine (readBag_any s _ hm).mono ?_
  rintro e w1 ⟨hb1, ⟨t1, b1, hr1, rfl, hge1, hbag1⟩ | ⟨hr1, rfl⟩⟩
  · have hz1 := hb1.size
    have hlt1 := hbag1.lt
    have HR1 := Lib.hid hr1
    have HB1 := Lib.hid hb1
    have HG1 := Lib.hid hbag1
    clear hr1 hb1 hbag1
    go_wp2_with fail
    refine (readBag_any u _ hm2).mono ?_
    rintro e w2 ⟨hb2, ⟨t2, b2, hr2, rfl, hge2, hbag2⟩ | ⟨hr2, rfl⟩⟩
    · have hz2 := hb2.size
      have HR2 := Lib.hid hr2
      have HB2 := Lib.hid (HB1.out.trans (hb2.mono hz1))
      obtain ⟨_, _, _, ht1, _, _, _, hl1⟩ := bg_short _ _ HR1.out
      obtain ⟨_, _, _, ht2, _, _, _, hl2⟩ := bg_short _ _ hr2
      have HA := Lib.hid (bagAdd_any b1 b2 (by omega) (bagL t1) (bagL t2) w2 (HG1.out.below hb2 hlt1) hbag2 (fun x hx => by have := (ty_short x (ht2 x hx)).1; omega) (by omega) (by omega))
      have HT : Hid (∀ x ∈ bagL t1 ++ bagL t2, (rdTy x).isSome = true) := Lib.hid fun x hx => by
        rcases List.mem_append.1 hx with h | h
        · exact ht1 x h
        · exact ht2 x h
      have hll : (bagL t1 ++ bagL t2).length ≤ 400 := by rw [List.length_append]; omega
      have HLL := Lib.hid hll
      clear hr2 hb2 hbag2 ht1 ht2 hl1 hl2 hll
      go_wp2_with fail
      refine HA.out.mono ?_
      rintro e w3 ⟨rfl, hbag3, hg3⟩
      have hz3 := hg3.size
      have HB3 := Lib.hid (HB2.out.grown hg3 (by omega) (fun k e => by injection e with e; omega))
      have HS := Lib.hid (smallText_any b1 (bagL t1 ++ bagL t2) w3 hbag3 (fun x hx => by have := (ty_short x (HT.out x hx)).1; omega) HT.out (by have := HLL.out; omega) (by have := sum_bound _ HT.out; have := HLL.out; omega))
      clear hbag3 hg3
      go_wp2_with fail
      refine HS.out.mono ?_
      intro e w4 hp
      obtain ⟨x, q, rfl⟩ := hp.shape
      have HX : Hid (txR (sumR s.data.toList u.data.toList) (.returned (.tuple #[.string x, .bool q]))) := by
        refine Lib.hid ?_
        unfold sumR
        rw [HR1.out, HR2.out]
        exact bgOf_small _ HT.out hp
      have HB4 := Lib.hid (HB3.out.trans (hp.1.mono (by omega)))
      clear hp
      go_wp2_with fail
      go_ret2
      exact ⟨HX.out, HB4.out⟩
    · have HR2 := Lib.hid hr2
      have HB2 := Lib.hid (HB1.out.trans (hb2.mono hz1))
      clear hr2 hb2
      go_wp2_with fail
      go_ret2
      refine ⟨?_, HB2.out⟩
      unfold sumR
      rw [HR1.out, HR2.out]
      exact txR.none
  · have HR1 := Lib.hid hr1
    have HB1 := Lib.hid hb1
    clear hr1 hb1
    go_wp2_with fail
    go_ret2
    refine ⟨?_, HB1.out⟩
    unfold sumR
    rw [HR1.out]
    exact txR.none

set_option maxRecDepth 100000 in
theorem implBagCount_any (s u : ByteArray) (w : World) (hm : s.size ≤ maxLen) (hm2 : u.size ≤ maxLen) :
    Calls Try.prog 30 #[.string s, .string u] w fun e w' => e = .returned (.int .i64 (cntR s.data.toList u.data.toList)) ∧ Below w.heap.size w w' := by
  go_enter Try.func30, Try.ntmps30
  go_wp2_with fail
  refine (readBagAndType_any s u _ hm hm2).mono ?_
  rintro e w1 ⟨hb1, ⟨t, b, hr, hty, rfl, hge, hbag⟩ | ⟨hr, m, rfl⟩⟩
  · obtain ⟨D, hown, hc⟩ := hbag
    have HR := Lib.hid hr
    have HTY := Lib.hid hty
    have HB := Lib.hid hb1
    have HO := Lib.hid hown
    have hul := (ty_short _ hty).1
    have HK := Lib.hid (keyT u.data.toList (by unfold maxLen; omega))
    have HA : Hid (∀ c : Int, D.atKey (.string u.data.toList) (.lit (.int .i64 0)) = .lit (.int .i64 c) → c = (((bagL t).count u.data.toList : Nat) : Int)) := by
      refine Lib.hid fun c h => ?_
      have h2 := (hc.at_ u.data.toList).symm.trans h
      injection h2 with h2
      injection h2 with _ h2
      exact h2.symm
    clear hr hty hb1 hown hc
    go_wp2_with (first
      | (at_lookup; refine wpList_lookup_own_int _ rfl _ _ 50 rfl 46 3 .i64 lawT Try.underlying50 Try.underlying3 (zeroI _) b _ D rfl HO.out _ _ rfl HK.out ?_; intro c hat hwc; obtain rfl := HA.out c hat))
    go_ret
    refine ⟨ret_int ?_, HB.out⟩
    unfold cntR
    rw [HR.out]
    simp only
    rw [if_pos HTY.out]
  · have HR := Lib.hid hr
    clear hr
    go_wp2_with fail
    go_ret
    refine ⟨ret_int ?_, hb1⟩
    unfold cntR
    rcases HR.out with h | h
    · rw [h]
    · cases rdBg s.data.toList with
      | none => rfl
      | some t => simp only; rw [h]; rfl

theorem implTypeMake_any (s u : ByteArray) (w : World) (hm : s.size ≤ maxLen) (hm2 : u.size ≤ maxLen) :
    Calls Try.prog 32 #[.string s, .string u] w fun e w' => txR (mkR s.data.toList u.data.toList) e ∧ Below w.heap.size w w' := by
  go_enter Try.func32, Try.ntmps32
  go_wp2_with fail
  refine (readBagAndType_any s u _ hm hm2).mono ?_
  rintro e w1 ⟨hb1, ⟨t, b, hr, hty, rfl, hge, hbag⟩ | ⟨hr, m, rfl⟩⟩
  · obtain ⟨hsl, hsn, _, _, _, hst, _, _⟩ := bg_short _ _ hr
    obtain ⟨v, hv⟩ := Option.isSome_iff_exists.1 hty
    have hul := (ty_short _ hty).1
    have hun := ty_num _ _ hv
    have hz1 := hb1.size
    obtain ⟨T, hT⟩ : ∃ T, tyN (mkFn s.data.toList u.data.toList) = T := ⟨_, rfl⟩
    have hTe : T = 1 + trAtoms t + trAtoms v := by rw [← hT, mkFn_num, hsn, hun]
    have HF : Hid (Calls Try.prog 52 #[.map (some b), .string u] w1 fun e w' => e = .returned (.string ⟨(mkFn s.data.toList u.data.toList).toArray⟩) ∧ Below w1.heap.size w1 w') := by
      have h := functions_any b (bagL t) u.data.toList w1 hbag (by rw [hst]; omega) (by omega)
      rw [hst] at h
      exact Lib.hid h
    have hfl : (mkFn s.data.toList u.data.toList).length ≤ 8000 := by unfold mkFn; simp only [List.length_append, List.length_cons, List.length_nil]; omega
    have HC : Hid (∀ w, Calls Try.prog 53 #[.string ⟨(mkFn s.data.toList u.data.toList).toArray⟩] w fun e w' => e = .returned (.int .i64 (T : Nat)) ∧ w = w') := by
      refine Lib.hid fun w => ?_
      have h := tyCount_any ⟨(mkFn s.data.toList u.data.toList).toArray⟩ w (by simpa [ByteArray.size] using hfl)
      have e : (⟨(mkFn s.data.toList u.data.toList).toArray⟩ : ByteArray).data.toList = mkFn s.data.toList u.data.toList := rfl
      rw [e, hT] at h
      exact h
    have HR := Lib.hid hr
    have HV := Lib.hid hv
    have HB := Lib.hid hb1
    have HTE := Lib.hid hTe
    clear hr hty hb1 hbag hv hT hTe hsl hsn hst hul hun hfl
    by_cases hle : T ≤ 200
    · have hd : ¬ ((200 : Int) < (T : Int)) := by omega
      go_wp2_with fail
      refine HF.out.mono ?_
      rintro e w2 ⟨rfl, hb2⟩
      have HB2 := Lib.hid (HB.out.trans (hb2.mono hz1))
      clear hb2
      go_wp2_with fail
      refine (HC.out _).mono ?_
      rintro e w3 ⟨rfl, rfl⟩
      go_wp2_with fail
      go_ret2
      refine ⟨?_, HB2.out⟩
      unfold mkR
      rw [HR.out, HV.out]
      simp only
      rw [if_pos (by have := HTE.out; omega)]
      exact txR.some _
    · have hd : ((200 : Int) < (T : Int)) := by omega
      go_wp2_with fail
      refine HF.out.mono ?_
      rintro e w2 ⟨rfl, hb2⟩
      have HB2 := Lib.hid (HB.out.trans (hb2.mono hz1))
      clear hb2
      go_wp2_with fail
      refine (HC.out _).mono ?_
      rintro e w3 ⟨rfl, rfl⟩
      go_wp2_with fail
      go_ret2
      refine ⟨?_, HB2.out⟩
      unfold mkR
      rw [HR.out, HV.out]
      simp only
      rw [if_neg (by have := HTE.out; omega)]
      exact txR.none
  · have HR := Lib.hid hr
    clear hr
    go_wp2_with fail
    go_ret2
    refine ⟨?_, hb1⟩
    unfold mkR
    rcases HR.out with h | h
    · rw [h]; exact txR.none
    · cases rdBg s.data.toList with
      | none => exact txR.none
      | some t => simp only; rw [h]; exact txR.none

/-- Two texts and whether there are such. -/
def tx2R (o : Option (List UInt8 × List UInt8)) (e : Ending) : Prop := e = .returned (.tuple #[.string ⟨((o.map (·.1)).getD []).toArray⟩, .string ⟨((o.map (·.2)).getD []).toArray⟩, .bool o.isSome])
theorem implTypeParts_any (s : ByteArray) (w : World) (hm : s.size ≤ maxLen) :
    Calls Try.prog 34 #[.string s] w fun e w' => tx2R (partsR s.data.toList) e ∧ Below w.heap.size w w' := by
  go_enter Try.func34, Try.ntmps34
  go_wp2_with fail
  refine (readFunctions_any s _ hm).mono ?_
  rintro e w1 ⟨hb1, ⟨bt, tt, b, hr, rfl, hge, hbag⟩ | ⟨hr, m, rfl⟩⟩
  · obtain ⟨_, hw, hi, ha, he, ho⟩ := rdTy_spec _ _ hr
    obtain ⟨b', t', hps, ib, it, wb, wt⟩ := fn_form _ hw hi
    injection hps with _ hps
    injection hps with h1 hps
    injection hps with h2 _
    subst h1 h2
    have hbt := bag_text bt wb ib
    have hlen : (wrTr bt).length ≤ 100000 := by
      have := ho.len
      rw [wr_fn] at this
      unfold mkFn at this
      simp only [List.length_append] at this
      omega
    have HX := Lib.hid (bagText_any b (bagL bt) w1 hbag (by rw [hbt]; exact hlen))
    have hz1 := hb1.size
    have HR := Lib.hid hr
    have HB := Lib.hid hb1
    have HBT := Lib.hid hbt
    clear hr hw hi ha he ho ib it wb wt hbt hlen hbag hb1
    go_wp2_with fail
    refine HX.out.mono ?_
    rintro e w2 ⟨rfl, hb2⟩
    have HB2 := Lib.hid (HB.out.trans (hb2.mono hz1))
    clear hb2
    go_wp2_with fail
    go_ret3
    refine ⟨?_, HB2.out⟩
    unfold partsR tx2R
    rw [HR.out, HBT.out]
    rfl
  · have HR := Lib.hid hr
    clear hr
    go_wp2_with fail
    go_ret3
    refine ⟨?_, hb1⟩
    have : partsR s.data.toList = none := by
      unfold partsR
      cases h : rdTy s.data.toList with
      | none => rfl
      | some t =>
        have h2 := HR.out t h
        obtain ⟨a, ps⟩ := t
        cases a with
        | nil => exact absurd rfl h2
        | cons c r => rfl
    rw [this]
    rfl

theorem implTypeTight_any (s : ByteArray) (w : World) (hm : s.size ≤ maxLen) :
    Calls Try.prog 36 #[.string s] w fun e w' => e = .returned (.bool (tightR s.data.toList)) ∧ Below w.heap.size w w' := by
  go_enter Try.func36, Try.ntmps36
  go_wp2_with fail
  refine (readType_any s _ hm).mono ?_
  rintro e w1 ⟨hb1, ⟨hr, rfl⟩ | ⟨hr, rfl⟩⟩
  · have HR := Lib.hid hr
    have HC : Hid (∀ w, Calls Try.prog 57 #[.string s] w fun e w' => e = .returned (.bool (tight1 s.data.toList)) ∧ w = w') := Lib.hid fun w => tight1_any s.data.toList w
    clear hr
    go_wp2_with fail
    refine (HC.out _).mono ?_
    rintro e w2 ⟨rfl, rfl⟩
    go_wp2_with fail
    go_ret
    refine ⟨ret_bool ?_, hb1⟩
    unfold tightR
    obtain ⟨t, ht⟩ := Option.isSome_iff_exists.1 HR.out
    rw [ht]
  · have HR := Lib.hid hr
    have hz1 := hb1.size
    have HB1 := Lib.hid hb1
    clear hr hb1
    go_wp2_with fail
    refine (readBag_any s _ hm).mono ?_
    rintro e w2 ⟨hb2, ⟨t, b, hr2, rfl, hge, hbag⟩ | ⟨hr2, rfl⟩⟩
    · have HR2 := Lib.hid hr2
      have hz2 := hb2.size
      have HB2 := Lib.hid (HB1.out.trans (hb2.mono hz1))
      have HT := Lib.hid (bagTight_any b (bagL t) w2 hbag)
      clear hr2 hb2 hbag
      go_wp2_with fail
      refine HT.out.mono ?_
      rintro e w3 ⟨rfl, hb3⟩
      have HB3 := Lib.hid (HB2.out.trans (hb3.mono (by omega)))
      clear hb3
      go_wp2_with fail
      go_ret
      refine ⟨ret_bool ?_, HB3.out⟩
      unfold tightR
      rw [HR.out, HR2.out]
    · have HR2 := Lib.hid hr2
      have HB2 := Lib.hid (HB1.out.trans (hb2.mono hz1))
      clear hr2 hb2
      go_wp2_with fail
      go_ret
      refine ⟨ret_bool ?_, HB2.out⟩
      unfold tightR
      rw [HR.out, HR2.out]

theorem implTypeSize_any (s : ByteArray) (w : World) (hm : s.size ≤ maxLen) :
    Calls Try.prog 38 #[.string s] w fun e w' => e = .returned (.int .i64 (sizeR s.data.toList)) ∧ Below w.heap.size w w' := by
  go_enter Try.func38, Try.ntmps38
  go_wp2_with fail
  refine (readType_any s _ hm).mono ?_
  rintro e w1 ⟨hb1, ⟨hr, rfl⟩ | ⟨hr, rfl⟩⟩
  · have HR := Lib.hid hr
    have hsl : s.size ≤ 8000 := by have := (ty_short _ hr).1; rw [ba_size]; omega
    have HC := Lib.hid (tyCount_any s · hsl)
    clear hr
    go_wp2_with fail
    refine (HC.out _).mono ?_
    rintro e w2 ⟨rfl, rfl⟩
    go_wp2_with fail
    go_ret
    refine ⟨ret_int ?_, hb1⟩
    unfold sizeR
    obtain ⟨t, ht⟩ := Option.isSome_iff_exists.1 HR.out
    rw [ht, ty_num _ _ ht]
  · have HR := Lib.hid hr
    have hz1 := hb1.size
    have HB1 := Lib.hid hb1
    clear hr hb1
    go_wp2_with fail
    refine (readBag_any s _ hm).mono ?_
    rintro e w2 ⟨hb2, ⟨t, b, hr2, rfl, hge, hbag⟩ | ⟨hr2, rfl⟩⟩
    · have HR2 := Lib.hid hr2
      have hz2 := hb2.size
      have HB2 := Lib.hid (HB1.out.trans (hb2.mono hz1))
      obtain ⟨_, _, ha, ht, hn, _, _, hl⟩ := bg_short _ _ hr2
      have HT := Lib.hid (bagCount_any b (bagL t) w2 hbag (fun x hx => by have := (ty_short x (ht x hx)).1; omega) (by omega) (by omega))
      rw [hn] at HT
      clear hr2 hb2 hbag ht hn hl
      go_wp2_with fail
      refine HT.out.mono ?_
      rintro e w3 ⟨rfl, hb3⟩
      have HB3 := Lib.hid (HB2.out.trans (hb3.mono (by omega)))
      clear hb3
      go_wp2_with fail
      go_ret
      refine ⟨ret_int ?_, HB3.out⟩
      unfold sizeR
      rw [HR.out, HR2.out]
    · have HR2 := Lib.hid hr2
      have HB2 := Lib.hid (HB1.out.trans (hb2.mono hz1))
      clear hr2 hb2
      go_wp2_with fail
      go_ret
      refine ⟨ret_int ?_, HB2.out⟩
      unfold sizeR
      rw [HR.out, HR2.out]
end Go.Proofs.Ytmkjkoelpngicaa
