/- The program's bag of a list, and list of a bag. -/
import Derived.Test.YtmkjkoelpngicaaPI
namespace Go.Proofs.Ytmkjkoelpngicaa
set_option linter.unusedVariables false
open Go.RowKit Go.Maps

theorem bgOf_bad (L : List (List UInt8)) (x : List UInt8) (hx : x ∈ L) (h : rdTy x = none) : bgOf L = none := by
  unfold bgOf
  rw [if_neg]
  rintro ⟨h1, _⟩
  have := (all_types L).1 h1 x hx
  rw [h] at this
  cases this

set_option maxRecDepth 100000 in
set_option maxHeartbeats 1000000 in
theorem implBagOf_any (l : List (List UInt8)) (v : Value) (w : World) (hv : SRow w 0 v l) (hn : l.length ≤ 2000000) (hs : ∀ x ∈ l, x.length ≤ 2000000) :
    Calls Try.prog 21 #[v] w fun e w' => txR (bgOf l) e ∧ Below w.heap.size w w' := by
  have hmm := @run_makeMap Try.prog
  obtain ⟨A, c, rfl⟩ := own_shape hv
  have HV := Lib.hid (hv.alloc (.map #[] 0))
  have HS := Lib.hid hs
  clear hv hs
  go_enter Try.func21, Try.ntmps21
  go_wp2_with fail
  go_loopw [12] (fun i wr => ∃ k : Nat, k ≤ l.length ∧ i = .int .i64 k ∧ Hid (∀ x ∈ l.take k, (rdTy x).isSome = true) ∧ Hid (BagIs wr w.heap.size (l.take k)) ∧ Hid (SRow wr 0 (.slice A l.length c) l) ∧ Hid (Below w.heap.size w wr)) (fun i _ => l.length - (intOf i).toNat)
  case atStart => exact ⟨0, by omega, rfl, Lib.hid (by simp), Lib.hid (BagIs.new w), HV, Lib.hid ((Below.refl _ _).alloc (Nat.le_refl _) _)⟩
  case round =>
    obtain ⟨k, hk, rfl, HT, HB, HR, HW⟩ := hrel
    have hzw := HW.out.size
    by_cases hkl : k < l.length
    · obtain ⟨x, hx⟩ : ∃ x, l[k]? = some x := ⟨l[k], by simp⟩
      have hxm := List.mem_of_getElem? hx
      have hxs := HS.out x hxm
      have HTK := Lib.hid (show l.take (k + 1) = l.take k ++ [x] by rw [List.take_add_one, hx]; rfl)
      obtain ⟨g, rfl, hgl, _, hgs, hcell⟩ := HR.out.cell (k := k) hkl
      have hxe : l[k] = x := (List.getElem?_eq_some_iff.1 hx).2
      rw [hxe] at hcell
      have HC := Lib.hid (readType_any ⟨x.toArray⟩ wr (by simp [ByteArray.size, maxLen]; omega))
      have HXM := Lib.hid hxm
      clear hx hxm hxe
      go_wp2_with fail
      refine HC.out.mono ?_
      rintro e w2 ⟨hb2, ⟨hr2, rfl⟩ | ⟨hr2, rfl⟩⟩
      · have hr2' : (rdTy x).isSome = true := hr2
        have hz2 := hb2.size
        have HR2 := Lib.hid hr2'
        have HB2 := Lib.hid (HB.out.below hb2 HB.out.lt)
        have HV2 := Lib.hid (HR.out.kept (grown_of_below hb2 none) (by simp [Value.ownBlock]))
        have HW2 := Lib.hid (HW.out.trans (hb2.mono (by omega)))
        obtain ⟨D, hown, hcn⟩ := HB2.out
        obtain ⟨m, hm⟩ : ∃ m, (l.take k).count x = m := ⟨_, rfl⟩
        have hlk : (l.take k).length = k := by simp; omega
        have hml : m ≤ k := by have := List.count_le_length (a := x) (l := l.take k); omega
        have HA : Hid (∀ c : Int, D.atKey (.string x) (.lit (.int .i64 0)) = .lit (.int .i64 c) → c = (m : Int)) := by
          refine Lib.hid fun c h => ?_
          have := hcn.at_ x
          rw [hm] at this
          have h2 := this.symm.trans h
          injection h2 with h2
          injection h2 with _ h2
          exact h2.symm
        have HO := Lib.hid hown
        have HM := Lib.hid hm
        have HCN := Lib.hid hcn
        have HLK := Lib.hid hlk
        have HK := Lib.hid (keyT x (by unfold maxLen; omega))
        have hwr : IntKind.i64.wrap ((m : Int) + 1) = (m : Int) + 1 := IntWalk.i64_in _ (by omega)
        clear hr2 hr2' hb2 hown hcn hm hlk
        go_wp2_with (first
          | (at_lookup; refine wpList_lookup_own_int _ rfl _ _ 50 rfl 46 3 .i64 lawT Try.underlying50 Try.underlying3 (zeroI _) w.heap.size _ D rfl HO.out _ _ rfl HK.out ?_; intro c hat hwc; obtain rfl := HA.out c hat)
          | (at_mapUpdate; refine wpList_mapUpdate_own _ rfl _ _ _ 50 rfl 46 3 lawT Try.underlying50 _ w.heap.size _ D rfl HO.out (by rw [HLK.out]; unfold maxLen; omega) _ _ _ rfl rfl HK.out (.lit (.int .i64 ((m : Int) + 1))) [] (plainElem_int Try.underlying3 (WalkArith.wf_i64 (by omega))) ?_; intro w3 hown3 hgrow3))
        go_roundw
        case rel =>
          refine ⟨k + 1, by omega, by go_num, Lib.hid ?_, Lib.hid ?_, Lib.hid (HV2.out.kept hgrow3 (.inr (HB2.out.row HV2.out))), Lib.hid (HW2.out.grown hgrow3 (by omega) (fun q e => by injection e with e; omega))⟩
          · rw [HTK.out]
            intro y hy
            rcases List.mem_append.1 hy with h | h
            · exact HT.out y h
            · rw [List.mem_singleton.1 h]; exact HR2.out
          · rw [HTK.out]
            refine BagIs.mk hown3 ?_
            have := HCN.out.more x
            rw [HM.out] at this
            exact this
        case measure => simp [intOf]; omega
      · have hr2' : rdTy x = none := hr2
        have HR2 := Lib.hid hr2'
        have HW2 := Lib.hid (HW.out.trans (hb2.mono (by omega)))
        clear hr2 hr2' hb2
        go_wp2_with fail
        go_ret2
        refine ⟨?_, HW2.out⟩
        rw [bgOf_bad l x HXM.out HR2.out]
        exact txR.none
    · have HE := Lib.hid (show l.take k = l from List.take_of_length_le (by omega))
      have HTA : Hid (∀ x ∈ l, (rdTy x).isSome = true) := Lib.hid (by have := HT.out; rw [HE.out] at this; exact this)
      have HS2 := Lib.hid (smallText_any w.heap.size l wr (by have := HB.out; rw [HE.out] at this; exact this) (fun x hx => by have := (ty_short x (HTA.out x hx)).1; omega) HTA.out (by omega) (by have := sum_bound l HTA.out; omega))
      go_wp2_with fail
      refine HS2.out.mono ?_
      intro e w4 hp
      obtain ⟨x, q, rfl⟩ := hp.shape
      have HX : Hid (txR (bgOf l) (.returned (.tuple #[.string x, .bool q]))) := Lib.hid (bgOf_small _ HTA.out hp)
      have HB4 := Lib.hid (HW.out.trans (hp.1.mono (by omega)))
      clear hp
      go_wp2_with fail
      go_ret2
      exact ⟨HX.out, HB4.out⟩

/-- A list of texts and whether there is one. -/
def TlPost (o : Option (List (List UInt8))) (w : World) (e : Ending) (w' : World) : Prop :=
  ∃ v, e = .returned (.tuple #[v, .bool o.isSome]) ∧ SRow w' w.heap.size v (o.getD []) ∧ Below w.heap.size w w'
theorem Try.infoS : (Try.prog.info? 9).map (fun i => (i.zero, i.size, i.bytes)) = some (some (.string ⟨#[]⟩), 1, 16) := by kernel_rfl

set_option maxRecDepth 100000 in
set_option maxHeartbeats 1000000 in
theorem implBagTypes_any (s : ByteArray) (w : World) (hm : s.size ≤ maxLen) :
    Calls Try.prog 24 #[.string s] w (TlPost (typesR s.data.toList) w) := by
  obtain ⟨i0, hinf, hz0, hzs, hzb⟩ := info_parts Try.infoS
  go_enter Try.func24, Try.ntmps24
  go_wp2_with fail
  refine (readBag_any s _ hm).mono ?_
  rintro e w1 ⟨hb1, ⟨t, b, hr, rfl, hge, hbag⟩ | ⟨hr, rfl⟩⟩
  · obtain ⟨_, _, _, _, _, _, hst, hll⟩ := bg_short _ _ hr
    have hz1 := hb1.size
    have HC := Lib.hid (list_any b (bagL t) w1 hbag (by omega))
    have HR := Lib.hid hr
    have HB := Lib.hid hb1
    have HST := Lib.hid hst
    clear hr hb1 hbag hst
    go_wp2_with fail
    refine HC.out.mono ?_
    rintro e w2 ⟨v, rfl, hrow, hb2⟩
    rw [HST.out] at hrow
    have HTY : Hid (typesR s.data.toList = some (bagL t)) := Lib.hid (by unfold typesR; rw [HR.out]; rfl)
    generalize bagL t = M at hrow HTY hll
    obtain ⟨A, c, rfl⟩ := own_shape hrow
    have hz2 := hb2.size
    have HROW := Lib.hid (ownsRow_base_a hrow (Nat.zero_le _))
    have HB2 := Lib.hid (HB.out.trans (hb2.mono hz1))
    have HKB : Hid (∀ k, (Value.slice A M.length c).ownBlock = some k → k < w2.heap.size) := Lib.hid fun k e => (hrow.lt k e).2
    clear hrow hb2
    go_wp2_with fail
    go_loopw [6, 19] (fun ov i wr => ∃ (k : Nat) (A0 : Option Addr) (c0 : Nat), k ≤ M.length ∧ i = .int .i64 k ∧ ov = .slice A0 k c0 ∧ Hid (wr.ownsRow w2.heap.size 9 1 (.slice A0 k c0) k ((M.take k).map strV)) ∧ Hid (TRow wr 0 (.slice A M.length c) M) ∧ Hid (Below w.heap.size w wr) ∧ w2.heap.size ≤ wr.heap.size) (fun _ i _ => M.length - (intOf i).toNat)
    case atStart => exact ⟨0, none, 0, by omega, rfl, rfl, Lib.hid (World.ownsRow_nil _ _ _ _), HROW, HB2, Nat.le_refl _⟩
    case round =>
      obtain ⟨k, A0, c0, hk, rfl, rfl, HO, HR2, HW, hle⟩ := hrel
      by_cases hkl : k < M.length
      · obtain ⟨x, hx⟩ : ∃ x, M[k]? = some x := ⟨M[k], by simp⟩
        obtain ⟨g, rfl, hgl, _, hcell⟩ := row_cell HR2.out hx
        have HTK := Lib.hid (show M.take (k + 1) = M.take k ++ [x] by rw [List.take_add_one, hx]; rfl)
        clear hx
        go_wp2_with (first
          | (at_builtin
             refine wpList_append_own_at _ rfl (.tmp 23) (.tmp 25) 23 rfl w2.heap.size 9 i0 (.string ⟨#[]⟩) 1 16 Try.underlying23 hinf hz0 hzs hzb rfl (by decide) (.slice A0 k c0) k ((M.take k).map strV) rfl (HO.out.alloc _) ⟨wr.heap.size, 0, none⟩ 1 1 [.string ⟨x.toArray⟩] rfl rfl (cell_one_new _ _ _) ?_ ?_ ?_ ?_ ?_
             · intro u hu
               simp at hu
               subst hu
               rfl
             · unfold maxLen; omega
             · omega
             · simp; omega
             intro v2 w5 hown5 hg5 _ hat5')
          | fail)
        obtain ⟨A6, c6, hv2⟩ := own_shape hown5
        subst hv2
        have hz5 := hg5.size
        simp at hz5
        have hlow := HO.out.lt
        go_roundw
        case rel =>
          refine ⟨k + 1, A6, c6, by omega, by go_num, rfl, Lib.hid ?_, Lib.hid ?_, Lib.hid ?_, by omega⟩
          · rw [HTK.out, List.map_append]
            exact hown5
          · refine (HR2.out.alloc _).kept hg5 ?_
            refine .inr (fun e => ?_)
            have h1 := HKB.out g rfl
            have h2 := hlow g e.symm
            omega
          · exact (HW.out.alloc (by have := HW.out.size; omega) _).grown hg5 (by have := HW.out.size; simp; omega) (fun q e => by have := hlow q e; omega)
        case measure => simp [intOf]; omega
      · have hke : k = M.length := by omega
        have HKE := Lib.hid hke
        clear hke
        go_wp2_with fail
        go_ret2
        refine ⟨_, by rw [HTY.out]; rfl, ?_, HW.out⟩
        rw [HTY.out]
        have h1 := HO.out
        rw [HKE.out, List.take_length] at h1
        rw [HKE.out]
        exact ownsRow_base_a h1 (by omega)
  · have HR := Lib.hid hr
    have HB := Lib.hid hb1
    clear hr hb1
    have HTY : Hid (typesR s.data.toList = none) := Lib.hid (by unfold typesR; rw [HR.out]; rfl)
    go_wp2_with fail
    go_ret2
    refine ⟨_, by rw [HTY.out]; rfl, ?_, HB.out⟩
    rw [HTY.out]
    exact World.ownsRow_nil _ _ _ _
end Go.Proofs.Ytmkjkoelpngicaa
