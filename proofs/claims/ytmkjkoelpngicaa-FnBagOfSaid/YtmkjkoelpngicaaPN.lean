/- Sums of bags; a bag's text where it has few atoms. -/
import Derived.Test.YtmkjkoelpngicaaPK
namespace Go.Proofs.Ytmkjkoelpngicaa
set_option linter.unusedVariables false
open Go.RowKit Go.Maps

set_option maxRecDepth 100000 in
set_option maxHeartbeats 1000000 in
theorem bagAdd_any (b1 b2 : Nat) (hne : b1 ≠ b2) (L M : List (List UInt8)) (w : World) (h1 : BagIs w b1 L) (h2 : BagIs w b2 M) (hs : ∀ x ∈ M, x.length ≤ 8000) (hL : L.length ≤ 100000000) (hM : M.length ≤ 100000000) :
    Calls Try.prog 49 #[.map (some b1), .map (some b2)] w fun e w' => e = .returned (.tuple #[]) ∧ BagIs w' b1 (L ++ M) ∧ w.grownBy w' (some b1) := by
  obtain ⟨D2, hown, hc⟩ := h2
  obtain ⟨D1, hown1, hc1⟩ := h1
  have hlt1 := hown1.lt
  have hlt2 := hown.lt
  have HC := Lib.hid hc
  have HC1 := Lib.hid hc1
  have HO1 := Lib.hid hown1
  have HS := Lib.hid hs
  clear hc hs hc1 hown1
  go_enter Try.func49, Try.ntmps49
  go_wp2_with (first
    | (at_range; refine wpList_range_own _ rfl _ 50 rfl 46 3 lawT Try.underlying50 _ b2 M.length _ rfl hown ?_; intro w0 hrg0 hg0 hs0)
    | go_in)
  go_frame
  go_loopw [4] (fun _ wr => ∃ (left : Lit → Bool) (cnt : Nat) (D : DataW Unit), wr.ranges Try.prog 46 (plainElem Try.prog 3) b2 w.heap.size M.length D2 left cnt ∧ MapIs wr b1 (L.length + M.length) D ∧ Hid (Cnt D (L ++ goneL left M)) ∧ w.grownBy wr (some b1)) (fun _ wr => wr.rangeLeft b2 w.heap.size)
  case atStart =>
    refine ⟨_, _, D1, hrg0, (HO1.out.kept hg0 (by simp)).mono (by omega), Lib.hid (HC1.out.congr fun x => ?_), hg0.but _⟩
    rw [goneL_start HC.out, List.append_nil]
  case round =>
    obtain ⟨left, cnt, D, hrg, hmap, HCN, hnx⟩ := hrel
    go_wp2_with (first
      | (at_next; refine wpList_next_ranges _ rfl _ rfl 46 lawT (plainElem Try.prog 3) encStr (Value.int .i64) invK invV b2 w.heap.size M.length _ _ _ rfl hrg ?_ ?_)
      | go_in)
    · intro hc0 hl0
      go_wp2
      go_end0
      refine ⟨rfl, BagIs.mk hmap (HCN.out.congr fun x => ?_), hnx⟩
      rw [goneL_end left M hl0]
    · intro x c kl yd yp w2 cnt2 hkey hlk hv hat hrg2 hlt hg2 hs2 hen
      obtain ⟨x', ex, rfl, hxml⟩ := Maps.keyOf_str Try.underlying46 hkey
      obtain rfl : x = x' := encStr_inj ex
      obtain ⟨hxL, hcx⟩ := entry_count HC.out hv hat
      obtain ⟨q, hq⟩ : ∃ q, M.count x = q := ⟨_, rfl⟩
      rw [hq] at hcx
      subst hcx
      obtain ⟨m, hm⟩ : ∃ m, L.count x = m := ⟨_, rfl⟩
      have hql : q ≤ 100000000 := by have := List.count_le_length (a := x) (l := M); omega
      have hml : m ≤ 100000000 := by have := List.count_le_length (a := x) (l := L); omega
      have hq0 : 0 < M.count x := List.count_pos_iff.2 hxL
      have HADD := Lib.hid (HCN.out.added x hlk hq0)
      have HA : Hid (∀ c : Int, D.atKey (.string x) (.lit (.int .i64 0)) = .lit (.int .i64 c) → c = (m : Int)) := by
        refine Lib.hid fun c h => ?_
        have := HCN.out.at_ x
        rw [added_count left L M x hlk, hm] at this
        have h2 := this.symm.trans h
        injection h2 with h2
        injection h2 with _ h2
        exact h2.symm
      have hadd : IntKind.i64.wrap ((m : Int) + (q : Int)) = (m : Int) + (q : Int) := IntWalk.i64_in _ (by omega)
      have HM := Lib.hid hm
      have HQ := Lib.hid hq
      have hmap2 : MapIs w2 b1 (L.length + M.length) D := hmap.kept hg2 (fun e => by injection e with e; omega)
      -- the map's size does not grow without end: it is bounded by its texts
      have HB2 : Hid (MapIs w2 b1 (L ++ goneL left M).length D) := by
        obtain ⟨D', h1, h2⟩ := BagIs.mk hmap2 HCN.out
        refine Lib.hid ?_
        obtain ⟨es, clock, hb, F, hsz, hD⟩ := hmap2
        have hk := (keys_once (show MapIs w2 b1 (L.length + M.length) D from ⟨es, clock, hb, F, hsz, hD⟩) lawT Try.underlying46 HCN.out).length_eq
        have hl : (strKeys D).length = es.size := by
          rw [hD]
          simp [strKeys, length_sorted]
        have := once_length (L ++ goneL left M)
        exact ⟨es, clock, hb, F, by omega, hD⟩
      have HLN : Hid ((L ++ goneL left M).length + 1 ≤ L.length + M.length) := by
        refine Lib.hid ?_
        rw [List.length_append]
        have h1 : (goneL left M).length + (restL left M).length = M.length := by
          unfold goneL restL
          have := List.length_eq_countP_add_countP (fun y => left (.string y)) (l := M)
          rw [List.countP_eq_length_filter, List.countP_eq_length_filter] at this
          simp only [Bool.not_eq_true, Bool.decide_eq_false] at this
          omega
        have h2 : 0 < (restL left M).length := List.length_pos_of_mem (List.mem_filter.2 ⟨hxL, hlk⟩)
        omega
      have HK := Lib.hid (show keyOf Try.prog 46 (encStr x) = some (.string x) from hkey)
      clear hs2 hm hq hq0
      go_wp2_with (first
        | (at_lookup; refine wpList_lookup_own_int _ rfl _ _ 50 rfl 46 3 .i64 lawT Try.underlying50 Try.underlying3 (zeroI _) b1 _ D rfl HB2.out _ _ rfl HK.out ?_; intro c hat hwc; obtain rfl := HA.out c hat)
        | (at_mapUpdate; refine wpList_mapUpdate_own _ rfl _ _ _ 50 rfl 46 3 lawT Try.underlying50 _ b1 _ D rfl HB2.out (by have := HLN.out; unfold maxLen; omega) _ _ _ rfl rfl HK.out (.lit (.int .i64 ((m : Int) + (q : Int)))) [] (plainElem_int Try.underlying3 (WalkArith.wf_i64 (by omega))) ?_; intro w3 hown3 hgrow3; go_frame)
        | go_in)
      have hrg3 := hrg2.kept hgrow3 (fun e => by have := Option.some.inj e; omega) (fun e => by have := Option.some.inj e; have := hrg2; omega)
      go_roundw
      case rel =>
        refine ⟨_, cnt2, _, hrg3, hown3.mono HLN.out, Lib.hid ?_, ?_⟩
        · have := HADD.out
          rw [HM.out, HQ.out] at this
          exact this
        · exact ⟨hgrow3.os.trans (hg2.os.trans hnx.os), hgrow3.tape.trans (hg2.tape.trans hnx.tape), hgrow3.output.trans (hg2.output.trans hnx.output), Nat.le_trans hnx.size (Nat.le_trans hg2.size hgrow3.size), fun k hk hkr => by
            rw [hgrow3.block k (by have := hnx.size; have := hg2.size; omega) hkr, hg2.block k (by have := hnx.size; omega) (fun e => by injection e with e; omega), hnx.block k hk hkr]⟩
      case measure => rw [hrg3.left_eq, hrg.left_eq]; exact hlt

def StPost (L : List (List UInt8)) (w : World) (e : Ending) (w' : World) : Prop :=
  Below w.heap.size w w' ∧ ((bgN L ≤ 200 ∧ e = .returned (.tuple #[.string ⟨(mkBag (srt L)).toArray⟩, .bool true])) ∨ (200 < bgN L ∧ e = .returned (.tuple #[.string ⟨#[]⟩, .bool false])))
theorem smallText_any (b : Nat) (L : List (List UInt8)) (w : World) (h : BagIs w b L) (hs : ∀ x ∈ L, x.length ≤ 8000) (ht : ∀ x ∈ L, (rdTy x).isSome = true) (hL : L.length ≤ 100000000) (hN : bgN L ≤ 1000000000000) :
    Calls Try.prog 45 #[.map (some b)] w (StPost L w) := by
  have HC := Lib.hid (bagCount_any b L w h hs hL hN)
  have HB := Lib.hid h
  have HT := Lib.hid ht
  clear h hs ht
  obtain ⟨T, hT⟩ : ∃ T, bgN L = T := ⟨_, rfl⟩
  have HTT := Lib.hid hT
  rw [hT] at HC
  clear hT hN
  by_cases hle : T ≤ 200
  · have hd : ¬ ((200 : Int) < (T : Int)) := by omega
    go_enter Try.func45, Try.ntmps45
    go_wp2_with fail
    refine HC.out.mono ?_
    rintro e w1 ⟨rfl, hb1⟩
    have hz1 := hb1.size
    have HB1 := Lib.hid hb1
    have HX := Lib.hid (bagText_any b L w1 (HB.out.below hb1 HB.out.lt) (by
      have h1 := (rdBg_mk L HT.out).1
      rw [HTT.out] at h1
      obtain ⟨t, ht⟩ := Option.isSome_iff_exists.1 (h1.trans (decide_eq_true hle))
      obtain ⟨h2, _⟩ := rdBg_spec _ _ ht
      have := (rdText_ok _ _ h2).2.2
      omega))
    clear hb1
    go_wp2_with fail
    refine HX.out.mono ?_
    rintro e w2 ⟨rfl, hb2⟩
    have HB2 := Lib.hid (HB1.out.trans (hb2.mono hz1))
    clear hb2
    go_wp2_with fail
    go_ret2
    exact ⟨HB2.out, .inl ⟨by rw [HTT.out]; exact hle, rfl⟩⟩
  · have hd : ((200 : Int) < (T : Int)) := by omega
    go_enter Try.func45, Try.ntmps45
    go_wp2_with fail
    refine HC.out.mono ?_
    rintro e w1 ⟨rfl, hb1⟩
    have HB1 := Lib.hid hb1
    clear hb1
    go_wp2_with fail
    go_ret2
    exact ⟨HB1.out, .inr ⟨by rw [HTT.out]; omega, rfl⟩⟩
end Go.Proofs.Ytmkjkoelpngicaa
