/- The program makes types and bags of what was read. -/
import Derived.Test.YtnnnphammfeemaaGreatPO
namespace Go.Proofs.YtnnnphammfeemaaGreat
set_option linter.unusedVariables false
open Go.RowKit Go.Maps

theorem isTys_next' (r : List Tr) (last : List UInt8) (j : Nat) (t : Tr) (h : r[j]? = some t) : isTys last (r.drop j) = (isTy t && decide (¬ wrTr t < last) && isTys (wrTr t) (r.drop (j + 1))) := by
  obtain ⟨hj, e⟩ := List.getElem?_eq_some_iff.1 h
  rw [List.drop_eq_getElem_cons hj, e]
  rfl
theorem isTys_end' (r : List Tr) (last : List UInt8) (j : Nat) (h : r.length ≤ j) : isTys last (r.drop j) = true := by
  rw [List.drop_of_length_le h]; rfl
theorem take_map_next (r : List Tr) (k : Nat) (t : Tr) (h : r[k]? = some t) : (r.take (k + 1)).map wrTr = (r.take k).map wrTr ++ [wrTr t] := by
  rw [List.take_add_one, h, List.map_append]; rfl

set_option maxRecDepth 100000 in
theorem bagOf_no (t : Tr) (h : isBagL t.parts = false) (h2 : isBag t = false) (hn : t.parts = [] ∨ ∃ p r, t.parts = p :: r ∧ p.atom ≠ [109]) (v : Value) (w : World) (P : Nat → Prop) (ht : PAt w P t v) (hP : ∀ b, P b → b < w.heap.size) :
    Calls Tryz.prog 172 #[v] w (BfPost t w) := by
  obtain ⟨a, ps⟩ := t
  simp only [Tr.parts] at h hn
  have H2 := Lib.hid h2
  have hmm := @run_makeMap Tryz.prog
  obtain ⟨b, vp, rfl, hPb, k0, k1, hle, hle2, hv⟩ := ht.form
  rcases hn with rfl | ⟨p, r, rfl, hp⟩
  · rcases hv with ⟨_, rfl⟩ | ⟨hne, _⟩
    · clear h h2 ht hP
      go_enter Tryz.func172, Tryz.ntmps172
      go_wp2_with fail
      go_ret2
      exact ⟨Below.refl _ _, .inr ⟨H2.out, rfl⟩⟩
    · exact absurd rfl hne
  · rcases hv with ⟨h0, _⟩ | ⟨_, g, cap, xs, rfl, hcap, hPg, hc, hq⟩
    · cases h0
    · obtain ⟨x0, e0, q0⟩ := hq.at_ 0 p rfl
      obtain ⟨b0, rfl, hb0⟩ := q0.shape
      obtain ⟨a0, ps0⟩ := p
      obtain ⟨b0', _, e, _, hk0, _⟩ := q0.form
      obtain rfl : b0 = b0' := by simpa using e
      have c0 := hc _ _ e0
      simp only [Tr.atom] at hp
      have hb1 : (a0 != [109]) = true := by simpa using hp
      have hb2 : (a0 == [109]) = false := by simpa using hp
      have hlen : (((Tr.mk a0 ps0 :: r).length : Int) == 0) = false := beq_eq_false_iff_ne.2 (by simp; omega)
      have hpos : 0 < (Tr.mk a0 ps0 :: r).length := by simp
      generalize (Tr.mk a0 ps0 :: r).length = N at hlen hpos hcap hle2 k1
      clear h h2 ht hP hc hq hp e0 q0 e
      go_enter Tryz.func172, Tryz.ntmps172
      go_wp2_with fail
      go_ret2
      exact ⟨Below.refl _ _, .inr ⟨H2.out, rfl⟩⟩

/-- What the walk over the types of a bag knows of them. -/
structure BfIn (w : World) (P : Nat → Prop) (g N : Nat) (r : List Tr) (xs : List Value) : Prop where
  cells : ∀ j u, xs[j]? = some u → w.cell? ⟨g, j + 1, none⟩ = some u
  trees : QAt w P r xs
  wf : ∀ t ∈ r, Wf t
  short : ∀ t ∈ r, (wrTr t).length ≤ 8000
  len : r.length = N

set_option maxRecDepth 100000 in
set_option maxHeartbeats 4000000 in
theorem bagOf_yes (r : List Tr) (pq : List Tr) (ih : ∀ u ∈ r, TfSaid u) (v : Value) (w : World) (P : Nat → Prop) (ht : PAt w P (.mk [] (.mk [109] pq :: r)) v) (hP : ∀ b, P b → b < w.heap.size) (hw : Wf (.mk [] (.mk [109] pq :: r))) (hl : (wrTr (.mk [] (.mk [109] pq :: r))).length ≤ 8000) :
    Calls Tryz.prog 172 #[v] w (BfPost (.mk [] (.mk [109] pq :: r)) w) := by
  have hmm := @run_makeMap Tryz.prog
  obtain ⟨b, vp, rfl, hPb, k0, k1, hle, hle2, ⟨h0, _⟩ | ⟨_, g, cap, xs, rfl, hcap, hPg, hc, hq⟩⟩ := ht.form
  · cases h0
  obtain ⟨x0, e0, q0⟩ := hq.at_ 0 _ rfl
  obtain ⟨b0, rfl, hb0⟩ := q0.shape
  obtain ⟨b0', _, e, _, hk0, _⟩ := q0.form
  obtain rfl : b0 = b0' := by simpa using e
  have c0 := hc _ _ e0
  obtain ⟨hne, hws⟩ := wf_list _ hw
  have hxs : ∃ xs', xs = .pointer (some ⟨b0, 0, none⟩) :: xs' ∧ QAt w P r xs' := by
    unfold QAt at hq
    obtain ⟨x, r', rfl, hx, hr⟩ := hq
    simp at e0
    subst e0
    exact ⟨r', rfl, hr⟩
  obtain ⟨xs', rfl, hqr⟩ := hxs
  obtain ⟨N, hN⟩ : ∃ N, r.length = N := ⟨_, rfl⟩
  have HIN : Hid (BfIn w P g N r xs') := Lib.hid ⟨fun j u hu => hc (j + 1) u (by simpa using hu), hqr, fun t ht => Wfs_mem t _ (List.mem_cons_of_mem _ ht) hws, fun t ht => by have := wrTr_part t (.mk [109] pq :: r) (List.mem_cons_of_mem _ ht); omega, hN⟩
  have hlen : (Tr.mk [109] pq :: r).length = N + 1 := by simp [hN]
  rw [hlen] at hle2 hcap k1
  have HI := Lib.hid (show isBag (.mk [] (.mk [109] pq :: r)) = isTys [] r by simp [isBag, isBagL, Tr.atom])
  have HL := Lib.hid (show bagL (.mk [] (.mk [109] pq :: r)) = r.map wrTr from rfl)
  have hgl := hP g hPg
  have hbl := hP b hPb
  have hb0l := hP b0 hb0
  have HP := Lib.hid hP
  have IH := Lib.hid ih
  clear ht hP ih hc hq hqr e e0 q0 hne hws hw hl hlen hN
  have hpos : (((N : Nat) : Int) + 1 == 0) = false := beq_eq_false_iff_ne.2 (by omega)
  by_cases hc1 : cap = 1
  · have hN0 : N = 0 := by omega
    subst hc1 hN0
    go_enter Tryz.func172, Tryz.ntmps172
    go_wp2_with fail
    refine wp_loop_rounds 1 ?_; rw [rounds_succ]
    go_wp2_with fail
    go_ret2
    have hr : r = [] := List.eq_nil_of_length_eq_zero HIN.out.len
    refine ⟨(Below.refl _ _).alloc (Nat.le_refl _) _, .inl ⟨by rw [HI.out, hr]; rfl, _, rfl, Nat.le_refl _, ?_⟩⟩
    rw [HL.out, hr]
    exact BagIs.new w
  · have hc2 : 1 < cap := by omega
    have hc3 : ¬ cap = 1 := hc1
    go_enter Tryz.func172, Tryz.ntmps172
    go_wp2_with fail
    go_loopw [5, 35] (fun lv i wr => ∃ (k : Nat) (last : List UInt8), k ≤ N ∧ i = .int .i64 k ∧ lv = .string ⟨last.toArray⟩ ∧ last.length ≤ 8000 ∧ Hid (isTys [] r = isTys last (r.drop k)) ∧ Hid (BagIs wr w.heap.size ((r.take k).map wrTr)) ∧ Hid (Below w.heap.size w wr)) (fun _ i _ => N - (intOf i).toNat)
    case atStart => exact ⟨0, [], by omega, rfl, rfl, by simp, Lib.hid rfl, Lib.hid (BagIs.new w), Lib.hid ((Below.refl _ _).alloc (Nat.le_refl _) _)⟩
    case round =>
      obtain ⟨k, last, hk, rfl, rfl, hll, HS, HBG, HBW⟩ := hrel
      have hzw := HBW.out.size
      by_cases hkl : k < N
      · obtain ⟨t, ht⟩ : ∃ t, r[k]? = some t := ⟨r[k]'(by have := HIN.out.len; omega), by simp⟩
        obtain ⟨x, hx, hxp⟩ := HIN.out.trees.at_ k t ht
        obtain ⟨bt, rfl, hbt⟩ := hxp.shape
        have q0 := (HBW.out.cell (p := ⟨g, k + 1, none⟩) hgl).trans (HIN.out.cells _ _ hx)
        have htm := List.mem_of_getElem? ht
        have hsh := HIN.out.short t htm
        have HT := Lib.hid ht
        have HN := Lib.hid (isTys_next' r last k t ht)
        have HTN := Lib.hid (take_map_next r k t ht)
        have hadd : (⟨g, 1 + k, none⟩ : Addr) = ⟨g, k + 1, none⟩ := by rw [Nat.add_comm]
        have q1 : wr.cell? ⟨g, 1 + k, none⟩ = some (.pointer (some ⟨bt, 0, none⟩)) := by rw [hadd]; exact q0
        have HXP := Lib.hid (hxp.below HBW.out HP.out)
        have HTM := Lib.hid htm
        clear ht hx hxp htm hadd
        go_wp2_with fail
        refine (IH.out t HTM.out _ _ P HXP.out (fun b hb => by have := HP.out b hb; omega) (HIN.out.wf t HTM.out) hsh).mono ?_
        rintro e w2 ⟨hb2, ⟨hty, rfl⟩ | ⟨hty, rfl⟩⟩
        · have hz2 := hb2.size
          have HBG2 := Lib.hid (HBG.out.below hb2 HBG.out.lt)
          have HBW2 := Lib.hid (HBW.out.trans (hb2.mono (by omega)))
          have HTY := Lib.hid hty
          clear hty hb2 q0 q1
          by_cases hlt : wrTr t < last
          · have hbl : Op.bytesLess (wrTr t) last = true := by rw [bytesLess_eq]; exact decide_eq_true hlt
            have HLT := Lib.hid hlt
            clear hlt
            go_wp2_with fail
            go_ret2
            refine ⟨HBW2.out, .inr ⟨?_, rfl⟩⟩
            rw [HI.out, HS.out, HN.out]
            simp [HLT.out]
          · have hbl : Op.bytesLess (wrTr t) last = false := by rw [bytesLess_eq]; exact decide_eq_false hlt
            have HLT := Lib.hid hlt
            obtain ⟨D, hown, hcn⟩ := HBG2.out
            obtain ⟨m, hm⟩ : ∃ m, ((r.take k).map wrTr).count (wrTr t) = m := ⟨_, rfl⟩
            have hlk : ((r.take k).map wrTr).length = k := by have := HIN.out.len; simp; omega
            have hml : m ≤ k := by have := List.count_le_length (a := wrTr t) (l := (r.take k).map wrTr); omega
            have HA : Hid (∀ c : Int, D.atKey (.string (wrTr t)) (.lit (.int .i64 0)) = .lit (.int .i64 c) → c = (m : Int)) := by
              refine Lib.hid fun c h => ?_
              have := hcn.at_ (wrTr t)
              rw [hm] at this
              have h2 := this.symm.trans h
              injection h2 with h2
              injection h2 with _ h2
              exact h2.symm
            have HO := Lib.hid hown
            have HM := Lib.hid hm
            have HCN := Lib.hid hcn
            have HLK := Lib.hid hlk
            have HK := Lib.hid (keyT (wrTr t) (by unfold maxLen; omega))
            have hwr : IntKind.i64.wrap ((m : Int) + 1) = (m : Int) + 1 := IntWalk.i64_in _ (by omega)
            clear hlt hown hcn hm hlk
            go_wp2_with (first
              | (at_lookup; refine wpList_lookup_own_int _ rfl _ _ 83 rfl 76 3 .i64 lawT Tryz.underlying83 Tryz.underlying3 (zeroI _) w.heap.size _ D rfl HO.out _ _ rfl HK.out ?_; intro c hat hwc; obtain rfl := HA.out c hat)
              | (at_mapUpdate; refine wpList_mapUpdate_own _ rfl _ _ _ 83 rfl 76 3 lawT Tryz.underlying83 _ w.heap.size _ D rfl HO.out (by rw [HLK.out]; unfold maxLen; omega) _ _ _ rfl rfl HK.out (.lit (.int .i64 ((m : Int) + 1))) [] (plainElem_int Tryz.underlying3 (WalkArith.wf_i64 (by omega))) ?_; intro w3 hown3 hgrow3))
            have hz3 := hgrow3.size
            go_roundw
            case rel =>
              refine ⟨k + 1, wrTr t, by omega, by go_num, rfl, hsh, Lib.hid ?_, Lib.hid ?_, Lib.hid (HBW2.out.grown hgrow3 (by omega) (fun q e => by injection e with e; omega))⟩
              · rw [HS.out, HN.out, HTY.out]
                simp [HLT.out]
              · rw [HTN.out]
                refine BagIs.mk hown3 ?_
                have := HCN.out.more (wrTr t)
                rw [HM.out] at this
                exact this
            case measure => simp [intOf]; omega
        · have HTY := Lib.hid hty
          have HBW2 := Lib.hid (HBW.out.trans (hb2.mono (by omega)))
          clear hty hb2 q0 q1
          go_wp2_with fail
          go_ret2
          refine ⟨HBW2.out, .inr ⟨?_, rfl⟩⟩
          rw [HI.out, HS.out, HN.out, HTY.out]
          simp
      · go_wp2_with fail
        go_ret2
        refine ⟨HBW.out, .inl ⟨?_, _, rfl, Nat.le_refl _, ?_⟩⟩
        · rw [HI.out, HS.out, isTys_end' _ _ _ (by have := HIN.out.len; omega)]
        · have := HBG.out
          rw [List.take_of_length_le (by have := HIN.out.len; omega)] at this
          rw [HL.out]
          exact this

theorem bag_text (t : Tr) (hw : Wf t) (h : isBag t = true) : mkBag (srt (bagL t)) = wrTr t := by rw [bag_srt t hw h, ← wr_bag t hw h]

set_option maxRecDepth 100000 in
theorem typeOf_atom (a : List UInt8) (ps : List Tr) (ha : a ≠ []) : TfSaid (.mk a ps) := by
  intro v w P ht hP hw hl
  obtain ⟨b, rfl, hb⟩ := ht.shape
  obtain ⟨A, n, c, k0, k1, hn, _, hle, _⟩ := ht.cells
  have h1 : isTy (.mk a ps) = isLet1 a := by simp [isTy, ha]
  have h2 : wrTr (.mk a ps) = a := by simp [wrTr, ha]
  have HA := Lib.hid ha
  have hae : (!a.isEmpty) = true := by
    cases h : a with
    | nil => exact absurd h ha
    | cons => rfl
  clear ht hP hw hl hn ha
  cases hl : isLet1 a with
  | true =>
    have HX : Hid (isTy (.mk a ps) = true) := Lib.hid (h1.trans hl)
    have H2 := Lib.hid h2
    have HC := Lib.hid (letterOf_yes ⟨a.toArray⟩ · (by simp [ByteArray.size]; omega) hl)
    clear h1 h2 hl
    go_enter Tryz.func135, Tryz.ntmps135
    go_wp2_with fail
    refine (HC.out _).mono ?_
    rintro e w1 ⟨rfl, rfl⟩
    go_wp2_with fail
    go_ret2
    exact ⟨Below.refl _ _, .inl ⟨HX.out, by rw [H2.out]; rfl⟩⟩
  | false =>
    have HX : Hid (isTy (.mk a ps) = false) := Lib.hid (h1.trans hl)
    have HC := Lib.hid (letterOf_no ⟨a.toArray⟩ · (by simp [ByteArray.size]; omega) hl)
    clear h1 h2 hl
    go_enter Tryz.func135, Tryz.ntmps135
    go_wp2_with fail
    refine (HC.out _).mono ?_
    rintro e w1 ⟨rfl, rfl⟩
    go_wp2_with fail
    go_ret2
    exact ⟨Below.refl _ _, .inr ⟨HX.out, rfl⟩⟩

set_option maxRecDepth 100000 in
theorem typeOf_list (ps : List Tr) (ih1 : ∀ u ∈ ps, BfSaid u) (ih2 : ∀ u ∈ ps, TfSaid u) : TfSaid (.mk [] ps) := by
  intro v w P ht hP hw hl
  have HF := Lib.hid (functionsOf_any (.mk [] ps) ih1 ih2 v w P ht hP hw hl)
  obtain ⟨b, rfl, hb⟩ := ht.shape
  obtain ⟨A, n, c, k0, k1, hn, _⟩ := ht.cells
  have HW := Lib.hid hw
  have HI := Lib.hid (show isTy (.mk [] ps) = isTy3 (Tr.mk [] ps).parts by simp [isTy, Tr.parts])
  have HL := Lib.hid hl
  clear ih1 ih2 ht hP hw hl hn
  go_enter Tryz.func135, Tryz.ntmps135
  go_wp2_with fail
  refine HF.out.mono ?_
  rintro e w1 ⟨hb1, ⟨bt, tt, bb, ht, hbg, hty, rfl, hge, hbag⟩ | ⟨h3, m, rfl⟩⟩
  · have hz1 := hb1.size
    have hws := HW.out
    rw [ht] at hws
    have hws2 := (wf_list _ hws).2
    have wb := Wfs_mem bt _ (by simp) hws2
    have wt := Wfs_mem tt _ (by simp) hws2
    have hlen := HL.out
    rw [ht, wr_fn] at hlen
    simp only [mkFn, List.length_append] at hlen
    have hbt := bag_text bt wb hbg
    have HC := Lib.hid (functions_any bb (bagL bt) (wrTr tt) w1 hbag (by rw [hbt]; omega) (by omega))
    have HT := Lib.hid ht
    have HBT := Lib.hid hbt
    have HY : Hid (isTy (.mk [] ps) = true) := Lib.hid (by rw [ht]; exact (fn_ty bt tt wb wt hbg hty).2.1)
    have HB1 := Lib.hid hb1
    clear ht hbg hty hbag hws hws2 wb wt hlen hbt hb1
    go_wp2_with fail
    refine HC.out.mono ?_
    rintro e w2 ⟨rfl, hb2⟩
    have HB2 := Lib.hid (HB1.out.trans (hb2.mono hz1))
    clear hb2
    go_wp2_with fail
    go_ret2
    refine ⟨HB2.out, .inl ⟨HY.out, ?_⟩⟩
    rw [HT.out, wr_fn, HBT.out]
    rfl
  · have HB1 := Lib.hid hb1
    have H3 := Lib.hid h3
    clear hb1 h3
    go_wp2_with fail
    go_ret2
    exact ⟨HB1.out, .inr ⟨by rw [HI.out, H3.out], rfl⟩⟩

theorem tf_bf_any : ∀ t : Tr, TfSaid t ∧ BfSaid t := by
  intro t
  refine Tr.all (p := fun t => TfSaid t ∧ BfSaid t) ?_ t
  intro a ps ih
  by_cases ha : a = []
  · subst ha
    refine ⟨typeOf_list ps (fun u hu => (ih u hu).2) (fun u hu => (ih u hu).1), ?_⟩
    intro v w P ht hP hw hl
    obtain ⟨hne, _⟩ := wf_list ps hw
    match ps, hne with
    | .mk pa pq :: r, _ =>
      by_cases hm : pa = [109]
      · subst hm
        exact bagOf_yes r pq (fun u hu => (ih u (List.mem_cons_of_mem _ hu)).1) v w P ht hP hw hl
      · exact bagOf_no _ (by simp [isBagL, Tr.parts, Tr.atom, hm]) (by simp [isBag, isBagL, Tr.atom, hm]) (.inr ⟨.mk pa pq, r, rfl, hm⟩) v w P ht hP
  · refine ⟨typeOf_atom a ps ha, ?_⟩
    intro v w P ht hP hw hl
    have hps := wf_atom a ps hw ha
    subst hps
    exact bagOf_no _ rfl (by simp [isBag, ha]) (.inl rfl) v w P ht hP
end Go.Proofs.YtnnnphammfeemaaGreat
