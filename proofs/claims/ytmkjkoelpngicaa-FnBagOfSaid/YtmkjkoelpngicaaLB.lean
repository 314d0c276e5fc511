/- The law that the order of types does not matter, walked. -/
import Derived.Test.YtmkjkoelpngicaaDU
import Derived.Test.YtmkjkoelpngicaaMJ
import Derived.Test.YtmkjkoelpngicaaPJ
namespace Go.Proofs.Ytmkjkoelpngicaa
set_option linter.unusedVariables false
open Go.RowKit

theorem bgOf_some {L : List (List UInt8)} {T : List UInt8} (h : bgOf L = some T) : (∀ x ∈ L, (rdTy x).isSome = true) ∧ bgN L ≤ 200 ∧ T = mkBag (srt L) := by
  unfold bgOf at h
  split at h
  · rename_i hc
    injection h with h
    exact ⟨(all_types L).1 hc.1, hc.2, h.symm⟩
  · cases h
theorem bgOf_turn {L : List (List UInt8)} {T : List UInt8} (h : bgOf L = some T) : bgOf L.reverse = some T := by
  obtain ⟨h1, h2, h3⟩ := bgOf_some h
  unfold bgOf
  rw [if_pos ⟨(all_types _).2 fun x hx => h1 x (List.mem_reverse.1 hx), by rw [bgN_perm (List.reverse_perm L)]; exact h2⟩, srt_congr (List.reverse_perm L), h3]
theorem cntR_of {L : List (List UInt8)} {T x : List UInt8} (h : bgOf L = some T) (hx : x ∈ L) : cntR T x = ((L.count x : Nat) : Int) := by
  obtain ⟨h1, h2, h3⟩ := bgOf_some h
  obtain ⟨h4, h5⟩ := rdBg_mk L h1
  rw [← h3] at h4 h5
  have h6 : (rdBg T).isSome = true := by rw [h4]; simpa using h2
  obtain ⟨t, ht⟩ := Option.isSome_iff_exists.1 h6
  unfold cntR
  rw [ht]
  simp only
  rw [if_pos (h1 x hx), h5 t ht, (srt_perm L).count_eq]

theorem below_dN {B : Nat} {a w : World} (h : Below B a w) (n : Nat) : Below B a (w.drewN n) := ⟨h.os, h.tape, h.output, h.size, h.block⟩
theorem rev_next (L : List (List UInt8)) (j : Nat) (x : List UInt8) (h : L[j]? = some x) : (L.drop j).reverse = (L.drop (j + 1)).reverse ++ [x] := by
  obtain ⟨hj, e⟩ := List.getElem?_eq_some_iff.1 h
  rw [List.drop_eq_getElem_cons hj, e]
  simp

set_option maxRecDepth 100000 in
set_option maxHeartbeats 8000000 in
theorem bagOfLaw_walk (b off n c : Nat) (A : Option Addr) (w : World) (h : CodeAt w b off n A) (hc : n ≤ c) (hc2 : c ≤ maxLen) :
    Calls Try.prog 13 #[.slice A n c] w fun e w' => e = .returned (.bool true) ∧ Below w.heap.size w w' := by
  obtain ⟨i0, hinf, hz0, hzs, hzb⟩ := info_parts Try.infoS'
  by_cases hn : n ≤ 1048576
  · have HD := Lib.hid (drawBagOf_any b off n c A w h hn hc hc2)
    unfold maxLen at hc2
    clear h
    go_enter Try.func13, Try.ntmps13
    go_wp2_with fail
    refine HD.out.mono ?_
    rintro e w1 ⟨g, k, L, rfl, hrow, hL4, hsh, hb1⟩
    have hz1 := hb1.size
    have R1 := Lib.hid hrow
    have HB1 := Lib.hid hb1
    have IM := Lib.hid (implBagOf_any L _ w1 (row_low hrow (Nat.zero_le _)) (by omega) (fun x hx => by have := hsh x hx; omega))
    have SP := Lib.hid (fun w' (h : SRow w' w.heap.size (.slice (some ⟨g, 0, none⟩) L.length k) L) => specBagOf_any L _ w.heap.size w' h (by omega) (fun x hx => by have := hsh x hx; omega))
    have IR := Lib.hid (fun w' v (h : SRow w' 0 v L.reverse) => implBagOf_any L.reverse v w' h (by rw [List.length_reverse]; omega) (fun x hx => by have := hsh x (List.mem_reverse.1 hx); omega))
    unfold txR at IM IR
    unfold txS at SP
    have HSH := Lib.hid hsh
    clear hrow hb1 hsh
    cases hbg : bgOf L with
    | none =>
      rw [hbg] at IM SP
      clear hbg IR
      go_wp2_with fail
      refine IM.out.mono ?_
      rintro e w2 ⟨rfl, hb2⟩
      have HB2 := Lib.hid (HB1.out.trans (hb2.mono hz1))
      have hz2 := HB2.out.size
      have R2 := Lib.hid (R1.out.kept (grown_of_below hb2 none) (by simp [Value.ownBlock]))
      clear hb2
      go_wp2_with fail
      refine (SP.out _ R2.out).mono ?_
      rintro e w3 ⟨rfl, hb3⟩
      have HB3 := Lib.hid (HB2.out.trans (hb3.mono hz2))
      clear hb3
      go_wp2_with fail
      go_ret
      exact ⟨rfl, HB3.out⟩
    | some T =>
      rw [hbg] at IM SP
      rw [bgOf_turn hbg] at IR
      have HBG := Lib.hid hbg
      have HTS : T.length ≤ 1000000 := by
        obtain ⟨h1, h2, h3⟩ := bgOf_some hbg
        have h4 := bag_long (srt L) 200 (fun x hx => HSH.out x ((srt_perm L).mem_iff.1 hx))
        have h5 : (srt L).length * 201 ≤ 4 * 201 := Nat.mul_le_mul_right _ (by rw [(srt_perm L).length_eq]; omega)
        rw [h3]; omega
      have BC : Hid (∀ x w', x ∈ L → Calls Try.prog 30 #[.string ⟨T.toArray⟩, .string ⟨x.toArray⟩] w' fun e w2 => e = .returned (.int .i64 ((L.count x : Nat) : Int)) ∧ Below w'.heap.size w' w2) :=
        Lib.hid fun x w' hx => (implBagCount_any ⟨T.toArray⟩ ⟨x.toArray⟩ w' (by simp [ByteArray.size, maxLen]; omega) (by have := HSH.out x hx; simp [ByteArray.size, maxLen]; omega)).mono fun e w2 ⟨he, hb⟩ => ⟨he.trans (by rw [show cntR (⟨T.toArray⟩ : ByteArray).data.toList (⟨x.toArray⟩ : ByteArray).data.toList = _ from cntR_of hbg hx]), hb⟩
      clear hbg
      go_wp2_with fail
      refine IM.out.mono ?_
      rintro e w2 ⟨rfl, hb2⟩
      have HB2 := Lib.hid (HB1.out.trans (hb2.mono hz1))
      have hz2 := HB2.out.size
      have R2 := Lib.hid (R1.out.kept (grown_of_below hb2 none) (by simp [Value.ownBlock]))
      clear hb2
      go_wp2_with fail
      refine (SP.out _ R2.out).mono ?_
      rintro e w3 ⟨rfl, hb3⟩
      have HB3 := Lib.hid (HB2.out.trans (hb3.mono hz2))
      have hz3 := HB3.out.size
      have R3 := Lib.hid (R2.out.kept (grown_of_below hb3 none) (by simp [Value.ownBlock]))
      clear hb3
      obtain ⟨N, hN⟩ : ∃ N, L.length = N := ⟨_, rfl⟩
      have HN := Lib.hid hN
      have hgl := (R3.out.lt g rfl)
      rw [hN] at hL4 ⊢
      clear hN
      have hwN : IntKind.i64.wrap ((N : Int) - 1) = (N : Int) - 1 := IntWalk.i64_in _ (by omega)
      go_wp2_with fail
      go_loopw [8, 9] (fun lv i wr => ∃ (j m g1 c1 : Nat) (z : Int) (R : List (List UInt8)), j ≤ N ∧ m + j = N ∧ z = (j : Int) - 1 ∧ i = .int .i64 z ∧ lv = .slice (some ⟨g1, 0, none⟩) m c1 ∧ R.length = m ∧ Hid (R = (L.drop j).reverse) ∧ Hid (SRow wr w3.heap.size (.slice (some ⟨g1, 0, none⟩) m c1) R) ∧ Hid (SRow wr w.heap.size (.slice (some ⟨g, 0, none⟩) L.length k) L) ∧ Hid (Below w.heap.size w wr) ∧ w3.heap.size ≤ wr.heap.size) (fun _ i _ => (intOf i + 1).toNat)
      case atStart =>
        refine ⟨N, 0, w3.heap.size, 0, _, [], by omega, by omega, rfl, rfl, rfl, rfl, Lib.hid ?_, Lib.hid ?_, Lib.hid (R3.out.alloc _), Lib.hid (HB3.out.alloc (by omega) _), by simp⟩
        · rw [List.drop_of_length_le (by rw [HN.out]; omega)]; rfl
        · exact World.ownsRow_made (base := w3.heap.size) (e := 9) (size := 1) w3 #[] 0 (Nat.le_refl _) (Nat.zero_le _) rfl
      case round =>
        obtain ⟨j, m, g1, c1, z, R, hj, hmj, hz, rfl, rfl, hRl, HRE, HR, HL, HB, hsz⟩ := hrel
        by_cases hj0 : j = 0
        · have hz0' : z = -1 := by omega
          subst hz0'
          clear hz
          subst hj0
          have HRL : Hid (R = L.reverse) := Lib.hid (by rw [HRE.out]; simp)
          have IRC := Lib.hid (IR.out _ _ (by rw [← HRL.out]; exact row_low HR.out (Nat.zero_le _)))
          go_wp2_with fail
          refine IRC.out.mono ?_
          rintro e w5 ⟨rfl, hb5⟩
          have HL5 := Lib.hid (HL.out.kept (grown_of_below hb5 none) (by simp [Value.ownBlock]))
          have HB5 := Lib.hid (HB.out.trans (hb5.mono (by omega)))
          have hz5 := HB5.out.size
          clear hb5 hsz hRl hmj
          go_wp2_with fail
          go_loopw [12] (fun i wr => ∃ (a : Nat), a ≤ N ∧ i = .int .i64 (a : Nat) ∧ Hid (SRow wr w.heap.size (.slice (some ⟨g, 0, none⟩) L.length k) L) ∧ Hid (Below w.heap.size w wr)) (fun i _ => N - (intOf i).toNat)
          case atStart => exact ⟨0, by omega, rfl, HL5, HB5⟩
          case round =>
            obtain ⟨a, ha, rfl, HLa, HBa⟩ := hrel
            have hza := HBa.out.size
            by_cases haN : a < N
            · obtain ⟨x, hx⟩ : ∃ x, L[a]? = some x := ⟨L[a]'(by have := HN.out; omega), by simp⟩
              have hal : a < L.length := by have := HN.out; omega
              obtain ⟨g', hg', _, _, _, hcell⟩ := HLa.out.cell (k := a) hal
              injection hg' with hg'
              injection hg' with hg'
              subst hg'
              have hxe : L[a] = x := (List.getElem?_eq_some_iff.1 hx).2
              rw [hxe] at hcell
              have HXM := Lib.hid (List.mem_of_getElem? hx)
              have a1 : (0 : Int) ≤ (a : Int) := by omega
              have a2 : (a : Int) < (N : Int) := by omega
              clear hx hxe hal
              go_wp2_with fail
              go_loopw [13, 14] (fun nv i wq => ∃ (t q m : Nat), t ≤ N ∧ m ≤ t ∧ i = .int .i64 (t : Nat) ∧ nv = .int .i64 (m : Nat) ∧ Hid (m = (L.take t).count x) ∧ wq = wr.drewN q) (fun _ i _ => N - (intOf i).toNat)
              case atStart => exact ⟨0, 0, 0, by omega, by omega, rfl, rfl, Lib.hid rfl, rfl⟩
              case round =>
                obtain ⟨t, q, m, ht, hmt, rfl, rfl, HM, rfl⟩ := hrel
                by_cases htN : t < N
                · obtain ⟨y, hy⟩ : ∃ y, L[t]? = some y := ⟨L[t]'(by have := HN.out; omega), by simp⟩
                  have htl : t < L.length := by have := HN.out; omega
                  obtain ⟨g', hg', _, _, _, hcell2⟩ := HLa.out.cell (k := t) htl
                  injection hg' with hg'
                  injection hg' with hg'
                  subst hg'
                  have hye : L[t] = y := (List.getElem?_eq_some_iff.1 hy).2
                  rw [hye] at hcell2
                  have HCN := Lib.hid (count_next L t x y hy)
                  have t1 : (0 : Int) ≤ (t : Int) := by omega
                  have t2 : (t : Int) < (N : Int) := by omega
                  clear hy hye htl
                  by_cases heq : y = x
                  · have h1 : (y == x) = true := beq_iff_eq.2 heq
                    have HEQ := Lib.hid heq
                    clear heq
                    go_wp2
                    go_quiet (fail)
                    go_wp2
                    go_roundw
                    case rel => exact ⟨t + 1, q + nq, m + 1, by omega, by omega, by go_num, by go_num, Lib.hid (by rw [HCN.out, if_pos HEQ.out, ← HM.out]), rfl⟩
                    case measure => simp [intOf]; omega
                  · have h1 : (y == x) = false := beq_eq_false_iff_ne.2 heq
                    have HEQ := Lib.hid heq
                    clear heq
                    go_wp2
                    go_quiet (fail)
                    go_wp2
                    go_roundw
                    case rel => exact ⟨t + 1, q + nq, m, by omega, by omega, by go_num, rfl, Lib.hid (by rw [HCN.out, if_neg HEQ.out, ← HM.out]; rfl), rfl⟩
                    case measure => simp [intOf]; omega
                · have HMF : Hid (m = L.count x) := Lib.hid (by rw [HM.out, List.take_of_length_le (by have := HN.out; omega)])
                  have BCC := BC.out x (wr.drewN q) HXM.out
                  rw [← HMF.out] at BCC
                  have HBCC := Lib.hid BCC
                  clear BCC
                  go_wp2_with fail
                  refine HBCC.out.mono ?_
                  rintro e w7 ⟨rfl, hb7⟩
                  have HL7 := Lib.hid ((show SRow (wr.drewN q) w.heap.size (.slice (some ⟨g, 0, none⟩) L.length k) L from HLa.out).kept (grown_of_below hb7 none) (by simp [Value.ownBlock]))
                  have HB7 := Lib.hid ((below_dN HBa.out q).trans (hb7.mono (by show w.heap.size ≤ wr.heap.size; omega)))
                  clear hb7
                  go_wp2_with fail
                  go_roundw
                  case rel => exact ⟨a + 1, by omega, by go_num, HL7, HB7⟩
                  case measure => simp [intOf]; omega
            · go_wp2_with fail
              go_ret
              exact ⟨rfl, HBa.out⟩
        · obtain ⟨j', rfl⟩ : ∃ j', j = j' + 1 := ⟨j - 1, by omega⟩
          have hz0' : z = (j' : Int) := by omega
          subst hz0'
          clear hz
          obtain ⟨x, hx⟩ : ∃ x, L[j']? = some x := ⟨L[j']'(by have := HN.out; omega), by simp⟩
          have hjl : j' < L.length := by have := HN.out; omega
          obtain ⟨g', hg', _, _, _, hcell⟩ := HL.out.cell (k := j') hjl
          injection hg' with hg'
          injection hg' with hg'
          subst hg'
          have hxe : L[j'] = x := (List.getElem?_eq_some_iff.1 hx).2
          rw [hxe] at hcell
          have HRN := Lib.hid (rev_next L j' x hx)
          have hwz : IntKind.i64.wrap ((j' : Int) - 1) = (j' : Int) - 1 := IntWalk.i64_in _ (by omega)
          have i1 : (0 : Int) ≤ (j' : Int) := by omega
          have i2 : (j' : Int) < (N : Int) := by omega
          have HRl := Lib.hid hRl
          clear hx hxe hjl hRl
          go_wp2_with (first
            | (at_builtin
               refine wpList_append_own_at _ rfl (.tmp 58) (.tmp 63) 23 rfl w3.heap.size 9 i0 (.string ⟨#[]⟩) 1 16 Try.underlying23 hinf hz0 hzs hzb rfl (by decide) (.slice (some ⟨g1, 0, none⟩) m c1) m (R.map strV) rfl (by have h := HR.out.alloc (.cells #[.string ⟨x.toArray⟩] 9); rw [HRl.out] at h; exact h) ⟨wr.heap.size, 0, none⟩ 1 1 [.string ⟨x.toArray⟩] rfl rfl (cell_one_new _ _ _) ?_ ?_ ?_ ?_ ?_
               · intro u hu
                 simp at hu
                 subst hu
                 rfl
               · unfold maxLen; omega
               · omega
               · simp; omega
               intro v4 w4 hown4 hg4 _ hat4)
            | fail)
          have hsh : ∃ g6 c6, v4 = .slice (some ⟨g6, 0, none⟩) (m + 1) c6 := by
            rcases hown4.2 with ⟨_, h⟩ | ⟨g6, c6, cur, hv, _⟩
            · omega
            · exact ⟨g6, c6, hv⟩
          obtain ⟨g6, c6, hv4⟩ := hsh
          subst hv4
          have hlo := (HR.out.lt g1 rfl).1
          have hs4 := hg4.size
          simp at hs4
          go_roundw
          case rel =>
            refine ⟨j', m + 1, g6, c6, _, R ++ [x], by omega, by omega, rfl, rfl, rfl, by simp [HRl.out], Lib.hid (by rw [HRN.out, HRE.out]), Lib.hid ?_, Lib.hid ((HL.out.alloc _).kept hg4 (.inr (by simp [Value.ownBlock] <;> omega))), Lib.hid ((HB.out.alloc (by omega) _).grown hg4 (by simp; omega) (fun k e => by simp [Value.ownBlock] at e; omega)), by omega⟩
            have e : (R ++ [x]).length = m + 1 := by simp [HRl.out]
            unfold SRow
            rw [e, List.map_append]
            exact hown4
          case measure => simp [intOf] <;> omega
  · unfold maxLen at hc2
    go_enter Try.func13, Try.ntmps13
    go_wp2_with fail
    go_ret
    exact ⟨rfl, Below.refl _ _⟩
end Go.Proofs.Ytmkjkoelpngicaa
