/- The types of a bag in order. -/
import Derived.Test.YtnnnphammfeemaaGreatPB
namespace Go.Proofs.YtnnnphammfeemaaGreat
set_option linter.unusedVariables false
open Go.RowKit Go.Maps

theorem drop_cons_mem (ks : List (List UInt8)) (j : Nat) (t : List UInt8) (h : ks[j]? = some t) (x : List UInt8) : x ∈ ks.drop j ↔ x = t ∨ x ∈ ks.drop (j + 1) := by
  obtain ⟨hj, e⟩ := List.getElem?_eq_some_iff.1 h
  rw [List.drop_eq_getElem_cons hj, e, List.mem_cons]
theorem drop_least (ks : List (List UInt8)) (hs : ks.Pairwise (fun a b => leB a b = true)) (j : Nat) (t : List UInt8) (h : ks[j]? = some t) (x : List UInt8) (hx : x ∈ ks.drop j) : leB t x = true := by
  obtain ⟨hj, e⟩ := List.getElem?_eq_some_iff.1 h
  have hd : (ks.drop j).Pairwise (fun a b => leB a b = true) := hs.sublist (List.drop_sublist j ks)
  rw [List.drop_eq_getElem_cons hj, e] at hd hx
  rcases List.mem_cons.1 hx with rfl | hx
  · exact leB_refl _
  · exact (List.pairwise_cons.1 hd).1 x hx

/-- On the way: what is left of the bag, what was written. -/
structure LsRel (w w3 : World) (rb : Nat) (vk : Value) (L ks : List (List UInt8)) (j : Nat) (out R : List (List UInt8)) (v : Value) (wr : World) : Prop where
  below : Below w.heap.size w wr
  rest : BagIs wr rb R
  keys : wr.ownsRow w.heap.size 76 1 vk ks.length (ks.map strV)
  row : TRow wr w3.heap.size v out
  size : w3.heap.size ≤ wr.heap.size
  eq : out ++ srt R = srt L
  sub : ∀ x ∈ R, x ∈ ks.drop j
  low : w.heap.size ≤ rb ∧ rb < w3.heap.size
  kb : ∀ k, vk.ownBlock = some k → k < w3.heap.size

theorem LsRel.few {w w3 : World} {rb : Nat} {vk : Value} {L ks : List (List UInt8)} {j : Nat} {out R : List (List UInt8)} {v : Value} {wr : World} (h : LsRel w w3 rb vk L ks j out R v wr) : out.length + R.length = L.length := by
  have := congrArg List.length h.eq
  rw [List.length_append, (srt_perm R).length_eq, (srt_perm L).length_eq] at this
  exact this

theorem row_cell {w : World} {base : Nat} {A : Option Addr} {n c : Nat} {l : List (List UInt8)} (h : w.ownsRow base 76 1 (.slice A n c) l.length (l.map strV)) {k : Nat} {x : List UInt8} (hk : l[k]? = some x) : ∃ g, A = some ⟨g, 0, none⟩ ∧ g < w.heap.size ∧ base ≤ g ∧ w.cell? ⟨g, k, none⟩ = some (.string ⟨x.toArray⟩) := by
  rcases h.2 with ⟨_, h0⟩ | ⟨g, cap, cur, hv, hb, hg, _⟩
  · have hn : l.length = 0 := h0
    have := (List.getElem?_eq_some_iff.1 hk).1
    omega
  · injection hv with h1 h2 h3
    subst h1
    refine ⟨g, rfl, (Array.getElem?_eq_some_iff.1 hg).1, hb, ?_⟩
    have := h.cells (g := g) rfl k (.string ⟨x.toArray⟩) (by rw [List.getElem?_map, hk]; rfl)
    rwa [add_off] at this
/-- One type is taken and written. -/
theorem LsRel.step {w w3 wr w4 w5 : World} {rb j : Nat} {vk v v2 : Value} {L ks out R : List (List UInt8)} {t : List UInt8} (h : LsRel w w3 rb vk L ks j out R v wr) (ht : t ∈ R) (hk : ks[j]? = some t) (hs : ks.Pairwise (fun a b => leB a b = true))
    (hr : BagIs w4 rb (R.erase t)) (hg : wr.grownBy w4 (some rb)) (hown : w5.ownsRow w3.heap.size 76 1 v2 (out.length + 1) (out.map strV ++ [.string ⟨t.toArray⟩])) (hg5 : (w4.alloc (.cells #[.string ⟨t.toArray⟩] 76)).grownBy w5 v.ownBlock) :
    LsRel w w3 rb vk L ks j (out ++ [t]) (R.erase t) v2 w5 := by
  have hz4 := hg.size
  have hz5 := hg5.size
  simp only [World.size_alloc] at hz5
  have hsz := h.size
  have hlow := h.low
  have hrow := h.row.lt
  have hbz := h.below.size
  have hk4 : w4.ownsRow w.heap.size 76 1 vk ks.length (ks.map strV) := h.keys.kept hg (.inr (h.rest.row h.keys))
  refine ⟨?_, ?_, ?_, ?_, by omega, ?_, fun x hx => h.sub x (List.mem_of_mem_erase hx), hlow, h.kb⟩
  · have h1 : Below w.heap.size w w4 := h.below.grown hg hbz (fun k e => by injection e with e; omega)
    exact (h1.alloc (by omega) _).grown hg5 (by simp; omega) (fun k e => by have := hrow k e; omega)
  · exact (hr.alloc _).kept hg5 (fun e => by have := hrow rb e.symm; omega)
  · refine (hk4.alloc _).kept hg5 ?_
    cases hv : vk.ownBlock with
    | none => exact .inl rfl
    | some k => exact .inr (fun e => by have := h.kb k hv; have := hrow k e.symm; omega)
  · show w5.ownsRow _ _ _ _ _ _
    rw [List.length_append, List.map_append]
    exact hown
  · rw [List.append_assoc, List.singleton_append, ← srt_min R t ht (fun x hx => drop_least ks hs j t hk x (h.sub x hx)), h.eq]
/-- A type that is not there any more. -/
theorem LsRel.next {w w3 wr w4 : World} {rb j : Nat} {vk v : Value} {L ks out R : List (List UInt8)} {t : List UInt8} (h : LsRel w w3 rb vk L ks j out R v wr) (ht : t ∉ R) (hk : ks[j]? = some t)
    (hr : BagIs w4 rb (R.erase t)) (hg : wr.grownBy w4 (some rb)) : LsRel w w3 rb vk L ks (j + 1) out R v w4 := by
  have hz4 := hg.size
  have hsz := h.size
  have hlow := h.low
  have hrow := h.row.lt
  have hbz := h.below.size
  rw [List.erase_of_not_mem ht] at hr
  refine ⟨h.below.grown hg hbz (fun k e => by injection e with e; omega), hr, h.keys.kept hg (.inr (h.rest.row h.keys)), h.row.kept hg (.inr (h.rest.row h.row)), by omega, h.eq, fun x hx => ?_, hlow, h.kb⟩
  rcases (drop_cons_mem ks j t hk x).1 (h.sub x hx) with rfl | h1
  · exact absurd hx ht
  · exact h1

def LiPost (w : World) (L : List (List UInt8)) (e : Ending) (w' : World) : Prop := ∃ v, e = .returned v ∧ TRow w' w.heap.size v (srt L) ∧ Below w.heap.size w w'

theorem Tryz.infoT : (Tryz.prog.info? 76).map (fun i => (i.zero, i.size, i.bytes)) = some (some (.string ⟨#[]⟩), 1, 16) := by kernel_rfl

set_option maxRecDepth 100000 in
set_option maxHeartbeats 4000000 in
theorem list_any (b : Nat) (L : List (List UInt8)) (w : World) (h : BagIs w b L) (hL : L.length ≤ 1000000000) :
    Calls Tryz.prog 81 #[.map (some b)] w (LiPost w L) := by
  obtain ⟨i0, hinf, hz0, hzs, hzb⟩ := info_parts Tryz.infoT
  obtain ⟨D, hown, hc⟩ := h
  have HC := Lib.hid hc
  have HO := Lib.hid hown
  have hbw := hown.lt
  have HS := Lib.hid hown.size_le
  clear hc hown
  go_enter Tryz.func81, Tryz.ntmps81
  go_wp2_with fail
  refine (maps_Clone_any _ b L.length D _ HO.out).mono ?_
  rintro e w1 ⟨rfl, hr1, hb1, hB1⟩
  have hz1 := hr1.lt
  have HR1 := Lib.hid hr1
  have HB1 := Lib.hid hB1
  have HO1 := Lib.hid hb1
  clear hr1 hb1 hB1
  go_wp2_with fail
  refine (maps_Keys_any _ _).mono ?_
  rintro e w2 ⟨rfl, rfl⟩
  go_wp2_with fail
  refine (slices_Sorted_any b L.length D _ w1 HO1.out (by have := HS.out; unfold maxLen; omega) (by have := HS.out; omega)).mono ?_
  rintro e w3 ⟨vk, ss, rfl, hperm, hrow, hnil, hb3⟩
  have hz3 := hb3.size
  simp at hz3
  have HKS : Hid ((srt ss).length = ss.length) := Lib.hid (srt_perm ss).length_eq
  have hks : w3.ownsRow w.heap.size 76 1 vk (srt ss).length ((srt ss).map strV) := by
    rw [HKS.out]
    exact ownsRow_base_a hrow (by simp; omega)
  obtain ⟨AK, ck, hvk⟩ := own_shape hks
  subst hvk
  have HLE : Hid (∀ x ∈ srt ss, x.length ≤ maxLen) := Lib.hid fun x hx => strKeys_le HO1.out Tryz.underlying76 x (hperm.mem_iff.1 ((srt_perm ss).mem_iff.1 hx))
  have HSUB : Hid (∀ x ∈ L, x ∈ srt ss) := Lib.hid fun x hx => (srt_perm ss).mem_iff.2 (hperm.mem_iff.2 ((keys_once HO.out lawT Tryz.underlying76 HC.out).mem_iff.1 ((once_mem L x).2 hx)))
  have HSRT := Lib.hid (srt_sorted ss)
  have HKB : Hid (∀ k, (Value.slice AK (srt ss).length ck).ownBlock = some k → k < w3.heap.size) := Lib.hid fun k e => (hks.lt k e).2
  have HKR := Lib.hid hks
  have HB3 : Hid (Below w.heap.size w w3) := Lib.hid ((HB1.out.alloc (by omega) _).trans (hb3.mono (by simp; omega)))
  have HRS : Hid (BagIs w3 w.heap.size L) := Lib.hid ⟨D, (HR1.out.alloc _).kept (grown_of_below hb3 none) (by simp), HC.out⟩
  have hkn : (srt ss).length ≤ 1000000000 := by
    have := HS.out
    have h2 := (keys_once HO.out lawT Tryz.underlying76 HC.out).length_eq
    have h3 := hperm.length_eq
    have h4 := once_length L
    rw [HKS.out]
    omega
  generalize srt ss = ks at HLE HSUB HSRT HKB HKR hkn ⊢
  clear hks hperm hrow hnil hb3 HKS
  go_wp2_with fail
  go_loopw [4, 13] (fun lv i wr => ∃ (j : Nat) (out R : List (List UInt8)) (A : Option Addr) (c : Nat), j ≤ ks.length ∧ i = .int .i64 j ∧ lv = .slice A out.length c ∧ Hid (LsRel w w3 w.heap.size (.slice AK ks.length ck) L ks j out R (.slice A out.length c) wr)) (fun _ i _ => ks.length - (intOf i).toNat)
  case atStart => exact ⟨0, [], L, none, 0, by omega, rfl, rfl, Lib.hid ⟨HB3.out, HRS.out, HKR.out, World.ownsRow_nil _ _ _ _, by omega, rfl, HSUB.out, ⟨by omega, by omega⟩, HKB.out⟩⟩
  case round =>
    obtain ⟨j, out, R, A, c, hj, rfl, rfl, HL⟩ := hrel
    by_cases hjl : j < ks.length
    · obtain ⟨t, ht⟩ : ∃ t, ks[j]? = some t := ⟨ks[j], by simp⟩
      have HT := Lib.hid ht
      have htl := HLE.out t (List.mem_of_getElem? ht)
      obtain ⟨g, rfl, hgl, hgb, hcell⟩ := row_cell HL.out.keys ht
      clear ht
      go_wp2_with fail
      go_loopg [4] R.length (fun q lv wr => ∃ (out' R' : List (List UInt8)) (A' : Option Addr) (c' : Nat), q = R'.length ∧ lv = .slice A' out'.length c' ∧ Hid (LsRel w w3 w.heap.size (.slice (some ⟨g, 0, none⟩) ks.length ck) L ks j out' R' (.slice A' out'.length c') wr))
      case atStart => exact ⟨out, R, A, c, rfl, rfl, HL⟩
      case round =>
        obtain ⟨out, R, A, c, hq, rfl, HL⟩ := hrel
        have HQ := Lib.hid hq
        have hfew := HL.out.few
        have hw3 := HL.out.size
        clear hq
        by_cases hm : t ∈ R
        · have hd : decide (t ∈ R) = true := decide_eq_true hm
          have HM := Lib.hid hm
          have hRl : 0 < R.length := List.length_pos_of_mem hm
          clear hm
          go_wp2_with fail
          refine (take_any t htl w.heap.size R _ HL.out.rest (by omega)).mono ?_
          rintro e w4 ⟨rfl, hr4, hg4⟩
          have hz4 := hg4.size
          have HOW : Hid (w4.ownsRow w3.heap.size 76 1 (.slice A out.length c) out.length (out.map strV)) := Lib.hid (HL.out.row.kept hg4 (.inr (HL.out.rest.row HL.out.row)))
          have HR4 := Lib.hid hr4
          have HG4 := Lib.hid hg4
          clear hr4 hg4
          go_wp2_with (first
            | (at_builtin
               refine wpList_append_own_at _ rfl (.tmp 20) (.tmp 22) 137 rfl w3.heap.size 76 i0 (.string ⟨#[]⟩) 1 16 Tryz.underlying137 hinf hz0 hzs hzb rfl (by decide) (.slice A out.length c) out.length (out.map strV) rfl (HOW.out.alloc _) ⟨w4.heap.size, 0, none⟩ 1 1 [.string ⟨t.toArray⟩] rfl rfl (cell_one_new _ _ _) ?_ ?_ ?_ ?_ ?_
               · intro u hu
                 simp at hu
                 subst hu
                 rfl
               · unfold maxLen; omega
               · omega
               · simp; omega
               intro v2 w5 hown5 hg5 _ hat5')
            | fail)
          obtain ⟨A6, c6, hv2⟩ := own_shape hown5
          subst hv2
          go_roundg (R.erase t).length
          case rel =>
            refine ⟨out ++ [t], R.erase t, A6, c6, rfl, by simp, Lib.hid ?_⟩
            have := HL.out.step HM.out HT.out HSRT.out HR4.out HG4.out hown5 hg5
            simpa using this
          case measure => have := HQ.out; rw [List.length_erase_of_mem HM.out]; omega
        · have hd : decide (t ∈ R) = false := decide_eq_false hm
          have HM := Lib.hid hm
          clear hm
          go_wp2_with fail
          refine (take_any t htl w.heap.size R _ HL.out.rest (by omega)).mono ?_
          rintro e w4 ⟨rfl, hr4, hg4⟩
          have HN := Lib.hid (HL.out.next HM.out HT.out hr4 hg4)
          clear hr4 hg4
          go_wp2_with fail
          go_roundw
          case rel => exact ⟨j + 1, out, R, A, c, by omega, by go_num, rfl, HN⟩
          case measure => simp [intOf]; omega
    · have hR : R = [] := by
        have h1 : ks.drop j = [] := List.drop_of_length_le (by omega)
        cases R with
        | nil => rfl
        | cons x r => have := HL.out.sub x (by simp); rw [h1] at this; cases this
      have HR := Lib.hid hR
      clear hR
      go_wp2
      go_ret
      refine ⟨_, rfl, ?_, HL.out.below⟩
      have he := HL.out.eq
      rw [HR.out] at he
      have h0 : srt ([] : List (List UInt8)) = [] := by simp [srt]
      rw [h0, List.append_nil] at he
      have := HL.out.row
      rw [he] at this ⊢
      exact ownsRow_base_a this (by have := HL.out.low; omega)
end Go.Proofs.YtnnnphammfeemaaGreat
