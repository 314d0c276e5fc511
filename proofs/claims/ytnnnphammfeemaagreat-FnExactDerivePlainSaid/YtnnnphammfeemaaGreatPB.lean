/- Bags in memory: a type is taken out of one; its types in order. -/
import Derived.Test.YtnnnphammfeemaaGreatLY
import Derived.Test.YtnnnphammfeemaaGreatBG
import Derived.Test.YtnnnphammfeemaaGreatS0
import Derived.Test.YtnnnphammfeemaaGreatB
import Derived.Maps.OwnOps
import Derived.Maps.OwnSet
import Derived.Maps.RangeWalk
import Derived.Sort.OwnSorted
import Derived.WalkLawsBesides
import Derived.Deep.LoopGhost
import Derived.StringKeys
namespace Go.Proofs.YtnnnphammfeemaaGreat
set_option linter.unusedVariables false
open Go.RowKit Go.Maps

theorem lawT : Keyed Tryz.prog 76 := string_keyed Tryz.underlying76
/-- What a map from texts to numbers holds. -/
abbrev MapIs (w : World) (b n : Nat) (D : DataW Unit) : Prop := w.ownsMap Tryz.prog 76 (plainElem Tryz.prog 3) b n D
/-- A bag in block b has these types, each as often as it is among them. -/
def BagIs (w : World) (b : Nat) (L : List (List UInt8)) : Prop := ∃ D : DataW Unit, MapIs w b L.length D ∧ Cnt D L
theorem once_length (L : List (List UInt8)) : (once L).length ≤ L.length := by
  induction L with
  | nil => simp [once]
  | cons x r ih => unfold once; split <;> simp <;> omega
theorem BagIs.mk {w : World} {b n : Nat} {D : DataW Unit} {L : List (List UInt8)} (h : MapIs w b n D) (hc : Cnt D L) : BagIs w b L := by
  refine ⟨D, ?_, hc⟩
  have hk := (keys_once h lawT Tryz.underlying76 hc).length_eq
  obtain ⟨es, clock, hb, F, hs, hD⟩ := h
  refine ⟨es, clock, hb, F, ?_, hD⟩
  have hl : (strKeys D).length = es.size := by
    rw [hD]
    simp [strKeys, length_sorted]
  have := once_length L
  omega
theorem BagIs.lt {w : World} {b : Nat} {L : List (List UInt8)} (h : BagIs w b L) : b < w.heap.size := by
  obtain ⟨D, h, _⟩ := h
  exact h.lt
theorem BagIs.kept {w w' : World} {b : Nat} {L : List (List UInt8)} {row : Option Nat} (h : BagIs w b L) (hg : w.grownBy w' row) (hne : some b ≠ row) : BagIs w' b L := by
  obtain ⟨D, h, hc⟩ := h
  exact ⟨D, h.kept hg hne, hc⟩
theorem BagIs.below {w w' : World} {b B : Nat} {L : List (List UInt8)} (h : BagIs w b L) (hb : Below B w w') (hB : b < B) : BagIs w' b L := by
  obtain ⟨D, ⟨es, clock, hh, r⟩, hc⟩ := h
  exact ⟨D, ⟨es, clock, (hb.block b hB).trans hh, r⟩, hc⟩
theorem BagIs.alloc {w : World} {b : Nat} {L : List (List UInt8)} (h : BagIs w b L) (o : Obj) : BagIs (w.alloc o) b L := h.kept (World.grownBy_alloc w o none) (by simp)
theorem BagIs.perm {w : World} {b : Nat} {L M : List (List UInt8)} (h : BagIs w b L) (hp : L.Perm M) : BagIs w b M := by
  obtain ⟨D, h, hc⟩ := h
  exact ⟨D, by rw [← hp.length_eq]; exact h, hc.perm hp⟩
theorem BagIs.setCell {w : World} {b : Nat} {L : List (List UInt8)} (h : BagIs w b L) {a : Addr} (ha : b ≠ a.block) (u : Value) : BagIs (w.setCell a u) b L := by
  obtain ⟨D, h, hc⟩ := h
  exact ⟨D, h.setCell ha u, hc⟩
theorem BagIs.new (w : World) : BagIs (w.alloc (.map #[] 0)) w.heap.size [] := ⟨_, World.ownsMap_made w _ _ _, Cnt.empty⟩
theorem BagIs.row {w : World} {b : Nat} {L : List (List UInt8)} (h : BagIs w b L) {base e size n : Nat} {v : Value} {xs : List Value} (hr : w.ownsRow base e size v n xs) : v.ownBlock ≠ some b := by
  obtain ⟨D, ⟨es, clock, hb, _⟩, _⟩ := h
  rcases hr.2 with ⟨rfl, _⟩ | ⟨g, cap, cur, rfl, _, hg, _⟩
  · simp [Value.ownBlock]
  · intro e
    have : g = b := by simpa [Value.ownBlock] using e
    subst this
    rw [hb] at hg
    cases hg
theorem BagIs.blk {w : World} {b g : Nat} {L : List (List UInt8)} (h : BagIs w b L) {t : TypeId} {cs : Array Value} (hr : Blk w g t cs) : g ≠ b := by
  obtain ⟨D, ⟨es, clock, hb, _⟩, _⟩ := h
  rintro rfl
  have h2 : w.heap[g]? = some (.cells cs t (0, 0)) := hr
  rw [hb] at h2
  cases h2
theorem keyT (t : List UInt8) (ht : t.length ≤ maxLen) : keyOf Tryz.prog 76 (.string ⟨t.toArray⟩) = some (.string t) := by
  have := Go.WideMaps.keyOf_string_mk Tryz.underlying76 (s := ⟨t.toArray⟩) (by simpa [ByteArray.size] using ht)
  simpa using this
theorem zeroI (w : World) : (zeroValue 3).run Tryz.prog w = .ok (.int .i64 0) w := Tryz.zeroValue3 w

/-- A list of types, as a slice that the call owns. -/
abbrev TRow (w : World) (base : Nat) (v : Value) (l : List (List UInt8)) : Prop := w.ownsRow base 76 1 v l.length (l.map strV)

def TkPost (w : World) (b : Nat) (t : List UInt8) (L : List (List UInt8)) (e : Ending) (w' : World) : Prop :=
  e = .returned (.bool (decide (t ∈ L))) ∧ BagIs w' b (L.erase t) ∧ w.grownBy w' (some b)

set_option maxRecDepth 100000 in
set_option maxHeartbeats 1000000 in
theorem take_any (t : List UInt8) (ht : t.length ≤ maxLen) (b : Nat) (L : List (List UInt8)) (w : World) (h : BagIs w b L) (hL : L.length ≤ 1000000000) :
    Calls Tryz.prog 113 #[.map (some b), .string ⟨t.toArray⟩] w (TkPost w b t L) := by
  obtain ⟨D, hown, hc⟩ := h
  obtain ⟨m, hm⟩ : ∃ m, L.count t = m := ⟨_, rfl⟩
  have hml : m ≤ 1000000000 := by have := List.count_le_length (a := t) (l := L); omega
  have HA : Hid (∀ c : Int, D.atKey (.string t) (.lit (.int .i64 0)) = .lit (.int .i64 c) → c = (m : Int)) := by
    refine Lib.hid fun c h => ?_
    have := hc.at_ t
    rw [hm] at this
    have h2 := this.symm.trans h
    injection h2 with h2
    injection h2 with _ h2
    exact h2.symm
  have HC := Lib.hid hc
  have HM := Lib.hid hm
  have HO := Lib.hid hown
  have HK := Lib.hid (keyT t ht)
  clear hc hm hown
  by_cases h0 : m = 0
  · have hb0 : ((m : Int) == 0) = true := by subst h0; rfl
    have H0 := Lib.hid h0
    clear h0
    go_enter Tryz.func113, Tryz.ntmps113
    go_wp2_with (first
      | (at_lookup; refine wpList_lookup_own_int _ rfl _ _ 83 rfl 76 3 .i64 lawT Tryz.underlying83 Tryz.underlying3 (zeroI _) b L.length D rfl HO.out _ _ rfl HK.out ?_; intro c hat hwc; obtain rfl := HA.out c hat))
    go_ret
    refine ⟨ret_bool ?_, ?_, grown_of_below (Below.refl _ _) _⟩
    · have : t ∉ L := fun hm => by have := List.count_pos_iff.2 hm; have := HM.out; have := H0.out; omega
      simp [this]
    · rw [List.erase_of_not_mem (fun hm => by have := List.count_pos_iff.2 hm; have := HM.out; have := H0.out; omega)]
      exact ⟨D, HO.out, HC.out⟩
  · have hb0 : ((m : Int) == 0) = false := beq_eq_false_iff_ne.2 (by omega)
    have HI : Hid (decide (t ∈ L) = true) := Lib.hid (decide_eq_true (List.count_pos_iff.1 (by have := HM.out; omega)))
    by_cases h1 : m = 1
    · have hb1 : ((m : Int) == 1) = true := by subst h1; rfl
      have H1 := Lib.hid h1
      clear h1 h0
      go_enter Tryz.func113, Tryz.ntmps113
      go_wp2_with (first
        | (at_lookup; refine wpList_lookup_own_int _ rfl _ _ 83 rfl 76 3 .i64 lawT Tryz.underlying83 Tryz.underlying3 (zeroI _) b L.length D rfl HO.out _ _ rfl HK.out ?_; intro c hat hwc; obtain rfl := HA.out c hat)
        | (at_delete; refine wpList_delete_own _ rfl _ _ 83 76 rfl 3 lawT Tryz.underlying83 _ b L.length D rfl HO.out _ _ rfl HK.out ?_; intro w1 hown1 hturn1))
      go_ret
      refine ⟨ret_bool (by rw [HI.out]), ?_, hturn1.grown⟩
      exact BagIs.mk hown1 (HC.out.last t (by have := HM.out; have := H1.out; omega))
    · have hb1 : ((m : Int) == 1) = false := beq_eq_false_iff_ne.2 (by omega)
      have hm2 : 2 ≤ m := by omega
      have hw0 : IntKind.i64.wrap ((m : Int) - 1) = (m : Int) - 1 := IntWalk.i64_in _ (by omega)
      clear h1 h0
      go_enter Tryz.func113, Tryz.ntmps113
      go_wp2_with (first
        | (at_lookup; refine wpList_lookup_own_int _ rfl _ _ 83 rfl 76 3 .i64 lawT Tryz.underlying83 Tryz.underlying3 (zeroI _) b L.length D rfl HO.out _ _ rfl HK.out ?_; intro c hat hwc; obtain rfl := HA.out c hat)
        | (at_mapUpdate; refine wpList_mapUpdate_own _ rfl _ _ _ 83 rfl 76 3 lawT Tryz.underlying83 _ b L.length D rfl HO.out (by unfold maxLen; omega) _ _ _ rfl rfl HK.out (.lit (.int .i64 ((m : Int) - 1))) [] (plainElem_int Tryz.underlying3 (WalkArith.wf_i64 (by omega))) ?_; intro w1 hown1 hgrow1))
      go_ret
      refine ⟨ret_bool (by rw [HI.out]), ?_, hgrow1⟩
      refine BagIs.mk hown1 ?_
      have := HC.out.less t (by have := HM.out; omega)
      rw [HM.out] at this
      exact this
end Go.Proofs.YtnnnphammfeemaaGreat
