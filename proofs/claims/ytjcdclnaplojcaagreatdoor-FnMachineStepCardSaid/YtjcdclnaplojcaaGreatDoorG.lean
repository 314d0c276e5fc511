/- The model's reading of a term, and its statement of what is one. -/
import Derived.Test.YtjcdclnaplojcaaGreatDoorE
import Derived.Test.YtjcdclnaplojcaaGreatDoorF
import Derived.Deep.RegionHeld3
import Derived.Deep.RegionWith
namespace Go.Proofs.YtjcdclnaplojcaaGreatDoor
set_option linter.unusedVariables false
open Go.RowKit

/-- What is kept while the term that was read is looked at: its own block b, the block r of the result, the tree. -/
structure TKeep (w : World) (P : Nat → Prop) (t : Tr) (r b : Nat) (x : ByteArray) (A : Option Addr) (n c : Nat) (w' : World) : Prop where
  res : Blk w' r 51 #[.string ⟨#[]⟩, .slice none 0 0]
  own : Blk w' b 51 #[.string x, .slice A n c]
  tree : TAt w' P t (.agg #[.string x, .slice A n c])
  all : ∀ q, P q → q < w'.heap.size
  below : Below w.heap.size w w'
  le : w.heap.size ≤ w'.heap.size
section
variable {w w' w2 : World} {P : Nat → Prop} {t : Tr} {r b : Nat} {x : ByteArray} {A : Option Addr} {n c : Nat}
theorem TKeep.drew (h : TKeep w P t r b x A n c w') : TKeep w P t r b x A n c w'.drew := ⟨h.res, h.own, h.tree.mono fun _ hb => ⟨hb, fun _ => rfl⟩, h.all, h.below.drew, h.le⟩
theorem TKeep.more (h : TKeep w P t r b x A n c w') (hb : Below w'.heap.size w' w2) : TKeep w P t r b x A n c w2 :=
  ⟨h.res.below hb h.res.lt, h.own.below hb h.own.lt, h.tree.below hb h.all, fun q hq => by have := h.all q hq; have := hb.size; omega, h.below.trans (hb.mono h.le), by have := h.le; have := hb.size; omega⟩
theorem TKeep.is_ (h : TKeep w P t r b x A n c w') : Calls Tryz.prog 57 #[.agg #[.string x, .slice A n c]] w' fun e w2 => e = .returned (.bool (trTm t).isSome) ∧ TKeep w P t r b x A n c w2 :=
  (l1Is_any t _ w' P h.tree h.all).mono fun _ _ ⟨he, hb⟩ => ⟨he, h.more hb⟩
theorem TKeep.atoms (h : TKeep w P t r b x A n c w') (ht : trAtoms t ≤ 10000) : Calls Tryz.prog 32 #[.agg #[.string x, .slice A n c]] w' fun e w2 => e = .returned (.int .i64 (trAtoms t)) ∧ TKeep w P t r b x A n c w2 :=
  (l1Atoms_any t _ w' P h.tree h.all ht).mono fun _ _ ⟨he, hb⟩ => ⟨he, h.more hb⟩
end

/-- What the model's reading of a term answers. -/
def TeRet (s : ByteArray) (w : World) (e : Ending) (w' : World) : Prop :=
  Below w.heap.size w w' ∧
  ((∃ t v, rdTerm s.data.toList = some t ∧ e = .returned (.tuple #[v, .bool true]) ∧ TAt w' (fun b => w.heap.size ≤ b ∧ b < w'.heap.size) (tmTr t) v) ∨
   (rdTerm s.data.toList = none ∧ ∃ b A n c, e = .returned (.tuple #[.agg #[.string b, .slice A n c], .bool false])))

theorem TeRet.close {s : ByteArray} {w w1 w3 : World} {t : Tr} {A : Option Addr} {n c : Nat} {x y : Value} (hrd : rdText s.data.toList = some t)
    (hk : TKeep w (fun b => w.heap.size + 1 ≤ b ∧ b < w1.heap.size) t w.heap.size w1.heap.size ⟨t.atom.toArray⟩ A n c w3) {q : Bool} (hq : q = true ↔ (trTm t).isSome = true ∧ trAtoms t ≤ 400) :
    TeRet s w (.returned (.tuple #[.agg #[.string ⟨t.atom.toArray⟩, .slice A n c], .bool q])) ((w3.setCell ⟨w.heap.size, 0, none⟩ x).setCell ⟨w.heap.size, 1, none⟩ y) := by
  refine ⟨(hk.below.setCell (by simp) _).setCell (by simp) _, ?_⟩
  have hlt := hk.own.lt
  by_cases h : (trTm t).isSome = true ∧ trAtoms t ≤ 400
  · obtain ⟨h1, h2⟩ := h
    obtain ⟨tm, htm⟩ := Option.isSome_iff_exists.1 h1
    refine .inl ⟨tm, _, by unfold rdTerm; rw [hrd]; simp only [h2, if_true, htm], by rw [hq.2 ⟨h1, h2⟩], ?_⟩
    rw [← trTm_eq tm t (rdText_ok _ _ hrd).1 htm]
    refine hk.tree.mono fun p ⟨h3, h4⟩ => ⟨⟨by omega, by simp [World.setCell]; omega⟩, fun o => ?_⟩
    rw [World.cell?_setCell_other _ _ _ _ (by intro e; injection e with e; omega), World.cell?_setCell_other _ _ _ _ (by intro e; injection e with e; omega)]
  · refine .inr ⟨?_, _, _, _, _, by rw [Bool.eq_false_iff.2 (fun e => h (hq.1 e))]⟩
    unfold rdTerm
    rw [hrd]
    simp only
    split
    · rename_i h2
      cases h3 : trTm t
      · rfl
      · exact absurd ⟨by simp [h3], h2⟩ h
    · rfl

set_option maxRecDepth 100000 in
set_option maxHeartbeats 2000000 in
theorem l1Term_any (s : ByteArray) (w : World) (hm : s.size ≤ maxLen) :
    Calls Tryz.prog 27 #[.string s] w (TeRet s w) := by
  go_enter Tryz.func27, Tryz.ntmps27
  go_wp2_with fail
  refine (l1Parse_any s _ hm).mono ?_
  rintro e w1 ⟨hb1, hres⟩
  have hr := (Blk.new w 51 #[.string ⟨#[]⟩, .slice none 0 0]).below hb1 (by simp)
  have hlt := hr.lt
  have hB : Below w.heap.size w w1 := ((Below.refl _ _).alloc (Nat.le_refl _) _).trans (hb1.mono (by simp))
  rcases hres with ⟨t, v, hrd, rfl, htr⟩ | ⟨hrd, b, A, n, c, rfl⟩
  · obtain ⟨A, n, c, rfl⟩ := htr.shape
    have hk : TKeep w (fun b => w.heap.size + 1 ≤ b ∧ b < w1.heap.size) t w.heap.size w1.heap.size ⟨t.atom.toArray⟩ A n c (w1.alloc (.cells #[.string ⟨t.atom.toArray⟩, .slice A n c] 51)) :=
      ⟨hr.alloc _, Blk.new _ _ _, (htr.mono (Q := fun b => w.heap.size + 1 ≤ b ∧ b < w1.heap.size) fun q hq => ⟨by simpa using hq, fun _ => rfl⟩).alloc (fun q hq => hq.2) _, fun q hq => by simp; omega, hB.alloc (by omega) _, by simp; omega⟩
    have hok := rdText_ok _ _ hrd
    have ha : trAtoms t ≤ 10000 := by omega
    have hkd := hk.drew
    have c0 := hkd.own.cell 0
    have c1 := hkd.own.cell 1
    simp at c0 c1
    have r0 := hkd.res.cell 0
    have r1 := hkd.res.cell 1
    simp at r0 r1
    have rf := hkd.res.frozen
    have rl := hkd.res.lt
    have HRD := Lib.hid hrd
    have HTR := Lib.hid htr
    clear hrd htr hok
    by_cases hs : (trTm t).isSome = true
    · go_wp2_with fail
      go_region_with (first
        | (go_at_call 57; refine (TKeep.is_ (w := w) (P := fun b => w.heap.size + 1 ≤ b ∧ b < w1.heap.size) (t := t) (r := w.heap.size) (b := w1.heap.size) (by assumption)).mono ?_; rintro e w2 ⟨rfl, hk2⟩; have c0' := hk2.own.cell 0; have c1' := hk2.own.cell 1; simp at c0' c1'; have r0' := hk2.res.cell 0; have r1' := hk2.res.cell 1; simp at r0' r1'; have rf' := hk2.res.frozen; have rl' := hk2.res.lt)
        | (go_at_call 32; refine (TKeep.atoms (w := w) (P := fun b => w.heap.size + 1 ≤ b ∧ b < w1.heap.size) (t := t) (r := w.heap.size) (b := w1.heap.size) (by assumption) ha).mono ?_; rintro e w3 ⟨rfl, hk3⟩; have c0'' := hk3.own.cell 0; have c1'' := hk3.own.cell 1; simp at c0'' c1''; have r0'' := hk3.res.cell 0; have r1'' := hk3.res.cell 1; simp at r0'' r1''; have rf'' := hk3.res.frozen; have rl'' := hk3.res.lt))
      all_goals
        go_wp2
        refine bodyPost_ret (ret_tree Tryz.results27 _ _ _ _ _ rfl (res_set hk3.res _ _)) rfl ?_
        refine TeRet.close HRD.out hk3 ?_
        simp [hs]
        omega
    · have hs0 : (trTm t).isSome = false := by simpa using hs
      have HS := Lib.hid hs
      clear hs
      go_wp2_with fail
      go_region_with (first
        | (go_at_call 57; refine (TKeep.is_ (w := w) (P := fun b => w.heap.size + 1 ≤ b ∧ b < w1.heap.size) (t := t) (r := w.heap.size) (b := w1.heap.size) (by assumption)).mono ?_; rintro e w2 ⟨rfl, hk2⟩; have c0' := hk2.own.cell 0; have c1' := hk2.own.cell 1; simp at c0' c1'; have r0' := hk2.res.cell 0; have r1' := hk2.res.cell 1; simp at r0' r1'; have rf' := hk2.res.frozen; have rl' := hk2.res.lt))
      all_goals
        go_wp2
        refine bodyPost_ret (ret_tree Tryz.results27 _ _ _ _ _ rfl (res_set hk2.res _ _)) rfl ?_
        refine TeRet.close HRD.out hk2 ?_
        simp [hs0]
  · have hr2 := hr
    have hn : rdTerm s.data.toList = none := by unfold rdTerm; rw [hrd]
    have HN := Lib.hid hn
    clear hn hrd
    have r0 := hr.cell 0
    have r1 := hr.cell 1
    simp at r0 r1
    have rf := hr.frozen
    go_wp2_with fail
    go_region_with (fail)
    all_goals
      go_wp2
      first
        | refine bodyPost_ret (ret_tree Tryz.results27 _ _ _ _ _ rfl ((res_set hr _ _).alloc _).drew) rfl ?_
        | refine bodyPost_ret (ret_tree Tryz.results27 _ _ _ _ _ rfl ((res_set hr _ _).alloc _)) rfl ?_
        | refine bodyPost_ret (ret_tree Tryz.results27 _ _ _ _ _ rfl (res_set (hr.alloc _).drew _ _)) rfl ?_
        | refine bodyPost_ret (ret_tree Tryz.results27 _ _ _ _ _ rfl (res_set (hr.alloc _) _ _)) rfl ?_
      refine ⟨?_, .inr ⟨HN.out, _, _, _, _, rfl⟩⟩
      first
        | exact ((((hB.setCell (by simp) _).setCell (by simp) _).alloc (by simp [World.setCell]; omega) _)).drew
        | exact ((hB.alloc (by omega) _).drew.setCell (by simp) _).setCell (by simp) _
        | exact (((hB.setCell (by simp) _).setCell (by simp) _).alloc (by simp [World.setCell]; omega) _)
end Go.Proofs.YtjcdclnaplojcaaGreatDoor
