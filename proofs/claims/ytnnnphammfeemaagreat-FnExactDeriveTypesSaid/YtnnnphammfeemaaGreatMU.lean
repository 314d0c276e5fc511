/- What is kept while a tree that was read is looked at; what a reading answers. -/
import Derived.Test.YtnnnphammfeemaaGreatMC
import Derived.Test.YtnnnphammfeemaaGreatF
import Derived.Deep.RegionHeld3
import Derived.Deep.RegionWith
namespace Go.Proofs.YtnnnphammfeemaaGreat
set_option linter.unusedVariables false
open Go.RowKit

/-- What is kept while the tree that was read is looked at: its own block b, the block r of the result, the tree. -/
structure UKeep (w : World) (P : Nat → Prop) (t : Tr) (r b : Nat) (x : ByteArray) (A : Option Addr) (n c : Nat) (w' : World) : Prop where
  res : Blk w' r 52 #[.string ⟨#[]⟩, .slice none 0 0]
  own : Blk w' b 52 #[.string x, .slice A n c]
  tree : TAt w' P t (.agg #[.string x, .slice A n c])
  all : ∀ q, P q → q < w'.heap.size
  below : Below w.heap.size w w'
  le : w.heap.size ≤ w'.heap.size
section
variable {w w' w2 : World} {P : Nat → Prop} {t : Tr} {r b : Nat} {x : ByteArray} {A : Option Addr} {n c : Nat}
theorem UKeep.drew (h : UKeep w P t r b x A n c w') : UKeep w P t r b x A n c w'.drew := ⟨h.res, h.own, h.tree.mono fun _ hb => ⟨hb, fun _ => rfl⟩, h.all, h.below.drew, h.le⟩
theorem UKeep.more (h : UKeep w P t r b x A n c w') (hb : Below w'.heap.size w' w2) : UKeep w P t r b x A n c w2 :=
  ⟨h.res.below hb h.res.lt, h.own.below hb h.own.lt, h.tree.below hb h.all, fun q hq => by have := h.all q hq; have := hb.size; omega, h.below.trans (hb.mono h.le), by have := h.le; have := hb.size; omega⟩
theorem UKeep.ty (h : UKeep w P t r b x A n c w') (hl : (wrTr t).length ≤ 1000000) : Calls Tryz.prog 104 #[.agg #[.string x, .slice A n c]] w' fun e w2 => e = .returned (.bool (isTy t)) ∧ UKeep w P t r b x A n c w2 :=
  ((ty_bg_any t).1 _ w' P h.tree h.all hl).mono fun _ _ ⟨he, hb⟩ => ⟨he, h.more hb⟩
theorem UKeep.bg (h : UKeep w P t r b x A n c w') (hl : (wrTr t).length ≤ 1000000) : Calls Tryz.prog 124 #[.agg #[.string x, .slice A n c]] w' fun e w2 => e = .returned (.bool (isBag t)) ∧ UKeep w P t r b x A n c w2 :=
  ((ty_bg_any t).2 _ w' P h.tree h.all hl).mono fun _ _ ⟨he, hb⟩ => ⟨he, h.more hb⟩
theorem UKeep.atoms (h : UKeep w P t r b x A n c w') (ht : trAtoms t ≤ 10000) : Calls Tryz.prog 92 #[.agg #[.string x, .slice A n c]] w' fun e w2 => e = .returned (.int .i64 (trAtoms t)) ∧ UKeep w P t r b x A n c w2 :=
  (l1Atoms_any t _ w' P h.tree h.all ht).mono fun _ _ ⟨he, hb⟩ => ⟨he, h.more hb⟩
end

/-- What the model's reading of a type or a bag answers. -/
def TrRet (rd : List UInt8 → Option Tr) (s : ByteArray) (w : World) (e : Ending) (w' : World) : Prop :=
  Below w.heap.size w w' ∧
  ((∃ t v, rd s.data.toList = some t ∧ e = .returned (.tuple #[v, .bool true]) ∧ TAt w' (fun b => w.heap.size ≤ b ∧ b < w'.heap.size) t v) ∨
   (rd s.data.toList = none ∧ ∃ b A n c, e = .returned (.tuple #[.agg #[.string b, .slice A n c], .bool false])))

theorem TrRet.close {rd : List UInt8 → Option Tr} {pr : Tr → Bool} (hr : ∀ l, rd l = match rdText l with | some t => if pr t = true ∧ trAtoms t ≤ 200 then some t else none | none => none)
    {s : ByteArray} {w w1 w3 : World} {t : Tr} {A : Option Addr} {n c : Nat} {x y : Value} (hrd : rdText s.data.toList = some t)
    (hk : UKeep w (fun b => w.heap.size + 1 ≤ b ∧ b < w1.heap.size) t w.heap.size w1.heap.size ⟨t.atom.toArray⟩ A n c w3) {q : Bool} (hq : q = true ↔ pr t = true ∧ trAtoms t ≤ 200) :
    TrRet rd s w (.returned (.tuple #[.agg #[.string ⟨t.atom.toArray⟩, .slice A n c], .bool q])) ((w3.setCell ⟨w.heap.size, 0, none⟩ x).setCell ⟨w.heap.size, 1, none⟩ y) := by
  refine ⟨(hk.below.setCell (by simp) _).setCell (by simp) _, ?_⟩
  have hlt := hk.own.lt
  by_cases h : pr t = true ∧ trAtoms t ≤ 200
  · refine .inl ⟨t, _, by rw [hr, hrd]; simp only; rw [if_pos h], by rw [hq.2 h], ?_⟩
    refine hk.tree.mono fun p ⟨h3, h4⟩ => ⟨⟨by omega, by simp [World.setCell]; omega⟩, fun o => ?_⟩
    rw [World.cell?_setCell_other _ _ _ _ (by intro e; injection e with e; omega), World.cell?_setCell_other _ _ _ _ (by intro e; injection e with e; omega)]
  · refine .inr ⟨?_, _, _, _, _, by rw [Bool.eq_false_iff.2 (fun e => h (hq.1 e))]⟩
    rw [hr, hrd]
    simp only
    rw [if_neg h]
end Go.Proofs.YtnnnphammfeemaaGreat
