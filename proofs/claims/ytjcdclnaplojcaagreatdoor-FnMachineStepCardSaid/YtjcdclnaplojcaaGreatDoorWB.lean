/- Append of one cell as a step of a region that draws its order; what stays; depths within lams. -/
import Derived.Test.YtjcdclnaplojcaaGreatDoorL
import Derived.Test.YtjcdclnaplojcaaGreatDoorT0
import Derived.Test.YtjcdclnaplojcaaGreatDoorU
import Derived.Deep.RegionHeld3
import Derived.Deep.RegionLaw
import Derived.Deep.AppendLies
import Derived.Deep.DrawnRows
namespace Go.Proofs.YtjcdclnaplojcaaGreatDoor
set_option linter.unusedVariables false
open Go.RowKit

theorem step_append_two {P : Program} {w : World} {ops : Array Oper} {o : Oper} {a : Act} {K : Act → World → Prop} {Q : Exit → Act → World → Prop} {E : Prop} (hgd : o.guard = none) (s x : Operand) (t : TypeId)
    (ho : o.op = .call { callee := .builtin .append, args := #[s, x], argTypes := #[t, t] })
    (e : TypeId) (i : TypeInfo) (z : Value) (bytes : Nat) (ht : P.underlying t = some (.slice e)) (hi : P.info? e = some i) (hz : i.zero = some z)
    (hsize : i.size = 1) (hby : i.bytes = bytes) (hzs : z.cells.size = 1) (v : Value) (n : Nat) (xs : List Value) (hs : a.eval s = v) (hown : w.ownsRow 0 e 1 v n xs)
    (ad : Addr) (c : Nat) (u : Value) (hx : a.eval x = .slice (some ad) 1 c) (hu : w.cell? ad = some u) (h1 : u.oneCell' = true) (h63 : n + 1 ≤ maxLen) (hbytes : (n + 1) * bytes ≤ 140737488355328)
    (h : ∀ v' w', w'.ownsRow 0 e 1 v' (n + 1) (xs ++ [u]) → w'.ownsRow 0 e 1 v n xs → w.grownBy w' v.ownBlock →
      ((∃ g cap, v = .slice (some ⟨g, 0, none⟩) n cap ∧ v' = .slice (some ⟨g, 0, none⟩) (n + 1) cap) ∨ (v'.ownBlock = some w.heap.size ∧ w.grownBy w' none)) → K (a.put o.dst v') w') :
    if Region.wanted o (yielded ops a.tmps) = true then Oper.wp P o a w K Q else E := by
  have hw : Region.wanted o (yielded ops a.tmps) = true := by simp [Region.wanted, hgd]
  rw [if_pos hw]
  obtain ⟨v', w', hr, h2, h3, h4, h5⟩ := run_append_two (P := P) w t o.type e i z bytes ht hi hz hsize hby hzs v n xs hown ad c u hu h1 h63 hbytes
  unfold Oper.wp execOp
  simp only [ho, resolve, invoke, builtin, Sem.run_bind, Sem.run_pure, Result.andThen_ok, List.map_toArray, List.map_cons, List.map_nil, hs, hx, hr]
  exact h v' w' h2 h3 h4 h5

theorem row_not {w : World} {g : Nat} {t : TypeId} {cs : Array Value} {b e s n : Nat} {v : Value} {xs : List Value} (h : Blk w g t cs) (h2 : w.ownsRow b e s v n xs) (hne : t ≠ e) : some g ≠ v.ownBlock := by
  rcases h2.2 with ⟨rfl, _⟩ | ⟨g', cap', cur', rfl, _, hg', _⟩
  · simp [Value.ownBlock]
  · intro e'
    have e' : g = g' := by simpa [Value.ownBlock] using e'
    subst e'
    have h1 : w.heap[g]? = some (.cells cs t (0, 0)) := h
    rw [h1] at hg'
    injection hg' with hg'
    injection hg' with _ h
    exact hne h
theorem DAt.keep {w w' : World} {P : Nat → Prop} (h : ∀ q cs, Blk w q 132 cs → Blk w' q 132 cs) : ∀ {t : DB} {v : Value}, DAt w P t v → DAt w' P t v := by
  intro t
  induction t with
  | free x => rintro v ⟨b, rfl, hb, hl, hk⟩; exact ⟨b, rfl, hb, hl, h _ _ hk⟩
  | bnd i => rintro v ⟨b, rfl, hb, hk⟩; exact ⟨b, rfl, hb, h _ _ hk⟩
  | lam x d ih => rintro v ⟨b, c, rfl, hb, hl, hk, hd⟩; exact ⟨b, c, rfl, hb, hl, h _ _ hk, ih hd⟩
  | app f a ihf iha => rintro v ⟨b, c, d, rfl, hb, hk, hf, ha⟩; exact ⟨b, c, d, rfl, hb, h _ _ hk, ihf hf, iha ha⟩
/-- All depths are within so many lams. -/
def DB.cl : Nat → DB → Prop
  | _, .free _ => True
  | n, .bnd i => i < n
  | n, .lam _ b => b.cl (n + 1)
  | n, .app f a => f.cl n ∧ a.cl n
theorem toDB_cl (t : Tm) : ∀ rs, (toDB rs t).cl rs.length := by
  induction t with
  | var x =>
    intro rs
    unfold toDB
    cases h : lk rs x with
    | none => trivial
    | some i => exact (List.getElem?_eq_some_iff.1 (lk_some rs x i h)).1
  | lam x b ih => intro rs; exact ih (x :: rs)
  | app f a ihf iha => intro rs; exact ⟨ihf rs, iha rs⟩

theorem frozen_alloc' (w : World) (o : Obj) {a : Addr} (h : a.block < w.heap.size) : (w.alloc o).frozen? a = w.frozen? a := by
  exact World.frozen?_of_block (Below.heap_alloc w o a.block h)
theorem far_cell {w w1 : World} {o : Obj} {r : Option Nat} (hg : ((w.alloc o).drew).grownBy w1 r) {b i : Nat} (hb : b < w.heap.size) (hne : some b ≠ r) {x : Value} (h : w.cell? ⟨b, i, none⟩ = some x) : w1.cell? ⟨b, i, none⟩ = some x := by
  rw [hg.cell_far ⟨b, i, none⟩ (by simp; omega) hne]
  exact (World.cell?_alloc_lt _ _ _ hb).trans h
theorem far_froz {w w1 : World} {o : Obj} {r : Option Nat} (hg : ((w.alloc o).drew).grownBy w1 r) {b i : Nat} (hb : b < w.heap.size) (hne : some b ≠ r) (h : w.frozen? ⟨b, i, none⟩ = false) : w1.frozen? ⟨b, i, none⟩ = false := by
  rw [hg.frozen_far ⟨b, i, none⟩ (by simp; omega) hne]
  exact (frozen_alloc' w o hb).trans h
end Go.Proofs.YtjcdclnaplojcaaGreatDoor
