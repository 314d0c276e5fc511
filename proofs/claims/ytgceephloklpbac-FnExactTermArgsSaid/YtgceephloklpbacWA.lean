/- What stays while a text is written; append of one cell as a step of a region that draws its order. -/
import Derived.Test.YtgceephloklpbacBW
import Derived.Test.YtgceephloklpbacWB
import Derived.Test.YtgceephloklpbacT0
import Derived.Test.YtgceephloklpbacU
import Derived.Deep.RegionHeld3
import Derived.Deep.RegionLaw
import Derived.Deep.AppendLies
import Derived.Deep.DrawnRows
namespace Go.Proofs.Ytgceephloklpbac
set_option linter.unusedVariables false
open Go.RowKit

/-- What stays while a text is written with a scope: all that lies below B but the scope's row; and all that is no Builder's, no row of bytes, and not the scope's row. -/
structure WFr (B b : Nat) (r : Option Nat) (w w' : World) : Prop where
  os : w'.os = w.os
  tape : w'.tape = w.tape
  output : w'.output = w.output
  size : w.heap.size ≤ w'.heap.size
  lo : ∀ k, k < B → some k ≠ r → w'.heap[k]? = w.heap[k]?
  ot : ∀ k o, w.heap[k]? = some o → k ≠ b → some k ≠ r → (∀ c fz, o ≠ .cells c 5 fz) → w'.heap[k]? = some o
theorem WFr.refl (B b : Nat) (r : Option Nat) (w : World) : WFr B b r w w := ⟨rfl, rfl, rfl, Nat.le_refl _, fun _ _ _ => rfl, fun _ _ h _ _ _ => h⟩
theorem WFr.trans {B b : Nat} {r : Option Nat} {w w1 w2 : World} (h1 : WFr B b r w w1) (h2 : WFr B b r w1 w2) : WFr B b r w w2 :=
  ⟨h2.os.trans h1.os, h2.tape.trans h1.tape, h2.output.trans h1.output, Nat.le_trans h1.size h2.size, fun k hk hr => (h2.lo k hk hr).trans (h1.lo k hk hr), fun k o ho hb hr hn => h2.ot k o (h1.ot k o ho hb hr hn) hb hr hn⟩
theorem WFr.wrote {B b : Nat} (r : Option Nat) {w w' : World} (hB : Below B w w') (ho : Oth b w w') : WFr B b r w w' :=
  ⟨hB.os, hB.tape, hB.output, hB.size, fun k hk _ => hB.block k hk, fun k o h hb _ hn => ho k o h (fun e => hb (Option.some.inj e)) hn⟩
theorem WFr.grown {B b : Nat} {r : Option Nat} {w w' : World} (hB : B ≤ w.heap.size) (h : w.grownBy w' r) : WFr B b r w w' :=
  ⟨h.os, h.tape, h.output, h.size, fun k hk hr => h.block k (Nat.lt_of_lt_of_le hk hB) hr, fun k o ho _ hr _ => by rw [h.block k (Array.getElem?_eq_some_iff.1 ho).1 hr]; exact ho⟩
/-- A longer scope in a row of its own. -/
theorem WFr.newer {B b g : Nat} {r : Option Nat} {w w1 w2 : World} (hg : w.grownBy w1 none) (hB : B ≤ w.heap.size) (hgw : w.heap.size ≤ g) (h : WFr B b (some g) w1 w2) : WFr B b r w w2 :=
  ⟨h.os.trans hg.os, h.tape.trans hg.tape, h.output.trans hg.output, Nat.le_trans hg.size h.size,
    fun k hk _ => by rw [h.lo k hk (by intro e; injection e with e; omega)]; exact hg.block k (by omega) (by simp),
    fun k o ho hb _ hn => h.ot k o (by rw [hg.block k (Array.getElem?_eq_some_iff.1 ho).1 (by simp)]; exact ho) hb (by intro e; injection e with e; have := (Array.getElem?_eq_some_iff.1 ho).1; omega) hn⟩

theorem Bld.head {B b : Nat} {l : List UInt8} {w : World} (h : Bld B b l w) : ∃ cs, w.heap[b]? = some (.cells cs 73 (0, 0)) := by
  rcases h with h | h
  · obtain ⟨_, v, hb, _⟩ := h; exact ⟨_, hb⟩
  · obtain ⟨_, v, hb, _⟩ := h; exact ⟨_, hb⟩
theorem Bld.ne {B b q : Nat} {l : List UInt8} {w : World} (h : Bld B b l w) {t : TypeId} {cs : Array Value} (hk : Blk w q t cs) (ht : t ≠ 73) : q ≠ b := by
  rintro rfl
  obtain ⟨cs', h⟩ := h.head
  have h2 : w.heap[q]? = some (.cells cs t (0, 0)) := hk
  rw [h2] at h
  injection h with h
  injection h with _ h
  exact ht h
/-- A block of a term stays. -/
theorem WFr.blk {B b : Nat} {sc : Value} {w w' : World} (h : WFr B b sc.ownBlock w w') {l : List UInt8} (hb : Bld B b l w) {rs : List (List UInt8)} (hs : Scope w sc rs) {q : Nat} {cs : Array Value} (hk : Blk w q 66 cs) : Blk w' q 66 cs :=
  h.ot q _ hk (hb.ne hk (by decide)) (row_not hk hs (by decide)) (fun c fz e => by injection e with _ e; exact absurd e (by decide))
theorem WFr.dat {B b : Nat} {sc : Value} {w w' : World} (h : WFr B b sc.ownBlock w w') {l : List UInt8} (hb : Bld B b l w) {rs : List (List UInt8)} (hs : Scope w sc rs) {P : Nat → Prop} {t : DB} {v : Value} (hd : DAt w P t v) : DAt w' P t v :=
  hd.keep fun q cs hk => h.blk hb hs hk

/-- A row that grows and is no row of bytes, and no Builder. -/
theorem Bld.grown {B b : Nat} {l : List UInt8} {w w' : World} (h : Bld B b l w) {sc : Value} {rs : List (List UInt8)} (hs : Scope w sc rs) (hg : w.grownBy w' sc.ownBlock) : Bld B b l w' := by
  have key : ∀ p, Lib.BuilderAtF 73 5 B b p (Lib.byteCells l) w → Lib.BuilderAtF 73 5 B b p (Lib.byteCells l) w' := by
    rintro p ⟨hB, v, hb, hown, hne⟩
    have hbk : Blk w b 73 #[p, v] := hb
    refine ⟨hB, v, ?_, hown.kept hg ?_, hne⟩
    · rw [hg.block b hbk.lt (row_not hbk hs (by decide))]; exact hb
    · rcases hown.2 with ⟨rfl, _⟩ | ⟨g, cap, cur, fz, rfl, _, hgg, _⟩
      · exact .inl rfl
      · right
        intro e
        rcases hs.2 with ⟨rfl, _⟩ | ⟨g', cap', cur', rfl, _, hg', _⟩
        · simp [Value.ownBlock] at e
        · have e' : g = g' := by simpa [Value.ownBlock] using e
          subst e'
          rw [hgg] at hg'
          injection hg' with hg'
          injection hg' with _ h
          exact absurd h (by decide)
  exact h.elim (fun h => .inl (key _ h)) (fun h => .inr (key _ h))
theorem Bld.alloc {B b : Nat} {l : List UInt8} {w : World} (h : Bld B b l w) (o : Obj) : Bld B b l (w.alloc o) := by
  exact h.elim (fun h => .inl (h.alloc o)) (fun h => .inr (h.alloc o))
theorem Bld.drew {B b : Nat} {l : List UInt8} {w : World} (h : Bld B b l w) : Bld B b l w.drew := h

/-- What the writing of a term answers. -/
def WrPost (B b : Nat) (out : List UInt8) (sc : Value) (rs : List (List UInt8)) (w : World) (e : Ending) (w' : World) : Prop :=
  e = .returned (.tuple #[]) ∧ Bld B b out w' ∧ Scope w' sc rs ∧ WFr B b sc.ownBlock w w'
def WrSaid (d : DB) : Prop := ∀ (v : Value) (w : World) (P : Nat → Prop) (sc : Value) (rs : List (List UInt8)) (B b : Nat) (l : List UInt8), DAt w P d v → Scope w sc rs → Bld B b l w → B ≤ w.heap.size → d.cl rs.length → rs.length + d.size ≤ 2000 → l.length + (wrD rs d).length ≤ 1000000 →
  Calls Try.prog 53 #[v, .pointer (some ⟨b, 0, none⟩), sc] w (WrPost B b (l ++ wrD rs d) sc rs w)

/-- A row of the scope stays while texts are written. -/
theorem Scope.wrote {sc : Value} {rs : List (List UInt8)} {b : Nat} {w w' : World} (h : Scope w sc rs) {B : Nat} {l : List UInt8} (hb : Bld B b l w) (ho : Oth b w w') : Scope w' sc rs := by
  obtain ⟨h1, h2⟩ := h
  refine ⟨h1, ?_⟩
  rcases h2 with h2 | ⟨g, cap, cur, rfl, hg, hh, r⟩
  · exact .inl h2
  · refine .inr ⟨g, cap, cur, rfl, hg, ho g _ hh (fun e => ?_) (fun c fz e => by injection e with _ e; exact absurd e (by decide)), r⟩
    have hk : Blk w g 9 cur := hh
    exact hb.ne hk (by decide) (Option.some.inj e)
end Go.Proofs.Ytgceephloklpbac
