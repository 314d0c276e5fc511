/- The reader that draws: opened, kept, and its pick from a list. -/
import Derived.Test.YtljkmeloleeopaaDK
namespace Go.Proofs.Ytljkmeloleeopaa
set_option linter.unusedVariables false
open Go.RowKit

theorem CodeIn.keep {w w' : World} {r b off n : Nat} {A : Option Addr} (h : CodeIn w r b off n A) (hk : ∀ q, q < r → w'.heap[q]? = w.heap[q]?) : CodeIn w' r b off n A := by
  obtain ⟨h1, h2, h3⟩ := h
  refine ⟨h1, h2, fun j hj => ?_⟩
  obtain ⟨z, hz, hc⟩ := h3 j hj
  exact ⟨z, hz, by rw [World.cell?_of_block (w := w) (hk b (h2 (by omega)).2)]; exact hc⟩
theorem RdAt.lt {w : World} {r b off n c p : Nat} {A : Option Addr} (h : RdAt w r b off n c A p) : r < w.heap.size := h.1.lt
theorem RdAt.below {w w' : World} {r b off n c p : Nat} {A : Option Addr} (h : RdAt w r b off n c A p) (hb : Below w.heap.size w w') : RdAt w' r b off n c A p :=
  ⟨h.1.below hb h.lt, h.2.keep fun q hq => hb.block q (by have := h.lt; omega)⟩
theorem RdAt.grown {w w' : World} {r b off n c p : Nat} {A : Option Addr} {row : Option Nat} (h : RdAt w r b off n c A p) (hg : w.grownBy w' row) (hr : ∀ k, row = some k → r < k) : RdAt w' r b off n c A p :=
  ⟨h.1.grown hg (fun e => by have := hr r e.symm; omega), h.2.keep fun q hq => by
    obtain ⟨_, _, _, _, hk⟩ := hg
    exact hk q (by have := h.lt; omega) (fun e => by have := hr q e.symm; omega)⟩
theorem RdAt.alloc {w : World} {r b off n c p : Nat} {A : Option Addr} (h : RdAt w r b off n c A p) (o : Obj) : RdAt (w.alloc o) r b off n c A p :=
  h.below ((Below.refl _ _).alloc (Nat.le_refl _) _)
theorem gr_below {w w' w2 : World} {r : Nat} (h : w.grownBy w' (some r)) (hb : Below w'.heap.size w' w2) : w.grownBy w2 (some r) := by
  obtain ⟨a, b, c, d, e⟩ := h
  have := hb.size
  exact ⟨hb.os.trans a, hb.tape.trans b, hb.output.trans c, by omega, fun k hk hr => (hb.block k (by omega)).trans (e k hk hr)⟩
/-- What the reader leaves: its own block alone is changed. -/
theorem gr_new {w w' : World} {r : Nat} (h : w.grownBy w' (some r)) (o : Obj) : w.grownBy (w'.alloc o) (some r) := gr_below h ((Below.refl _ _).alloc (Nat.le_refl _) o)
theorem gr_row {w w' w2 : World} {r : Nat} {row : Option Nat} (h : w.grownBy w' (some r)) (hg : w'.grownBy w2 row) (hr : ∀ k, row = some k → w.heap.size ≤ k) : w.grownBy w2 (some r) := by
  obtain ⟨a, b, c, d, e⟩ := h
  obtain ⟨a', b', c', d', e'⟩ := hg
  exact ⟨a'.trans a, b'.trans b, c'.trans c, by omega, fun k hk hkr => (e' k (by omega) (fun e => by have := hr k e.symm; omega)).trans (e k hk hkr)⟩
theorem gr_trans {w w' w2 : World} {r : Nat} (h : w.grownBy w' (some r)) (hg : w'.grownBy w2 (some r)) : w.grownBy w2 (some r) := by
  obtain ⟨a, b, c, d, e⟩ := h
  obtain ⟨a', b', c', d', e'⟩ := hg
  exact ⟨a'.trans a, b'.trans b, c'.trans c, by omega, fun k hk hkr => (e' k (by omega) hkr).trans (e k hk hkr)⟩
theorem SRow.over {w w' : World} {B r : Nat} {v : Value} {l : List (List UInt8)} (h : SRow w B v l) (hg : w.grownBy w' (some r)) (hr : r < B) : SRow w' B v l :=
  h.kept hg (by
    cases e : v.ownBlock with
    | none => exact .inl rfl
    | some k => exact .inr (by have := (h.lt k e).1; intro e2; injection e2 with e2; omega))

set_option maxRecDepth 100000 in
theorem of_any (l : List (List UInt8)) (v : Value) (B r b off n c p : Nat) (A : Option Addr) (w : World) (h : RdAt w r b off n c A p) (hv : SRow w B v l) (hB : r < B) (hl : 1 ≤ l.length) (hl2 : l.length ≤ 1000) (hp : p ≤ 1000000) :
    Calls Try.prog 27 #[.pointer (some ⟨r, 0, none⟩), v] w fun e w' => ∃ x, x ∈ l ∧ e = .returned (.string ⟨x.toArray⟩) ∧ RdAt w' r b off n c A (p + 1) ∧ w.grownBy w' (some r) := by
  obtain ⟨A1, c1, rfl⟩ := own_shape hv
  have HV := Lib.hid hv
  have HP := Lib.hid (pick_any r b off n c p l.length A w h hl hl2 hp)
  clear h hv
  go_enter Try.func27, Try.ntmps27
  go_wp2_with fail
  refine HP.out.mono ?_
  rintro e w1 ⟨z, hz, rfl, hr1, hg1⟩
  have HV1 := Lib.hid (HV.out.over hg1 hB)
  obtain ⟨g, rfl, _, _, _, hcell⟩ := HV1.out.cell hz
  have HR1 := Lib.hid hr1
  have HG1 := Lib.hid hg1
  have hz1 : (0 : Int) ≤ (z : Int) := by omega
  have hz2 : (z : Int) < (l.length : Int) := by omega
  obtain ⟨x, hx⟩ : ∃ x, l[z] = x := ⟨_, rfl⟩
  have HX := Lib.hid (show x ∈ l by rw [← hx]; exact List.getElem_mem _)
  rw [hx] at hcell
  clear hr1 hg1 hx
  go_wp2_with fail
  go_ret
  exact ⟨x, HX.out, rfl, HR1.out, HG1.out⟩

/-- A code that came in. -/
def CodeAt (w : World) (b off n : Nat) (A : Option Addr) : Prop :=
  (0 < n → A = some ⟨b, off, none⟩ ∧ b < w.heap.size) ∧ ∀ j, j < n → ∃ z : Nat, z ≤ 255 ∧ w.cell? ⟨b, off + j, none⟩ = some (.int .u8 (z : Nat))
theorem CodeAt.reader {w : World} {b off n m c : Nat} {A : Option Addr} (h : CodeAt w b off n A) (hm : m ≤ n) (hm2 : m ≤ 2000) :
    RdAt (w.alloc (.cells #[.slice A m c, .int .i64 0] 66)) w.heap.size b off m c A 0 := by
  refine ⟨Blk.new _ _ _, (show CodeIn w w.heap.size b off m A from ⟨hm2, fun h0 => h.1 (by omega), fun j hj => h.2 j (by omega)⟩).keep fun q hq => ?_⟩
  exact ((Below.refl _ w).alloc (Nat.le_refl _) _).block q hq

set_option maxRecDepth 100000 in
theorem l6Open_any (b off n c : Nat) (A : Option Addr) (w : World) (h : CodeAt w b off n A) (hn : n ≤ 1048576) (hc : n ≤ c) (hc2 : c ≤ maxLen) :
    Calls Try.prog 20 #[.slice A n c] w fun e w' => ∃ m c', e = .returned (.pointer (some ⟨w.heap.size, 0, none⟩)) ∧ RdAt w' w.heap.size b off m c' A 0 ∧ Below w.heap.size w w' := by
  unfold maxLen at hc2
  by_cases hn2 : n ≤ 2000
  · have HRD := Lib.hid (h.reader (c := c) (Nat.le_refl _) hn2)
    clear h
    go_enter Try.func20, Try.ntmps20
    go_wp2_with fail
    go_ret
    exact ⟨n, c, rfl, HRD.out, (Below.refl _ _).alloc (Nat.le_refl _) _⟩
  · have HRD := Lib.hid (h.reader (m := 2000) (c := c) (by omega) (Nat.le_refl _))
    obtain ⟨ha, _⟩ := h.1 (by omega)
    subst ha
    clear h
    go_enter Try.func20, Try.ntmps20
    go_wp2_with fail
    go_ret
    exact ⟨2000, c, rfl, HRD.out, (Below.refl _ _).alloc (Nat.le_refl _) _⟩

end Go.Proofs.Ytljkmeloleeopaa
