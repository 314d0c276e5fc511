/- What it means that memory holds a tree of the model's program, and that this outlives what is written elsewhere. -/
import Derived.Test.YtjcdclnaplojcaaGreatDoorChecked
import Derived.Test.YtjcdclnaplojcaaGreatDoorM
import Derived.Test.YtjcdclnaplojcaaGreatDoorA
import Derived.Maps.AppendAt
namespace Go.Proofs.YtjcdclnaplojcaaGreatDoor
set_option linter.unusedVariables false
open Go.RowKit

mutual
def TAt (w : World) (P : Nat → Prop) : Tr → Value → Prop
  | .mk a ps, v => ∃ vp, v = .agg #[.string ⟨a.toArray⟩, vp] ∧ a.length ≤ 8000 ∧ ps.length ≤ 8000 ∧
    ((ps = [] ∧ vp = .slice none 0 0) ∨
     (ps ≠ [] ∧ ∃ g cap xs, vp = .slice (some ⟨g, 0, none⟩) ps.length cap ∧ ps.length ≤ cap ∧ P g ∧ (∀ j u, xs[j]? = some u → w.cell? ⟨g, j, none⟩ = some u) ∧ VsAt w P ps xs))
def VsAt (w : World) (P : Nat → Prop) : List Tr → List Value → Prop
  | [], xs => xs = []
  | t :: ts, xs => ∃ a b r, xs = a :: b :: r ∧ TAt w P t (.agg #[a, b]) ∧ VsAt w P ts r
end

section
variable {w w' : World} {P Q : Nat → Prop}

theorem TAt_VsAt_mono (h : ∀ b, P b → Q b ∧ ∀ o, w'.cell? ⟨b, o, none⟩ = w.cell? ⟨b, o, none⟩) :
    (∀ t v, TAt w P t v → TAt w' Q t v) ∧ (∀ ts xs, VsAt w P ts xs → VsAt w' Q ts xs) := by
  refine ⟨fun t => Tr.rec (motive_1 := fun t => ∀ v, TAt w P t v → TAt w' Q t v) (motive_2 := fun ts => ∀ xs, VsAt w P ts xs → VsAt w' Q ts xs) ?_ ?_ ?_ t,
    fun ts => Tr.rec_1 (motive_1 := fun t => ∀ v, TAt w P t v → TAt w' Q t v) (motive_2 := fun ts => ∀ xs, VsAt w P ts xs → VsAt w' Q ts xs) ?_ ?_ ?_ ts⟩
  all_goals first
    | (intro a ps ih v hv
       unfold TAt at hv ⊢
       obtain ⟨vp, rfl, hle, hle2, hv⟩ := hv
       refine ⟨vp, rfl, hle, hle2, ?_⟩
       rcases hv with hv | ⟨h1, g, cap, xs, rfl, h2, h3, h4, h5⟩
       · exact .inl hv
       · exact .inr ⟨h1, g, cap, xs, rfl, h2, (h g h3).1, fun j u hu => ((h g h3).2 j).trans (h4 j u hu), ih xs h5⟩)
    | (intro xs hx
       unfold VsAt at hx ⊢
       exact hx)
    | (intro t ts iht ihts xs hx
       unfold VsAt at hx ⊢
       obtain ⟨a, b, r, rfl, h1, h2⟩ := hx
       exact ⟨a, b, r, rfl, iht _ h1, ihts _ h2⟩)

theorem TAt.mono {t : Tr} {v : Value} (ht : TAt w P t v) (h : ∀ b, P b → Q b ∧ ∀ o, w'.cell? ⟨b, o, none⟩ = w.cell? ⟨b, o, none⟩) : TAt w' Q t v := (TAt_VsAt_mono h).1 t v ht
theorem VsAt.mono {ts : List Tr} {xs : List Value} (ht : VsAt w P ts xs) (h : ∀ b, P b → Q b ∧ ∀ o, w'.cell? ⟨b, o, none⟩ = w.cell? ⟨b, o, none⟩) : VsAt w' Q ts xs := (TAt_VsAt_mono h).2 ts xs ht

/-- The blocks below B are as they were. -/
theorem TAt.below {B : Nat} {t : Tr} {v : Value} (ht : TAt w P t v) (hb : Below B w w') (hP : ∀ b, P b → b < B) : TAt w' P t v :=
  ht.mono fun b h => ⟨h, fun o => hb.cell (p := ⟨b, o, none⟩) (hP b h)⟩
theorem VsAt.below {B : Nat} {ts : List Tr} {xs : List Value} (ht : VsAt w P ts xs) (hb : Below B w w') (hP : ∀ b, P b → b < B) : VsAt w' P ts xs :=
  ht.mono fun b h => ⟨h, fun o => hb.cell (p := ⟨b, o, none⟩) (hP b h)⟩

theorem TAt.alloc {t : Tr} {v : Value} (ht : TAt w P t v) (hP : ∀ b, P b → b < w.heap.size) (o : Obj) : TAt (w.alloc o) P t v :=
  ht.mono fun b h => ⟨h, fun o' => World.cell?_alloc_lt _ _ _ (hP b h)⟩
theorem VsAt.snoc {ts : List Tr} {t : Tr} {xs : List Value} {a b : Value} (h : VsAt w P ts xs) (ht : TAt w P t (.agg #[a, b])) : VsAt w P (ts ++ [t]) (xs ++ [a, b]) := by
  induction ts generalizing xs with
  | nil =>
    unfold VsAt at h
    subst h
    simp only [List.nil_append]
    unfold VsAt
    exact ⟨a, b, [], rfl, ht, by unfold VsAt; rfl⟩
  | cons t' ts ih =>
    unfold VsAt at h
    obtain ⟨a', b', r, rfl, h1, h2⟩ := h
    simp only [List.cons_append]
    unfold VsAt
    exact ⟨a', b', r ++ [a, b], rfl, h1, ih h2⟩
theorem VsAt.length {ts : List Tr} {xs : List Value} (h : VsAt w P ts xs) : xs.length = ts.length * 2 := by
  induction ts generalizing xs with
  | nil => unfold VsAt at h; subst h; rfl
  | cons t ts ih =>
    unfold VsAt at h
    obtain ⟨a, b, r, rfl, _, h2⟩ := h
    simp [ih h2]; omega
theorem VsAt.at_ {ts : List Tr} {xs : List Value} (h : VsAt w P ts xs) : ∀ (i : Nat) (t : Tr), ts[i]? = some t → ∃ a b, xs[2 * i]? = some a ∧ xs[2 * i + 1]? = some b ∧ TAt w P t (.agg #[a, b]) := by
  induction ts generalizing xs with
  | nil => intro i t ht; simp at ht
  | cons t ts ih =>
    unfold VsAt at h
    obtain ⟨a, b, r, rfl, h1, h2⟩ := h
    intro i t' ht
    cases i with
    | zero => simp at ht; subst ht; exact ⟨a, b, rfl, rfl, h1⟩
    | succ i =>
      obtain ⟨a', b', h3, h4, h5⟩ := ih h2 i t' (by simpa using ht)
      exact ⟨a', b', by rw [show 2 * (i + 1) = 2 * i + 1 + 1 from by omega]; simpa using h3, by rw [show 2 * (i + 1) + 1 = 2 * i + 1 + 1 + 1 from by omega]; simpa using h4, h5⟩
/-- What a tree's value looks like. -/
theorem TAt.form {a : List UInt8} {ps : List Tr} {v : Value} (h : TAt w P (.mk a ps) v) : ∃ vp, v = .agg #[.string ⟨a.toArray⟩, vp] ∧ a.length ≤ 8000 ∧ ps.length ≤ 8000 ∧
    ((ps = [] ∧ vp = .slice none 0 0) ∨ (ps ≠ [] ∧ ∃ g cap xs, vp = .slice (some ⟨g, 0, none⟩) ps.length cap ∧ ps.length ≤ cap ∧ P g ∧ (∀ j u, xs[j]? = some u → w.cell? ⟨g, j, none⟩ = some u) ∧ VsAt w P ps xs)) := by
  unfold TAt at h; exact h
theorem TAt.shape {t : Tr} {v : Value} (h : TAt w P t v) : ∃ A n c, v = .agg #[.string ⟨t.atom.toArray⟩, .slice A n c] := by
  obtain ⟨a, ps⟩ := t
  obtain ⟨vp, rfl, _, _, ⟨_, rfl⟩ | ⟨_, g, cap, xs, rfl, _⟩⟩ := h.form
  · exact ⟨_, _, _, rfl⟩
  · exact ⟨_, _, _, rfl⟩
theorem TAt.some_ {a : List UInt8} {ps : List Tr} {v : Value} (h : TAt w P (.mk a ps) v) (i : Nat) (t : Tr) (hi : ps[i]? = some t) :
    ∃ g cap x y, v = .agg #[.string ⟨a.toArray⟩, .slice (some ⟨g, 0, none⟩) ps.length cap] ∧ P g ∧ w.cell? ⟨g, 2 * i, none⟩ = some x ∧ w.cell? ⟨g, 2 * i + 1, none⟩ = some y ∧ TAt w P t (.agg #[x, y]) := by
  obtain ⟨vp, rfl, _, _, ⟨rfl, _⟩ | ⟨_, g, cap, xs, rfl, _, hP, hc, hv⟩⟩ := h.form
  · simp at hi
  · obtain ⟨x, y, h1, h2, h3⟩ := hv.at_ i t hi
    exact ⟨g, cap, x, y, rfl, hP, hc _ _ h1, hc _ _ h2, h3⟩
/-- Three parts in block g, each one's two cells known. -/
structure Three (w : World) (P : Nat → Prop) (g : Nat) (p0 p1 p2 : Tr) (A0 A1 A2 : Option Addr) (n0 c0 n1 c1 n2 c2 : Nat) : Prop where
  k0 : w.cell? ⟨g, 0, none⟩ = some (.string ⟨p0.atom.toArray⟩)
  k1 : w.cell? ⟨g, 1, none⟩ = some (.slice A0 n0 c0)
  k2 : w.cell? ⟨g, 2, none⟩ = some (.string ⟨p1.atom.toArray⟩)
  k3 : w.cell? ⟨g, 3, none⟩ = some (.slice A1 n1 c1)
  k4 : w.cell? ⟨g, 4, none⟩ = some (.string ⟨p2.atom.toArray⟩)
  k5 : w.cell? ⟨g, 5, none⟩ = some (.slice A2 n2 c2)
  pg : P g
  t0 : TAt w P p0 (.agg #[.string ⟨p0.atom.toArray⟩, .slice A0 n0 c0])
  t1 : TAt w P p1 (.agg #[.string ⟨p1.atom.toArray⟩, .slice A1 n1 c1])
  t2 : TAt w P p2 (.agg #[.string ⟨p2.atom.toArray⟩, .slice A2 n2 c2])
theorem TAt.short {t : Tr} {v : Value} (h : TAt w P t v) : t.atom.length ≤ 8000 := by
  obtain ⟨a, ps⟩ := t
  obtain ⟨_, _, h, _, _⟩ := h.form
  exact h
theorem TAt.three {a : List UInt8} {p0 p1 p2 : Tr} {v : Value} (h : TAt w P (.mk a [p0, p1, p2]) v) :
    ∃ g cap A0 A1 A2 n0 c0 n1 c1 n2 c2, v = .agg #[.string ⟨a.toArray⟩, .slice (some ⟨g, 0, none⟩) 3 cap] ∧ 3 ≤ cap ∧ Three w P g p0 p1 p2 A0 A1 A2 n0 c0 n1 c1 n2 c2 := by
  obtain ⟨vp, rfl, _, _, ⟨h, _⟩ | ⟨_, g, cap, xs, rfl, hcap, hP, hc, hv⟩⟩ := h.form
  · cases h
  · obtain ⟨x0, y0, h0, h0', t0⟩ := hv.at_ 0 p0 rfl
    obtain ⟨x1, y1, h1, h1', t1⟩ := hv.at_ 1 p1 rfl
    obtain ⟨x2, y2, h2, h2', t2⟩ := hv.at_ 2 p2 rfl
    obtain ⟨A0, n0, c0, e0⟩ := t0.shape
    obtain ⟨A1, n1, c1, e1⟩ := t1.shape
    obtain ⟨A2, n2, c2, e2⟩ := t2.shape
    simp at e0 e1 e2
    obtain ⟨rfl, rfl⟩ := e0
    obtain ⟨rfl, rfl⟩ := e1
    obtain ⟨rfl, rfl⟩ := e2
    exact ⟨g, cap, A0, A1, A2, n0, c0, n1, c1, n2, c2, rfl, hcap, ⟨hc _ _ h0, hc _ _ h0', hc _ _ h1, hc _ _ h1', hc _ _ h2, hc _ _ h2', hP, t0, t1, t2⟩⟩
theorem Three.mono {g : Nat} {p0 p1 p2 : Tr} {A0 A1 A2 : Option Addr} {n0 c0 n1 c1 n2 c2 : Nat} (h : Three w P g p0 p1 p2 A0 A1 A2 n0 c0 n1 c1 n2 c2)
    (hm : ∀ b, P b → Q b ∧ ∀ o, w'.cell? ⟨b, o, none⟩ = w.cell? ⟨b, o, none⟩) : Three w' Q g p0 p1 p2 A0 A1 A2 n0 c0 n1 c1 n2 c2 :=
  have e := (hm g h.pg).2
  ⟨(e 0).trans h.k0, (e 1).trans h.k1, (e 2).trans h.k2, (e 3).trans h.k3, (e 4).trans h.k4, (e 5).trans h.k5, (hm g h.pg).1, h.t0.mono hm, h.t1.mono hm, h.t2.mono hm⟩
theorem Three.below {B g : Nat} {p0 p1 p2 : Tr} {A0 A1 A2 : Option Addr} {n0 c0 n1 c1 n2 c2 : Nat} (h : Three w P g p0 p1 p2 A0 A1 A2 n0 c0 n1 c1 n2 c2) (hb : Below B w w') (hP : ∀ b, P b → b < B) :
    Three w' P g p0 p1 p2 A0 A1 A2 n0 c0 n1 c1 n2 c2 := h.mono fun b hb' => ⟨hb', fun o => hb.cell (p := ⟨b, o, none⟩) (hP b hb')⟩
theorem Three.alloc {g : Nat} {p0 p1 p2 : Tr} {A0 A1 A2 : Option Addr} {n0 c0 n1 c1 n2 c2 : Nat} (h : Three w P g p0 p1 p2 A0 A1 A2 n0 c0 n1 c1 n2 c2) (hP : ∀ b, P b → b < w.heap.size) (o : Obj) :
    Three (w.alloc o) P g p0 p1 p2 A0 A1 A2 n0 c0 n1 c1 n2 c2 := h.mono fun b hb' => ⟨hb', fun o' => World.cell?_alloc_lt _ _ _ (hP b hb')⟩
end

/-- A tree's own first atom reads so. -/
theorem l1Head_any (t : Tr) (v : Value) (w : World) (P : Nat → Prop) (ht : TAt w P t v) (hP : ∀ b, P b → b < w.heap.size) :
    Calls Tryz.prog 59 #[v] w fun e w' =>
      e = .returned (.string ⟨(if t.atom ≠ [] then [] else match t.parts with | [] => [] | p :: _ => p.atom).toArray⟩) ∧ Below w.heap.size w w' := by
  obtain ⟨a, ps⟩ := t
  simp only [Tr.atom, Tr.parts] at *
  obtain ⟨vp, rfl, _, _, hv⟩ := ht.form
  by_cases ha0 : a = []
  · subst ha0
    rcases hv with ⟨rfl, rfl⟩ | ⟨hne, g, cap, xs, rfl, hcap, hPg, hc, hvs⟩
    · go_enter Tryz.func59, Tryz.ntmps59
      go_wp2
      go_ret
      exact ⟨rfl, (Below.refl _ _).alloc (Nat.le_refl _) _⟩
    · cases ps with
      | nil => exact absurd rfl hne
      | cons p ps =>
        obtain ⟨x, y, h1, h2, h3⟩ := hvs.at_ 0 p rfl
        obtain ⟨a0, q0⟩ := p
        obtain ⟨vp0, h4, _, _, _⟩ := h3.form
        simp at h4
        obtain ⟨rfl, rfl⟩ := h4
        have hx := hc _ _ h1
        have hgb := hP g hPg
        go_enter Tryz.func59, Tryz.ntmps59
        go_wp2
        go_ret
        exact ⟨rfl, (Below.refl _ _).alloc (Nat.le_refl _) _⟩
  · go_enter Tryz.func59, Tryz.ntmps59
    go_wp2
    go_ret
    exact ⟨rfl, (Below.refl _ _).alloc (Nat.le_refl _) _⟩

/-- The first atom of three parts. -/
theorem l1Head3 (w : World) (P : Nat → Prop) (g cap : Nat) (p0 p1 p2 : Tr) (A0 A1 A2 : Option Addr) (n0 c0 n1 c1 n2 c2 : Nat) (h : Three w P g p0 p1 p2 A0 A1 A2 n0 c0 n1 c1 n2 c2) (hP : ∀ b, P b → b < w.heap.size) :
    Calls Tryz.prog 59 #[.agg #[.string ⟨#[]⟩, .slice (some ⟨g, 0, none⟩) 3 cap]] w fun e w' =>
      e = .returned (.string ⟨p0.atom.toArray⟩) ∧ Below w.heap.size w w' := by
  have k0 := h.k0
  have hg := hP g h.pg
  go_enter Tryz.func59, Tryz.ntmps59
  go_wp2
  go_ret
  exact ⟨rfl, (Below.refl _ _).alloc (Nat.le_refl _) _⟩

/-- Block g holds just these cells of type t, and none of them is frozen. -/
def Blk (w : World) (g : Nat) (t : TypeId) (cs : Array Value) : Prop := w.heap[g]? = some (.cells cs t (0, 0))
namespace Blk
variable {w w' : World} {g : Nat} {t : TypeId} {cs : Array Value}
theorem lt (h : Blk w g t cs) : g < w.heap.size := (Array.getElem?_eq_some_iff.1 h).1
theorem cell (h : Blk w g t cs) (i : Nat) : w.cell? ⟨g, i, none⟩ = cs[i]? := by rw [cell_of_row w g i cs t (0, 0) h]
theorem frozen (h : Blk w g t cs) (i : Nat) : w.frozen? ⟨g, i, none⟩ = false := by
  have e : w.heap[g]? = some (.cells cs t (0, 0)) := h
  simp [World.frozen?, e]
theorem new (w : World) (t : TypeId) (cs : Array Value) : Blk (w.alloc (.cells cs t)) w.heap.size t cs := by
  show (w.alloc (.cells cs t)).heap[w.heap.size]? = _
  exact heap_alloc_new w _
theorem drew (h : Blk w g t cs) : Blk w.drew g t cs := h
theorem drewN (h : Blk w g t cs) (n : Nat) : Blk (w.drewN n) g t cs := h
theorem alloc (h : Blk w g t cs) (o : Obj) : Blk (w.alloc o) g t cs := by
  show (w.alloc o).heap[g]? = _
  rw [Below.heap_alloc w o g h.lt]
  exact h
theorem set_ (h : Blk w g t cs) (i : Nat) (u : Value) : Blk (w.setCell ⟨g, i, none⟩ u) g t (cs.setIfInBounds i u) := by
  have e : w.heap[g]? = some (.cells cs t (0, 0)) := h
  show (w.setCell ⟨g, i, none⟩ u).heap[g]? = _
  simp [World.setCell, Array.getElem?_modify, e]
theorem far (h : Blk w g t cs) {p : Addr} (hp : g ≠ p.block) (u : Value) : Blk (w.setCell p u) g t cs := by
  show (w.setCell p u).heap[g]? = _
  rw [Below.heap_setCell w p u g hp]
  exact h
theorem below {B : Nat} (h : Blk w g t cs) (hb : Below B w w') (hg : g < B) : Blk w' g t cs := by
  show w'.heap[g]? = _
  rw [hb.block g hg]
  exact h
theorem grown {row : Option Nat} (h : Blk w g t cs) (hb : w.grownBy w' row) (hg : some g ≠ row) : Blk w' g t cs := by
  show w'.heap[g]? = _
  rw [hb.block g h.lt hg]
  exact h
end Blk


theorem grown_of_below {w w' : World} (h : Below w.heap.size w w') (row : Option Nat) : w.grownBy w' row := ⟨h.os, h.tape, h.output, h.size, fun k hk _ => h.block k hk⟩
theorem own_shape {w : World} {base e size n : Nat} {v : Value} {xs : List Value} (h : w.ownsRow base e size v n xs) : ∃ A c, v = .slice A n c := by
  rcases h.2 with ⟨rfl, rfl⟩ | ⟨g, cap, cur, rfl, _⟩
  · exact ⟨_, _, rfl⟩
  · exact ⟨_, _, rfl⟩
theorem cell_two_new (w : World) (x y : Value) (t : TypeId) : ∀ j u, [x, y][j]? = some u → (w.alloc (.cells #[x, y] t)).cell? ((⟨w.heap.size, 0, none⟩ : Addr).add j) = some u := by
  intro j u hj
  match j, hj with
  | 0, hj => simp at hj; subst hj; simp [Addr.add]
  | 1, hj => simp at hj; subst hj; simp [Addr.add]
theorem ownsRow_far {w : World} {base : Nat} {e : TypeId} {size : Nat} {v : Value} {n : Nat} {xs : List Value} (h : w.ownsRow base e size v n xs) {a : Addr} (ha : v.ownBlock ≠ some a.block) (u : Value) : (w.setCell a u).ownsRow base e size v n xs := by
  obtain ⟨h1, h2⟩ := h
  refine ⟨h1, ?_⟩
  rcases h2 with h2 | ⟨g, cap, cur, hv, hg, hh, r⟩
  · exact Or.inl h2
  · subst hv
    exact Or.inr ⟨g, cap, cur, rfl, hg, by rw [Below.heap_setCell _ _ _ _ (fun e => ha (by simp [Value.ownBlock, e]))]; exact hh, r⟩

theorem byte_of_beq {c : UInt8} {n : Nat} (h : (((c.toNat : Nat) : Int) == (n : Int)) = true) (hn : n < 256 := by decide) : c = UInt8.ofNat n := by
  have := beq_iff_eq.1 h
  apply UInt8.toNat_inj.1
  simp; omega
theorem byte_of_beq_false {c : UInt8} {n : Nat} (h : (((c.toNat : Nat) : Int) == (n : Int)) = false) (hn : n < 256 := by decide) : c ≠ UInt8.ofNat n := by
  have := beq_eq_false_iff_ne.1 h
  intro e
  subst e
  simp at this
  omega
theorem byte_of_bne {c : UInt8} {n : Nat} (h : (((c.toNat : Nat) : Int) != (n : Int)) = true) (hn : n < 256 := by decide) : c ≠ UInt8.ofNat n := byte_of_beq_false (by simpa using h) hn
theorem byte_of_bne_false {c : UInt8} {n : Nat} (h : (((c.toNat : Nat) : Int) != (n : Int)) = false) (hn : n < 256 := by decide) : c = UInt8.ofNat n := byte_of_beq (by simpa using h) hn

theorem toNil (l : List UInt8) : (ByteArray.mk l.toArray).data.toList = l := by simp

end Go.Proofs.YtjcdclnaplojcaaGreatDoor
