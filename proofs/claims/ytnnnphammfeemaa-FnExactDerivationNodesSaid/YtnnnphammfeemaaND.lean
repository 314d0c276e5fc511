/- Derivations in the program's memory; the program makes a node of derivations. -/
import Derived.Test.YtnnnphammfeemaaDV
import Derived.Test.YtnnnphammfeemaaKD
import Derived.Test.YtnnnphammfeemaaI
import Derived.Deep.RegionWith
namespace Go.Proofs.Ytnnnphammfeemaa
set_option linter.unusedVariables false
open Go.RowKit

/-- A node of a word, made of these derivations. -/
def NodeAt (w : World) (P : Nat → Prop) (x : List UInt8) (xs : List Value) (v : Value) : Prop :=
  (x = sFun ∧ ∃ b y, xs = [y] ∧ v = .iface 73 (.pointer (some ⟨b, 0, none⟩)) ∧ P b ∧ Blk w b 75 #[y]) ∨
  (x = sTfun ∧ ∃ b y, xs = [y] ∧ v = .iface 76 (.pointer (some ⟨b, 0, none⟩)) ∧ P b ∧ Blk w b 77 #[y]) ∨
  (x = sHap ∧ ∃ b y, xs = [y] ∧ v = .iface 81 (.pointer (some ⟨b, 0, none⟩)) ∧ P b ∧ Blk w b 83 #[y]) ∨
  (x = sTap ∧ ∃ b y z, xs = [y, z] ∧ v = .iface 84 (.pointer (some ⟨b, 0, none⟩)) ∧ P b ∧ Blk w b 86 #[y, z]) ∨
  (x = sApp ∧ ∃ b y ys g o c, xs = y :: ys ∧ v = .iface 78 (.pointer (some ⟨b, 0, none⟩)) ∧ P b ∧ P g ∧ Blk w b 80 #[y, .slice (some ⟨g, o, none⟩) ys.length c] ∧ (∀ j u, ys[j]? = some u → w.cell? ⟨g, o + j, none⟩ = some u) ∧ ys.length ≤ c)
mutual
/-- A derivation that was read, as nodes. -/
def DnAt (w : World) (P : Nat → Prop) : Tr → Value → Prop
  | .mk _ ps, v => DnP w P ps v
def DnP (w : World) (P : Nat → Prop) : List Tr → Value → Prop
  | [], _ => False
  | p :: r, v => (p.atom = sAx ∧ ∃ b t, r = [t] ∧ v = .iface 70 (.pointer (some ⟨b, 0, none⟩)) ∧ P b ∧ (wrTr t).length ≤ 8000 ∧ Blk w b 72 #[.string ⟨(wrTr t).toArray⟩]) ∨
      (p.atom ≠ sAx ∧ ∃ xs, DnS w P r xs ∧ NodeAt w P p.atom xs v)
def DnS (w : World) (P : Nat → Prop) : List Tr → List Value → Prop
  | [], xs => xs = []
  | t :: ts, xs => ∃ x r, xs = x :: r ∧ DnAt w P t x ∧ DnS w P ts r
end

section
variable {w w' : World} {P Q : Nat → Prop}
theorem NodeAt.mono {x : List UInt8} {xs : List Value} {v : Value} (hn : NodeAt w P x xs v) (h : ∀ b, P b → Q b ∧ w'.heap[b]? = w.heap[b]?) : NodeAt w' Q x xs v := by
  rcases hn with ⟨e, b, y, rfl, rfl, hb, hk⟩ | ⟨e, b, y, rfl, rfl, hb, hk⟩ | ⟨e, b, y, rfl, rfl, hb, hk⟩ | ⟨e, b, y, z, rfl, rfl, hb, hk⟩ | ⟨e, b, y, ys, g, o, c, rfl, rfl, hb, hg, hk, hc, hl⟩
  · exact .inl ⟨e, b, y, rfl, rfl, (h b hb).1, (h b hb).2.trans hk⟩
  · exact .inr (.inl ⟨e, b, y, rfl, rfl, (h b hb).1, (h b hb).2.trans hk⟩)
  · exact .inr (.inr (.inl ⟨e, b, y, rfl, rfl, (h b hb).1, (h b hb).2.trans hk⟩))
  · exact .inr (.inr (.inr (.inl ⟨e, b, y, z, rfl, rfl, (h b hb).1, (h b hb).2.trans hk⟩)))
  · exact .inr (.inr (.inr (.inr ⟨e, b, y, ys, g, o, c, rfl, rfl, (h b hb).1, (h g hg).1, (h b hb).2.trans hk, fun j u hu => (World.cell?_of_block (h g hg).2).trans (hc j u hu), hl⟩)))
theorem DnS.map {ts : List Tr} {xs : List Value} (hs : DnS w P ts xs) (h : ∀ t ∈ ts, ∀ v, DnAt w P t v → DnAt w' Q t v) : DnS w' Q ts xs := by
  induction ts generalizing xs with
  | nil => unfold DnS at hs ⊢; exact hs
  | cons t ts ih =>
    unfold DnS at hs ⊢
    obtain ⟨x, r, rfl, h1, h2⟩ := hs
    exact ⟨x, r, rfl, h t (List.mem_cons_self ..) _ h1, ih h2 fun u hu => h u (List.mem_cons_of_mem _ hu)⟩
theorem DnAt.mono {t : Tr} {v : Value} (ht : DnAt w P t v) (h : ∀ b, P b → Q b ∧ w'.heap[b]? = w.heap[b]?) : DnAt w' Q t v := by
  refine Tr.all (p := fun t => ∀ v, DnAt w P t v → DnAt w' Q t v) ?_ t v ht
  intro a ps ih v hv
  unfold DnAt at hv ⊢
  cases ps with
  | nil => unfold DnP at hv; exact hv.elim
  | cons p r =>
    unfold DnP at hv ⊢
    rcases hv with ⟨ha, b, t, rfl, rfl, hb, hl, hk⟩ | ⟨ha, xs, hs, hn⟩
    · exact .inl ⟨ha, b, t, rfl, rfl, (h b hb).1, hl, (h b hb).2.trans hk⟩
    · exact .inr ⟨ha, xs, hs.map fun u hu v => ih u (List.mem_cons_of_mem _ hu) v, hn.mono h⟩
theorem DnS.mono {ts : List Tr} {xs : List Value} (ht : DnS w P ts xs) (h : ∀ b, P b → Q b ∧ w'.heap[b]? = w.heap[b]?) : DnS w' Q ts xs := ht.map fun _ _ _ hv => hv.mono h
theorem DnAt.form {a : List UInt8} {p : Tr} {r : List Tr} {v : Value} (h : DnAt w P (.mk a (p :: r)) v) : (p.atom = sAx ∧ ∃ b t, r = [t] ∧ v = .iface 70 (.pointer (some ⟨b, 0, none⟩)) ∧ P b ∧ (wrTr t).length ≤ 8000 ∧ Blk w b 72 #[.string ⟨(wrTr t).toArray⟩]) ∨
      (p.atom ≠ sAx ∧ ∃ xs, DnS w P r xs ∧ NodeAt w P p.atom xs v) := by
  unfold DnAt DnP at h; exact h
theorem NodeAt.shape {x : List UInt8} {xs : List Value} {v : Value} (hn : NodeAt w P x xs v) : ∃ T b, v = .iface T (.pointer (some ⟨b, 0, none⟩)) ∧ P b := by
  rcases hn with ⟨e, b, y, rfl, rfl, hb, hk⟩ | ⟨e, b, y, rfl, rfl, hb, hk⟩ | ⟨e, b, y, rfl, rfl, hb, hk⟩ | ⟨e, b, y, z, rfl, rfl, hb, hk⟩ | ⟨e, b, y, ys, g, o, c, rfl, rfl, hb, hg, hk, hc, hl⟩
  all_goals exact ⟨_, b, rfl, hb⟩
theorem DnAt.shape {t : Tr} {v : Value} (h : DnAt w P t v) : ∃ T b, v = .iface T (.pointer (some ⟨b, 0, none⟩)) ∧ P b := by
  obtain ⟨a, ps⟩ := t
  cases ps with
  | nil => unfold DnAt DnP at h; exact h.elim
  | cons p r =>
    rcases h.form with ⟨ha, b, t, rfl, rfl, hb, hl, hk⟩ | ⟨ha, xs, hs, hn⟩
    · exact ⟨_, b, rfl, hb⟩
    · exact hn.shape
theorem DnS.len {ts : List Tr} {xs : List Value} (h : DnS w P ts xs) : xs.length = ts.length := by
  induction ts generalizing xs with
  | nil => unfold DnS at h; subst h; rfl
  | cons t ts ih =>
    unfold DnS at h
    obtain ⟨x, r, rfl, _, h2⟩ := h
    simp [ih h2]
theorem DnS.at_ {ts : List Tr} {xs : List Value} (h : DnS w P ts xs) : ∀ (i : Nat) (t : Tr), ts[i]? = some t → ∃ a, xs[i]? = some a ∧ DnAt w P t a := by
  induction ts generalizing xs with
  | nil => intro i t ht; simp at ht
  | cons t ts ih =>
    unfold DnS at h
    obtain ⟨a, r, rfl, h1, h2⟩ := h
    intro i t' ht
    cases i with
    | zero => simp at ht; subst ht; exact ⟨a, rfl, h1⟩
    | succ i =>
      obtain ⟨a', h3, h4⟩ := ih h2 i t' (by simpa using ht)
      exact ⟨a', by simpa using h3, h4⟩
theorem DnS.snoc {ts : List Tr} {t : Tr} {xs : List Value} {a : Value} (h : DnS w P ts xs) (ht : DnAt w P t a) : DnS w P (ts ++ [t]) (xs ++ [a]) := by
  induction ts generalizing xs with
  | nil =>
    unfold DnS at h
    subst h
    simp only [List.nil_append]
    unfold DnS
    exact ⟨a, [], rfl, ht, by unfold DnS; rfl⟩
  | cons t' ts ih =>
    unfold DnS at h
    obtain ⟨a', r, rfl, h1, h2⟩ := h
    simp only [List.cons_append]
    unfold DnS
    exact ⟨a', r ++ [a], rfl, h1, ih h2⟩
theorem DnS.nil : DnS w P [] [] := by unfold DnS; rfl
/-- All are interface values. -/
def Ifc (u : Value) : Prop := ∃ T b, u = .iface T (.pointer (some ⟨b, 0, none⟩))
theorem DnS.ifc {ts : List Tr} {xs : List Value} (h : DnS w P ts xs) : ∀ u ∈ xs, Ifc u := by
  induction ts generalizing xs with
  | nil => unfold DnS at h; subst h; intro u hu; cases hu
  | cons t ts ih =>
    unfold DnS at h
    obtain ⟨a, r, rfl, h1, h2⟩ := h
    intro u hu
    rcases List.mem_cons.1 hu with rfl | hu
    · obtain ⟨T, b, rfl, _⟩ := h1.shape; exact ⟨T, b, rfl⟩
    · exact ih h2 u hu
end

/-- What making a node answers. -/
def NdPost (k : Bool) (g : Nat) (x : List UInt8) (xs : List Value) (w : World) (e : Ending) (w' : World) : Prop :=
  Below w.heap.size w w' ∧ ((ndOk k x xs.length = true ∧ ∃ u, e = .returned (.tuple #[u, .bool true]) ∧ NodeAt w' (fun b => b = g ∨ (w.heap.size ≤ b ∧ b < w'.heap.size)) x xs u) ∨ (ndOk k x xs.length = false ∧ e = .returned (.tuple #[.nilIface, .bool false])))
/-- The list of which a node is made. -/
structure NoIn (w : World) (g cap n : Nat) (xs : List Value) : Prop where
  cells : ∀ j u, xs[j]? = some u → w.cell? ⟨g, j, none⟩ = some u
  ifc : ∀ u ∈ xs, Ifc u
  len : xs.length = n
  pos : 1 ≤ n
  le : n ≤ cap
  few : n ≤ 8000
  lt : g < w.heap.size
theorem NoIn.alloc {w : World} {g cap n : Nat} {xs : List Value} (h : NoIn w g cap n xs) (o : Obj) : NoIn (w.alloc o) g cap n xs :=
  ⟨fun j u hu => by rw [World.cell?_alloc_lt _ _ _ h.lt]; exact h.cells j u hu, h.ifc, h.len, h.pos, h.le, h.few, by have := h.lt; simp; omega⟩
end Go.Proofs.Ytnnnphammfeemaa
