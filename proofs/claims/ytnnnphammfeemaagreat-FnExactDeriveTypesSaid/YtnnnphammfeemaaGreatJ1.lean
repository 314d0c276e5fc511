/- Derivations in the program's memory; the program makes a node of derivations. The derivations of which a node is made, as the program gives them. The nodes of a derivation, one by one: the program's iterator. The program makes a node of derivations. -/
import Derived.Test.YtnnnphammfeemaaGreatDV
import Derived.Test.YtnnnphammfeemaaGreatKD
import Derived.Test.YtnnnphammfeemaaGreatI
import Derived.Deep.RegionWith
import Derived.Maps.AppendAt
import Derived.Deep.RegionHeld3
import Derived.Test.YtnnnphammfeemaaGreatRF
import Derived.LoopIn
import Derived.Lib.Hide
namespace Go.Proofs.YtnnnphammfeemaaGreat
set_option linter.unusedVariables false
open Go.RowKit

/-- A node of a word, made of these derivations. -/
def NodeAt (w : World) (P : Nat → Prop) (x : List UInt8) (xs : List Value) (v : Value) : Prop :=
  (x = sFun ∧ ∃ b y, xs = [y] ∧ v = .iface 127 (.pointer (some ⟨b, 0, none⟩)) ∧ P b ∧ Blk w b 197 #[y]) ∨
  (x = sTfun ∧ ∃ b y, xs = [y] ∧ v = .iface 198 (.pointer (some ⟨b, 0, none⟩)) ∧ P b ∧ Blk w b 199 #[y]) ∨
  (x = sHap ∧ ∃ b y, xs = [y] ∧ v = .iface 202 (.pointer (some ⟨b, 0, none⟩)) ∧ P b ∧ Blk w b 204 #[y]) ∨
  (x = sTap ∧ ∃ b y z, xs = [y, z] ∧ v = .iface 205 (.pointer (some ⟨b, 0, none⟩)) ∧ P b ∧ Blk w b 207 #[y, z]) ∨
  (x = sApp ∧ ∃ b y ys g o c, xs = y :: ys ∧ v = .iface 128 (.pointer (some ⟨b, 0, none⟩)) ∧ P b ∧ P g ∧ Blk w b 201 #[y, .slice (some ⟨g, o, none⟩) ys.length c] ∧ (∀ j u, ys[j]? = some u → w.cell? ⟨g, o + j, none⟩ = some u) ∧ ys.length ≤ c)
mutual
/-- A derivation that was read, as nodes. -/
def DnAt (w : World) (P : Nat → Prop) : Tr → Value → Prop
  | .mk _ ps, v => DnP w P ps v
def DnP (w : World) (P : Nat → Prop) : List Tr → Value → Prop
  | [], _ => False
  | p :: r, v => (p.atom = sAx ∧ ∃ b t, r = [t] ∧ v = .iface 74 (.pointer (some ⟨b, 0, none⟩)) ∧ P b ∧ (wrTr t).length ≤ 8000 ∧ Blk w b 78 #[.string ⟨(wrTr t).toArray⟩]) ∨
      (p.atom ≠ sAx ∧ ∃ xs, DnS w P r xs ∧ NodeAt w P p.atom xs v)
def DnS (w : World) (P : Nat → Prop) : List Tr → List Value → Prop
  | [], xs => xs = []
  | t :: ts, xs => ∃ x r, xs = x :: r ∧ DnAt w P t x ∧ DnS w P ts r
end

section
variable {w w' : World} {P Q : Nat → Prop}
theorem NodeAt.mono {x : List UInt8} {xs : List Value} {v : Value} (hn : NodeAt w P x xs v) (h : ∀ b, P b → Q b ∧ w'.heap[b]? = w.heap[b]?) : NodeAt w' Q x xs v := by
  rcases hn with ⟨e, b, y, rfl, rfl, hb, hk⟩ | ⟨e, b, y, rfl, rfl, hb, hk⟩ | ⟨e, b, y, rfl, rfl, hb, hk⟩ | ⟨e, b, y, z, rfl, rfl, hb, hk⟩ | ⟨e, b, y, ys, g, o, c, rfl, rfl, hb, hg, hk, hc, hl⟩
  · exact .inl ⟨e, b, y, rfl, rfl, (h b hb).1, (h b hb).2.trans hk⟩
  · exact .inr (.inl ⟨e, b, y, rfl, rfl, (h b hb).1, (h b hb).2.trans hk⟩)
  · exact .inr (.inr (.inl ⟨e, b, y, rfl, rfl, (h b hb).1, (h b hb).2.trans hk⟩))
  · exact .inr (.inr (.inr (.inl ⟨e, b, y, z, rfl, rfl, (h b hb).1, (h b hb).2.trans hk⟩)))
  · exact .inr (.inr (.inr (.inr ⟨e, b, y, ys, g, o, c, rfl, rfl, (h b hb).1, (h g hg).1, (h b hb).2.trans hk, fun j u hu => (World.cell?_of_block (h g hg).2).trans (hc j u hu), hl⟩)))
theorem DnS.map {ts : List Tr} {xs : List Value} (hs : DnS w P ts xs) (h : ∀ t ∈ ts, ∀ v, DnAt w P t v → DnAt w' Q t v) : DnS w' Q ts xs := by
  induction ts generalizing xs with
  | nil => unfold DnS at hs ⊢; exact hs
  | cons t ts ih =>
    unfold DnS at hs ⊢
    obtain ⟨x, r, rfl, h1, h2⟩ := hs
    exact ⟨x, r, rfl, h t (List.mem_cons_self ..) _ h1, ih h2 fun u hu => h u (List.mem_cons_of_mem _ hu)⟩
theorem DnAt.mono {t : Tr} {v : Value} (ht : DnAt w P t v) (h : ∀ b, P b → Q b ∧ w'.heap[b]? = w.heap[b]?) : DnAt w' Q t v := by
  refine Tr.all (p := fun t => ∀ v, DnAt w P t v → DnAt w' Q t v) ?_ t v ht
  intro a ps ih v hv
  unfold DnAt at hv ⊢
  cases ps with
  | nil => unfold DnP at hv; exact hv.elim
  | cons p r =>
    unfold DnP at hv ⊢
    rcases hv with ⟨ha, b, t, rfl, rfl, hb, hl, hk⟩ | ⟨ha, xs, hs, hn⟩
    · exact .inl ⟨ha, b, t, rfl, rfl, (h b hb).1, hl, (h b hb).2.trans hk⟩
    · exact .inr ⟨ha, xs, hs.map fun u hu v => ih u (List.mem_cons_of_mem _ hu) v, hn.mono h⟩
theorem DnS.mono {ts : List Tr} {xs : List Value} (ht : DnS w P ts xs) (h : ∀ b, P b → Q b ∧ w'.heap[b]? = w.heap[b]?) : DnS w' Q ts xs := ht.map fun _ _ _ hv => hv.mono h
theorem DnAt.form {a : List UInt8} {p : Tr} {r : List Tr} {v : Value} (h : DnAt w P (.mk a (p :: r)) v) : (p.atom = sAx ∧ ∃ b t, r = [t] ∧ v = .iface 74 (.pointer (some ⟨b, 0, none⟩)) ∧ P b ∧ (wrTr t).length ≤ 8000 ∧ Blk w b 78 #[.string ⟨(wrTr t).toArray⟩]) ∨
      (p.atom ≠ sAx ∧ ∃ xs, DnS w P r xs ∧ NodeAt w P p.atom xs v) := by
  unfold DnAt DnP at h; exact h
theorem NodeAt.shape {x : List UInt8} {xs : List Value} {v : Value} (hn : NodeAt w P x xs v) : ∃ T b, v = .iface T (.pointer (some ⟨b, 0, none⟩)) ∧ P b := by
  rcases hn with ⟨e, b, y, rfl, rfl, hb, hk⟩ | ⟨e, b, y, rfl, rfl, hb, hk⟩ | ⟨e, b, y, rfl, rfl, hb, hk⟩ | ⟨e, b, y, z, rfl, rfl, hb, hk⟩ | ⟨e, b, y, ys, g, o, c, rfl, rfl, hb, hg, hk, hc, hl⟩
  all_goals exact ⟨_, b, rfl, hb⟩
theorem DnAt.shape {t : Tr} {v : Value} (h : DnAt w P t v) : ∃ T b, v = .iface T (.pointer (some ⟨b, 0, none⟩)) ∧ P b := by
  obtain ⟨a, ps⟩ := t
  cases ps with
  | nil => unfold DnAt DnP at h; exact h.elim
  | cons p r =>
    rcases h.form with ⟨ha, b, t, rfl, rfl, hb, hl, hk⟩ | ⟨ha, xs, hs, hn⟩
    · exact ⟨_, b, rfl, hb⟩
    · exact hn.shape
theorem DnS.len {ts : List Tr} {xs : List Value} (h : DnS w P ts xs) : xs.length = ts.length := by
  induction ts generalizing xs with
  | nil => unfold DnS at h; subst h; rfl
  | cons t ts ih =>
    unfold DnS at h
    obtain ⟨x, r, rfl, _, h2⟩ := h
    simp [ih h2]
theorem DnS.at_ {ts : List Tr} {xs : List Value} (h : DnS w P ts xs) : ∀ (i : Nat) (t : Tr), ts[i]? = some t → ∃ a, xs[i]? = some a ∧ DnAt w P t a := by
  induction ts generalizing xs with
  | nil => intro i t ht; simp at ht
  | cons t ts ih =>
    unfold DnS at h
    obtain ⟨a, r, rfl, h1, h2⟩ := h
    intro i t' ht
    cases i with
    | zero => simp at ht; subst ht; exact ⟨a, rfl, h1⟩
    | succ i =>
      obtain ⟨a', h3, h4⟩ := ih h2 i t' (by simpa using ht)
      exact ⟨a', by simpa using h3, h4⟩
theorem DnS.snoc {ts : List Tr} {t : Tr} {xs : List Value} {a : Value} (h : DnS w P ts xs) (ht : DnAt w P t a) : DnS w P (ts ++ [t]) (xs ++ [a]) := by
  induction ts generalizing xs with
  | nil =>
    unfold DnS at h
    subst h
    simp only [List.nil_append]
    unfold DnS
    exact ⟨a, [], rfl, ht, by unfold DnS; rfl⟩
  | cons t' ts ih =>
    unfold DnS at h
    obtain ⟨a', r, rfl, h1, h2⟩ := h
    simp only [List.cons_append]
    unfold DnS
    exact ⟨a', r ++ [a], rfl, h1, ih h2⟩
theorem DnS.nil : DnS w P [] [] := by unfold DnS; rfl
/-- All are interface values. -/
def Ifc (u : Value) : Prop := ∃ T b, u = .iface T (.pointer (some ⟨b, 0, none⟩))
theorem DnS.ifc {ts : List Tr} {xs : List Value} (h : DnS w P ts xs) : ∀ u ∈ xs, Ifc u := by
  induction ts generalizing xs with
  | nil => unfold DnS at h; subst h; intro u hu; cases hu
  | cons t ts ih =>
    unfold DnS at h
    obtain ⟨a, r, rfl, h1, h2⟩ := h
    intro u hu
    rcases List.mem_cons.1 hu with rfl | hu
    · obtain ⟨T, b, rfl, _⟩ := h1.shape; exact ⟨T, b, rfl⟩
    · exact ih h2 u hu
end

/-- What making a node answers. -/
def NdPost (k : Bool) (g : Nat) (x : List UInt8) (xs : List Value) (w : World) (e : Ending) (w' : World) : Prop :=
  Below w.heap.size w w' ∧ ((ndOk k x xs.length = true ∧ ∃ u, e = .returned (.tuple #[u, .bool true]) ∧ NodeAt w' (fun b => b = g ∨ (w.heap.size ≤ b ∧ b < w'.heap.size)) x xs u) ∨ (ndOk k x xs.length = false ∧ e = .returned (.tuple #[.nilIface, .bool false])))
/-- The list of which a node is made. -/
structure NoIn (w : World) (g cap n : Nat) (xs : List Value) : Prop where
  cells : ∀ j u, xs[j]? = some u → w.cell? ⟨g, j, none⟩ = some u
  ifc : ∀ u ∈ xs, Ifc u
  len : xs.length = n
  pos : 1 ≤ n
  le : n ≤ cap
  few : n ≤ 8000
  lt : g < w.heap.size
theorem NoIn.alloc {w : World} {g cap n : Nat} {xs : List Value} (h : NoIn w g cap n xs) (o : Obj) : NoIn (w.alloc o) g cap n xs :=
  ⟨fun j u hu => by rw [World.cell?_alloc_lt _ _ _ h.lt]; exact h.cells j u hu, h.ifc, h.len, h.pos, h.le, h.few, by have := h.lt; simp; omega⟩
end Go.Proofs.YtnnnphammfeemaaGreat

namespace Go.Proofs.YtnnnphammfeemaaGreat
set_option linter.unusedVariables false
set_option linter.unusedSimpArgs false
open Go.RowKit

theorem Tryz.infoDn' : (Tryz.prog.info? 68).map (fun i => (i.zero, i.size, i.bytes)) = some (some .nilIface, 1, 16) := by kernel_rfl
/-- The derivations of a node, as a list of its own. -/
def PtPost (xs : List Value) (w : World) (e : Ending) (w' : World) : Prop :=
  ∃ v, e = .returned v ∧ w'.ownsRow w.heap.size 68 1 v xs.length xs ∧ Below w.heap.size w w'
theorem row_new (w : World) (cs : Array Value) (h : cs.size ≤ maxLen) : (w.alloc (.cells cs 68)).ownsRow w.heap.size 68 1 (.slice (some ⟨w.heap.size, 0, none⟩) cs.size cs.size) cs.size cs.toList :=
  ⟨by simp, .inr ⟨w.heap.size, cs.size, cs, rfl, Nat.le_refl _, Blk.new w _ _, Nat.le_refl _, h, by simp, List.take_of_length_le (by simp)⟩⟩
theorem ownsRow_drew {w : World} {base e size n : Nat} {v : Value} {xs : List Value} (h : w.ownsRow base e size v n xs) : w.drew.ownsRow base e size v n xs := h

theorem parts_ax (b : Nat) (w : World) : Calls Tryz.prog 216 #[.pointer (some ⟨b, 0, none⟩)] w (PtPost [] w) := by
  go_enter Tryz.func216, Tryz.ntmps216
  go_wp2_with fail
  go_ret
  exact ⟨_, rfl, World.ownsRow_nil _ _ _ _, Below.refl _ _⟩
theorem parts_fun (b : Nat) (T : TypeId) (q : Nat) (w : World) (hk : Blk w b 197 #[.iface T (.pointer (some ⟨q, 0, none⟩))]) : Calls Tryz.prog 224 #[.pointer (some ⟨b, 0, none⟩)] w (PtPost [.iface T (.pointer (some ⟨q, 0, none⟩))] w) := by
  have c0 := hk.cell 0
  simp at c0
  have hlt := hk.lt
  clear hk
  go_enter Tryz.func224, Tryz.ntmps224
  go_wp2_with fail
  go_ret
  exact ⟨_, rfl, row_new w #[_] (by simp [maxLen]), (Below.refl _ _).alloc (Nat.le_refl _) _⟩
theorem parts_tfun (b : Nat) (T : TypeId) (q : Nat) (w : World) (hk : Blk w b 199 #[.iface T (.pointer (some ⟨q, 0, none⟩))]) : Calls Tryz.prog 234 #[.pointer (some ⟨b, 0, none⟩)] w (PtPost [.iface T (.pointer (some ⟨q, 0, none⟩))] w) := by
  have c0 := hk.cell 0
  simp at c0
  have hlt := hk.lt
  clear hk
  go_enter Tryz.func234, Tryz.ntmps234
  go_wp2_with fail
  go_ret
  exact ⟨_, rfl, row_new w #[_] (by simp [maxLen]), (Below.refl _ _).alloc (Nat.le_refl _) _⟩
theorem parts_hap (b : Nat) (T : TypeId) (q : Nat) (w : World) (hk : Blk w b 204 #[.iface T (.pointer (some ⟨q, 0, none⟩))]) : Calls Tryz.prog 237 #[.pointer (some ⟨b, 0, none⟩)] w (PtPost [.iface T (.pointer (some ⟨q, 0, none⟩))] w) := by
  have c0 := hk.cell 0
  simp at c0
  have hlt := hk.lt
  clear hk
  go_enter Tryz.func237, Tryz.ntmps237
  go_wp2_with fail
  go_ret
  exact ⟨_, rfl, row_new w #[_] (by simp [maxLen]), (Below.refl _ _).alloc (Nat.le_refl _) _⟩
theorem parts_tap (b : Nat) (T : TypeId) (q : Nat) (T' : TypeId) (q' : Nat) (w : World) (hk : Blk w b 207 #[.iface T (.pointer (some ⟨q, 0, none⟩)), .iface T' (.pointer (some ⟨q', 0, none⟩))]) :
    Calls Tryz.prog 241 #[.pointer (some ⟨b, 0, none⟩)] w (PtPost [.iface T (.pointer (some ⟨q, 0, none⟩)), .iface T' (.pointer (some ⟨q', 0, none⟩))] w) := by
  have c0 := hk.cell 0
  have c1 := hk.cell 1
  simp at c0 c1
  have hlt := hk.lt
  clear hk
  go_enter Tryz.func241, Tryz.ntmps241
  go_wp2_with fail
  go_region
  all_goals
    go_wp2
    go_ret
    refine ⟨_, rfl, ?_, by first | exact ((Below.refl _ _).drew).alloc (by simp) _ | exact ((Below.refl _ _).alloc (by simp) _).drew | exact (Below.refl _ _).alloc (by simp) _⟩
    first
      | exact row_new w #[_, _] (by simp [maxLen])
      | exact row_new w.drew #[_, _] (by simp [maxLen])
theorem add_off' (g o j : Nat) : (⟨g, o, none⟩ : Addr).add j = ⟨g, o + j, none⟩ := by unfold Addr.add; split <;> simp_all
theorem parts_app (b : Nat) (T : TypeId) (q : Nat) (ys : List Value) (g o n c : Nat) (hn : ys.length = n) (h8 : n ≤ 20000) (w : World) (hi : ∀ u ∈ ys, Ifc u) (hg : g < w.heap.size) (hc : ∀ j u, ys[j]? = some u → w.cell? ⟨g, o + j, none⟩ = some u) (hk : Blk w b 201 #[.iface T (.pointer (some ⟨q, 0, none⟩)), .slice (some ⟨g, o, none⟩) n c]) :
    Calls Tryz.prog 228 #[.pointer (some ⟨b, 0, none⟩)] w (PtPost (.iface T (.pointer (some ⟨q, 0, none⟩)) :: ys) w) := by
  obtain ⟨i0, hinf, hz0, hzs, hzb⟩ := info_parts Tryz.infoDn'
  have hlt := hk.lt
  have HC := Lib.hid hc
  have HI := Lib.hid hi
  have HN := Lib.hid hn
  have HB := Lib.hid hk
  have s0 : w.drew.cell? ⟨b, 0, none⟩ = some (.iface T (.pointer (some ⟨q, 0, none⟩))) ∧ w.drew.cell? ⟨b, 1, none⟩ = some (.slice (some ⟨g, o, none⟩) n c) := by
    have c0 := hk.drew.cell 0
    have c1 := hk.drew.cell 1
    simp at c0 c1
    exact ⟨c0, c1⟩
  clear hk hi hn hc
  go_enter Tryz.func228, Tryz.ntmps228
  go_wp2_with fail
  refine wp_region_held_drew (S := (fun w' => w'.cell? ⟨b, 0, none⟩ = some (.iface T (.pointer (some ⟨q, 0, none⟩))) ∧ w'.cell? ⟨b, 1, none⟩ = some (.slice (some ⟨g, o, none⟩) n c))) (by kernel_rfl) s0 (fun hHeld => ?_)
  refine wpAnyH_take (i := 0) (v := ?_) rfl (by kernel_rfl) (by kernel_rfl) (by kernel_rfl) (fun _ _ _ h => h) (Or.inl ⟨by kernel_rfl, ?_⟩) (by assumption) ?_
  rotate_left
  · intro w0 hS0; (try dsimp only at hS0); go_simp; (try with_reducible rfl)
  (try simp only [List.getElem_toArray, List.getElem_cons_zero]); (try go_frame)
  refine wpAnyH_take (i := 1) (v := ?_) rfl (by kernel_rfl) (by kernel_rfl) (by kernel_rfl) (fun _ _ _ h => h) (Or.inl ⟨by kernel_rfl, ?_⟩) (by assumption) ?_
  rotate_left
  · intro w0 hS0; (try dsimp only at hS0); go_simp; (try with_reducible rfl)
  (try simp only [List.getElem_toArray, List.getElem_cons_zero, List.getElem_cons_succ]); (try go_frame)
  refine wpAnyH_take (i := 2) (v := ?_) rfl (by kernel_rfl) (by kernel_rfl) (by kernel_rfl) (fun _ _ _ h => h) (Or.inl ⟨by kernel_rfl, ?_⟩) (by assumption) ?_
  rotate_left
  · intro w0 hS0; (try dsimp only at hS0); go_simp; (try with_reducible rfl)
  (try simp only [List.getElem_toArray, List.getElem_cons_zero, List.getElem_cons_succ]); (try go_frame)
  refine wpAnyH_take (i := 3) (v := ?_) rfl (by kernel_rfl) (by kernel_rfl) (by kernel_rfl) (fun _ _ _ h => h) (Or.inl ⟨by kernel_rfl, ?_⟩) (by assumption) ?_
  rotate_left
  · intro w0 hS0; (try dsimp only at hS0); go_simp; (try with_reducible rfl)
  (try simp only [List.getElem_toArray, List.getElem_cons_zero, List.getElem_cons_succ]); (try go_frame)
  refine wpAnyH_take (i := 5) (v := ?_) rfl (by kernel_rfl) (by kernel_rfl) (by kernel_rfl) (fun _ _ _ h => h) (Or.inl ⟨by kernel_rfl, ?_⟩) (by assumption) ?_
  rotate_left
  · intro w0 hS0; (try dsimp only at hS0); go_simp; (try with_reducible rfl)
  (try simp only [List.getElem_toArray, List.getElem_cons_zero, List.getElem_cons_succ]); (try go_frame)
  refine wpAnyH_take (i := 6) (v := ?_) rfl (by kernel_rfl) (by kernel_rfl) (by kernel_rfl) (fun _ _ _ h => h) (Or.inl ⟨by kernel_rfl, ?_⟩) (by assumption) ?_
  rotate_left
  · intro w0 hS0; (try dsimp only at hS0); go_simp; (try with_reducible rfl)
  (try simp only [List.getElem_toArray, List.getElem_cons_zero, List.getElem_cons_succ]); (try go_frame)
  refine wpAnyH_take (i := 7) (v := ?_) rfl (by kernel_rfl) (by kernel_rfl) (by kernel_rfl) (fun _ _ _ h => h) (Or.inl ⟨by kernel_rfl, ?_⟩) (by assumption) ?_
  rotate_left
  · intro w0 hS0; (try dsimp only at hS0); go_simp; (try with_reducible rfl)
  (try simp only [List.getElem_toArray, List.getElem_cons_zero, List.getElem_cons_succ]); (try go_frame)
  refine wpAnyH_take (i := 8) (v := ?_) rfl (by kernel_rfl) (by kernel_rfl) (by kernel_rfl) (fun _ _ _ h => h) (Or.inl ⟨by kernel_rfl, ?_⟩) (by assumption) ?_
  rotate_left
  · intro w0 hS0; (try dsimp only at hS0); go_simp; (try with_reducible rfl)
  (try simp only [List.getElem_toArray, List.getElem_cons_zero, List.getElem_cons_succ]); (try go_frame)
  refine wpAnyH_ready (rs := [4]) (by kernel_rfl) (by simp) ?_
  refine AllReadyH.cons rfl (fun K hK => ?_) AllReadyH.nil
  go_simp
  have k1 : Blk (w.alloc (.cells #[.iface T (.pointer (some ⟨q, 0, none⟩))] 68)).drew b 201 #[.iface T (.pointer (some ⟨q, 0, none⟩)), .slice (some ⟨g, o, none⟩) n c] := (HB.out.alloc _).drew
  have s1 : (w.alloc (.cells #[.iface T (.pointer (some ⟨q, 0, none⟩))] 68)).drew.cell? ⟨b, 0, none⟩ = some (.iface T (.pointer (some ⟨q, 0, none⟩))) ∧ (w.alloc (.cells #[.iface T (.pointer (some ⟨q, 0, none⟩))] 68)).drew.cell? ⟨b, 1, none⟩ = some (.slice (some ⟨g, o, none⟩) n c) := by
    have c0 := k1.cell 0
    have c1 := k1.cell 1
    simp at c0 c1
    exact ⟨c0, c1⟩
  refine hK.out _ _ s1 (fun hHeld => ?_)
  clear hK K
  (try simp only [List.getElem_toArray, List.getElem_cons_zero, List.getElem_cons_succ]); (try go_frame)
  have hrow : (w.alloc (.cells #[.iface T (.pointer (some ⟨q, 0, none⟩))] 68)).drew.ownsRow w.heap.size 68 1 (.slice (some ⟨w.heap.size, 0, none⟩) 1 1) 1 [.iface T (.pointer (some ⟨q, 0, none⟩))] := ownsRow_drew (row_new w #[_] (by simp [maxLen]))
  have hB1 : Below w.heap.size w (w.alloc (.cells #[.iface T (.pointer (some ⟨q, 0, none⟩))] 68)).drew := ((Below.refl _ _).alloc (by simp) _).drew
  have hlw : w.heap.size < (w.alloc (.cells #[.iface T (.pointer (some ⟨q, 0, none⟩))] 68)).drew.heap.size := by simp
  have HC1 : Hid (∀ j u, ys[j]? = some u → (w.alloc (.cells #[.iface T (.pointer (some ⟨q, 0, none⟩))] 68)).drew.cell? ⟨g, o + j, none⟩ = some u) := Lib.hid fun j u hu => (hB1.cell (p := ⟨g, o + j, none⟩) hg).trans (HC.out j u hu)
  generalize (w.alloc (.cells #[.iface T (.pointer (some ⟨q, 0, none⟩))] 68)).drew = w1 at hHeld k1 s1 hrow hB1 hlw HC1 ⊢
  refine wpAnyH_ready (rs := [9]) (by kernel_rfl) (by simp) ?_
  refine AllReadyH.cons rfl (fun K hK => ?_) AllReadyH.nil
  rw [if_pos (by kernel_rfl)]
  refine wp_append_own _ (.tmp 7) (.tmp 11) 168 rfl w.heap.size 68 i0 .nilIface 1 16 Tryz.underlying168 hinf hz0 hzs hzb rfl (by decide) (.slice (some ⟨w.heap.size, 0, none⟩) 1 1) 1 [.iface T (.pointer (some ⟨q, 0, none⟩))] rfl hrow ⟨g, o, none⟩ n c ys rfl (by rw [HN.out]; omega) (fun j u hu => by rw [add_off']; exact HC1.out j u hu) (fun u hu => by obtain ⟨T', b', rfl⟩ := HI.out u hu; rfl) (by unfold maxLen; omega) (by omega) (by omega) ?_
  intro v2 w2 hown2 hg2 _
  have hz2 := hg2.size
  have k2 := k1.grown hg2 (fun e => by simp [Value.ownBlock] at e; omega)
  have hB2 := hB1.grown hg2 (by omega) (fun q e => by simp [Value.ownBlock] at e; omega)
  have HO2 := Lib.hid hown2
  obtain ⟨A2, n2, rfl⟩ := own_shape hown2
  have s2 : w2.cell? ⟨b, 0, none⟩ = some (.iface T (.pointer (some ⟨q, 0, none⟩))) ∧ w2.cell? ⟨b, 1, none⟩ = some (.slice (some ⟨g, o, none⟩) n c) := by
    have c0 := k2.cell 0
    have c1 := k2.cell 1
    simp at c0 c1
    exact ⟨c0, c1⟩
  clear hown2 hg2
  refine hK.out _ _ s2 (fun hHeld => ?_)
  clear hK K
  (try simp only [List.getElem_toArray, List.getElem_cons_zero, List.getElem_cons_succ]); (try go_frame)
  refine wpAnyH_take (i := 10) (v := ?_) rfl (by kernel_rfl) (by kernel_rfl) (by kernel_rfl) (fun _ _ _ h => h) (Or.inl ⟨by kernel_rfl, ?_⟩) (by assumption) ?_
  rotate_left
  · intro w0 hS0; (try dsimp only at hS0); go_simp; (try with_reducible rfl)
  (try simp only [List.getElem_toArray, List.getElem_cons_zero, List.getElem_cons_succ]); (try go_frame)
  refine wpAnyH_done (by kernel_rfl) ?_ _
  go_wp2
  go_ret
  refine ⟨_, rfl, ?_, hB2⟩
  have e : (Value.iface T (.pointer (some ⟨q, 0, none⟩)) :: ys).length = 1 + n := by rw [List.length_cons, HN.out, Nat.add_comm]
  rw [e]
  exact HO2.out
end Go.Proofs.YtnnnphammfeemaaGreat

namespace Go.Proofs.YtnnnphammfeemaaGreat
set_option linter.unusedVariables false
set_option linter.unusedSimpArgs false
open Go.RowKit Go.Shelf
attribute [local go_sem] Oper.semAt_some

/-- The cells that are kept: lists of derivations. -/
def dnT (t : TypeId) : Prop := t = 68
theorem DnAt.mid {w w' : World} {P : Nat → Prop} {tk : TypeId → Prop} {n₀ n₁ : Nat} {t : Tr} {v : Value} (h : DnAt w P t v) (hm : Mid tk n₀ n₁ w w') (hP : ∀ b, P b → b < n₀) : DnAt w' P t v :=
  h.mono fun b hb => ⟨hb, hm.below.block b (hP b hb)⟩
/-- What the iterator hands out: a node; the derivation that it stands for. -/
abbrev NEl := Value × Tr
def nelV (x : NEl) : Array Value := #[x.1]
def NElAt (P : Nat → Prop) (x : NEl) (w : World) : Prop := DnAt w P x.2 x.1
def NEachPost (n₀ n₁ : Nat) (J Jx : List NEl → World → Prop) (ts : List Tr) (pre : List NEl) (W : World) (e : Ending) (W' : World) : Prop :=
  (e = .returned (.bool true) ∧ (∃ xs, xs.map Prod.snd = ts ∧ J (pre ++ xs) W') ∧ Mid dnT n₀ n₁ W W') ∨ (e = .returned (.bool false) ∧ ∃ xs, xs.map Prod.snd <+: ts ∧ Jx (pre ++ xs) W')
def NEachSaid (P : Nat → Prop) (n₀ n₁ N l : Nat) (J Jx : List NEl → World → Prop) (t : Tr) : Prop :=
  ∀ (m : Nat) (v : Value) (pre : List NEl) (W : World), DnAt W P t v → J pre W → n₁ ≤ W.heap.size → pre.length + (nodesT t).length ≤ N →
    CallsIn Fence.wide m Tryz.prog 77 #[v, .func (.yield l) #[] #[]] W (NEachPost n₀ n₁ J Jx (nodesT t) pre W)
theorem hdW' (k : Nat) : Fence.wide.depth.isSome = true → 1 ≤ k := fun h => by cases h
theorem nodesT_node (pa : List UInt8) (pq r : List Tr) : nodesT (.mk [] (.mk pa pq :: r)) = .mk [] (.mk pa pq :: r) :: (if pa = sAx then [] else nodesS r) := by
  rw [nodesT]
  unfold nodesP
  rfl
theorem Tryz.m_ax (n : Nat) (a : Addr) (w : World) : (method (n + 1) 74 (.pointer (some a)) "loop.example/intersectiontypes/impl.parts").run Tryz.prog w = .ok (216, .pointer (some a)) w := by kernel_rfl
theorem Tryz.m_fun (n : Nat) (a : Addr) (w : World) : (method (n + 1) 127 (.pointer (some a)) "loop.example/intersectiontypes/impl.parts").run Tryz.prog w = .ok (224, .pointer (some a)) w := by kernel_rfl
theorem Tryz.m_tfun (n : Nat) (a : Addr) (w : World) : (method (n + 1) 198 (.pointer (some a)) "loop.example/intersectiontypes/impl.parts").run Tryz.prog w = .ok (234, .pointer (some a)) w := by kernel_rfl
theorem Tryz.m_hap (n : Nat) (a : Addr) (w : World) : (method (n + 1) 202 (.pointer (some a)) "loop.example/intersectiontypes/impl.parts").run Tryz.prog w = .ok (237, .pointer (some a)) w := by kernel_rfl
theorem Tryz.m_tap (n : Nat) (a : Addr) (w : World) : (method (n + 1) 205 (.pointer (some a)) "loop.example/intersectiontypes/impl.parts").run Tryz.prog w = .ok (241, .pointer (some a)) w := by kernel_rfl
theorem Tryz.m_app (n : Nat) (a : Addr) (w : World) : (method (n + 1) 128 (.pointer (some a)) "loop.example/intersectiontypes/impl.parts").run Tryz.prog w = .ok (228, .pointer (some a)) w := by kernel_rfl
theorem nodesS_append : ∀ a b : List Tr, nodesS (a ++ b) = nodesS a ++ nodesS b := by
  intro a b
  induction a with
  | nil => simp [nodesS]
  | cons x a ih => simp [nodesS, ih]
theorem nodesS_take (r : List Tr) (j : Nat) (t : Tr) (h : r[j]? = some t) : nodesS (r.take (j + 1)) = nodesS (r.take j) ++ nodesT t := by
  rw [List.take_add_one, h, nodesS_append]
  simp [nodesS]
theorem nodesS_pre (r : List Tr) (j : Nat) : nodesS (r.take j) <+: nodesS r := by
  have h := nodesS_append (r.take j) (r.drop j)
  rw [List.take_append_drop] at h
  exact ⟨_, h.symm⟩
section
variable {P : Nat → Prop} {n₀ n₁ N l : Nat} {J Jx : List NEl → World → Prop}
set_option maxRecDepth 100000 in
set_option maxHeartbeats 2000000 in
theorem eachNode_ax (hY : ∀ (m : Nat) pre x W1, J pre W1 → NElAt P x W1 → pre.length < N → YieldAt Fence.wide m Tryz.prog l (nelV x) W1 (Yields dnT n₀ n₁ J Jx (pre ++ [x]) W1)) (hP : ∀ b, P b → b < n₀) (hn01 : n₀ ≤ n₁) (hAJ : Abide J)
    (t : Tr) (r : List Tr) (ih : ∀ u ∈ r, NEachSaid P n₀ n₁ N l J Jx u) (xs : List Value) (m : Nat) (b : Nat) (pre : List NEl) (W : World) (hpt : ∀ W1, Mid dnT n₀ n₁ W W1 → Calls Tryz.prog 216 #[.pointer (some ⟨b, 0, none⟩)] W1 (PtPost xs W1)) (hxs : DnS W P r xs) (h8 : xs.length ≤ 20000)
    (hd : DnAt W P t (.iface 74 (.pointer (some ⟨b, 0, none⟩)))) (hJ : J pre W) (hn : n₁ ≤ W.heap.size) (hN : pre.length + (nodesS r).length < N) :
    CallsIn Fence.wide m Tryz.prog 77 #[.iface 74 (.pointer (some ⟨b, 0, none⟩)), .func (.yield l) #[] #[]] W (NEachPost n₀ n₁ J Jx (t :: nodesS r) pre W) := by
  have hy : YieldAt Fence.wide (m - 1) Tryz.prog l #[.iface 74 (.pointer (some ⟨b, 0, none⟩))] W _ := hY (m - 1) pre (.iface 74 (.pointer (some ⟨b, 0, none⟩)), t) W hJ hd (by omega)
  obtain ⟨fn, tmps, assign, body, hy, hR⟩ := hy
  have HPT := Lib.hid hpt
  have HX := Lib.hid hxs
  have HP := Lib.hid hP
  have IH := Lib.hid ih
  have HAJ := Lib.hid hAJ
  have HN := Lib.hid hN
  have HLEN : Hid (xs.length = r.length) := Lib.hid hxs.len
  obtain ⟨n, hnx⟩ : ∃ n, xs.length = n := ⟨_, rfl⟩
  have HNX := Lib.hid hnx
  rw [hnx] at h8
  clear hY hpt hxs hP ih hAJ hd hJ hN hnx
  have hmx := Tryz.m_ax
  refine callsIn_of_wp Tryz.func77 rfl trivial ?_
  simp only [Tryz.ntmps77, List.size_toArray, List.length_cons, List.length_nil, Nat.reduceAdd, Nat.reduceSub, Array.replicate_succ, Array.replicate_zero, List.push_toArray, List.append_toArray, List.nil_append, List.cons_append]
  gi_wp2_with (first
    | ((try refine ⟨hdW' _, ?_⟩); refine hR.mono ?_; clear hR; rintro e W1 (⟨rfl, hJ1, hM1⟩ | ⟨rfl, hJx⟩))
    | ((try refine ⟨trivial, ?_⟩); (try refine ⟨hdW' _, ?_⟩); gi_at_call 216; refine (callsIn_wide.2 (HPT.out W1 hM1)).mono ?_; rintro e W2 ⟨v, rfl, hrow, hb2⟩; rw [HNX.out] at hrow; obtain ⟨A, c, rfl⟩ := own_shape hrow))
  · have hz1 := hM1.below.size
    have hz2 := hb2.size
    have hM2 : Mid dnT n₀ n₁ W W2 := hM1.trans (Mid.fresh (by omega) hb2)
    have HJ2 := Lib.hid (HAJ.out _ _ _ hJ1 hb2)
    rcases hrow.2 with ⟨hv, h0⟩ | ⟨g, cap, cur, hv, hg, hheap, hnc, _, hcs, htk⟩
    · subst h0
      injection hv with e1 e2 e3
      subst e1 e3
      have HR0 : Hid (r = []) := Lib.hid (List.eq_nil_of_length_eq_zero (by have := HLEN.out; have := HNX.out; omega))
      have HM2 := Lib.hid hM2
      clear hrow hJ1 hM1 hb2 hM2
      gi_loopw [14] (fun i wr => i = .int .i64 0 ∧ wr = W2) (fun _ _ => 0)
      case atStart => exact ⟨rfl, rfl⟩
      case round =>
        obtain ⟨rfl, rfl⟩ := hrel
        gi_wp2
        go_ret
        refine .inl ⟨rfl, ⟨[(.iface 74 (.pointer (some ⟨b, 0, none⟩)), t)], ?_, HJ2.out⟩, HM2.out⟩
        rw [HR0.out]
        simp [nodesS]
    · injection hv with e1 e2 e3
      subst e1 e3
      clear e2
      have HBLK : Hid (Blk W2 g 68 cur) := Lib.hid hheap
      have hg1 : n₁ ≤ g := by omega
      have HCUR : Hid (∀ j u, xs[j]? = some u → cur[j]? = some u) := Lib.hid fun j u hu => by
        rw [← htk, List.getElem?_take] at hu
        split at hu
        · simpa using hu
        · cases hu
      have HM2 := Lib.hid hM2
      clear hrow hJ1 hM1 hb2 hM2 hheap hcs htk
      gi_loopw [14] (fun i wr => ∃ (j : Nat) (ys : List NEl), j ≤ n ∧ i = .int .i64 j ∧ Hid (ys.map Prod.snd = nodesS (r.take j)) ∧ Hid (J (pre ++ [(.iface 74 (.pointer (some ⟨b, 0, none⟩)), t)] ++ ys) wr) ∧ Hid (Mid dnT n₀ n₁ W wr) ∧ Hid (Blk wr g 68 cur) ∧ n₁ ≤ wr.heap.size) (fun i _ => n - (intOf i).toNat)
      case atStart => exact ⟨0, [], by omega, rfl, Lib.hid (by simp [nodesS]), Lib.hid (by simpa using HJ2.out), HM2, HBLK, by omega⟩
      case round =>
        obtain ⟨j, ys, hj, rfl, HYS, HJR, HMR, HBR, hnr⟩ := hrel
        by_cases hjn : j < n
        · obtain ⟨u, hu⟩ : ∃ u, xs[j]? = some u := ⟨xs[j]'(by have := HNX.out; omega), by simp⟩
          obtain ⟨tj, htj⟩ : ∃ tj, r[j]? = some tj := ⟨r[j]'(by have := HNX.out; have := HLEN.out; omega), by simp⟩
          obtain ⟨u', hu', hdu⟩ := HX.out.at_ j tj htj
          obtain rfl : u = u' := by rw [hu] at hu'; injection hu'
          obtain ⟨T', b', rfl, hb'⟩ := hdu.shape
          have c0 := HBR.out.cell j
          rw [HCUR.out j _ hu] at c0
          have htk := nodesS_take r j tj htj
          have hpre := nodesS_pre r (j + 1)
          have hyl : ys.length = (nodesS (r.take j)).length := by rw [← HYS.out]; simp
          have hlen : (nodesS (r.take j)).length + (nodesT tj).length ≤ (nodesS r).length := by have := hpre.length_le; rw [htk, List.length_append] at this; exact this
          have C := Lib.hid (IH.out tj (List.mem_of_getElem? htj) (m - 1) _ (pre ++ [(.iface 74 (.pointer (some ⟨b, 0, none⟩)), t)] ++ ys) wr (hdu.mid HMR.out HP.out) HJR.out hnr (by have := HN.out; simp only [List.length_append, List.length_cons, List.length_nil]; omega))
          have HTK := Lib.hid htk
          have HPRE := Lib.hid hpre
          have hmm : m - 1 = m - 1 := rfl
          clear hu hu' htj hdu htk hpre hyl hlen hb'
          gi_wp2_with (((try refine ⟨trivial, ?_⟩); (try refine ⟨hdW' _, ?_⟩); gi_at_call 77; refine C.out.mono ?_; rintro e W3 (⟨rfl, ⟨zs, hzs, hJ3⟩, hM3⟩ | ⟨rfl, zs, hzs, hJ3⟩)))
          · go_roundw
            case rel => exact ⟨j + 1, ys ++ zs, by omega, by go_num, Lib.hid (by rw [List.map_append, HYS.out, hzs, HTK.out]), Lib.hid (by simpa using hJ3), Lib.hid (HMR.out.trans hM3), Lib.hid (hM3.same g cur _ hg1 rfl HBR.out), by have := hM3.below.size; omega⟩
            case measure => simp [intOf]; omega
          · go_ret
            refine .inr ⟨rfl, (.iface 74 (.pointer (some ⟨b, 0, none⟩)), t) :: (ys ++ zs), ?_, by simpa using hJ3⟩
            rw [List.map_cons, List.map_append, HYS.out]
            refine (List.prefix_cons_inj _).2 (List.IsPrefix.trans ?_ HPRE.out)
            rw [HTK.out]
            exact (List.prefix_append_right_inj _).2 hzs
        · have HF : Hid (nodesS (r.take j) = nodesS r) := Lib.hid (by rw [List.take_of_length_le (by have := HNX.out; have := HLEN.out; omega)])
          gi_wp2
          go_ret
          exact .inl ⟨rfl, ⟨(.iface 74 (.pointer (some ⟨b, 0, none⟩)), t) :: ys, by rw [List.map_cons, HYS.out, HF.out], by simpa using HJR.out⟩, HMR.out⟩
  · go_ret
    exact .inr ⟨rfl, [(.iface 74 (.pointer (some ⟨b, 0, none⟩)), t)], by simp, hJx⟩
set_option maxRecDepth 100000 in
set_option maxHeartbeats 2000000 in
theorem eachNode_fun (hY : ∀ (m : Nat) pre x W1, J pre W1 → NElAt P x W1 → pre.length < N → YieldAt Fence.wide m Tryz.prog l (nelV x) W1 (Yields dnT n₀ n₁ J Jx (pre ++ [x]) W1)) (hP : ∀ b, P b → b < n₀) (hn01 : n₀ ≤ n₁) (hAJ : Abide J)
    (t : Tr) (r : List Tr) (ih : ∀ u ∈ r, NEachSaid P n₀ n₁ N l J Jx u) (xs : List Value) (m : Nat) (b : Nat) (pre : List NEl) (W : World) (hpt : ∀ W1, Mid dnT n₀ n₁ W W1 → Calls Tryz.prog 224 #[.pointer (some ⟨b, 0, none⟩)] W1 (PtPost xs W1)) (hxs : DnS W P r xs) (h8 : xs.length ≤ 20000)
    (hd : DnAt W P t (.iface 127 (.pointer (some ⟨b, 0, none⟩)))) (hJ : J pre W) (hn : n₁ ≤ W.heap.size) (hN : pre.length + (nodesS r).length < N) :
    CallsIn Fence.wide m Tryz.prog 77 #[.iface 127 (.pointer (some ⟨b, 0, none⟩)), .func (.yield l) #[] #[]] W (NEachPost n₀ n₁ J Jx (t :: nodesS r) pre W) := by
  have hy : YieldAt Fence.wide (m - 1) Tryz.prog l #[.iface 127 (.pointer (some ⟨b, 0, none⟩))] W _ := hY (m - 1) pre (.iface 127 (.pointer (some ⟨b, 0, none⟩)), t) W hJ hd (by omega)
  obtain ⟨fn, tmps, assign, body, hy, hR⟩ := hy
  have HPT := Lib.hid hpt
  have HX := Lib.hid hxs
  have HP := Lib.hid hP
  have IH := Lib.hid ih
  have HAJ := Lib.hid hAJ
  have HN := Lib.hid hN
  have HLEN : Hid (xs.length = r.length) := Lib.hid hxs.len
  obtain ⟨n, hnx⟩ : ∃ n, xs.length = n := ⟨_, rfl⟩
  have HNX := Lib.hid hnx
  rw [hnx] at h8
  clear hY hpt hxs hP ih hAJ hd hJ hN hnx
  have hmx := Tryz.m_fun
  refine callsIn_of_wp Tryz.func77 rfl trivial ?_
  simp only [Tryz.ntmps77, List.size_toArray, List.length_cons, List.length_nil, Nat.reduceAdd, Nat.reduceSub, Array.replicate_succ, Array.replicate_zero, List.push_toArray, List.append_toArray, List.nil_append, List.cons_append]
  gi_wp2_with (first
    | ((try refine ⟨hdW' _, ?_⟩); refine hR.mono ?_; clear hR; rintro e W1 (⟨rfl, hJ1, hM1⟩ | ⟨rfl, hJx⟩))
    | ((try refine ⟨trivial, ?_⟩); (try refine ⟨hdW' _, ?_⟩); gi_at_call 224; refine (callsIn_wide.2 (HPT.out W1 hM1)).mono ?_; rintro e W2 ⟨v, rfl, hrow, hb2⟩; rw [HNX.out] at hrow; obtain ⟨A, c, rfl⟩ := own_shape hrow))
  · have hz1 := hM1.below.size
    have hz2 := hb2.size
    have hM2 : Mid dnT n₀ n₁ W W2 := hM1.trans (Mid.fresh (by omega) hb2)
    have HJ2 := Lib.hid (HAJ.out _ _ _ hJ1 hb2)
    rcases hrow.2 with ⟨hv, h0⟩ | ⟨g, cap, cur, hv, hg, hheap, hnc, _, hcs, htk⟩
    · subst h0
      injection hv with e1 e2 e3
      subst e1 e3
      have HR0 : Hid (r = []) := Lib.hid (List.eq_nil_of_length_eq_zero (by have := HLEN.out; have := HNX.out; omega))
      have HM2 := Lib.hid hM2
      clear hrow hJ1 hM1 hb2 hM2
      gi_loopw [14] (fun i wr => i = .int .i64 0 ∧ wr = W2) (fun _ _ => 0)
      case atStart => exact ⟨rfl, rfl⟩
      case round =>
        obtain ⟨rfl, rfl⟩ := hrel
        gi_wp2
        go_ret
        refine .inl ⟨rfl, ⟨[(.iface 127 (.pointer (some ⟨b, 0, none⟩)), t)], ?_, HJ2.out⟩, HM2.out⟩
        rw [HR0.out]
        simp [nodesS]
    · injection hv with e1 e2 e3
      subst e1 e3
      clear e2
      have HBLK : Hid (Blk W2 g 68 cur) := Lib.hid hheap
      have hg1 : n₁ ≤ g := by omega
      have HCUR : Hid (∀ j u, xs[j]? = some u → cur[j]? = some u) := Lib.hid fun j u hu => by
        rw [← htk, List.getElem?_take] at hu
        split at hu
        · simpa using hu
        · cases hu
      have HM2 := Lib.hid hM2
      clear hrow hJ1 hM1 hb2 hM2 hheap hcs htk
      gi_loopw [14] (fun i wr => ∃ (j : Nat) (ys : List NEl), j ≤ n ∧ i = .int .i64 j ∧ Hid (ys.map Prod.snd = nodesS (r.take j)) ∧ Hid (J (pre ++ [(.iface 127 (.pointer (some ⟨b, 0, none⟩)), t)] ++ ys) wr) ∧ Hid (Mid dnT n₀ n₁ W wr) ∧ Hid (Blk wr g 68 cur) ∧ n₁ ≤ wr.heap.size) (fun i _ => n - (intOf i).toNat)
      case atStart => exact ⟨0, [], by omega, rfl, Lib.hid (by simp [nodesS]), Lib.hid (by simpa using HJ2.out), HM2, HBLK, by omega⟩
      case round =>
        obtain ⟨j, ys, hj, rfl, HYS, HJR, HMR, HBR, hnr⟩ := hrel
        by_cases hjn : j < n
        · obtain ⟨u, hu⟩ : ∃ u, xs[j]? = some u := ⟨xs[j]'(by have := HNX.out; omega), by simp⟩
          obtain ⟨tj, htj⟩ : ∃ tj, r[j]? = some tj := ⟨r[j]'(by have := HNX.out; have := HLEN.out; omega), by simp⟩
          obtain ⟨u', hu', hdu⟩ := HX.out.at_ j tj htj
          obtain rfl : u = u' := by rw [hu] at hu'; injection hu'
          obtain ⟨T', b', rfl, hb'⟩ := hdu.shape
          have c0 := HBR.out.cell j
          rw [HCUR.out j _ hu] at c0
          have htk := nodesS_take r j tj htj
          have hpre := nodesS_pre r (j + 1)
          have hyl : ys.length = (nodesS (r.take j)).length := by rw [← HYS.out]; simp
          have hlen : (nodesS (r.take j)).length + (nodesT tj).length ≤ (nodesS r).length := by have := hpre.length_le; rw [htk, List.length_append] at this; exact this
          have C := Lib.hid (IH.out tj (List.mem_of_getElem? htj) (m - 1) _ (pre ++ [(.iface 127 (.pointer (some ⟨b, 0, none⟩)), t)] ++ ys) wr (hdu.mid HMR.out HP.out) HJR.out hnr (by have := HN.out; simp only [List.length_append, List.length_cons, List.length_nil]; omega))
          have HTK := Lib.hid htk
          have HPRE := Lib.hid hpre
          have hmm : m - 1 = m - 1 := rfl
          clear hu hu' htj hdu htk hpre hyl hlen hb'
          gi_wp2_with (((try refine ⟨trivial, ?_⟩); (try refine ⟨hdW' _, ?_⟩); gi_at_call 77; refine C.out.mono ?_; rintro e W3 (⟨rfl, ⟨zs, hzs, hJ3⟩, hM3⟩ | ⟨rfl, zs, hzs, hJ3⟩)))
          · go_roundw
            case rel => exact ⟨j + 1, ys ++ zs, by omega, by go_num, Lib.hid (by rw [List.map_append, HYS.out, hzs, HTK.out]), Lib.hid (by simpa using hJ3), Lib.hid (HMR.out.trans hM3), Lib.hid (hM3.same g cur _ hg1 rfl HBR.out), by have := hM3.below.size; omega⟩
            case measure => simp [intOf]; omega
          · go_ret
            refine .inr ⟨rfl, (.iface 127 (.pointer (some ⟨b, 0, none⟩)), t) :: (ys ++ zs), ?_, by simpa using hJ3⟩
            rw [List.map_cons, List.map_append, HYS.out]
            refine (List.prefix_cons_inj _).2 (List.IsPrefix.trans ?_ HPRE.out)
            rw [HTK.out]
            exact (List.prefix_append_right_inj _).2 hzs
        · have HF : Hid (nodesS (r.take j) = nodesS r) := Lib.hid (by rw [List.take_of_length_le (by have := HNX.out; have := HLEN.out; omega)])
          gi_wp2
          go_ret
          exact .inl ⟨rfl, ⟨(.iface 127 (.pointer (some ⟨b, 0, none⟩)), t) :: ys, by rw [List.map_cons, HYS.out, HF.out], by simpa using HJR.out⟩, HMR.out⟩
  · go_ret
    exact .inr ⟨rfl, [(.iface 127 (.pointer (some ⟨b, 0, none⟩)), t)], by simp, hJx⟩
set_option maxRecDepth 100000 in
set_option maxHeartbeats 2000000 in
theorem eachNode_tfun (hY : ∀ (m : Nat) pre x W1, J pre W1 → NElAt P x W1 → pre.length < N → YieldAt Fence.wide m Tryz.prog l (nelV x) W1 (Yields dnT n₀ n₁ J Jx (pre ++ [x]) W1)) (hP : ∀ b, P b → b < n₀) (hn01 : n₀ ≤ n₁) (hAJ : Abide J)
    (t : Tr) (r : List Tr) (ih : ∀ u ∈ r, NEachSaid P n₀ n₁ N l J Jx u) (xs : List Value) (m : Nat) (b : Nat) (pre : List NEl) (W : World) (hpt : ∀ W1, Mid dnT n₀ n₁ W W1 → Calls Tryz.prog 234 #[.pointer (some ⟨b, 0, none⟩)] W1 (PtPost xs W1)) (hxs : DnS W P r xs) (h8 : xs.length ≤ 20000)
    (hd : DnAt W P t (.iface 198 (.pointer (some ⟨b, 0, none⟩)))) (hJ : J pre W) (hn : n₁ ≤ W.heap.size) (hN : pre.length + (nodesS r).length < N) :
    CallsIn Fence.wide m Tryz.prog 77 #[.iface 198 (.pointer (some ⟨b, 0, none⟩)), .func (.yield l) #[] #[]] W (NEachPost n₀ n₁ J Jx (t :: nodesS r) pre W) := by
  have hy : YieldAt Fence.wide (m - 1) Tryz.prog l #[.iface 198 (.pointer (some ⟨b, 0, none⟩))] W _ := hY (m - 1) pre (.iface 198 (.pointer (some ⟨b, 0, none⟩)), t) W hJ hd (by omega)
  obtain ⟨fn, tmps, assign, body, hy, hR⟩ := hy
  have HPT := Lib.hid hpt
  have HX := Lib.hid hxs
  have HP := Lib.hid hP
  have IH := Lib.hid ih
  have HAJ := Lib.hid hAJ
  have HN := Lib.hid hN
  have HLEN : Hid (xs.length = r.length) := Lib.hid hxs.len
  obtain ⟨n, hnx⟩ : ∃ n, xs.length = n := ⟨_, rfl⟩
  have HNX := Lib.hid hnx
  rw [hnx] at h8
  clear hY hpt hxs hP ih hAJ hd hJ hN hnx
  have hmx := Tryz.m_tfun
  refine callsIn_of_wp Tryz.func77 rfl trivial ?_
  simp only [Tryz.ntmps77, List.size_toArray, List.length_cons, List.length_nil, Nat.reduceAdd, Nat.reduceSub, Array.replicate_succ, Array.replicate_zero, List.push_toArray, List.append_toArray, List.nil_append, List.cons_append]
  gi_wp2_with (first
    | ((try refine ⟨hdW' _, ?_⟩); refine hR.mono ?_; clear hR; rintro e W1 (⟨rfl, hJ1, hM1⟩ | ⟨rfl, hJx⟩))
    | ((try refine ⟨trivial, ?_⟩); (try refine ⟨hdW' _, ?_⟩); gi_at_call 234; refine (callsIn_wide.2 (HPT.out W1 hM1)).mono ?_; rintro e W2 ⟨v, rfl, hrow, hb2⟩; rw [HNX.out] at hrow; obtain ⟨A, c, rfl⟩ := own_shape hrow))
  · have hz1 := hM1.below.size
    have hz2 := hb2.size
    have hM2 : Mid dnT n₀ n₁ W W2 := hM1.trans (Mid.fresh (by omega) hb2)
    have HJ2 := Lib.hid (HAJ.out _ _ _ hJ1 hb2)
    rcases hrow.2 with ⟨hv, h0⟩ | ⟨g, cap, cur, hv, hg, hheap, hnc, _, hcs, htk⟩
    · subst h0
      injection hv with e1 e2 e3
      subst e1 e3
      have HR0 : Hid (r = []) := Lib.hid (List.eq_nil_of_length_eq_zero (by have := HLEN.out; have := HNX.out; omega))
      have HM2 := Lib.hid hM2
      clear hrow hJ1 hM1 hb2 hM2
      gi_loopw [14] (fun i wr => i = .int .i64 0 ∧ wr = W2) (fun _ _ => 0)
      case atStart => exact ⟨rfl, rfl⟩
      case round =>
        obtain ⟨rfl, rfl⟩ := hrel
        gi_wp2
        go_ret
        refine .inl ⟨rfl, ⟨[(.iface 198 (.pointer (some ⟨b, 0, none⟩)), t)], ?_, HJ2.out⟩, HM2.out⟩
        rw [HR0.out]
        simp [nodesS]
    · injection hv with e1 e2 e3
      subst e1 e3
      clear e2
      have HBLK : Hid (Blk W2 g 68 cur) := Lib.hid hheap
      have hg1 : n₁ ≤ g := by omega
      have HCUR : Hid (∀ j u, xs[j]? = some u → cur[j]? = some u) := Lib.hid fun j u hu => by
        rw [← htk, List.getElem?_take] at hu
        split at hu
        · simpa using hu
        · cases hu
      have HM2 := Lib.hid hM2
      clear hrow hJ1 hM1 hb2 hM2 hheap hcs htk
      gi_loopw [14] (fun i wr => ∃ (j : Nat) (ys : List NEl), j ≤ n ∧ i = .int .i64 j ∧ Hid (ys.map Prod.snd = nodesS (r.take j)) ∧ Hid (J (pre ++ [(.iface 198 (.pointer (some ⟨b, 0, none⟩)), t)] ++ ys) wr) ∧ Hid (Mid dnT n₀ n₁ W wr) ∧ Hid (Blk wr g 68 cur) ∧ n₁ ≤ wr.heap.size) (fun i _ => n - (intOf i).toNat)
      case atStart => exact ⟨0, [], by omega, rfl, Lib.hid (by simp [nodesS]), Lib.hid (by simpa using HJ2.out), HM2, HBLK, by omega⟩
      case round =>
        obtain ⟨j, ys, hj, rfl, HYS, HJR, HMR, HBR, hnr⟩ := hrel
        by_cases hjn : j < n
        · obtain ⟨u, hu⟩ : ∃ u, xs[j]? = some u := ⟨xs[j]'(by have := HNX.out; omega), by simp⟩
          obtain ⟨tj, htj⟩ : ∃ tj, r[j]? = some tj := ⟨r[j]'(by have := HNX.out; have := HLEN.out; omega), by simp⟩
          obtain ⟨u', hu', hdu⟩ := HX.out.at_ j tj htj
          obtain rfl : u = u' := by rw [hu] at hu'; injection hu'
          obtain ⟨T', b', rfl, hb'⟩ := hdu.shape
          have c0 := HBR.out.cell j
          rw [HCUR.out j _ hu] at c0
          have htk := nodesS_take r j tj htj
          have hpre := nodesS_pre r (j + 1)
          have hyl : ys.length = (nodesS (r.take j)).length := by rw [← HYS.out]; simp
          have hlen : (nodesS (r.take j)).length + (nodesT tj).length ≤ (nodesS r).length := by have := hpre.length_le; rw [htk, List.length_append] at this; exact this
          have C := Lib.hid (IH.out tj (List.mem_of_getElem? htj) (m - 1) _ (pre ++ [(.iface 198 (.pointer (some ⟨b, 0, none⟩)), t)] ++ ys) wr (hdu.mid HMR.out HP.out) HJR.out hnr (by have := HN.out; simp only [List.length_append, List.length_cons, List.length_nil]; omega))
          have HTK := Lib.hid htk
          have HPRE := Lib.hid hpre
          have hmm : m - 1 = m - 1 := rfl
          clear hu hu' htj hdu htk hpre hyl hlen hb'
          gi_wp2_with (((try refine ⟨trivial, ?_⟩); (try refine ⟨hdW' _, ?_⟩); gi_at_call 77; refine C.out.mono ?_; rintro e W3 (⟨rfl, ⟨zs, hzs, hJ3⟩, hM3⟩ | ⟨rfl, zs, hzs, hJ3⟩)))
          · go_roundw
            case rel => exact ⟨j + 1, ys ++ zs, by omega, by go_num, Lib.hid (by rw [List.map_append, HYS.out, hzs, HTK.out]), Lib.hid (by simpa using hJ3), Lib.hid (HMR.out.trans hM3), Lib.hid (hM3.same g cur _ hg1 rfl HBR.out), by have := hM3.below.size; omega⟩
            case measure => simp [intOf]; omega
          · go_ret
            refine .inr ⟨rfl, (.iface 198 (.pointer (some ⟨b, 0, none⟩)), t) :: (ys ++ zs), ?_, by simpa using hJ3⟩
            rw [List.map_cons, List.map_append, HYS.out]
            refine (List.prefix_cons_inj _).2 (List.IsPrefix.trans ?_ HPRE.out)
            rw [HTK.out]
            exact (List.prefix_append_right_inj _).2 hzs
        · have HF : Hid (nodesS (r.take j) = nodesS r) := Lib.hid (by rw [List.take_of_length_le (by have := HNX.out; have := HLEN.out; omega)])
          gi_wp2
          go_ret
          exact .inl ⟨rfl, ⟨(.iface 198 (.pointer (some ⟨b, 0, none⟩)), t) :: ys, by rw [List.map_cons, HYS.out, HF.out], by simpa using HJR.out⟩, HMR.out⟩
  · go_ret
    exact .inr ⟨rfl, [(.iface 198 (.pointer (some ⟨b, 0, none⟩)), t)], by simp, hJx⟩
set_option maxRecDepth 100000 in
set_option maxHeartbeats 2000000 in
theorem eachNode_hap (hY : ∀ (m : Nat) pre x W1, J pre W1 → NElAt P x W1 → pre.length < N → YieldAt Fence.wide m Tryz.prog l (nelV x) W1 (Yields dnT n₀ n₁ J Jx (pre ++ [x]) W1)) (hP : ∀ b, P b → b < n₀) (hn01 : n₀ ≤ n₁) (hAJ : Abide J)
    (t : Tr) (r : List Tr) (ih : ∀ u ∈ r, NEachSaid P n₀ n₁ N l J Jx u) (xs : List Value) (m : Nat) (b : Nat) (pre : List NEl) (W : World) (hpt : ∀ W1, Mid dnT n₀ n₁ W W1 → Calls Tryz.prog 237 #[.pointer (some ⟨b, 0, none⟩)] W1 (PtPost xs W1)) (hxs : DnS W P r xs) (h8 : xs.length ≤ 20000)
    (hd : DnAt W P t (.iface 202 (.pointer (some ⟨b, 0, none⟩)))) (hJ : J pre W) (hn : n₁ ≤ W.heap.size) (hN : pre.length + (nodesS r).length < N) :
    CallsIn Fence.wide m Tryz.prog 77 #[.iface 202 (.pointer (some ⟨b, 0, none⟩)), .func (.yield l) #[] #[]] W (NEachPost n₀ n₁ J Jx (t :: nodesS r) pre W) := by
  have hy : YieldAt Fence.wide (m - 1) Tryz.prog l #[.iface 202 (.pointer (some ⟨b, 0, none⟩))] W _ := hY (m - 1) pre (.iface 202 (.pointer (some ⟨b, 0, none⟩)), t) W hJ hd (by omega)
  obtain ⟨fn, tmps, assign, body, hy, hR⟩ := hy
  have HPT := Lib.hid hpt
  have HX := Lib.hid hxs
  have HP := Lib.hid hP
  have IH := Lib.hid ih
  have HAJ := Lib.hid hAJ
  have HN := Lib.hid hN
  have HLEN : Hid (xs.length = r.length) := Lib.hid hxs.len
  obtain ⟨n, hnx⟩ : ∃ n, xs.length = n := ⟨_, rfl⟩
  have HNX := Lib.hid hnx
  rw [hnx] at h8
  clear hY hpt hxs hP ih hAJ hd hJ hN hnx
  have hmx := Tryz.m_hap
  refine callsIn_of_wp Tryz.func77 rfl trivial ?_
  simp only [Tryz.ntmps77, List.size_toArray, List.length_cons, List.length_nil, Nat.reduceAdd, Nat.reduceSub, Array.replicate_succ, Array.replicate_zero, List.push_toArray, List.append_toArray, List.nil_append, List.cons_append]
  gi_wp2_with (first
    | ((try refine ⟨hdW' _, ?_⟩); refine hR.mono ?_; clear hR; rintro e W1 (⟨rfl, hJ1, hM1⟩ | ⟨rfl, hJx⟩))
    | ((try refine ⟨trivial, ?_⟩); (try refine ⟨hdW' _, ?_⟩); gi_at_call 237; refine (callsIn_wide.2 (HPT.out W1 hM1)).mono ?_; rintro e W2 ⟨v, rfl, hrow, hb2⟩; rw [HNX.out] at hrow; obtain ⟨A, c, rfl⟩ := own_shape hrow))
  · have hz1 := hM1.below.size
    have hz2 := hb2.size
    have hM2 : Mid dnT n₀ n₁ W W2 := hM1.trans (Mid.fresh (by omega) hb2)
    have HJ2 := Lib.hid (HAJ.out _ _ _ hJ1 hb2)
    rcases hrow.2 with ⟨hv, h0⟩ | ⟨g, cap, cur, hv, hg, hheap, hnc, _, hcs, htk⟩
    · subst h0
      injection hv with e1 e2 e3
      subst e1 e3
      have HR0 : Hid (r = []) := Lib.hid (List.eq_nil_of_length_eq_zero (by have := HLEN.out; have := HNX.out; omega))
      have HM2 := Lib.hid hM2
      clear hrow hJ1 hM1 hb2 hM2
      gi_loopw [14] (fun i wr => i = .int .i64 0 ∧ wr = W2) (fun _ _ => 0)
      case atStart => exact ⟨rfl, rfl⟩
      case round =>
        obtain ⟨rfl, rfl⟩ := hrel
        gi_wp2
        go_ret
        refine .inl ⟨rfl, ⟨[(.iface 202 (.pointer (some ⟨b, 0, none⟩)), t)], ?_, HJ2.out⟩, HM2.out⟩
        rw [HR0.out]
        simp [nodesS]
    · injection hv with e1 e2 e3
      subst e1 e3
      clear e2
      have HBLK : Hid (Blk W2 g 68 cur) := Lib.hid hheap
      have hg1 : n₁ ≤ g := by omega
      have HCUR : Hid (∀ j u, xs[j]? = some u → cur[j]? = some u) := Lib.hid fun j u hu => by
        rw [← htk, List.getElem?_take] at hu
        split at hu
        · simpa using hu
        · cases hu
      have HM2 := Lib.hid hM2
      clear hrow hJ1 hM1 hb2 hM2 hheap hcs htk
      gi_loopw [14] (fun i wr => ∃ (j : Nat) (ys : List NEl), j ≤ n ∧ i = .int .i64 j ∧ Hid (ys.map Prod.snd = nodesS (r.take j)) ∧ Hid (J (pre ++ [(.iface 202 (.pointer (some ⟨b, 0, none⟩)), t)] ++ ys) wr) ∧ Hid (Mid dnT n₀ n₁ W wr) ∧ Hid (Blk wr g 68 cur) ∧ n₁ ≤ wr.heap.size) (fun i _ => n - (intOf i).toNat)
      case atStart => exact ⟨0, [], by omega, rfl, Lib.hid (by simp [nodesS]), Lib.hid (by simpa using HJ2.out), HM2, HBLK, by omega⟩
      case round =>
        obtain ⟨j, ys, hj, rfl, HYS, HJR, HMR, HBR, hnr⟩ := hrel
        by_cases hjn : j < n
        · obtain ⟨u, hu⟩ : ∃ u, xs[j]? = some u := ⟨xs[j]'(by have := HNX.out; omega), by simp⟩
          obtain ⟨tj, htj⟩ : ∃ tj, r[j]? = some tj := ⟨r[j]'(by have := HNX.out; have := HLEN.out; omega), by simp⟩
          obtain ⟨u', hu', hdu⟩ := HX.out.at_ j tj htj
          obtain rfl : u = u' := by rw [hu] at hu'; injection hu'
          obtain ⟨T', b', rfl, hb'⟩ := hdu.shape
          have c0 := HBR.out.cell j
          rw [HCUR.out j _ hu] at c0
          have htk := nodesS_take r j tj htj
          have hpre := nodesS_pre r (j + 1)
          have hyl : ys.length = (nodesS (r.take j)).length := by rw [← HYS.out]; simp
          have hlen : (nodesS (r.take j)).length + (nodesT tj).length ≤ (nodesS r).length := by have := hpre.length_le; rw [htk, List.length_append] at this; exact this
          have C := Lib.hid (IH.out tj (List.mem_of_getElem? htj) (m - 1) _ (pre ++ [(.iface 202 (.pointer (some ⟨b, 0, none⟩)), t)] ++ ys) wr (hdu.mid HMR.out HP.out) HJR.out hnr (by have := HN.out; simp only [List.length_append, List.length_cons, List.length_nil]; omega))
          have HTK := Lib.hid htk
          have HPRE := Lib.hid hpre
          have hmm : m - 1 = m - 1 := rfl
          clear hu hu' htj hdu htk hpre hyl hlen hb'
          gi_wp2_with (((try refine ⟨trivial, ?_⟩); (try refine ⟨hdW' _, ?_⟩); gi_at_call 77; refine C.out.mono ?_; rintro e W3 (⟨rfl, ⟨zs, hzs, hJ3⟩, hM3⟩ | ⟨rfl, zs, hzs, hJ3⟩)))
          · go_roundw
            case rel => exact ⟨j + 1, ys ++ zs, by omega, by go_num, Lib.hid (by rw [List.map_append, HYS.out, hzs, HTK.out]), Lib.hid (by simpa using hJ3), Lib.hid (HMR.out.trans hM3), Lib.hid (hM3.same g cur _ hg1 rfl HBR.out), by have := hM3.below.size; omega⟩
            case measure => simp [intOf]; omega
          · go_ret
            refine .inr ⟨rfl, (.iface 202 (.pointer (some ⟨b, 0, none⟩)), t) :: (ys ++ zs), ?_, by simpa using hJ3⟩
            rw [List.map_cons, List.map_append, HYS.out]
            refine (List.prefix_cons_inj _).2 (List.IsPrefix.trans ?_ HPRE.out)
            rw [HTK.out]
            exact (List.prefix_append_right_inj _).2 hzs
        · have HF : Hid (nodesS (r.take j) = nodesS r) := Lib.hid (by rw [List.take_of_length_le (by have := HNX.out; have := HLEN.out; omega)])
          gi_wp2
          go_ret
          exact .inl ⟨rfl, ⟨(.iface 202 (.pointer (some ⟨b, 0, none⟩)), t) :: ys, by rw [List.map_cons, HYS.out, HF.out], by simpa using HJR.out⟩, HMR.out⟩
  · go_ret
    exact .inr ⟨rfl, [(.iface 202 (.pointer (some ⟨b, 0, none⟩)), t)], by simp, hJx⟩
set_option maxRecDepth 100000 in
set_option maxHeartbeats 2000000 in
theorem eachNode_tap (hY : ∀ (m : Nat) pre x W1, J pre W1 → NElAt P x W1 → pre.length < N → YieldAt Fence.wide m Tryz.prog l (nelV x) W1 (Yields dnT n₀ n₁ J Jx (pre ++ [x]) W1)) (hP : ∀ b, P b → b < n₀) (hn01 : n₀ ≤ n₁) (hAJ : Abide J)
    (t : Tr) (r : List Tr) (ih : ∀ u ∈ r, NEachSaid P n₀ n₁ N l J Jx u) (xs : List Value) (m : Nat) (b : Nat) (pre : List NEl) (W : World) (hpt : ∀ W1, Mid dnT n₀ n₁ W W1 → Calls Tryz.prog 241 #[.pointer (some ⟨b, 0, none⟩)] W1 (PtPost xs W1)) (hxs : DnS W P r xs) (h8 : xs.length ≤ 20000)
    (hd : DnAt W P t (.iface 205 (.pointer (some ⟨b, 0, none⟩)))) (hJ : J pre W) (hn : n₁ ≤ W.heap.size) (hN : pre.length + (nodesS r).length < N) :
    CallsIn Fence.wide m Tryz.prog 77 #[.iface 205 (.pointer (some ⟨b, 0, none⟩)), .func (.yield l) #[] #[]] W (NEachPost n₀ n₁ J Jx (t :: nodesS r) pre W) := by
  have hy : YieldAt Fence.wide (m - 1) Tryz.prog l #[.iface 205 (.pointer (some ⟨b, 0, none⟩))] W _ := hY (m - 1) pre (.iface 205 (.pointer (some ⟨b, 0, none⟩)), t) W hJ hd (by omega)
  obtain ⟨fn, tmps, assign, body, hy, hR⟩ := hy
  have HPT := Lib.hid hpt
  have HX := Lib.hid hxs
  have HP := Lib.hid hP
  have IH := Lib.hid ih
  have HAJ := Lib.hid hAJ
  have HN := Lib.hid hN
  have HLEN : Hid (xs.length = r.length) := Lib.hid hxs.len
  obtain ⟨n, hnx⟩ : ∃ n, xs.length = n := ⟨_, rfl⟩
  have HNX := Lib.hid hnx
  rw [hnx] at h8
  clear hY hpt hxs hP ih hAJ hd hJ hN hnx
  have hmx := Tryz.m_tap
  refine callsIn_of_wp Tryz.func77 rfl trivial ?_
  simp only [Tryz.ntmps77, List.size_toArray, List.length_cons, List.length_nil, Nat.reduceAdd, Nat.reduceSub, Array.replicate_succ, Array.replicate_zero, List.push_toArray, List.append_toArray, List.nil_append, List.cons_append]
  gi_wp2_with (first
    | ((try refine ⟨hdW' _, ?_⟩); refine hR.mono ?_; clear hR; rintro e W1 (⟨rfl, hJ1, hM1⟩ | ⟨rfl, hJx⟩))
    | ((try refine ⟨trivial, ?_⟩); (try refine ⟨hdW' _, ?_⟩); gi_at_call 241; refine (callsIn_wide.2 (HPT.out W1 hM1)).mono ?_; rintro e W2 ⟨v, rfl, hrow, hb2⟩; rw [HNX.out] at hrow; obtain ⟨A, c, rfl⟩ := own_shape hrow))
  · have hz1 := hM1.below.size
    have hz2 := hb2.size
    have hM2 : Mid dnT n₀ n₁ W W2 := hM1.trans (Mid.fresh (by omega) hb2)
    have HJ2 := Lib.hid (HAJ.out _ _ _ hJ1 hb2)
    rcases hrow.2 with ⟨hv, h0⟩ | ⟨g, cap, cur, hv, hg, hheap, hnc, _, hcs, htk⟩
    · subst h0
      injection hv with e1 e2 e3
      subst e1 e3
      have HR0 : Hid (r = []) := Lib.hid (List.eq_nil_of_length_eq_zero (by have := HLEN.out; have := HNX.out; omega))
      have HM2 := Lib.hid hM2
      clear hrow hJ1 hM1 hb2 hM2
      gi_loopw [14] (fun i wr => i = .int .i64 0 ∧ wr = W2) (fun _ _ => 0)
      case atStart => exact ⟨rfl, rfl⟩
      case round =>
        obtain ⟨rfl, rfl⟩ := hrel
        gi_wp2
        go_ret
        refine .inl ⟨rfl, ⟨[(.iface 205 (.pointer (some ⟨b, 0, none⟩)), t)], ?_, HJ2.out⟩, HM2.out⟩
        rw [HR0.out]
        simp [nodesS]
    · injection hv with e1 e2 e3
      subst e1 e3
      clear e2
      have HBLK : Hid (Blk W2 g 68 cur) := Lib.hid hheap
      have hg1 : n₁ ≤ g := by omega
      have HCUR : Hid (∀ j u, xs[j]? = some u → cur[j]? = some u) := Lib.hid fun j u hu => by
        rw [← htk, List.getElem?_take] at hu
        split at hu
        · simpa using hu
        · cases hu
      have HM2 := Lib.hid hM2
      clear hrow hJ1 hM1 hb2 hM2 hheap hcs htk
      gi_loopw [14] (fun i wr => ∃ (j : Nat) (ys : List NEl), j ≤ n ∧ i = .int .i64 j ∧ Hid (ys.map Prod.snd = nodesS (r.take j)) ∧ Hid (J (pre ++ [(.iface 205 (.pointer (some ⟨b, 0, none⟩)), t)] ++ ys) wr) ∧ Hid (Mid dnT n₀ n₁ W wr) ∧ Hid (Blk wr g 68 cur) ∧ n₁ ≤ wr.heap.size) (fun i _ => n - (intOf i).toNat)
      case atStart => exact ⟨0, [], by omega, rfl, Lib.hid (by simp [nodesS]), Lib.hid (by simpa using HJ2.out), HM2, HBLK, by omega⟩
      case round =>
        obtain ⟨j, ys, hj, rfl, HYS, HJR, HMR, HBR, hnr⟩ := hrel
        by_cases hjn : j < n
        · obtain ⟨u, hu⟩ : ∃ u, xs[j]? = some u := ⟨xs[j]'(by have := HNX.out; omega), by simp⟩
          obtain ⟨tj, htj⟩ : ∃ tj, r[j]? = some tj := ⟨r[j]'(by have := HNX.out; have := HLEN.out; omega), by simp⟩
          obtain ⟨u', hu', hdu⟩ := HX.out.at_ j tj htj
          obtain rfl : u = u' := by rw [hu] at hu'; injection hu'
          obtain ⟨T', b', rfl, hb'⟩ := hdu.shape
          have c0 := HBR.out.cell j
          rw [HCUR.out j _ hu] at c0
          have htk := nodesS_take r j tj htj
          have hpre := nodesS_pre r (j + 1)
          have hyl : ys.length = (nodesS (r.take j)).length := by rw [← HYS.out]; simp
          have hlen : (nodesS (r.take j)).length + (nodesT tj).length ≤ (nodesS r).length := by have := hpre.length_le; rw [htk, List.length_append] at this; exact this
          have C := Lib.hid (IH.out tj (List.mem_of_getElem? htj) (m - 1) _ (pre ++ [(.iface 205 (.pointer (some ⟨b, 0, none⟩)), t)] ++ ys) wr (hdu.mid HMR.out HP.out) HJR.out hnr (by have := HN.out; simp only [List.length_append, List.length_cons, List.length_nil]; omega))
          have HTK := Lib.hid htk
          have HPRE := Lib.hid hpre
          have hmm : m - 1 = m - 1 := rfl
          clear hu hu' htj hdu htk hpre hyl hlen hb'
          gi_wp2_with (((try refine ⟨trivial, ?_⟩); (try refine ⟨hdW' _, ?_⟩); gi_at_call 77; refine C.out.mono ?_; rintro e W3 (⟨rfl, ⟨zs, hzs, hJ3⟩, hM3⟩ | ⟨rfl, zs, hzs, hJ3⟩)))
          · go_roundw
            case rel => exact ⟨j + 1, ys ++ zs, by omega, by go_num, Lib.hid (by rw [List.map_append, HYS.out, hzs, HTK.out]), Lib.hid (by simpa using hJ3), Lib.hid (HMR.out.trans hM3), Lib.hid (hM3.same g cur _ hg1 rfl HBR.out), by have := hM3.below.size; omega⟩
            case measure => simp [intOf]; omega
          · go_ret
            refine .inr ⟨rfl, (.iface 205 (.pointer (some ⟨b, 0, none⟩)), t) :: (ys ++ zs), ?_, by simpa using hJ3⟩
            rw [List.map_cons, List.map_append, HYS.out]
            refine (List.prefix_cons_inj _).2 (List.IsPrefix.trans ?_ HPRE.out)
            rw [HTK.out]
            exact (List.prefix_append_right_inj _).2 hzs
        · have HF : Hid (nodesS (r.take j) = nodesS r) := Lib.hid (by rw [List.take_of_length_le (by have := HNX.out; have := HLEN.out; omega)])
          gi_wp2
          go_ret
          exact .inl ⟨rfl, ⟨(.iface 205 (.pointer (some ⟨b, 0, none⟩)), t) :: ys, by rw [List.map_cons, HYS.out, HF.out], by simpa using HJR.out⟩, HMR.out⟩
  · go_ret
    exact .inr ⟨rfl, [(.iface 205 (.pointer (some ⟨b, 0, none⟩)), t)], by simp, hJx⟩
set_option maxRecDepth 100000 in
set_option maxHeartbeats 2000000 in
theorem eachNode_app (hY : ∀ (m : Nat) pre x W1, J pre W1 → NElAt P x W1 → pre.length < N → YieldAt Fence.wide m Tryz.prog l (nelV x) W1 (Yields dnT n₀ n₁ J Jx (pre ++ [x]) W1)) (hP : ∀ b, P b → b < n₀) (hn01 : n₀ ≤ n₁) (hAJ : Abide J)
    (t : Tr) (r : List Tr) (ih : ∀ u ∈ r, NEachSaid P n₀ n₁ N l J Jx u) (xs : List Value) (m : Nat) (b : Nat) (pre : List NEl) (W : World) (hpt : ∀ W1, Mid dnT n₀ n₁ W W1 → Calls Tryz.prog 228 #[.pointer (some ⟨b, 0, none⟩)] W1 (PtPost xs W1)) (hxs : DnS W P r xs) (h8 : xs.length ≤ 20000)
    (hd : DnAt W P t (.iface 128 (.pointer (some ⟨b, 0, none⟩)))) (hJ : J pre W) (hn : n₁ ≤ W.heap.size) (hN : pre.length + (nodesS r).length < N) :
    CallsIn Fence.wide m Tryz.prog 77 #[.iface 128 (.pointer (some ⟨b, 0, none⟩)), .func (.yield l) #[] #[]] W (NEachPost n₀ n₁ J Jx (t :: nodesS r) pre W) := by
  have hy : YieldAt Fence.wide (m - 1) Tryz.prog l #[.iface 128 (.pointer (some ⟨b, 0, none⟩))] W _ := hY (m - 1) pre (.iface 128 (.pointer (some ⟨b, 0, none⟩)), t) W hJ hd (by omega)
  obtain ⟨fn, tmps, assign, body, hy, hR⟩ := hy
  have HPT := Lib.hid hpt
  have HX := Lib.hid hxs
  have HP := Lib.hid hP
  have IH := Lib.hid ih
  have HAJ := Lib.hid hAJ
  have HN := Lib.hid hN
  have HLEN : Hid (xs.length = r.length) := Lib.hid hxs.len
  obtain ⟨n, hnx⟩ : ∃ n, xs.length = n := ⟨_, rfl⟩
  have HNX := Lib.hid hnx
  rw [hnx] at h8
  clear hY hpt hxs hP ih hAJ hd hJ hN hnx
  have hmx := Tryz.m_app
  refine callsIn_of_wp Tryz.func77 rfl trivial ?_
  simp only [Tryz.ntmps77, List.size_toArray, List.length_cons, List.length_nil, Nat.reduceAdd, Nat.reduceSub, Array.replicate_succ, Array.replicate_zero, List.push_toArray, List.append_toArray, List.nil_append, List.cons_append]
  gi_wp2_with (first
    | ((try refine ⟨hdW' _, ?_⟩); refine hR.mono ?_; clear hR; rintro e W1 (⟨rfl, hJ1, hM1⟩ | ⟨rfl, hJx⟩))
    | ((try refine ⟨trivial, ?_⟩); (try refine ⟨hdW' _, ?_⟩); gi_at_call 228; refine (callsIn_wide.2 (HPT.out W1 hM1)).mono ?_; rintro e W2 ⟨v, rfl, hrow, hb2⟩; rw [HNX.out] at hrow; obtain ⟨A, c, rfl⟩ := own_shape hrow))
  · have hz1 := hM1.below.size
    have hz2 := hb2.size
    have hM2 : Mid dnT n₀ n₁ W W2 := hM1.trans (Mid.fresh (by omega) hb2)
    have HJ2 := Lib.hid (HAJ.out _ _ _ hJ1 hb2)
    rcases hrow.2 with ⟨hv, h0⟩ | ⟨g, cap, cur, hv, hg, hheap, hnc, _, hcs, htk⟩
    · subst h0
      injection hv with e1 e2 e3
      subst e1 e3
      have HR0 : Hid (r = []) := Lib.hid (List.eq_nil_of_length_eq_zero (by have := HLEN.out; have := HNX.out; omega))
      have HM2 := Lib.hid hM2
      clear hrow hJ1 hM1 hb2 hM2
      gi_loopw [14] (fun i wr => i = .int .i64 0 ∧ wr = W2) (fun _ _ => 0)
      case atStart => exact ⟨rfl, rfl⟩
      case round =>
        obtain ⟨rfl, rfl⟩ := hrel
        gi_wp2
        go_ret
        refine .inl ⟨rfl, ⟨[(.iface 128 (.pointer (some ⟨b, 0, none⟩)), t)], ?_, HJ2.out⟩, HM2.out⟩
        rw [HR0.out]
        simp [nodesS]
    · injection hv with e1 e2 e3
      subst e1 e3
      clear e2
      have HBLK : Hid (Blk W2 g 68 cur) := Lib.hid hheap
      have hg1 : n₁ ≤ g := by omega
      have HCUR : Hid (∀ j u, xs[j]? = some u → cur[j]? = some u) := Lib.hid fun j u hu => by
        rw [← htk, List.getElem?_take] at hu
        split at hu
        · simpa using hu
        · cases hu
      have HM2 := Lib.hid hM2
      clear hrow hJ1 hM1 hb2 hM2 hheap hcs htk
      gi_loopw [14] (fun i wr => ∃ (j : Nat) (ys : List NEl), j ≤ n ∧ i = .int .i64 j ∧ Hid (ys.map Prod.snd = nodesS (r.take j)) ∧ Hid (J (pre ++ [(.iface 128 (.pointer (some ⟨b, 0, none⟩)), t)] ++ ys) wr) ∧ Hid (Mid dnT n₀ n₁ W wr) ∧ Hid (Blk wr g 68 cur) ∧ n₁ ≤ wr.heap.size) (fun i _ => n - (intOf i).toNat)
      case atStart => exact ⟨0, [], by omega, rfl, Lib.hid (by simp [nodesS]), Lib.hid (by simpa using HJ2.out), HM2, HBLK, by omega⟩
      case round =>
        obtain ⟨j, ys, hj, rfl, HYS, HJR, HMR, HBR, hnr⟩ := hrel
        by_cases hjn : j < n
        · obtain ⟨u, hu⟩ : ∃ u, xs[j]? = some u := ⟨xs[j]'(by have := HNX.out; omega), by simp⟩
          obtain ⟨tj, htj⟩ : ∃ tj, r[j]? = some tj := ⟨r[j]'(by have := HNX.out; have := HLEN.out; omega), by simp⟩
          obtain ⟨u', hu', hdu⟩ := HX.out.at_ j tj htj
          obtain rfl : u = u' := by rw [hu] at hu'; injection hu'
          obtain ⟨T', b', rfl, hb'⟩ := hdu.shape
          have c0 := HBR.out.cell j
          rw [HCUR.out j _ hu] at c0
          have htk := nodesS_take r j tj htj
          have hpre := nodesS_pre r (j + 1)
          have hyl : ys.length = (nodesS (r.take j)).length := by rw [← HYS.out]; simp
          have hlen : (nodesS (r.take j)).length + (nodesT tj).length ≤ (nodesS r).length := by have := hpre.length_le; rw [htk, List.length_append] at this; exact this
          have C := Lib.hid (IH.out tj (List.mem_of_getElem? htj) (m - 1) _ (pre ++ [(.iface 128 (.pointer (some ⟨b, 0, none⟩)), t)] ++ ys) wr (hdu.mid HMR.out HP.out) HJR.out hnr (by have := HN.out; simp only [List.length_append, List.length_cons, List.length_nil]; omega))
          have HTK := Lib.hid htk
          have HPRE := Lib.hid hpre
          have hmm : m - 1 = m - 1 := rfl
          clear hu hu' htj hdu htk hpre hyl hlen hb'
          gi_wp2_with (((try refine ⟨trivial, ?_⟩); (try refine ⟨hdW' _, ?_⟩); gi_at_call 77; refine C.out.mono ?_; rintro e W3 (⟨rfl, ⟨zs, hzs, hJ3⟩, hM3⟩ | ⟨rfl, zs, hzs, hJ3⟩)))
          · go_roundw
            case rel => exact ⟨j + 1, ys ++ zs, by omega, by go_num, Lib.hid (by rw [List.map_append, HYS.out, hzs, HTK.out]), Lib.hid (by simpa using hJ3), Lib.hid (HMR.out.trans hM3), Lib.hid (hM3.same g cur _ hg1 rfl HBR.out), by have := hM3.below.size; omega⟩
            case measure => simp [intOf]; omega
          · go_ret
            refine .inr ⟨rfl, (.iface 128 (.pointer (some ⟨b, 0, none⟩)), t) :: (ys ++ zs), ?_, by simpa using hJ3⟩
            rw [List.map_cons, List.map_append, HYS.out]
            refine (List.prefix_cons_inj _).2 (List.IsPrefix.trans ?_ HPRE.out)
            rw [HTK.out]
            exact (List.prefix_append_right_inj _).2 hzs
        · have HF : Hid (nodesS (r.take j) = nodesS r) := Lib.hid (by rw [List.take_of_length_le (by have := HNX.out; have := HLEN.out; omega)])
          gi_wp2
          go_ret
          exact .inl ⟨rfl, ⟨(.iface 128 (.pointer (some ⟨b, 0, none⟩)), t) :: ys, by rw [List.map_cons, HYS.out, HF.out], by simpa using HJR.out⟩, HMR.out⟩
  · go_ret
    exact .inr ⟨rfl, [(.iface 128 (.pointer (some ⟨b, 0, none⟩)), t)], by simp, hJx⟩
theorem len_nodesS (r : List Tr) : r.length ≤ (nodesS r).length := by
  induction r with
  | nil => simp
  | cons t r ih =>
    have h := nodes_length t
    have h2 := dvN_pos t
    simp only [nodesS, List.length_append, List.length_cons]
    omega
theorem nodesT_def (a : List UInt8) (p : Tr) (r : List Tr) : nodesT (.mk a (p :: r)) = .mk a (p :: r) :: (if p.atom = sAx then [] else nodesS r) := by
  rw [nodesT]
  unfold nodesP
  rfl
theorem eachNode_any (hY : ∀ (m : Nat) pre x W1, J pre W1 → NElAt P x W1 → pre.length < N → YieldAt Fence.wide m Tryz.prog l (nelV x) W1 (Yields dnT n₀ n₁ J Jx (pre ++ [x]) W1)) (hP : ∀ b, P b → b < n₀) (hn01 : n₀ ≤ n₁) (hAJ : Abide J) (hN8 : N ≤ 20000) : ∀ t : Tr, NEachSaid P n₀ n₁ N l J Jx t := by
  intro t
  refine Tr.all (p := NEachSaid P n₀ n₁ N l J Jx) ?_ t
  intro a ps ih m v pre W hd hJ hn hN
  have hblk : ∀ {W1 : World}, Mid dnT n₀ n₁ W W1 → ∀ (b : Nat), P b → W1.heap[b]? = W.heap[b]? := fun hm b hb => hm.below.block b (hP b hb)
  cases ps with
  | nil => unfold DnAt DnP at hd; exact hd.elim
  | cons p r =>
    rw [nodesT_def] at hN ⊢
    rcases hd.form with ⟨ha, b, u, rfl, rfl, hb, hl, hk⟩ | ⟨ha, xs, hs, hnode⟩
    · rw [if_pos ha] at hN ⊢
      exact eachNode_ax hY hP hn01 hAJ _ [] (fun u hu => by cases hu) [] m b pre W (fun W1 _ => parts_ax b W1) DnS.nil (by simp) hd hJ hn (by simp only [List.length_cons, List.length_nil] at hN; simp only [nodesS, List.length_nil]; omega)
    · rw [if_neg ha] at hN ⊢
      have hN' : pre.length + (nodesS r).length < N := by simp only [List.length_cons] at hN; omega
      have h8 : xs.length ≤ 20000 := by have := len_nodesS r; rw [hs.len]; omega
      have ih' : ∀ u ∈ r, NEachSaid P n₀ n₁ N l J Jx u := fun u hu => ih u (List.mem_cons_of_mem _ hu)
      have hifc := hs.ifc
      rcases hnode with ⟨e, b, y, rfl, rfl, hb, hk⟩ | ⟨e, b, y, rfl, rfl, hb, hk⟩ | ⟨e, b, y, rfl, rfl, hb, hk⟩ | ⟨e, b, y, z, rfl, rfl, hb, hk⟩ | ⟨e, b, y, ys, g, o, c, rfl, rfl, hb, hg, hk, hc, hlc⟩
      · obtain ⟨T, q, rfl⟩ := hifc y (by simp)
        exact eachNode_fun hY hP hn01 hAJ _ r ih' _ m b pre W (fun W1 hm => parts_fun b T q W1 ((hblk hm b hb).trans hk)) hs h8 hd hJ hn hN'
      · obtain ⟨T, q, rfl⟩ := hifc y (by simp)
        exact eachNode_tfun hY hP hn01 hAJ _ r ih' _ m b pre W (fun W1 hm => parts_tfun b T q W1 ((hblk hm b hb).trans hk)) hs h8 hd hJ hn hN'
      · obtain ⟨T, q, rfl⟩ := hifc y (by simp)
        exact eachNode_hap hY hP hn01 hAJ _ r ih' _ m b pre W (fun W1 hm => parts_hap b T q W1 ((hblk hm b hb).trans hk)) hs h8 hd hJ hn hN'
      · obtain ⟨T, q, rfl⟩ := hifc y (by simp)
        obtain ⟨T', q', rfl⟩ := hifc z (by simp)
        exact eachNode_tap hY hP hn01 hAJ _ r ih' _ m b pre W (fun W1 hm => parts_tap b T q T' q' W1 ((hblk hm b hb).trans hk)) hs h8 hd hJ hn hN'
      · obtain ⟨T, q, rfl⟩ := hifc y (by simp)
        refine eachNode_app hY hP hn01 hAJ _ r ih' _ m b pre W (fun W1 hm => ?_) hs h8 hd hJ hn hN'
        refine parts_app b T q ys g o ys.length c rfl (by simp only [List.length_cons] at h8; omega) W1 (fun u hu => hifc u (by simp [hu])) ?_ (fun j u hu => (World.cell?_of_block (hblk hm g hg)).trans (hc j u hu)) ((hblk hm b hb).trans hk)
        have := hP g hg
        have := hm.below.size
        omega
end

/-- The iterator's value. -/
theorem nodes_any (T : TypeId) (b : Nat) (w : World) :
    Calls Tryz.prog 41 #[.iface T (.pointer (some ⟨b, 0, none⟩))] w fun e w' => e = .returned (.func (.func 76) #[] #[.pointer (some ⟨w.heap.size, 0, none⟩)]) ∧ w' = w.alloc (.cells #[.iface T (.pointer (some ⟨b, 0, none⟩))] 68) := by
  go_enter Tryz.func41, Tryz.ntmps41
  go_wp2
  go_ret
  exact ⟨rfl, rfl⟩
theorem nyield_any {m : Nat} (m' : Nat) {P : Program} {l : Nat} {args : Array Value} {W : World} {R : Ending → World → Prop} (h : YieldAt Fence.wide m P l args W R) : YieldAt Fence.wide m' P l args W R := by
  obtain ⟨fn, tmps, assign, body, hy, hR⟩ := h
  exact ⟨fn, tmps, assign, body, hy, hR.1, fun c cs _ => hR.2 c cs (room_wide _)⟩
set_option maxRecDepth 100000 in
/-- The iterator's contract. -/
theorem nodes_gives (P : Nat → Prop) (n₀ n₁ n B b : Nat) (T : TypeId) (t : Tr) (w : World) (hB : B < w.heap.size) (hc : w.cell? ⟨B, 0, none⟩ = some (.iface T (.pointer (some ⟨b, 0, none⟩)))) (hd : DnAt w P t (.iface T (.pointer (some ⟨b, 0, none⟩)))) (hP : ∀ b, P b → b < n₀) (hn : n₀ ≤ w.heap.size) (hn01 : n₀ ≤ n₁) (hN : dvN t ≤ 20000) :
    Gives dnT n₀ n₁ Fence.wide n Tryz.prog 76 #[.pointer (some ⟨B, 0, none⟩)] nelV (NElAt P) (fun xs => xs.map Prod.snd = nodesT t) (fun xs => xs.map Prod.snd <+: nodesT t) (nodesT t).length w := by
  intro l J Jx W hW hn1 hAJ hAJx hY h0
  have kB : W.cell? ⟨B, 0, none⟩ = some (.iface T (.pointer (some ⟨b, 0, none⟩))) := (hW.cell (p := ⟨B, 0, none⟩) hB).trans hc
  have hp := eachNode_any (N := (nodesT t).length) (fun m pre x W1 h1 h2 h3 => nyield_any m (hY pre x W1 h1 h2 h3)) hP hn01 hAJ (by rw [nodes_length]; exact hN) t (n - 1) (.iface T (.pointer (some ⟨b, 0, none⟩))) [] W (hd.mono fun q hq => ⟨hq, hW.block q (by have := hP q hq; omega)⟩) h0 hn1 (by simp)
  clear hY hd hW
  refine callsIn_of_wp Tryz.func76 rfl trivial ?_
  simp only [Tryz.ntmps76, List.size_toArray, List.length_cons, List.length_nil, Nat.reduceAdd, Nat.reduceSub, Array.replicate_succ, Array.replicate_zero, List.push_toArray, List.append_toArray, List.nil_append, List.cons_append]
  gi_wp2_with ((try refine ⟨trivial, ?_⟩); (try refine ⟨hdW' _, ?_⟩); gi_at_call 77; refine hp.mono ?_; clear hp; rintro e W1 (⟨rfl, ⟨xs, hxs, hj⟩, _⟩ | ⟨rfl, xs, hxs, hj⟩))
  · go_end0
    exact ⟨⟨_, rfl⟩, .inl ⟨xs, hxs, by simpa using hj⟩⟩
  · go_end0
    exact ⟨⟨_, rfl⟩, .inr ⟨xs, hxs, by simpa using hj⟩⟩
end Go.Proofs.YtnnnphammfeemaaGreat

namespace Go.Proofs.YtnnnphammfeemaaGreat
set_option linter.unusedVariables false
set_option linter.unusedSimpArgs false
open Go.RowKit

set_option maxRecDepth 100000 in
theorem nodeOf_fun_1 (k : Bool) (xs : List Value) (n g cap : Nat) (w : World) (h : NoIn w g cap n xs) (hn : n = 1) :
    Calls Tryz.prog 108 #[.string ⟨#[102, 117, 110]⟩, .slice (some ⟨g, 0, none⟩) n cap, .string ⟨(kindT k).toArray⟩] w (NdPost k g sFun xs w) := by
  subst hn
  obtain ⟨y, rfl⟩ : ∃ y, xs = [y] := by
    have := h.len
    match xs, this with
    | [y], _ => exact ⟨y, rfl⟩
  obtain ⟨T, q, rfl⟩ := h.ifc y (List.mem_cons_self ..)
  have c0 := h.cells 0 _ rfl
  have hcap := h.le
  have hlt := h.lt
  clear h
  go_enter Tryz.func108, Tryz.ntmps108
  go_wp2_with fail
  go_ret2
  exact ⟨(Below.refl _ _).alloc (Nat.le_refl _) _, .inl ⟨by simp [ndOk, sFun, sTfun, sHap], _, rfl, .inl ⟨rfl, _, _, rfl, rfl, .inr ⟨Nat.le_refl _, by simp⟩, Blk.new _ _ _⟩⟩⟩
set_option maxRecDepth 100000 in
theorem nodeOf_tfun_1 (k : Bool) (xs : List Value) (n g cap : Nat) (w : World) (h : NoIn w g cap n xs) (hn : n = 1) :
    Calls Tryz.prog 108 #[.string ⟨#[116, 102, 117, 110]⟩, .slice (some ⟨g, 0, none⟩) n cap, .string ⟨(kindT k).toArray⟩] w (NdPost k g sTfun xs w) := by
  subst hn
  obtain ⟨y, rfl⟩ : ∃ y, xs = [y] := by
    have := h.len
    match xs, this with
    | [y], _ => exact ⟨y, rfl⟩
  obtain ⟨T, q, rfl⟩ := h.ifc y (List.mem_cons_self ..)
  have c0 := h.cells 0 _ rfl
  have hcap := h.le
  have hlt := h.lt
  clear h
  go_enter Tryz.func108, Tryz.ntmps108
  go_wp2_with fail
  go_ret2
  exact ⟨(Below.refl _ _).alloc (Nat.le_refl _) _, .inl ⟨by simp [ndOk, sFun, sTfun, sHap], _, rfl, .inr (.inl ⟨rfl, _, _, rfl, rfl, .inr ⟨Nat.le_refl _, by simp⟩, Blk.new _ _ _⟩)⟩⟩
set_option maxRecDepth 100000 in
theorem nodeOf_hap_1 (xs : List Value) (n g cap : Nat) (w : World) (h : NoIn w g cap n xs) (hn : n = 1) :
    Calls Tryz.prog 108 #[.string ⟨#[104, 97, 112]⟩, .slice (some ⟨g, 0, none⟩) n cap, .string ⟨#[104, 101, 97, 100]⟩] w (NdPost true g sHap xs w) := by
  subst hn
  obtain ⟨y, rfl⟩ : ∃ y, xs = [y] := by
    have := h.len
    match xs, this with
    | [y], _ => exact ⟨y, rfl⟩
  obtain ⟨T, q, rfl⟩ := h.ifc y (List.mem_cons_self ..)
  have c0 := h.cells 0 _ rfl
  have hcap := h.le
  have hlt := h.lt
  clear h
  go_enter Tryz.func108, Tryz.ntmps108
  go_wp2_with fail
  go_ret2
  exact ⟨(Below.refl _ _).alloc (Nat.le_refl _) _, .inl ⟨by simp [ndOk, sFun, sTfun, sHap], _, rfl, .inr (.inr (.inl ⟨rfl, _, _, rfl, rfl, .inr ⟨Nat.le_refl _, by simp⟩, Blk.new _ _ _⟩))⟩⟩
set_option maxRecDepth 100000 in
theorem nodeOf_fun_no (k : Bool) (xs : List Value) (n g cap : Nat) (w : World) (h : NoIn w g cap n xs) (hn : n ≠ 1) :
    Calls Tryz.prog 108 #[.string ⟨#[102, 117, 110]⟩, .slice (some ⟨g, 0, none⟩) n cap, .string ⟨(kindT k).toArray⟩] w (NdPost k g sFun xs w) := by
  have hl := h.len
  have hb1 : ((n : Int) == 1) = false := beq_eq_false_iff_ne.2 (by omega)
  have HN : Hid (ndOk k sFun xs.length = false) := Lib.hid (by simp [ndOk, sFun, sTfun, sHap, sApp, sTap, hl]; try omega)
  clear h hl hn
  go_enter Tryz.func108, Tryz.ntmps108
  go_wp2_with fail
  all_goals
    go_ret2
    exact ⟨Below.refl _ _, .inr ⟨HN.out, rfl⟩⟩
set_option maxRecDepth 100000 in
theorem nodeOf_tfun_no (k : Bool) (xs : List Value) (n g cap : Nat) (w : World) (h : NoIn w g cap n xs) (hn : n ≠ 1) :
    Calls Tryz.prog 108 #[.string ⟨#[116, 102, 117, 110]⟩, .slice (some ⟨g, 0, none⟩) n cap, .string ⟨(kindT k).toArray⟩] w (NdPost k g sTfun xs w) := by
  have hl := h.len
  have hb1 : ((n : Int) == 1) = false := beq_eq_false_iff_ne.2 (by omega)
  have HN : Hid (ndOk k sTfun xs.length = false) := Lib.hid (by simp [ndOk, sFun, sTfun, sHap, sApp, sTap, hl]; try omega)
  clear h hl hn
  go_enter Tryz.func108, Tryz.ntmps108
  go_wp2_with fail
  all_goals
    go_ret2
    exact ⟨Below.refl _ _, .inr ⟨HN.out, rfl⟩⟩
set_option maxRecDepth 100000 in
theorem nodeOf_hap_no (xs : List Value) (n g cap : Nat) (w : World) (h : NoIn w g cap n xs) (hn : n ≠ 1) :
    Calls Tryz.prog 108 #[.string ⟨#[104, 97, 112]⟩, .slice (some ⟨g, 0, none⟩) n cap, .string ⟨#[104, 101, 97, 100]⟩] w (NdPost true g sHap xs w) := by
  have hl := h.len
  have hb1 : ((n : Int) == 1) = false := beq_eq_false_iff_ne.2 (by omega)
  have HN : Hid (ndOk true sHap xs.length = false) := Lib.hid (by simp [ndOk, sFun, sTfun, sHap, sApp, sTap, hl]; try omega)
  clear h hl hn
  go_enter Tryz.func108, Tryz.ntmps108
  go_wp2_with fail
  all_goals
    go_ret2
    exact ⟨Below.refl _ _, .inr ⟨HN.out, rfl⟩⟩
set_option maxRecDepth 100000 in
theorem nodeOf_hap_full (xs : List Value) (n g cap : Nat) (w : World) (h : NoIn w g cap n xs) (hn : True) :
    Calls Tryz.prog 108 #[.string ⟨#[104, 97, 112]⟩, .slice (some ⟨g, 0, none⟩) n cap, .string ⟨#[102, 117, 108, 108]⟩] w (NdPost false g sHap xs w) := by
  have hl := h.len
  have HN : Hid (ndOk false sHap xs.length = false) := Lib.hid (by simp [ndOk, sFun, sTfun, sHap, sApp, sTap, hl]; try omega)
  clear h hl hn
  go_enter Tryz.func108, Tryz.ntmps108
  go_wp2_with fail
  all_goals
    go_ret2
    exact ⟨Below.refl _ _, .inr ⟨HN.out, rfl⟩⟩
set_option maxRecDepth 100000 in
theorem nodeOf_tap_no (xs : List Value) (n g cap : Nat) (w : World) (h : NoIn w g cap n xs) (hn : n ≠ 2) :
    Calls Tryz.prog 108 #[.string ⟨#[116, 97, 112]⟩, .slice (some ⟨g, 0, none⟩) n cap, .string ⟨#[102, 117, 108, 108]⟩] w (NdPost false g sTap xs w) := by
  have hl := h.len
  have hb2 : ((n : Int) == 2) = false := beq_eq_false_iff_ne.2 (by omega)
  have HN : Hid (ndOk false sTap xs.length = false) := Lib.hid (by simp [ndOk, sFun, sTfun, sHap, sApp, sTap, hl]; try omega)
  clear h hl hn
  go_enter Tryz.func108, Tryz.ntmps108
  go_wp2_with fail
  all_goals
    go_ret2
    exact ⟨Below.refl _ _, .inr ⟨HN.out, rfl⟩⟩
set_option maxRecDepth 100000 in
theorem nodeOf_tap_head (xs : List Value) (n g cap : Nat) (w : World) (h : NoIn w g cap n xs) (hn : True) :
    Calls Tryz.prog 108 #[.string ⟨#[116, 97, 112]⟩, .slice (some ⟨g, 0, none⟩) n cap, .string ⟨#[104, 101, 97, 100]⟩] w (NdPost true g sTap xs w) := by
  have hl := h.len
  have HN : Hid (ndOk true sTap xs.length = false) := Lib.hid (by simp [ndOk, sFun, sTfun, sHap, sApp, sTap, hl]; try omega)
  clear h hl hn
  go_enter Tryz.func108, Tryz.ntmps108
  go_wp2_with fail
  all_goals
    go_ret2
    exact ⟨Below.refl _ _, .inr ⟨HN.out, rfl⟩⟩
set_option maxHeartbeats 1000000 in
set_option maxRecDepth 100000 in
theorem nodeOf_tap_2 (xs : List Value) (n g cap : Nat) (w : World) (h : NoIn w g cap n xs) (hn : n = 2) :
    Calls Tryz.prog 108 #[.string ⟨#[116, 97, 112]⟩, .slice (some ⟨g, 0, none⟩) n cap, .string ⟨#[102, 117, 108, 108]⟩] w (NdPost false g sTap xs w) := by
  subst hn
  obtain ⟨y, z, rfl⟩ : ∃ y z, xs = [y, z] := by
    have := h.len
    match xs, this with
    | [y, z], _ => exact ⟨y, z, rfl⟩
  obtain ⟨T, q, rfl⟩ := h.ifc y (by simp)
  obtain ⟨T', q', rfl⟩ := h.ifc z (by simp)
  have c0 := h.cells 0 _ rfl
  have c1 := h.cells 1 _ rfl
  have hcap := h.le
  have hlt := h.lt
  clear h
  go_enter Tryz.func108, Tryz.ntmps108
  go_wp2_with fail
  go_region
  all_goals
    go_wp2
    go_ret2
    refine ⟨by first | exact ((Below.refl _ _).drew).alloc (by simp) _ | exact ((Below.refl _ _).alloc (by simp) _).drew | exact (Below.refl _ _).alloc (by simp) _, .inl ⟨by simp [ndOk, sFun, sTfun, sHap, sApp, sTap], _, rfl, ?_⟩⟩
    exact .inr (.inr (.inr (.inl ⟨rfl, _, _, _, rfl, rfl, .inr ⟨by simp, by simp⟩, Blk.new _ _ _⟩)))
set_option maxHeartbeats 1000000 in
set_option maxRecDepth 100000 in
theorem nodeOf_app (k : Bool) (xs : List Value) (n g cap : Nat) (w : World) (h : NoIn w g cap n xs) :
    Calls Tryz.prog 108 #[.string ⟨#[97, 112, 112]⟩, .slice (some ⟨g, 0, none⟩) n cap, .string ⟨(kindT k).toArray⟩] w (NdPost k g sApp xs w) := by
  obtain ⟨y, ys, rfl⟩ : ∃ y ys, xs = y :: ys := by
    have := h.len
    have := h.pos
    match xs with
    | [] => simp at *; omega
    | y :: ys => exact ⟨y, ys, rfl⟩
  obtain ⟨T, q, rfl⟩ := h.ifc y (by simp)
  have c0 := h.cells 0 _ rfl
  have hcap := h.le
  have hlt := h.lt
  have hpos := h.pos
  have hfew := h.few
  have hl : ys.length + 1 = n := by simpa using h.len
  have HC : Hid (∀ j u, ys[j]? = some u → w.cell? ⟨g, 1 + j, none⟩ = some u) := Lib.hid fun j u hu => by rw [Nat.add_comm]; exact h.cells (j + 1) u (by simpa using hu)
  have HN : Hid (ndOk k sApp (Value.iface T (.pointer (some ⟨q, 0, none⟩)) :: ys).length = true) := Lib.hid (by simp [ndOk, sFun, sTfun, sHap, sApp])
  have HL := Lib.hid hl
  clear h hl
  by_cases hc1 : cap = 1
  · subst hc1
    obtain rfl : n = 1 := by omega
    obtain rfl : ys = [] := List.eq_nil_of_length_eq_zero (by have := HL.out; omega)
    go_enter Tryz.func108, Tryz.ntmps108
    go_wp2_with fail
    go_region
    all_goals
      go_wp2
      (try rw [show n - 1 = ys.length by have := HL.out; omega])
      first
        | go_ret2
        | refine bodyPost_ret (v := .tuple #[.iface 128 (.pointer (some ⟨w.heap.size, 0, none⟩)), .bool true]) (by simp [results, Tryz.results108, go_sem]) rfl ?_
      refine ⟨by first | exact ((Below.refl _ _).drew).alloc (by simp) _ | exact ((Below.refl _ _).alloc (by simp) _).drew | exact (Below.refl _ _).alloc (by simp) _, .inl ⟨HN.out, _, rfl, .inr (.inr (.inr (.inr ⟨rfl, _, _, _, g, _, _, rfl, rfl, .inr ⟨by simp, by simp⟩, .inl rfl, Blk.new _ _ _, ?_, ?_⟩)))⟩⟩
      · intro j u hu
        have hj := (List.getElem?_eq_some_iff.1 hu).1
        first
          | (exfalso; have := HL.out; omega)
          | (have h1 := HC.out j u hu
             first
               | exact (Below.cell (p := ⟨g, 1 + j, none⟩) (((Below.refl w.heap.size w).alloc (Nat.le_refl _) _).drew) hlt).trans h1
               | exact (Below.cell (p := ⟨g, 1 + j, none⟩) (((Below.refl w.heap.size w).drew).alloc (Nat.le_refl _) _) hlt).trans h1)
      · have := HL.out
        omega
  · have hc2 : 1 < cap := by omega
    go_enter Tryz.func108, Tryz.ntmps108
    go_wp2_with fail
    go_region
    all_goals
      go_wp2
      (try rw [show n - 1 = ys.length by have := HL.out; omega])
      first
        | go_ret2
        | refine bodyPost_ret (v := .tuple #[.iface 128 (.pointer (some ⟨w.heap.size, 0, none⟩)), .bool true]) (by simp [results, Tryz.results108, go_sem]) rfl ?_
      refine ⟨by first | exact ((Below.refl _ _).drew).alloc (by simp) _ | exact ((Below.refl _ _).alloc (by simp) _).drew | exact (Below.refl _ _).alloc (by simp) _, .inl ⟨HN.out, _, rfl, .inr (.inr (.inr (.inr ⟨rfl, _, _, _, g, _, _, rfl, rfl, .inr ⟨by simp, by simp⟩, .inl rfl, Blk.new _ _ _, ?_, ?_⟩)))⟩⟩
      · intro j u hu
        have hj := (List.getElem?_eq_some_iff.1 hu).1
        first
          | (exfalso; have := HL.out; omega)
          | (have h1 := HC.out j u hu
             first
               | exact (Below.cell (p := ⟨g, 1 + j, none⟩) (((Below.refl w.heap.size w).alloc (Nat.le_refl _) _).drew) hlt).trans h1
               | exact (Below.cell (p := ⟨g, 1 + j, none⟩) (((Below.refl w.heap.size w).drew).alloc (Nat.le_refl _) _) hlt).trans h1)
      · have := HL.out
        omega
theorem nodeOf_other (k : Bool) (x : List UInt8) (hx : x.length ≤ 8000) (h1 : x ≠ sFun) (h2 : x ≠ sTfun) (h3 : x ≠ sHap) (h4 : x ≠ sApp) (h5 : x ≠ sTap) (xs : List Value) (n g cap : Nat) (w : World) (h : NoIn w g cap n xs) :
    Calls Tryz.prog 108 #[.string ⟨x.toArray⟩, .slice (some ⟨g, 0, none⟩) n cap, .string ⟨(kindT k).toArray⟩] w (NdPost k g x xs w) := by
  have b1 : (x == [102, 117, 110]) = false := beq_eq_false_iff_ne.2 h1
  have b2 : (x == [116, 102, 117, 110]) = false := beq_eq_false_iff_ne.2 h2
  have b3 : (x == [104, 97, 112]) = false := beq_eq_false_iff_ne.2 h3
  have b4 : (x == [97, 112, 112]) = false := beq_eq_false_iff_ne.2 h4
  have b5 : (x == [116, 97, 112]) = false := beq_eq_false_iff_ne.2 h5
  have HN : Hid (ndOk k x xs.length = false) := Lib.hid (by unfold ndOk; rw [if_neg h1, if_neg h2, if_neg h3, if_neg h4, if_neg h5])
  clear h h1 h2 h3 h4 h5
  go_enter Tryz.func108, Tryz.ntmps108
  go_wp2_with fail
  all_goals
    go_ret2
    exact ⟨Below.refl _ _, .inr ⟨HN.out, rfl⟩⟩
theorem nodeOf_any (k : Bool) (x : List UInt8) (hx : x.length ≤ 8000) (xs : List Value) (n g cap : Nat) (w : World) (h : NoIn w g cap n xs) :
    Calls Tryz.prog 108 #[.string ⟨x.toArray⟩, .slice (some ⟨g, 0, none⟩) n cap, .string ⟨(kindT k).toArray⟩] w (NdPost k g x xs w) := by
  by_cases h1 : x = sFun
  · subst h1
    by_cases hn : n = 1
    · exact nodeOf_fun_1 k xs n g cap w h hn
    · exact nodeOf_fun_no k xs n g cap w h hn
  by_cases h2 : x = sTfun
  · subst h2
    by_cases hn : n = 1
    · exact nodeOf_tfun_1 k xs n g cap w h hn
    · exact nodeOf_tfun_no k xs n g cap w h hn
  by_cases h3 : x = sHap
  · subst h3
    cases k with
    | true =>
      by_cases hn : n = 1
      · exact nodeOf_hap_1 xs n g cap w h hn
      · exact nodeOf_hap_no xs n g cap w h hn
    | false => exact nodeOf_hap_full xs n g cap w h trivial
  by_cases h4 : x = sApp
  · subst h4
    exact nodeOf_app k xs n g cap w h
  by_cases h5 : x = sTap
  · subst h5
    cases k with
    | false =>
      by_cases hn : n = 2
      · exact nodeOf_tap_2 xs n g cap w h hn
      · exact nodeOf_tap_no xs n g cap w h hn
    | true => exact nodeOf_tap_head xs n g cap w h trivial
  exact nodeOf_other k x hx h1 h2 h3 h4 h5 xs n g cap w h
end Go.Proofs.YtnnnphammfeemaaGreat

