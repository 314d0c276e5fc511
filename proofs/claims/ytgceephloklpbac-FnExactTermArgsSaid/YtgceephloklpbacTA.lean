/- The program takes a term apart: its lams, its body, the first term, the second ones. -/
import Derived.Test.YtgceephloklpbacRV
import Derived.Test.YtgceephloklpbacW0
import Derived.Test.YtgceephloklpbacT0
import Derived.Test.YtgceephloklpbacU
import Derived.Deep.RegionHeld3
import Derived.Deep.AppendLies
import Derived.Deep.DrawnRows
namespace Go.Proofs.Ytgceephloklpbac
set_option linter.unusedVariables false
open Go.RowKit

theorem own_base {w : World} {b b' e size n : Nat} {v : Value} {xs : List Value} (h : w.ownsRow b e size v n xs) (hb : b' ≤ b) : w.ownsRow b' e size v n xs := by
  refine ⟨h.1, ?_⟩
  rcases h.2 with h | ⟨g, cap, cur, h1, h2, h3⟩
  · exact .inl h
  · exact .inr ⟨g, cap, cur, h1, Nat.le_trans hb h2, h3⟩
/-- Rows of two types lie in two blocks. -/
theorem own_two {w : World} {b1 b2 e1 e2 s1 s2 n1 n2 : Nat} {v1 v2 : Value} {x1 x2 : List Value} (h1 : w.ownsRow b1 e1 s1 v1 n1 x1) (h2 : w.ownsRow b2 e2 s2 v2 n2 x2) (hne : e1 ≠ e2) : v1.ownBlock = none ∨ v1.ownBlock ≠ v2.ownBlock := by
  rcases h1.2 with ⟨rfl, _⟩ | ⟨g, cap, cur, rfl, _, hg, _⟩
  · exact .inl rfl
  · refine .inr ?_
    rcases h2.2 with ⟨rfl, _⟩ | ⟨g', cap', cur', rfl, _, hg', _⟩
    · simp [Value.ownBlock]
    · intro e
      have e' : g = g' := by simpa [Value.ownBlock] using e
      subst e'
      rw [hg] at hg'
      injection hg' with hg'
      injection hg' with _ h
      exact hne h
/-- A block of a type is no row of another. -/
theorem Blk.row_ne {w : World} {g : Nat} {t : TypeId} {cs : Array Value} {b e s n : Nat} {v : Value} {xs : List Value} (h : Blk w g t cs) (h2 : w.ownsRow b e s v n xs) (hne : t ≠ e) : some g ≠ v.ownBlock := by
  rcases h2.2 with ⟨rfl, _⟩ | ⟨g', cap', cur', rfl, _, hg', _⟩
  · simp [Value.ownBlock]
  · intro e
    have e' : g = g' := by simpa [Value.ownBlock] using e
    subst e'
    have h1 : w.heap[g]? = some (.cells cs t (0, 0)) := h
    rw [h1] at hg'
    injection hg' with hg'
    injection hg' with _ h
    exact hne h

/-- Terms in memory, one behind the other. -/
def DsAt (w : World) (P : Nat → Prop) (ds : List DB) (xs : List Value) : Prop := ds.length = xs.length ∧ ∀ (i : Nat) (d : DB) (x : Value), ds[i]? = some d → xs[i]? = some x → DAt w P d x
theorem DsAt.nil (w : World) (P : Nat → Prop) : DsAt w P [] [] := ⟨rfl, fun i d x h => by simp at h⟩
theorem DsAt.mono {w w' : World} {P Q : Nat → Prop} (h : ∀ b, P b → Q b ∧ w'.heap[b]? = w.heap[b]?) {ds : List DB} {xs : List Value} (hd : DsAt w P ds xs) : DsAt w' Q ds xs :=
  ⟨hd.1, fun i d x h1 h2 => DAt.mono h (hd.2 i d x h1 h2)⟩
theorem DsAt.snoc {w : World} {P : Nat → Prop} {ds : List DB} {xs : List Value} {d : DB} {x : Value} (h : DsAt w P ds xs) (hd : DAt w P d x) : DsAt w P (ds ++ [d]) (xs ++ [x]) := by
  refine ⟨by simp [h.1], fun i d' x' h1 h2 => ?_⟩
  by_cases hi : i < ds.length
  · rw [List.getElem?_append_left hi] at h1
    rw [List.getElem?_append_left (by rw [← h.1]; exact hi)] at h2
    exact h.2 i d' x' h1 h2
  · by_cases hi2 : i = ds.length
    · subst hi2
      rw [List.getElem?_append_right (Nat.le_refl _), Nat.sub_self] at h1
      rw [List.getElem?_append_right (by rw [h.1]; exact Nat.le_refl _), h.1, Nat.sub_self] at h2
      simp at h1 h2
      rw [← h1, ← h2]
      exact hd
    · rw [List.getElem?_eq_none (by simp; omega)] at h1
      cases h1
theorem DsAt.reverse {w : World} {P : Nat → Prop} {ds : List DB} {xs : List Value} (h : DsAt w P ds xs) : DsAt w P ds.reverse xs.reverse := by
  refine ⟨by simp [h.1], fun i d x h1 h2 => ?_⟩
  have hi : i < ds.length := by have := (List.getElem?_eq_some_iff.1 h1).1; simpa using this
  rw [List.getElem?_reverse hi] at h1
  rw [List.getElem?_reverse (by rw [← h.1]; exact hi), ← h.1] at h2
  exact h.2 _ d x h1 h2
theorem DsAt.ptrs {w : World} {P : Nat → Prop} {ds : List DB} {xs : List Value} (h : DsAt w P ds xs) : ∀ u ∈ xs, ∃ b, u = .pointer (some ⟨b, 0, none⟩) := by
  intro u hu
  obtain ⟨i, hi, e⟩ := List.getElem_of_mem hu
  obtain ⟨b, hb, _⟩ := (h.2 i (ds[i]'(by rw [h.1]; exact hi)) u (List.getElem?_eq_getElem _) (by rw [List.getElem?_eq_getElem hi, e])).shape
  exact ⟨b, hb⟩

theorem Try.infoPtrTerm : (Try.prog.info? 38).map (fun i => (i.zero, i.size, i.bytes)) = some (some (.pointer none), 1, 8) := by kernel_rfl

theorem dLams_size (d : DB) : (dLams d).length ≤ d.size := by
  induction d with
  | free x => simp [dLams]
  | bnd i => simp [dLams]
  | lam x b ih => simp only [dLams, DB.size, List.length_cons]; omega
  | app f a _ _ => simp [dLams]
theorem dBody_size (d : DB) : (dBody d).size ≤ d.size := by
  induction d with
  | free x => simp [dBody]
  | bnd i => simp [dBody]
  | lam x b ih => simp only [dBody, DB.size]; omega
  | app f a _ _ => simp [dBody]
theorem dArgs_size (d : DB) : (dArgs d).length ≤ d.size := by
  induction d with
  | free x => simp [dArgs]
  | bnd i => simp [dArgs]
  | lam x b _ => simp [dArgs]
  | app f a ihf _ => simp only [dArgs, DB.size, List.length_append, List.length_singleton]; omega

/-- What taking apart answers. -/
def TkPost (P : Nat → Prop) (w : World) (d : DB) (e : Ending) (w' : World) : Prop :=
  ∃ lv bb fb av xs, e = .returned (.agg #[lv, .pointer (some ⟨bb, 0, none⟩), .pointer (some ⟨fb, 0, none⟩), av]) ∧ Below w.heap.size w w' ∧ SRow w' w.heap.size lv (dLams d) ∧
    DAt w' P (dBody d) (.pointer (some ⟨bb, 0, none⟩)) ∧ DAt w' P (dFirst (dBody d)) (.pointer (some ⟨fb, 0, none⟩)) ∧ w'.ownsRow w.heap.size 38 1 av xs.length xs ∧ DsAt w' P (dArgs (dBody d)) xs

/-- On the way through the lams. -/
structure TkA (P : Nat → Prop) (w : World) (d d' : DB) (ls : List (List UInt8)) (lv : Value) (v : Value) (wr : World) : Prop where
  below : Below w.heap.size w wr
  dat : DAt wr P d' v
  res : Blk wr w.heap.size 54 #[.slice none 0 0, .pointer none, .pointer none, .slice none 0 0]
  loc : Blk wr (w.heap.size + 1) 54 #[lv, .pointer none, .pointer none, .slice none 0 0]
  own : SRow wr (w.heap.size + 2) lv ls
  lams : ls ++ dLams d' = dLams d
  body : dBody d' = dBody d
  le : ls.length + d'.size ≤ d.size
/-- On the way through the app. -/
structure TkB (P : Nat → Prop) (w : World) (d d' : DB) (lv bp av : Value) (cs : List DB) (xs : List Value) (v : Value) (wr : World) : Prop where
  below : Below w.heap.size w wr
  dat : DAt wr P d' v
  bod : DAt wr P (dBody d) bp
  res : Blk wr w.heap.size 54 #[.slice none 0 0, .pointer none, .pointer none, .slice none 0 0]
  loc : Blk wr (w.heap.size + 1) 54 #[lv, bp, .pointer none, av]
  own : SRow wr (w.heap.size + 2) lv (dLams d)
  args : wr.ownsRow (w.heap.size + 2) 38 1 av xs.length xs
  ds : DsAt wr P cs xs
  dargs : dArgs (dBody d) = dArgs d' ++ cs.reverse
  first : dFirst d' = dFirst (dBody d)
  le : cs.length + d'.size ≤ d.size

theorem setCell_size (w : World) (a : Addr) (v : Value) : (w.setCell a v).heap.size = w.heap.size := by simp [World.setCell]

theorem TkA.step {P : Nat → Prop} {w : World} {d : DB} {ls : List (List UInt8)} {lv v : Value} {wr : World} {x : List UInt8} {e : DB} (hP : ∀ b, P b → b < w.heap.size)
    (h : TkA P w d (.lam x e) ls lv v wr) {o : Obj} {w1 : World} {g cap c : Nat} (hown : w1.ownsRow (w.heap.size + 2) 9 1 (.slice (some ⟨g, 0, none⟩) (ls.length + 1) cap) (ls.length + 1) (ls.map strV ++ [.string ⟨x.toArray⟩]))
    (hg : ((wr.alloc o).drew).grownBy w1 lv.ownBlock) (hat : lv.ownBlock = some g ∨ g = wr.heap.size + 1) (he : DAt wr P e (.pointer (some ⟨c, 0, none⟩))) :
    TkA P w d e (ls ++ [x]) (.slice (some ⟨g, 0, none⟩) (ls.length + 1) cap) (.pointer (some ⟨c, 0, none⟩)) (w1.setCell ⟨w.heap.size + 1, 0, none⟩ (.slice (some ⟨g, 0, none⟩) (ls.length + 1) cap)) := by
  have hlt := h.own.lt
  have hz := hg.size
  have hz0 := h.loc.lt
  have hzb := h.below.size
  simp only [World.size_alloc, World.size_drew] at hz
  have hne : ∀ q, q < w.heap.size + 2 → some q ≠ lv.ownBlock := fun q hq e => by have := (hlt q e.symm).1; omega
  have hgS : g ≠ w.heap.size + 1 := by
    rcases hat with hat | hat
    · have := (hlt g hat).1; omega
    · omega
  have hblk : ∀ q, q < w.heap.size + 2 → q < wr.heap.size → w1.heap[q]? = wr.heap[q]? := fun q h1 h2 => by
    rw [hg.block q (by simp only [World.size_drew, World.size_alloc]; omega) (hne q h1)]
    show (wr.alloc o).heap[q]? = _
    exact Below.heap_alloc _ _ _ h2
  have hkeep : ∀ q, q < w.heap.size → (w1.setCell ⟨w.heap.size + 1, 0, none⟩ (.slice (some ⟨g, 0, none⟩) (ls.length + 1) cap)).heap[q]? = wr.heap[q]? := fun q hq => by
    rw [Below.heap_setCell _ _ _ _ (by simp; omega)]
    exact hblk q (by omega) (by omega)
  have hl1 : Blk w1 (w.heap.size + 1) 54 #[lv, .pointer none, .pointer none, .slice none 0 0] := (hblk _ (by omega) hz0).trans h.loc
  have hr1 : Blk w1 w.heap.size 54 #[.slice none 0 0, .pointer none, .pointer none, .slice none 0 0] := (hblk _ (by omega) h.res.lt).trans h.res
  refine ⟨?_, DAt.mono (fun b hb => ⟨hb, hkeep b (hP b hb)⟩) he, hr1.far (by simp) _, ?_, ?_, ?_, h.body, ?_⟩
  · refine ⟨hg.os.trans h.below.os, hg.tape.trans h.below.tape, hg.output.trans h.below.output, by rw [setCell_size]; omega, fun q hq => by rw [hkeep q hq]; exact h.below.block q hq⟩
  · have := hl1.set_ 0 (.slice (some ⟨g, 0, none⟩) (ls.length + 1) cap)
    simpa using this
  · unfold SRow
    rw [List.length_append, List.map_append]
    exact ownsRow_far hown (by simp [Value.ownBlock, hgS]) _
  · rw [List.append_assoc]; exact h.lams
  · have := h.le; simp only [DB.size] at this; simp; omega

theorem TkB.step {P : Nat → Prop} {w : World} {d : DB} {lv bp av v : Value} {cs : List DB} {xs : List Value} {wr : World} {f a : DB} (hP : ∀ b, P b → b < w.heap.size)
    (h : TkB P w d (.app f a) lv bp av cs xs v wr) {o : Obj} {w1 : World} {g cap c q : Nat} (hown : w1.ownsRow (w.heap.size + 2) 38 1 (.slice (some ⟨g, 0, none⟩) (xs.length + 1) cap) (xs.length + 1) (xs ++ [.pointer (some ⟨q, 0, none⟩)]))
    (hg : ((wr.alloc o).drew).grownBy w1 av.ownBlock) (hat : av.ownBlock = some g ∨ g = wr.heap.size + 1) (hf : DAt wr P f (.pointer (some ⟨c, 0, none⟩))) (ha : DAt wr P a (.pointer (some ⟨q, 0, none⟩))) :
    TkB P w d f lv bp (.slice (some ⟨g, 0, none⟩) (xs.length + 1) cap) (cs ++ [a]) (xs ++ [.pointer (some ⟨q, 0, none⟩)]) (.pointer (some ⟨c, 0, none⟩)) (w1.setCell ⟨w.heap.size + 1, 3, none⟩ (.slice (some ⟨g, 0, none⟩) (xs.length + 1) cap)) := by
  have hlt := h.args.lt
  have hz := hg.size
  have hz0 := h.loc.lt
  have hzb := h.below.size
  simp only [World.size_alloc, World.size_drew] at hz
  have hne : ∀ q, q < w.heap.size + 2 → some q ≠ av.ownBlock := fun q hq e => by have := (hlt q e.symm).1; omega
  have hgS : g ≠ w.heap.size + 1 := by
    rcases hat with hat | hat
    · have := (hlt g hat).1; omega
    · omega
  have hblk : ∀ q, q < w.heap.size + 2 → q < wr.heap.size → w1.heap[q]? = wr.heap[q]? := fun q h1 h2 => by
    rw [hg.block q (by simp only [World.size_drew, World.size_alloc]; omega) (hne q h1)]
    show (wr.alloc o).heap[q]? = _
    exact Below.heap_alloc _ _ _ h2
  have hkeep : ∀ q, q < w.heap.size → (w1.setCell ⟨w.heap.size + 1, 3, none⟩ (.slice (some ⟨g, 0, none⟩) (xs.length + 1) cap)).heap[q]? = wr.heap[q]? := fun q hq => by
    rw [Below.heap_setCell _ _ _ _ (by simp; omega)]
    exact hblk q (by omega) (by omega)
  have hl1 : Blk w1 (w.heap.size + 1) 54 #[lv, bp, .pointer none, av] := (hblk _ (by omega) hz0).trans h.loc
  have hr1 : Blk w1 w.heap.size 54 #[.slice none 0 0, .pointer none, .pointer none, .slice none 0 0] := (hblk _ (by omega) h.res.lt).trans h.res
  have hD : ∀ b, P b → P b ∧ (w1.setCell ⟨w.heap.size + 1, 3, none⟩ (.slice (some ⟨g, 0, none⟩) (xs.length + 1) cap)).heap[b]? = wr.heap[b]? := fun b hb => ⟨hb, hkeep b (hP b hb)⟩
  refine ⟨?_, DAt.mono hD hf, DAt.mono hD h.bod, hr1.far (by simp) _, ?_, ?_, ?_, (h.ds.mono hD).snoc (DAt.mono hD ha), ?_, h.first, ?_⟩
  · refine ⟨hg.os.trans h.below.os, hg.tape.trans h.below.tape, hg.output.trans h.below.output, by rw [setCell_size]; omega, fun q hq => by rw [hkeep q hq]; exact h.below.block q hq⟩
  · have := hl1.set_ 3 (.slice (some ⟨g, 0, none⟩) (xs.length + 1) cap)
    simpa using this
  · refine ownsRow_far (((h.own.alloc o).drew).kept hg (own_two h.own h.args (by decide))) (fun e => ?_) _
    have := (h.own.lt _ e).1
    simp at this
  · rw [List.length_append]
    exact ownsRow_far hown (by simp [Value.ownBlock, hgS]) _
  · rw [h.dargs]; simp [dArgs]
  · have := h.le; simp only [DB.size] at this; simp; omega
theorem TkA.turn {P : Nat → Prop} {w : World} {d d' : DB} {ls : List (List UInt8)} {lv v : Value} {wr : World} (hP : ∀ b, P b → b < w.heap.size) (h : TkA P w d d' ls lv v wr) (h1 : dBody d' = d') (h2 : dLams d' = []) :
    TkB P w d d' lv v (.slice none 0 0) [] [] v (wr.setCell ⟨w.heap.size + 1, 1, none⟩ v) := by
  have hls : ls = dLams d := by have := h.lams; rw [h2, List.append_nil] at this; exact this
  have hbd : dBody d = d' := by rw [← h.body, h1]
  have hne : (lv : Value).ownBlock ≠ some (w.heap.size + 1) := fun e => by have := (h.own.lt _ e).1; omega
  have hD : ∀ b, P b → P b ∧ (wr.setCell ⟨w.heap.size + 1, 1, none⟩ v).heap[b]? = wr.heap[b]? := fun b hb => ⟨hb, Below.heap_setCell _ _ _ _ (by have := hP b hb; simp; omega)⟩
  refine ⟨h.below.setCell (by simp) _, DAt.mono hD h.dat, by rw [hbd]; exact DAt.mono hD h.dat, h.res.far (by simp) _, ?_, ?_, World.ownsRow_nil _ _ _ _, DsAt.nil _ _, by rw [hbd]; simp, by rw [hbd], ?_⟩
  · have := h.loc.set_ 1 v
    simpa using this
  · rw [← hls]; exact ownsRow_far h.own hne _
  · have := h.le; simp; omega
/-- Behind the turning round of the second terms. -/
theorem TkB.done {P : Nat → Prop} {w : World} {d d' : DB} {lv bp av v : Value} {cs : List DB} {xs : List Value} {wr w1 : World} (hP : ∀ b, P b → b < w.heap.size)
    (h : TkB P w d d' lv bp av cs xs v wr) (h1 : dArgs d' = []) (h2 : dFirst d' = d')
    (hr : w1.ownsRow (w.heap.size + 2) 38 1 av xs.length xs.reverse) (hg : (wr.setCell ⟨w.heap.size + 1, 2, none⟩ v).grownBy w1 av.ownBlock) :
    Blk w1 w.heap.size 54 #[.slice none 0 0, .pointer none, .pointer none, .slice none 0 0] ∧ Blk w1 (w.heap.size + 1) 54 #[lv, bp, v, av] ∧
    (∀ (i : Nat) (u : Value), u = lv ∨ u = bp ∨ u = v ∨ u = av → True) ∧
    ∀ w2, (∀ q, q ≠ w.heap.size → w2.heap[q]? = w1.heap[q]?) → w2.heap.size = w1.heap.size → w2.os = w1.os → w2.tape = w1.tape → w2.output = w1.output →
      Below w.heap.size w w2 ∧ SRow w2 w.heap.size lv (dLams d) ∧ DAt w2 P (dBody d) bp ∧ DAt w2 P (dFirst (dBody d)) v ∧ w2.ownsRow w.heap.size 38 1 av xs.reverse.length xs.reverse ∧ DsAt w2 P (dArgs (dBody d)) xs.reverse := by
  have hlt := h.args.lt
  have hz := hg.size
  rw [setCell_size] at hz
  have hz0 := h.loc.lt
  have hzb := h.below.size
  have hne : ∀ q, q < w.heap.size + 2 → some q ≠ av.ownBlock := fun q hq e => by have := (hlt q e.symm).1; omega
  have hkeep : ∀ q, q < w.heap.size → w1.heap[q]? = wr.heap[q]? := fun q hq => by
    rw [hg.block q (by rw [setCell_size]; omega) (hne q (by omega)), Below.heap_setCell _ _ _ _ (by simp; omega)]
  refine ⟨(h.res.far (by simp) _).grown hg (hne _ (by omega)), ?_, fun _ _ _ => trivial, fun w2 hw hs ho ht hu => ?_⟩
  · have := (h.loc.set_ 2 v).grown hg (hne _ (by omega))
    simpa using this
  · have hG : w1.grownBy w2 (some w.heap.size) := ⟨ho, ht, hu, by omega, fun q hq hne => hw q (fun e => hne (by rw [e]))⟩
    have hD : ∀ b, P b → P b ∧ w2.heap[b]? = wr.heap[b]? := fun b hb => ⟨hb, by rw [hw b (by have := hP b hb; omega)]; exact hkeep b (hP b hb)⟩
    refine ⟨⟨ho.trans (hg.os.trans h.below.os), ht.trans (hg.tape.trans h.below.tape), hu.trans (hg.output.trans h.below.output), by omega, fun q hq => ?_⟩, ?_, DAt.mono hD h.bod, ?_, ?_, ?_⟩
    · rw [hw q (by omega), hkeep q hq]; exact h.below.block q hq
    · have ho1 : SRow (wr.setCell ⟨w.heap.size + 1, 2, none⟩ v) (w.heap.size + 2) lv (dLams d) := ownsRow_far h.own (fun e => by have := (h.own.lt _ e).1; simp at this) _
      have ho2 : SRow w1 (w.heap.size + 2) lv (dLams d) := ho1.kept hg (own_two h.own h.args (by decide))
      exact own_base (ho2.kept hG (.inr fun e => by have := (ho2.lt _ e).1; omega)) (by omega)
    · rw [← h.first, h2]; exact DAt.mono hD h.dat
    · rw [List.length_reverse]
      exact own_base (hr.kept hG (.inr fun e => by have := (hr.lt _ e).1; omega)) (by omega)
    · have := (h.ds.mono hD).reverse
      rw [h.dargs, h1, List.nil_append]
      exact this
end Go.Proofs.Ytgceephloklpbac
