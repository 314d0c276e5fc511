/- slices.Reverse of a list of pointers. The program takes a term apart: its lams, its body, the first term, the second ones. The program takes a term apart: the walk. The program's size of a term. Measures, neutral terms and numbers of redexes, of terms. The program's measure. The program's TermValid. -/
import Derived.Test.YtbabdjcpmjfeoaaGreatDoorI
import Derived.RegionTactic
import Derived.BigRegion
import Derived.Laws.OwnMore
import Derived.Test.YtbabdjcpmjfeoaaGreatDoorW0
import Derived.Test.YtbabdjcpmjfeoaaGreatDoorT0
import Derived.Test.YtbabdjcpmjfeoaaGreatDoorU
import Derived.Deep.RegionHeld3
import Derived.Deep.AppendLies
import Derived.Deep.DrawnRows
import Derived.Test.YtbabdjcpmjfeoaaGreatDoorWB
import Derived.Deep.RegionLaw
import Derived.Test.YtbabdjcpmjfeoaaGreatDoorL
import Derived.Test.YtbabdjcpmjfeoaaGreatDoorC4
import Derived.Test.YtbabdjcpmjfeoaaGreatDoorJ1
import Derived.Test.YtbabdjcpmjfeoaaGreatDoorQ
namespace Go.Proofs.YtbabdjcpmjfeoaaGreatDoor
set_option linter.unusedVariables false
open Go.RowKit

theorem grown_drew' {a w : World} {row : Option Nat} (h : a.grownBy w row) : a.grownBy w.drew row := ⟨h.os, h.tape, h.output, h.size, h.block⟩

/-- The first k elements and the last k are exchanged. -/
def swp (xs : List Value) : Nat → List Value
  | 0 => xs
  | k + 1 => ((swp xs k).set k (xs[xs.length - 1 - k]?.getD undef)).set (xs.length - 1 - k) (xs[k]?.getD undef)
theorem swp_length (xs : List Value) : ∀ k, (swp xs k).length = xs.length := by
  intro k
  induction k with
  | zero => rfl
  | succ k ih => simp [swp, ih]
theorem swp_get (xs : List Value) : ∀ k, 2 * k ≤ xs.length → ∀ p, p < xs.length → (swp xs k)[p]? = if p < k ∨ xs.length - k ≤ p then xs[xs.length - 1 - p]? else xs[p]? := by
  intro k
  induction k with
  | zero => intro h p hp; rw [if_neg (by omega)]; rfl
  | succ k ih =>
    intro h p hp
    simp only [swp, List.getElem?_set, List.length_set, swp_length]
    by_cases h1 : xs.length - 1 - k = p
    · subst h1
      rw [if_pos rfl, if_pos hp, if_pos (by omega), show xs.length - 1 - (xs.length - 1 - k) = k from by omega, List.getElem?_eq_getElem (by omega)]
      rfl
    · rw [if_neg h1]
      by_cases h2 : k = p
      · subst h2
        rw [if_pos rfl, if_pos hp, if_pos (by omega), List.getElem?_eq_getElem (by omega)]
        rfl
      · rw [if_neg h2, ih (by omega) p hp]
        by_cases h3 : p < k ∨ xs.length - k ≤ p
        · rw [if_pos h3, if_pos (by omega)]
        · rw [if_neg h3, if_neg (by omega)]
theorem swp_done (xs : List Value) (k : Nat) (h : 2 * k ≤ xs.length) (h2 : xs.length ≤ 2 * k + 1) : swp xs k = xs.reverse := by
  apply List.ext_getElem?
  intro p
  by_cases hp : p < xs.length
  · rw [swp_get xs k h p hp, List.getElem?_reverse hp]
    split
    · rfl
    · rw [show xs.length - 1 - p = p from by omega]
  · rw [List.getElem?_eq_none (by rw [swp_length]; omega), List.getElem?_eq_none (by simp; omega)]

set_option maxRecDepth 100000 in
set_option maxHeartbeats 2000000 in
theorem rev_any (xs : List Value) (base : Nat) (v : Value) (w : World) (hl : w.ownsRow base 32 1 v xs.length xs) (hp : ∀ u ∈ xs, ∃ b, u = .pointer (some ⟨b, 0, none⟩)) (hn : xs.length ≤ 10000) :
    Calls Tryz.prog 65 #[v] w fun e w' => e = .returned (.tuple #[]) ∧ w'.ownsRow base 32 1 v xs.length xs.reverse ∧ w.grownBy w' v.ownBlock := by
  obtain ⟨A, c, rfl⟩ := own_shape hl
  have HL := Lib.hid hl
  have HP := Lib.hid hp
  clear hl hp
  go_enter Tryz.func65, Tryz.ntmps65
  go_wp2
  go_loopw [2, 3] (fun i j wr => ∃ k : Nat, 2 * k ≤ xs.length ∧ i = .int .i64 k ∧ j = .int .i64 ((xs.length : Int) - 1 - k) ∧ w.grownBy wr (Value.slice A xs.length c).ownBlock ∧ Hid (wr.ownsRow base 32 1 (.slice A xs.length c) xs.length (swp xs k))) (fun i _ _ => xs.length - (intOf i).toNat)
  case atStart => exact ⟨0, by omega, rfl, by simp, grown_refl _ _, Lib.hid HL.out⟩
  case round =>
    obtain ⟨k, hk, rfl, rfl, hg, HR⟩ := hrel
    by_cases hlt : 2 * k + 1 < xs.length
    · obtain ⟨q, hq, hqi⟩ : ∃ q : Nat, q = xs.length - 1 - k ∧ (xs.length : Int) - 1 - k = (q : Int) := ⟨xs.length - 1 - k, rfl, by omega⟩
      rw [hqi]
      obtain ⟨g, hA⟩ : ∃ g, A = some ⟨g, 0, none⟩ := by
        rcases HR.out.2 with ⟨_, h0⟩ | ⟨g, cap, cur, hv, _⟩
        · omega
        · injection hv with h1 _ _; exact ⟨g, h1⟩
      subst hA
      have hkn : k < xs.length := by omega
      have hqn : q < xs.length := by omega
      obtain ⟨bk, hbk⟩ := HP.out (xs[k]'hkn) (List.getElem_mem _)
      obtain ⟨bq, hbq⟩ := HP.out (xs[q]'hqn) (List.getElem_mem _)
      have hck := HR.out.cellAt k (by omega)
      have hcq := HR.out.cellAt q (by omega)
      have hfk := HR.out.frozenAt k
      have hfq := HR.out.frozenAt q
      rw [swp_get xs k hk k (by omega), if_neg (by omega), List.getElem?_eq_getElem hkn, hbk] at hck
      rw [swp_get xs k hk q (by omega), if_neg (by omega), List.getElem?_eq_getElem hqn, hbq] at hcq
      have hgl := (HR.out.lt g rfl).2
      have HG := Lib.hid hg
      have HQ := Lib.hid hq
      have HQI := Lib.hid hqi
      have HBK := Lib.hid hbk
      have HBQ := Lib.hid hbq
      have hkq : k < q := by omega
      have hstep : Hid (swp xs (k + 1) = ((swp xs k).set k (.pointer (some ⟨bq, 0, none⟩))).set q (.pointer (some ⟨bk, 0, none⟩))) := by
        refine Lib.hid ?_
        simp only [swp]
        rw [← HQ.out, List.getElem?_eq_getElem hqn, List.getElem?_eq_getElem hkn, HBQ.out, HBK.out]
        rfl
      clear hg hq hqi hbk hbq
      go_wp2
      go_region
      all_goals
        go_wp2
        go_roundw
        case rel =>
          have h1 := (HR.out.stored k (.pointer (some ⟨bq, 0, none⟩)))
          have h2 := h1.1.stored q (.pointer (some ⟨bk, 0, none⟩))
          refine ⟨k + 1, by omega, by go_num, ?_, ?_, Lib.hid ?_⟩
          · have := HQI.out
            exact congrArg (Value.int .i64) (by omega)
          · exact grown_drew' ((HG.out.trans h1.2).trans h2.2)
          · rw [hstep.out]
            exact h2.1
        case measure => simp [intOf]; omega
    · have HF := Lib.hid (swp_done xs k hk (by omega))
      go_wp2
      go_end0
      exact ⟨rfl, by rw [← HF.out]; exact HR.out, hg⟩
end Go.Proofs.YtbabdjcpmjfeoaaGreatDoor

namespace Go.Proofs.YtbabdjcpmjfeoaaGreatDoor
set_option linter.unusedVariables false
open Go.RowKit

theorem own_base {w : World} {b b' e size n : Nat} {v : Value} {xs : List Value} (h : w.ownsRow b e size v n xs) (hb : b' ≤ b) : w.ownsRow b' e size v n xs := by
  refine ⟨h.1, ?_⟩
  rcases h.2 with h | ⟨g, cap, cur, h1, h2, h3⟩
  · exact .inl h
  · exact .inr ⟨g, cap, cur, h1, Nat.le_trans hb h2, h3⟩
/-- Rows of two types lie in two blocks. -/
theorem own_two {w : World} {b1 b2 e1 e2 s1 s2 n1 n2 : Nat} {v1 v2 : Value} {x1 x2 : List Value} (h1 : w.ownsRow b1 e1 s1 v1 n1 x1) (h2 : w.ownsRow b2 e2 s2 v2 n2 x2) (hne : e1 ≠ e2) : v1.ownBlock = none ∨ v1.ownBlock ≠ v2.ownBlock := by
  rcases h1.2 with ⟨rfl, _⟩ | ⟨g, cap, cur, rfl, _, hg, _⟩
  · exact .inl rfl
  · refine .inr ?_
    rcases h2.2 with ⟨rfl, _⟩ | ⟨g', cap', cur', rfl, _, hg', _⟩
    · simp [Value.ownBlock]
    · intro e
      have e' : g = g' := by simpa [Value.ownBlock] using e
      subst e'
      rw [hg] at hg'
      injection hg' with hg'
      injection hg' with _ h
      exact hne h
/-- A block of a type is no row of another. -/
theorem Blk.row_ne {w : World} {g : Nat} {t : TypeId} {cs : Array Value} {b e s n : Nat} {v : Value} {xs : List Value} (h : Blk w g t cs) (h2 : w.ownsRow b e s v n xs) (hne : t ≠ e) : some g ≠ v.ownBlock := by
  rcases h2.2 with ⟨rfl, _⟩ | ⟨g', cap', cur', rfl, _, hg', _⟩
  · simp [Value.ownBlock]
  · intro e
    have e' : g = g' := by simpa [Value.ownBlock] using e
    subst e'
    have h1 : w.heap[g]? = some (.cells cs t (0, 0)) := h
    rw [h1] at hg'
    injection hg' with hg'
    injection hg' with _ h
    exact hne h

/-- Terms in memory, one behind the other. -/
def DsAt (w : World) (P : Nat → Prop) (ds : List DB) (xs : List Value) : Prop := ds.length = xs.length ∧ ∀ (i : Nat) (d : DB) (x : Value), ds[i]? = some d → xs[i]? = some x → DAt w P d x
theorem DsAt.nil (w : World) (P : Nat → Prop) : DsAt w P [] [] := ⟨rfl, fun i d x h => by simp at h⟩
theorem DsAt.mono {w w' : World} {P Q : Nat → Prop} (h : ∀ b, P b → Q b ∧ w'.heap[b]? = w.heap[b]?) {ds : List DB} {xs : List Value} (hd : DsAt w P ds xs) : DsAt w' Q ds xs :=
  ⟨hd.1, fun i d x h1 h2 => DAt.mono h (hd.2 i d x h1 h2)⟩
theorem DsAt.snoc {w : World} {P : Nat → Prop} {ds : List DB} {xs : List Value} {d : DB} {x : Value} (h : DsAt w P ds xs) (hd : DAt w P d x) : DsAt w P (ds ++ [d]) (xs ++ [x]) := by
  refine ⟨by simp [h.1], fun i d' x' h1 h2 => ?_⟩
  by_cases hi : i < ds.length
  · rw [List.getElem?_append_left hi] at h1
    rw [List.getElem?_append_left (by rw [← h.1]; exact hi)] at h2
    exact h.2 i d' x' h1 h2
  · by_cases hi2 : i = ds.length
    · subst hi2
      rw [List.getElem?_append_right (Nat.le_refl _), Nat.sub_self] at h1
      rw [List.getElem?_append_right (by rw [h.1]; exact Nat.le_refl _), h.1, Nat.sub_self] at h2
      simp at h1 h2
      rw [← h1, ← h2]
      exact hd
    · rw [List.getElem?_eq_none (by simp; omega)] at h1
      cases h1
theorem DsAt.reverse {w : World} {P : Nat → Prop} {ds : List DB} {xs : List Value} (h : DsAt w P ds xs) : DsAt w P ds.reverse xs.reverse := by
  refine ⟨by simp [h.1], fun i d x h1 h2 => ?_⟩
  have hi : i < ds.length := by have := (List.getElem?_eq_some_iff.1 h1).1; simpa using this
  rw [List.getElem?_reverse hi] at h1
  rw [List.getElem?_reverse (by rw [← h.1]; exact hi), ← h.1] at h2
  exact h.2 _ d x h1 h2
theorem DsAt.ptrs {w : World} {P : Nat → Prop} {ds : List DB} {xs : List Value} (h : DsAt w P ds xs) : ∀ u ∈ xs, ∃ b, u = .pointer (some ⟨b, 0, none⟩) := by
  intro u hu
  obtain ⟨i, hi, e⟩ := List.getElem_of_mem hu
  obtain ⟨b, hb, _⟩ := (h.2 i (ds[i]'(by rw [h.1]; exact hi)) u (List.getElem?_eq_getElem _) (by rw [List.getElem?_eq_getElem hi, e])).shape
  exact ⟨b, hb⟩

theorem Tryz.infoPtrTerm : (Tryz.prog.info? 32).map (fun i => (i.zero, i.size, i.bytes)) = some (some (.pointer none), 1, 8) := by kernel_rfl

theorem dLams_size (d : DB) : (dLams d).length ≤ d.size := by
  induction d with
  | free x => simp [dLams]
  | bnd i => simp [dLams]
  | lam x b ih => simp only [dLams, DB.size, List.length_cons]; omega
  | app f a _ _ => simp [dLams]
theorem dBody_size (d : DB) : (dBody d).size ≤ d.size := by
  induction d with
  | free x => simp [dBody]
  | bnd i => simp [dBody]
  | lam x b ih => simp only [dBody, DB.size]; omega
  | app f a _ _ => simp [dBody]
theorem dArgs_size (d : DB) : (dArgs d).length ≤ d.size := by
  induction d with
  | free x => simp [dArgs]
  | bnd i => simp [dArgs]
  | lam x b _ => simp [dArgs]
  | app f a ihf _ => simp only [dArgs, DB.size, List.length_append, List.length_singleton]; omega

/-- What taking apart answers. -/
def TkPost (P : Nat → Prop) (w : World) (d : DB) (e : Ending) (w' : World) : Prop :=
  ∃ lv bb fb av xs, e = .returned (.agg #[lv, .pointer (some ⟨bb, 0, none⟩), .pointer (some ⟨fb, 0, none⟩), av]) ∧ Below w.heap.size w w' ∧ SRow w' w.heap.size lv (dLams d) ∧
    DAt w' P (dBody d) (.pointer (some ⟨bb, 0, none⟩)) ∧ DAt w' P (dFirst (dBody d)) (.pointer (some ⟨fb, 0, none⟩)) ∧ w'.ownsRow w.heap.size 32 1 av xs.length xs ∧ DsAt w' P (dArgs (dBody d)) xs

/-- On the way through the lams. -/
structure TkA (P : Nat → Prop) (w : World) (d d' : DB) (ls : List (List UInt8)) (lv : Value) (v : Value) (wr : World) : Prop where
  below : Below w.heap.size w wr
  dat : DAt wr P d' v
  res : Blk wr w.heap.size 80 #[.slice none 0 0, .pointer none, .pointer none, .slice none 0 0]
  loc : Blk wr (w.heap.size + 1) 80 #[lv, .pointer none, .pointer none, .slice none 0 0]
  own : SRow wr (w.heap.size + 2) lv ls
  lams : ls ++ dLams d' = dLams d
  body : dBody d' = dBody d
  le : ls.length + d'.size ≤ d.size
/-- On the way through the app. -/
structure TkB (P : Nat → Prop) (w : World) (d d' : DB) (lv bp av : Value) (cs : List DB) (xs : List Value) (v : Value) (wr : World) : Prop where
  below : Below w.heap.size w wr
  dat : DAt wr P d' v
  bod : DAt wr P (dBody d) bp
  res : Blk wr w.heap.size 80 #[.slice none 0 0, .pointer none, .pointer none, .slice none 0 0]
  loc : Blk wr (w.heap.size + 1) 80 #[lv, bp, .pointer none, av]
  own : SRow wr (w.heap.size + 2) lv (dLams d)
  args : wr.ownsRow (w.heap.size + 2) 32 1 av xs.length xs
  ds : DsAt wr P cs xs
  dargs : dArgs (dBody d) = dArgs d' ++ cs.reverse
  first : dFirst d' = dFirst (dBody d)
  le : cs.length + d'.size ≤ d.size

theorem setCell_size (w : World) (a : Addr) (v : Value) : (w.setCell a v).heap.size = w.heap.size := by simp [World.setCell]

theorem TkA.step {P : Nat → Prop} {w : World} {d : DB} {ls : List (List UInt8)} {lv v : Value} {wr : World} {x : List UInt8} {e : DB} (hP : ∀ b, P b → b < w.heap.size)
    (h : TkA P w d (.lam x e) ls lv v wr) {o : Obj} {w1 : World} {g cap c : Nat} (hown : w1.ownsRow (w.heap.size + 2) 9 1 (.slice (some ⟨g, 0, none⟩) (ls.length + 1) cap) (ls.length + 1) (ls.map strV ++ [.string ⟨x.toArray⟩]))
    (hg : ((wr.alloc o).drew).grownBy w1 lv.ownBlock) (hat : lv.ownBlock = some g ∨ g = wr.heap.size + 1) (he : DAt wr P e (.pointer (some ⟨c, 0, none⟩))) :
    TkA P w d e (ls ++ [x]) (.slice (some ⟨g, 0, none⟩) (ls.length + 1) cap) (.pointer (some ⟨c, 0, none⟩)) (w1.setCell ⟨w.heap.size + 1, 0, none⟩ (.slice (some ⟨g, 0, none⟩) (ls.length + 1) cap)) := by
  have hlt := h.own.lt
  have hz := hg.size
  have hz0 := h.loc.lt
  have hzb := h.below.size
  simp only [World.size_alloc, World.size_drew] at hz
  have hne : ∀ q, q < w.heap.size + 2 → some q ≠ lv.ownBlock := fun q hq e => by have := (hlt q e.symm).1; omega
  have hgS : g ≠ w.heap.size + 1 := by
    rcases hat with hat | hat
    · have := (hlt g hat).1; omega
    · omega
  have hblk : ∀ q, q < w.heap.size + 2 → q < wr.heap.size → w1.heap[q]? = wr.heap[q]? := fun q h1 h2 => by
    rw [hg.block q (by simp only [World.size_drew, World.size_alloc]; omega) (hne q h1)]
    show (wr.alloc o).heap[q]? = _
    exact Below.heap_alloc _ _ _ h2
  have hkeep : ∀ q, q < w.heap.size → (w1.setCell ⟨w.heap.size + 1, 0, none⟩ (.slice (some ⟨g, 0, none⟩) (ls.length + 1) cap)).heap[q]? = wr.heap[q]? := fun q hq => by
    rw [Below.heap_setCell _ _ _ _ (by simp; omega)]
    exact hblk q (by omega) (by omega)
  have hl1 : Blk w1 (w.heap.size + 1) 80 #[lv, .pointer none, .pointer none, .slice none 0 0] := (hblk _ (by omega) hz0).trans h.loc
  have hr1 : Blk w1 w.heap.size 80 #[.slice none 0 0, .pointer none, .pointer none, .slice none 0 0] := (hblk _ (by omega) h.res.lt).trans h.res
  refine ⟨?_, DAt.mono (fun b hb => ⟨hb, hkeep b (hP b hb)⟩) he, hr1.far (by simp) _, ?_, ?_, ?_, h.body, ?_⟩
  · refine ⟨hg.os.trans h.below.os, hg.tape.trans h.below.tape, hg.output.trans h.below.output, by rw [setCell_size]; omega, fun q hq => by rw [hkeep q hq]; exact h.below.block q hq⟩
  · have := hl1.set_ 0 (.slice (some ⟨g, 0, none⟩) (ls.length + 1) cap)
    simpa using this
  · unfold SRow
    rw [List.length_append, List.map_append]
    exact ownsRow_far hown (by simp [Value.ownBlock, hgS]) _
  · rw [List.append_assoc]; exact h.lams
  · have := h.le; simp only [DB.size] at this; simp; omega

theorem TkB.step {P : Nat → Prop} {w : World} {d : DB} {lv bp av v : Value} {cs : List DB} {xs : List Value} {wr : World} {f a : DB} (hP : ∀ b, P b → b < w.heap.size)
    (h : TkB P w d (.app f a) lv bp av cs xs v wr) {o : Obj} {w1 : World} {g cap c q : Nat} (hown : w1.ownsRow (w.heap.size + 2) 32 1 (.slice (some ⟨g, 0, none⟩) (xs.length + 1) cap) (xs.length + 1) (xs ++ [.pointer (some ⟨q, 0, none⟩)]))
    (hg : ((wr.alloc o).drew).grownBy w1 av.ownBlock) (hat : av.ownBlock = some g ∨ g = wr.heap.size + 1) (hf : DAt wr P f (.pointer (some ⟨c, 0, none⟩))) (ha : DAt wr P a (.pointer (some ⟨q, 0, none⟩))) :
    TkB P w d f lv bp (.slice (some ⟨g, 0, none⟩) (xs.length + 1) cap) (cs ++ [a]) (xs ++ [.pointer (some ⟨q, 0, none⟩)]) (.pointer (some ⟨c, 0, none⟩)) (w1.setCell ⟨w.heap.size + 1, 3, none⟩ (.slice (some ⟨g, 0, none⟩) (xs.length + 1) cap)) := by
  have hlt := h.args.lt
  have hz := hg.size
  have hz0 := h.loc.lt
  have hzb := h.below.size
  simp only [World.size_alloc, World.size_drew] at hz
  have hne : ∀ q, q < w.heap.size + 2 → some q ≠ av.ownBlock := fun q hq e => by have := (hlt q e.symm).1; omega
  have hgS : g ≠ w.heap.size + 1 := by
    rcases hat with hat | hat
    · have := (hlt g hat).1; omega
    · omega
  have hblk : ∀ q, q < w.heap.size + 2 → q < wr.heap.size → w1.heap[q]? = wr.heap[q]? := fun q h1 h2 => by
    rw [hg.block q (by simp only [World.size_drew, World.size_alloc]; omega) (hne q h1)]
    show (wr.alloc o).heap[q]? = _
    exact Below.heap_alloc _ _ _ h2
  have hkeep : ∀ q, q < w.heap.size → (w1.setCell ⟨w.heap.size + 1, 3, none⟩ (.slice (some ⟨g, 0, none⟩) (xs.length + 1) cap)).heap[q]? = wr.heap[q]? := fun q hq => by
    rw [Below.heap_setCell _ _ _ _ (by simp; omega)]
    exact hblk q (by omega) (by omega)
  have hl1 : Blk w1 (w.heap.size + 1) 80 #[lv, bp, .pointer none, av] := (hblk _ (by omega) hz0).trans h.loc
  have hr1 : Blk w1 w.heap.size 80 #[.slice none 0 0, .pointer none, .pointer none, .slice none 0 0] := (hblk _ (by omega) h.res.lt).trans h.res
  have hD : ∀ b, P b → P b ∧ (w1.setCell ⟨w.heap.size + 1, 3, none⟩ (.slice (some ⟨g, 0, none⟩) (xs.length + 1) cap)).heap[b]? = wr.heap[b]? := fun b hb => ⟨hb, hkeep b (hP b hb)⟩
  refine ⟨?_, DAt.mono hD hf, DAt.mono hD h.bod, hr1.far (by simp) _, ?_, ?_, ?_, (h.ds.mono hD).snoc (DAt.mono hD ha), ?_, h.first, ?_⟩
  · refine ⟨hg.os.trans h.below.os, hg.tape.trans h.below.tape, hg.output.trans h.below.output, by rw [setCell_size]; omega, fun q hq => by rw [hkeep q hq]; exact h.below.block q hq⟩
  · have := hl1.set_ 3 (.slice (some ⟨g, 0, none⟩) (xs.length + 1) cap)
    simpa using this
  · refine ownsRow_far (((h.own.alloc o).drew).kept hg (own_two h.own h.args (by decide))) (fun e => ?_) _
    have := (h.own.lt _ e).1
    simp at this
  · rw [List.length_append]
    exact ownsRow_far hown (by simp [Value.ownBlock, hgS]) _
  · rw [h.dargs]; simp [dArgs]
  · have := h.le; simp only [DB.size] at this; simp; omega
theorem TkA.turn {P : Nat → Prop} {w : World} {d d' : DB} {ls : List (List UInt8)} {lv v : Value} {wr : World} (hP : ∀ b, P b → b < w.heap.size) (h : TkA P w d d' ls lv v wr) (h1 : dBody d' = d') (h2 : dLams d' = []) :
    TkB P w d d' lv v (.slice none 0 0) [] [] v (wr.setCell ⟨w.heap.size + 1, 1, none⟩ v) := by
  have hls : ls = dLams d := by have := h.lams; rw [h2, List.append_nil] at this; exact this
  have hbd : dBody d = d' := by rw [← h.body, h1]
  have hne : (lv : Value).ownBlock ≠ some (w.heap.size + 1) := fun e => by have := (h.own.lt _ e).1; omega
  have hD : ∀ b, P b → P b ∧ (wr.setCell ⟨w.heap.size + 1, 1, none⟩ v).heap[b]? = wr.heap[b]? := fun b hb => ⟨hb, Below.heap_setCell _ _ _ _ (by have := hP b hb; simp; omega)⟩
  refine ⟨h.below.setCell (by simp) _, DAt.mono hD h.dat, by rw [hbd]; exact DAt.mono hD h.dat, h.res.far (by simp) _, ?_, ?_, World.ownsRow_nil _ _ _ _, DsAt.nil _ _, by rw [hbd]; simp, by rw [hbd], ?_⟩
  · have := h.loc.set_ 1 v
    simpa using this
  · rw [← hls]; exact ownsRow_far h.own hne _
  · have := h.le; simp; omega
/-- Behind the turning round of the second terms. -/
theorem TkB.done {P : Nat → Prop} {w : World} {d d' : DB} {lv bp av v : Value} {cs : List DB} {xs : List Value} {wr w1 : World} (hP : ∀ b, P b → b < w.heap.size)
    (h : TkB P w d d' lv bp av cs xs v wr) (h1 : dArgs d' = []) (h2 : dFirst d' = d')
    (hr : w1.ownsRow (w.heap.size + 2) 32 1 av xs.length xs.reverse) (hg : (wr.setCell ⟨w.heap.size + 1, 2, none⟩ v).grownBy w1 av.ownBlock) :
    Blk w1 w.heap.size 80 #[.slice none 0 0, .pointer none, .pointer none, .slice none 0 0] ∧ Blk w1 (w.heap.size + 1) 80 #[lv, bp, v, av] ∧
    (∀ (i : Nat) (u : Value), u = lv ∨ u = bp ∨ u = v ∨ u = av → True) ∧
    ∀ w2, (∀ q, q ≠ w.heap.size → w2.heap[q]? = w1.heap[q]?) → w2.heap.size = w1.heap.size → w2.os = w1.os → w2.tape = w1.tape → w2.output = w1.output →
      Below w.heap.size w w2 ∧ SRow w2 w.heap.size lv (dLams d) ∧ DAt w2 P (dBody d) bp ∧ DAt w2 P (dFirst (dBody d)) v ∧ w2.ownsRow w.heap.size 32 1 av xs.reverse.length xs.reverse ∧ DsAt w2 P (dArgs (dBody d)) xs.reverse := by
  have hlt := h.args.lt
  have hz := hg.size
  rw [setCell_size] at hz
  have hz0 := h.loc.lt
  have hzb := h.below.size
  have hne : ∀ q, q < w.heap.size + 2 → some q ≠ av.ownBlock := fun q hq e => by have := (hlt q e.symm).1; omega
  have hkeep : ∀ q, q < w.heap.size → w1.heap[q]? = wr.heap[q]? := fun q hq => by
    rw [hg.block q (by rw [setCell_size]; omega) (hne q (by omega)), Below.heap_setCell _ _ _ _ (by simp; omega)]
  refine ⟨(h.res.far (by simp) _).grown hg (hne _ (by omega)), ?_, fun _ _ _ => trivial, fun w2 hw hs ho ht hu => ?_⟩
  · have := (h.loc.set_ 2 v).grown hg (hne _ (by omega))
    simpa using this
  · have hG : w1.grownBy w2 (some w.heap.size) := ⟨ho, ht, hu, by omega, fun q hq hne => hw q (fun e => hne (by rw [e]))⟩
    have hD : ∀ b, P b → P b ∧ w2.heap[b]? = wr.heap[b]? := fun b hb => ⟨hb, by rw [hw b (by have := hP b hb; omega)]; exact hkeep b (hP b hb)⟩
    refine ⟨⟨ho.trans (hg.os.trans h.below.os), ht.trans (hg.tape.trans h.below.tape), hu.trans (hg.output.trans h.below.output), by omega, fun q hq => ?_⟩, ?_, DAt.mono hD h.bod, ?_, ?_, ?_⟩
    · rw [hw q (by omega), hkeep q hq]; exact h.below.block q hq
    · have ho1 : SRow (wr.setCell ⟨w.heap.size + 1, 2, none⟩ v) (w.heap.size + 2) lv (dLams d) := ownsRow_far h.own (fun e => by have := (h.own.lt _ e).1; simp at this) _
      have ho2 : SRow w1 (w.heap.size + 2) lv (dLams d) := ho1.kept hg (own_two h.own h.args (by decide))
      exact own_base (ho2.kept hG (.inr fun e => by have := (ho2.lt _ e).1; omega)) (by omega)
    · rw [← h.first, h2]; exact DAt.mono hD h.dat
    · rw [List.length_reverse]
      exact own_base (hr.kept hG (.inr fun e => by have := (hr.lt _ e).1; omega)) (by omega)
    · have := (h.ds.mono hD).reverse
      rw [h.dargs, h1, List.nil_append]
      exact this
end Go.Proofs.YtbabdjcpmjfeoaaGreatDoor

namespace Go.Proofs.YtbabdjcpmjfeoaaGreatDoor
set_option linter.unusedVariables false
open Go.RowKit
attribute [local go_sem ↓] Go.wp_at_zero Go.wp_at_succ

theorem infoStr' : (Tryz.prog.info? 9).map (fun i => (i.zero, i.size, i.bytes)) = some (some (.string ⟨#[]⟩), 1, 16) := by kernel_rfl
/-- A term is known by its form. -/
def DB.code : DB → Int
  | .free _ => 0
  | .bnd _ => 1
  | .lam _ _ => 2
  | .app _ _ => 3
theorem DAt.code_cell {w : World} {P : Nat → Prop} {d : DB} {v : Value} (h : DAt w P d v) : ∃ b, v = .pointer (some ⟨b, 0, none⟩) ∧ P b ∧ w.cell? ⟨b, 0, none⟩ = some (.int .i64 d.code) ∧ b < w.heap.size := by
  cases d with
  | free x => obtain ⟨b, rfl, hP, _, hb⟩ := h; have := hb.cell 0; simp at this; exact ⟨b, rfl, hP, this, hb.lt⟩
  | bnd i => obtain ⟨b, rfl, hP, hb⟩ := h; have := hb.cell 0; simp at this; exact ⟨b, rfl, hP, this, hb.lt⟩
  | lam x e => obtain ⟨b, c, rfl, hP, _, hb, _⟩ := h; have := hb.cell 0; simp at this; exact ⟨b, rfl, hP, this, hb.lt⟩
  | app f a => obtain ⟨b, c, e, rfl, hP, hb, _⟩ := h; have := hb.cell 0; simp at this; exact ⟨b, rfl, hP, this, hb.lt⟩
theorem SRow.short {w : World} {b : Nat} {v : Value} {l : List (List UInt8)} (h : SRow w b v l) : ∃ A c, v = .slice A l.length c := own_shape h

set_option maxRecDepth 100000 in
set_option maxHeartbeats 4000000 in
theorem takeApart_any (d : DB) (v : Value) (w : World) (P : Nat → Prop) (hd : DAt w P d v) (hP : ∀ b, P b → b < w.heap.size) (hsz : d.size ≤ 1000) :
    Calls Tryz.prog 42 #[v] w (TkPost P w d) := by
  obtain ⟨b, rfl, hbP⟩ := hd.shape
  have HD := Lib.hid hd
  have HP := Lib.hid hP
  obtain ⟨i0, hinf, hz0, hzs, hzb⟩ := info_parts infoStr'
  obtain ⟨i1, hinf1, hz1, hzs1, hzb1⟩ := info_parts Tryz.infoPtrTerm
  clear hd hP
  go_enter Tryz.func42, Tryz.ntmps42
  go_wp2
  go_loopg [0] d.size (fun q v wr => ∃ d' ls lv, q = d'.size ∧ Hid (TkA P w d d' ls lv v wr))
  case atStart =>
    refine ⟨d, [], .slice none 0 0, rfl, Lib.hid ⟨by go_grown, ?_, (Blk.new _ _ _).alloc _, ?_, World.ownsRow_nil _ _ _ _, by simp, rfl, by simp⟩⟩
    · exact DAt.mono (fun q hq => ⟨hq, by have := HP.out q hq; rw [Below.heap_alloc _ _ _ (by simp; omega), Below.heap_alloc _ _ _ this]⟩) HD.out
    · have := Blk.new (w.alloc (.cells #[.slice none 0 0, .pointer none, .pointer none, .slice none 0 0] 80)) 80 #[.slice none 0 0, .pointer none, .pointer none, .slice none 0 0]
      simpa using this
  case round =>
    obtain ⟨d', ls, lv, hq, HT⟩ := hrel
    have HQ := Lib.hid hq
    clear hq
    obtain ⟨A, c, rfl⟩ := HT.out.own.short
    have hlen : ls.length ≤ 1000 := by have := HT.out.le; omega
    have s0 := HT.out.loc.cell 0
    have sf := HT.out.loc.frozen 0
    have sl := HT.out.loc.lt
    simp at s0
    have hown := HT.out.own
    have hbase := HT.out.below.size
    by_cases hlam : ∃ x e, d' = .lam x e
    · obtain ⟨x, e, rfl⟩ := hlam
      obtain ⟨b', cb, rfl, hb'P, hx, hb', he⟩ := HT.out.dat
      have k0 := hb'.cell 0
      have k1 := hb'.cell 1
      have k3 := hb'.cell 3
      have kl := hb'.lt
      simp at k0 k1 k3
      have HE := Lib.hid he
      have HB' := Lib.hid hb'
      have hb'w := HP.out b' hb'P
      have hne1 : some (w.heap.size + 1) ≠ (Value.slice A ls.length c).ownBlock := fun e => by have := (hown.lt _ e.symm).1; omega
      have hne2 : some b' ≠ (Value.slice A ls.length c).ownBlock := fun e => by have := (hown.lt _ e.symm).1; omega
      have HOWN := Lib.hid hown
      have hfz : ∀ o, (wr.alloc o).frozen? ⟨w.heap.size + 1, 0, none⟩ = false := fun o => (frozen_alloc' wr o sl).trans sf
      clear he hb' hown
      go_wp2
      go_region_law ((refine step_append_lies _ (by rfl) _ _ _ (by rfl) (w.heap.size + 2) 9 i0 (.string ⟨#[]⟩) 1 16 Tryz.underlying53 hinf hz0 hzs hzb rfl (by omega) (.slice A ls.length c) ls.length (ls.map strV) (by rfl) ((HOWN.out.alloc _).drew) ⟨wr.heap.size, 0, none⟩ 1 1 [.string ⟨x.toArray⟩] (by rfl) (by rfl) (World.news_of_block (cs := #[.string ⟨x.toArray⟩]) (t := 9) (fr := (0, 0)) (heap_alloc_new wr _)) (by simp [Value.oneCell']) (by omega) (by unfold maxLen; omega) (by omega) (by simp; omega) (wr.heap.size + 1) (by simp) ?_; intro g cap w1 hown1 hgrow hat hlt; have q0 := far_cell hgrow sl hne1 s0; have q1 := far_froz hgrow sl hne1 sf; have q3 := far_cell hgrow kl hne2 k3))
      all_goals
        go_wp2
        go_roundg e.size
        case rel => exact ⟨e, ls ++ [x], _, rfl, Lib.hid (HT.out.step HP.out hown1 hgrow hat HE.out)⟩
        case measure => have := HQ.out; simp only [DB.size] at this; omega
    · have hbod : dBody d' = d' ∧ dLams d' = [] ∧ ((d'.code == 2) = false) := by
        cases d' with
        | lam x e => exact absurd ⟨x, e, rfl⟩ hlam
        | free x => exact ⟨rfl, rfl, rfl⟩
        | bnd i => exact ⟨rfl, rfl, rfl⟩
        | app f a => exact ⟨rfl, rfl, rfl⟩
      obtain ⟨hb1, hb2, hb3⟩ := hbod
      obtain ⟨b', rfl, hb'P, k0, kl⟩ := HT.out.dat.code_cell
      have s1 := HT.out.loc.cell 1
      have sf1 := HT.out.loc.frozen 1
      simp at s1
      have HT2 := Lib.hid (HT.out.turn HP.out hb1 hb2)
      have hbl : ls.length = (dLams d).length := by have := HT.out.lams; rw [hb2, List.append_nil] at this; rw [this]
      have HBL := Lib.hid hbl
      clear hb1 hb2 hown hbl hlam
      go_wp2
      obtain ⟨wo, hwo⟩ : ∃ wo, wo = wr.setCell ⟨w.heap.size + 1, 1, none⟩ (.pointer (some ⟨b', 0, none⟩)) := ⟨_, rfl⟩
      rw [← hwo] at HT2 ⊢
      clear hwo s0 s1 sf sf1 sl k0 kl HT hbase hb'P hb3
      go_loopg [0] d'.size (fun q v wr => ∃ d'' cs av xs, q = d''.size ∧ Hid (TkB P w d d'' (.slice A ls.length c) (.pointer (some ⟨b', 0, none⟩)) av cs xs v wr))
      case atStart => exact ⟨d', [], .slice none 0 0, [], rfl, HT2⟩
      case round =>
        obtain ⟨d2, cs, av, xs, hq2, HT⟩ := hrel
        have HQ2 := Lib.hid hq2
        clear hq2
        obtain ⟨A2, c2, hav⟩ := own_shape HT.out.args
        subst hav
        have hlen2 : xs.length ≤ 1000 := by have := HT.out.le; have := HT.out.ds.1; omega
        have s0 := HT.out.loc.cell 0
        have s1 := HT.out.loc.cell 1
        have s3 := HT.out.loc.cell 3
        have sf := HT.out.loc.frozen 3
        have sf2 := HT.out.loc.frozen 2
        have s2 := HT.out.loc.cell 2
        have sl := HT.out.loc.lt
        simp at s0 s1 s2 s3
        have hown := HT.out.args
        have hbase := HT.out.below.size
        by_cases happ : ∃ f a, d2 = .app f a
        · obtain ⟨f, a, rfl⟩ := happ
          obtain ⟨b2, cb, db, rfl, hb'P, hb', hf, ha⟩ := HT.out.dat
          have k0 := hb'.cell 0
          have k3 := hb'.cell 3
          have k4 := hb'.cell 4
          have kl := hb'.lt
          simp at k0 k3 k4
          have HF := Lib.hid hf
          have HA := Lib.hid ha
          have hb'w := HP.out b2 hb'P
          have hne1 : some (w.heap.size + 1) ≠ (Value.slice A2 xs.length c2).ownBlock := fun e => by have := (hown.lt _ e.symm).1; omega
          have hne2 : some b2 ≠ (Value.slice A2 xs.length c2).ownBlock := fun e => by have := (hown.lt _ e.symm).1; omega
          have HOWN := Lib.hid hown
          clear hf ha hb' hown
          go_wp2
          go_region_law ((refine step_append_lies _ (by rfl) _ _ _ (by rfl) (w.heap.size + 2) 32 i1 (.pointer none) 1 8 Tryz.underlying78 hinf1 hz1 hzs1 hzb1 rfl (by omega) (.slice A2 xs.length c2) xs.length xs (by rfl) ((HOWN.out.alloc _).drew) ⟨wr.heap.size, 0, none⟩ 1 1 [.pointer (some ⟨db, 0, none⟩)] (by rfl) (by rfl) (World.news_of_block (cs := #[.pointer (some ⟨db, 0, none⟩)]) (t := 32) (fr := (0, 0)) (heap_alloc_new wr _)) (by simp [Value.oneCell']) (by omega) (by unfold maxLen; omega) (by omega) (by simp; omega) (wr.heap.size + 1) (by simp) ?_; intro g cap w1 hown1 hgrow hat hlt; have q0 := far_cell hgrow sl hne1 s3; have q1 := far_froz hgrow sl hne1 sf; have q3 := far_cell hgrow kl hne2 k3))
          all_goals
            go_wp2
            go_roundg f.size
            case rel => exact ⟨f, cs ++ [a], _, xs ++ [.pointer (some ⟨db, 0, none⟩)], rfl, Lib.hid (HT.out.step HP.out hown1 hgrow hat HF.out HA.out)⟩
            case measure => have := HQ2.out; simp only [DB.size] at this; omega
        · have hfst : dArgs d2 = [] ∧ dFirst d2 = d2 ∧ ((d2.code == 3) = false) := by
            cases d2 with
            | app f a => exact absurd ⟨f, a, rfl⟩ happ
            | free x => exact ⟨rfl, rfl, rfl⟩
            | bnd i => exact ⟨rfl, rfl, rfl⟩
            | lam x e => exact ⟨rfl, rfl, rfl⟩
          obtain ⟨hb1, hb2, hb3⟩ := hfst
          obtain ⟨b2, rfl, hb'P, k0, kl⟩ := HT.out.dat.code_cell
          have HDN := Lib.hid (fun w1 => HT.out.done (w1 := w1) HP.out hb1 hb2)
          have HOWN := Lib.hid (ownsRow_far hown (a := ⟨w.heap.size + 1, 2, none⟩) (fun e => by have := (hown.lt _ e).1; simp at this) (.pointer (some ⟨b2, 0, none⟩)))
          have HPT := Lib.hid HT.out.ds.ptrs
          clear hb1 hb2 hown happ
          go_wp2_with fail
          refine (rev_any xs _ _ _ HOWN.out HPT.out (by omega)).mono ?_
          rintro e w5 ⟨rfl, hr5, hg5⟩
          obtain ⟨hR, hS, _, hfin⟩ := HDN.out w5 hr5 hg5
          have c0 := hS.cell 0
          have c1 := hS.cell 1
          have c2' := hS.cell 2
          have c3 := hS.cell 3
          have hRl := hR.lt
          have hSl := hS.lt
          have d0 := hR.cell 0
          have d1 := hR.cell 1
          have d2' := hR.cell 2
          have d3 := hR.cell 3
          have f0 := hR.frozen 0
          have f1 := hR.frozen 1
          have f2 := hR.frozen 2
          have f3 := hR.frozen 3
          simp at c0 c1 c2' c3 d0 d1 d2' d3
          have HRR := Lib.hid hR
          have HFN := Lib.hid hfin
          clear hR hS hfin hr5 hg5 s0 s1 s2 s3 sf sf2 k0 kl hb3
          go_wp2
          have hW : Blk ((((w5.setCell ⟨w.heap.size, 0, none⟩ (.slice A ls.length c)).setCell ⟨w.heap.size, 1, none⟩ (.pointer (some ⟨b', 0, none⟩))).setCell ⟨w.heap.size, 2, none⟩ (.pointer (some ⟨b2, 0, none⟩))).setCell ⟨w.heap.size, 3, none⟩ (.slice A2 xs.length c2)) w.heap.size 80 #[.slice A ls.length c, .pointer (some ⟨b', 0, none⟩), .pointer (some ⟨b2, 0, none⟩), .slice A2 xs.length c2] := by
            have := (((HRR.out.set_ 0 (.slice A ls.length c)).set_ 1 (.pointer (some ⟨b', 0, none⟩))).set_ 2 (.pointer (some ⟨b2, 0, none⟩))).set_ 3 (.slice A2 xs.length c2)
            simpa using this
          have g0 := hW.cell 0
          have g1 := hW.cell 1
          have g2 := hW.cell 2
          have g3 := hW.cell 3
          simp only [List.getElem?_toArray, List.getElem?_cons_zero, List.getElem?_cons_succ] at g0 g1 g2 g3
          refine bodyPost_ret (v := .agg #[.slice A ls.length c, .pointer (some ⟨b', 0, none⟩), .pointer (some ⟨b2, 0, none⟩), .slice A2 xs.length c2]) (by simp [results, Tryz.results42, go_sem, g0, g1, g2, g3]) rfl ?_
          obtain ⟨r1, r2, r3, r4, r5, r6⟩ := HFN.out ((((w5.setCell ⟨w.heap.size, 0, none⟩ (.slice A ls.length c)).setCell ⟨w.heap.size, 1, none⟩ (.pointer (some ⟨b', 0, none⟩))).setCell ⟨w.heap.size, 2, none⟩ (.pointer (some ⟨b2, 0, none⟩))).setCell ⟨w.heap.size, 3, none⟩ (.slice A2 xs.length c2)) (fun q hq => by rw [Below.heap_setCell _ _ _ _ (by simpa using hq), Below.heap_setCell _ _ _ _ (by simpa using hq), Below.heap_setCell _ _ _ _ (by simpa using hq), Below.heap_setCell _ _ _ _ (by simpa using hq)]) (by rw [setCell_size, setCell_size, setCell_size, setCell_size]) rfl rfl rfl
          rw [List.length_reverse] at r5
          exact ⟨_, b', b2, _, xs.reverse, rfl, r1, r2, r3, r4, by rw [List.length_reverse]; exact r5, r6⟩
end Go.Proofs.YtbabdjcpmjfeoaaGreatDoor

namespace Go.Proofs.YtbabdjcpmjfeoaaGreatDoor
set_option linter.unusedVariables false
open Go.RowKit

theorem dbSize_any : ∀ (t : DB) (v : Value) (w : World) (P : Nat → Prop), DAt w P t v → t.size ≤ 10000 →
    Calls Tryz.prog 41 #[v] w fun e w' => e = .returned (.int .i64 t.size) ∧ ∃ n, w' = w.drewN n := by
  intro t
  induction t with
  | free x =>
    rintro v w P ⟨b, rfl, hP, hl, hb⟩ hsz
    have k0 := hb.cell 0
    simp at k0
    clear hb
    go_enter Tryz.func41, Tryz.ntmps41
    go_wp2
    go_ret
    exact ⟨rfl, 0, rfl⟩
  | bnd i =>
    rintro v w P ⟨b, rfl, hP, hb⟩ hsz
    have k0 := hb.cell 0
    simp at k0
    clear hb
    go_enter Tryz.func41, Tryz.ntmps41
    go_wp2
    go_ret
    exact ⟨rfl, 0, rfl⟩
  | lam x d ih =>
    rintro v w P ⟨b, c, rfl, hP, hl, hb, hd⟩ hsz
    have k0 := hb.cell 0
    have k3 := hb.cell 3
    simp at k0 k3
    have HD := Lib.hid hd
    have IH := Lib.hid ih
    have hsz' : d.size + 1 ≤ 10000 := by simp only [DB.size] at hsz; omega
    clear hb hd ih hsz
    go_enter Tryz.func41, Tryz.ntmps41
    go_wp2_with fail
    refine (IH.out _ _ P HD.out (by omega)).mono ?_
    rintro e w1 ⟨rfl, n, rfl⟩
    go_wp2_with fail
    go_ret
    exact ⟨ret_int (by simp only [DB.size]; omega), n, rfl⟩
  | app f a ihf iha =>
    rintro v w P ⟨b, c, d, rfl, hP, hb, hf, ha⟩ hsz
    have k0 := hb.cell 0
    have k3 := hb.cell 3
    have k4 := hb.cell 4
    simp at k0 k3 k4
    have HF := Lib.hid hf
    have HA := Lib.hid ha
    have IHF : Hid (∀ n, Calls Tryz.prog 41 #[.pointer (some ⟨c, 0, none⟩)] (w.drewN n) fun e w' => e = .returned (.int .i64 f.size) ∧ ∃ m, w' = w.drewN m) :=
      Lib.hid (fun n => (ihf _ (w.drewN n) P (hf.drewN n) (by simp only [DB.size] at hsz; omega)).mono fun _ _ ⟨he, m, hm⟩ => ⟨he, n + m, by rw [hm, World.drewN_drewN]⟩)
    have IHA : Hid (∀ n, Calls Tryz.prog 41 #[.pointer (some ⟨d, 0, none⟩)] (w.drewN n) fun e w' => e = .returned (.int .i64 a.size) ∧ ∃ m, w' = w.drewN m) :=
      Lib.hid (fun n => (iha _ (w.drewN n) P (ha.drewN n) (by simp only [DB.size] at hsz; omega)).mono fun _ _ ⟨he, m, hm⟩ => ⟨he, n + m, by rw [hm, World.drewN_drewN]⟩)
    have hsz' : f.size + a.size + 1 ≤ 10000 := by simp only [DB.size] at hsz; omega
    clear hb hf ha ihf iha hsz
    go_enter Tryz.func41, Tryz.ntmps41
    go_wp2
    go_quiet ((first
      | (go_at_call 41; with_reducible exact IHF.out _)
      | (go_at_call 41; with_reducible exact IHA.out _)))
    go_wp2
    go_ret
    refine ⟨ret_int ?_, _, rfl⟩
    simp only [DB.size]
    omega

end Go.Proofs.YtbabdjcpmjfeoaaGreatDoor

namespace Go.Proofs.YtbabdjcpmjfeoaaGreatDoor
set_option linter.unusedVariables false

def meT (k : Bool) (t : Tm) : Nat := if k then (lamsOf t).length + (argsOf (bodyOf t)).length else t.size
def meO (k : Option Bool) (o : Option Tm) : Int := match k, o with
  | some k, some t => if (stepR k t).2 = 0 then meT k t else -1
  | _, _ => -1
def neO (o : Option Tm) : Bool := match o with
  | some t => decide ((stepR false t).2 = 0) && !t.isLam
  | none => false
def rcO (o : Option Tm) : Int := match o with
  | some t => t.reds
  | none => -1
theorem argsOf_size (t : Tm) : (argsOf t).length ≤ t.size := by
  induction t with
  | var x => simp [argsOf]
  | lam x b _ => simp [argsOf]
  | app f a ihf _ => simp only [argsOf, Tm.size, List.length_append, List.length_singleton]; omega
theorem bodyOf_size (t : Tm) : (bodyOf t).size ≤ t.size := by
  induction t with
  | var x => simp [bodyOf]
  | lam x b ih => simp only [bodyOf, Tm.size]; omega
  | app f a _ _ => simp [bodyOf]
end Go.Proofs.YtbabdjcpmjfeoaaGreatDoor

namespace Go.Proofs.YtbabdjcpmjfeoaaGreatDoor
set_option linter.unusedVariables false
open Go.RowKit

def meD (k : Bool) (d : DB) : Nat := if k then (dLams d).length + (dArgs (dBody d)).length else d.size
theorem meD_eq (k : Bool) (t : Tm) : meD k (toDB [] t) = meT k t := by
  cases k
  · simp [meD, meT, toDB_size]
  · simp [meD, meT, dLams_toDB, dBody_toDB, dArgs_toDB]
set_option maxRecDepth 100000 in
set_option maxHeartbeats 1000000 in
theorem measure_any (k : Bool) (d : DB) (v : Value) (w : World) (P : Nat → Prop) (hd : DAt w P d v) (hP : ∀ b, P b → b < w.heap.size) (hsz : d.size ≤ 1000) :
    Calls Tryz.prog 21 #[v, .string ⟨(kindS k).toArray⟩] w fun e w' => e = .returned (.int .i64 (meD k d)) ∧ Below w.heap.size w w' := by
  obtain ⟨b, rfl, _⟩ := hd.shape
  have C1 := Lib.hid (dbSize_any d _ w P hd (by omega))
  have C2 := Lib.hid (takeApart_any d _ w P hd hP hsz)
  have hl1 := dLams_size d
  have hl2 := dArgs_size (dBody d)
  have hl3 := dBody_size d
  clear hd hP
  cases k
  · have hq : (kindS false) = [102, 117, 108, 108] := rfl
    rw [hq]
    go_enter Tryz.func21, Tryz.ntmps21
    go_wp2_with fail
    refine C1.out.mono ?_
    rintro e w1 ⟨rfl, n, rfl⟩
    go_wp2_with fail
    go_ret
    exact ⟨rfl, below_drewN' (Below.refl _ _) n⟩
  · have hq : (kindS true) = [104, 101, 97, 100] := rfl
    rw [hq]
    have e1 : IntKind.i64.wrap (((dLams d).length : Int) + ((dArgs (dBody d)).length : Int)) = (((dLams d).length + (dArgs (dBody d)).length : Nat) : Int) := by rw [IntWalk.i64_in _ (by omega)]; omega
    go_enter Tryz.func21, Tryz.ntmps21
    go_wp2_with fail
    refine C2.out.mono ?_
    rintro e w1 ⟨lv, bb, fb, av, xs, rfl, hb1, hl, _, _, ha, hds⟩
    obtain ⟨A1, c1, rfl⟩ := hl.short
    obtain ⟨A2, c2, rfl⟩ := own_shape ha
    have hlen : xs.length = (dArgs (dBody d)).length := hds.1.symm
    rw [hlen]
    have HB := Lib.hid hb1
    clear hl ha hds hb1 hlen
    go_wp2_with fail
    go_ret
    exact ⟨ret_int (by simp only [meD]; rfl), HB.out.alloc HB.out.size _⟩

set_option maxRecDepth 100000 in
set_option maxHeartbeats 1000000 in
theorem implMeasure_any (x : List UInt8) (s : ByteArray) (w : World) (hm : s.size ≤ maxLen) :
    Calls Tryz.prog 11 #[.string ⟨x.toArray⟩, .string s] w fun e w' => e = .returned (.int .i64 (meO (rdKind x) (rdTerm s.data.toList))) ∧ Below w.heap.size w w' := by
  go_enter Tryz.func11, Tryz.ntmps11
  go_wp2_with fail
  refine (readKindAndTerm_any x s _ hm).mono ?_
  rintro e w1 ⟨hb1, ⟨k, t, b, hk, hrd, rfl, htr⟩ | ⟨hno, u, rfl⟩⟩
  · obtain ⟨hok, hat⟩ := rdTerm_good _ _ hrd
    have hsa := size_atoms t
    have C := Lib.hid (isNormal_any k _ _ w1 _ htr (fun q hq => hq.2))
    rw [normal_eq k t hok hat] at C
    have C2 : Hid (∀ w2, Below w1.heap.size w1 w2 → _) := Lib.hid (fun w2 (h : Below w1.heap.size w1 w2) => measure_any k (toDB [] t) (.pointer (some ⟨b, 0, none⟩)) w2 _ (htr.mono fun q hq => ⟨hq, h.block q hq.2⟩) (fun q hq => Nat.lt_of_lt_of_le hq.2 h.size) (by rw [toDB_size]; omega))
    rw [meD_eq] at C2
    have HE : Hid (meO (rdKind x) (rdTerm s.data.toList) = if (stepR k t).2 = 0 then (meT k t : Int) else -1) := Lib.hid (by rw [hk, hrd]; rfl)
    have hn : nmO (some k) (some t) = decide ((stepR k t).2 = 0) := rfl
    rw [hn] at C
    clear hk hrd htr hok hat hn
    by_cases h0 : (stepR k t).2 = 0
    · rw [if_pos h0] at HE
      rw [decide_eq_true h0] at C
      clear h0
      go_wp2_with fail
      refine C.out.mono ?_
      rintro e w2 ⟨rfl, hb2⟩
      go_wp2_with fail
      refine (C2.out _ hb2).mono ?_
      rintro e w3 ⟨rfl, hb3⟩
      have HB := Lib.hid ((hb1.trans (hb2.mono hb1.size)).trans (hb3.mono (Nat.le_trans hb1.size hb2.size)))
      clear hb1 hb2 hb3
      go_wp2_with fail
      go_ret
      exact ⟨by rw [HE.out]; rfl, HB.out⟩
    · rw [if_neg h0] at HE
      rw [decide_eq_false h0] at C
      clear h0
      go_wp2_with fail
      refine C.out.mono ?_
      rintro e w2 ⟨rfl, hb2⟩
      have HB := Lib.hid (hb1.trans (hb2.mono hb1.size))
      clear hb1 hb2
      go_wp2_with fail
      go_ret
      exact ⟨by rw [HE.out]; rfl, HB.out⟩
  · have HE : Hid (meO (rdKind x) (rdTerm s.data.toList) = -1) := Lib.hid (by rcases hno with h | h <;> rw [h] <;> first | rfl | (cases rdKind x <;> rfl))
    clear hno
    go_wp2_with fail
    go_ret
    exact ⟨by rw [HE.out]; rfl, hb1⟩
end Go.Proofs.YtbabdjcpmjfeoaaGreatDoor

namespace Go.Proofs.YtbabdjcpmjfeoaaGreatDoor
set_option linter.unusedVariables false
open Go.RowKit

theorem implTermValid_any (s : ByteArray) (w : World) (hm : s.size ≤ maxLen) :
    Calls Tryz.prog 10 #[.string s] w fun e w' => e = .returned (.bool (rdTerm s.data.toList).isSome) ∧ Below w.heap.size w w' := by
  go_enter Tryz.func10, Tryz.ntmps10
  go_wp2_with fail
  refine (readTerm_any s _ hm).mono ?_
  rintro e w1 ⟨hb1, ⟨t, v, hrd, rfl, htr⟩ | ⟨hrd, rfl⟩⟩
  · have HR := Lib.hid hrd
    clear hrd htr
    go_wp2
    go_ret
    exact ⟨ret_bool (by rw [HR.out]; rfl), hb1⟩
  · have HR := Lib.hid hrd
    clear hrd
    go_wp2
    go_ret
    exact ⟨ret_bool (by rw [HR.out]; rfl), hb1⟩
end Go.Proofs.YtbabdjcpmjfeoaaGreatDoor

