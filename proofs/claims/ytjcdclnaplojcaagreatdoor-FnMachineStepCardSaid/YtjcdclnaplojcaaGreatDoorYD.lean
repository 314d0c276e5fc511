/- The model's machine takes a closure, or opens. -/
import Derived.Test.YtjcdclnaplojcaaGreatDoorYC
import Derived.Deep.RegionLaw
import Derived.BigRegion
import Derived.Deep.AppendLies
import Derived.Deep.DrawnRows
namespace Go.Proofs.YtjcdclnaplojcaaGreatDoor
set_option linter.unusedVariables false
open Go.RowKit

theorem infoEnv7 : (Tryz.prog.info? 109).map (fun i => (i.zero, i.size, i.bytes)) = some (some (.agg #[.string ⟨#[]⟩, .bool false, .string ⟨#[]⟩, .slice none 0 0, .int .i64 0, .int .i64 0, .int .i64 0]), 7, 88) := by kernel_rfl

/-- What a move of the model's machine comes to. -/
def MvPost (P : Nat → Prop) (base sb : Nat) (S : St) (m : List Mv) (w w' : World) : Prop :=
  ∃ k S' a l E sv ev, mstep S = some (k, S') ∧ MS w' P base sb S' (m ++ [k]) a l E sv ev ∧ Below base w w'

theorem enCells_snoc (E : List En) (z : En) : enCells (E ++ [z]) = enCells E ++ z.cells := by simp [enCells]
theorem letters_snoc (m : List Mv) (k : Mv) : letters (m ++ [k]) = letters m ++ [k.letter] := by simp [letters]
theorem ClOk.lam {w : World} {P : Nat → Prop} {x : List UInt8} {b : Tm} {g i : Nat} {A0 A1 A2 : Option Addr} {n0 c0 n1 c1 n2 c2 : Nat} (h : (Tm.lam x b).ok) (h3 : Three w P g (.mk sLam []) (.mk x []) (tmTr b) A0 A1 A2 n0 c0 n1 c1 n2 c2) : ClOk w P ⟨b, A2, n2, c2, i⟩ := ⟨h.2, h3.t2⟩
theorem clCells_snoc (r : List Cl) (c : Cl) : clCells (c :: r).reverse = clCells r.reverse ++ c.cells := by
  simp [clCells]
theorem clCells_top (r : List Cl) (c : Cl) (j : Nat) (hj : j < 3) : (clCells (c :: r).reverse)[r.length * 3 + j]? = c.cells[j]? := by
  have := clCells_last r.reverse c j hj
  rw [List.length_reverse] at this
  rw [List.reverse_cons]
  exact this

set_option maxRecDepth 100000 in
set_option maxHeartbeats 8000000 in
theorem l7Lam_take (w : World) (P : Nat → Prop) (base sb : Nat) (x : List UInt8) (b : Tm) (e : Env) (tt : Tm) (te : Env) (st : List (Tm × Env)) (op : Nat) (m : List Mv) (a : Cl) (l : List Cl) (E : List En) (sv ev : Value)
    (h : MS w P base sb ⟨.lam x b, e, (tt, te) :: st, op⟩ m a l E sv ev) (hm : m.length ≤ 4000) :
    Calls Tryz.prog 92 #[.pointer (some ⟨sb, 0, none⟩), .agg #[.string ⟨(tmTr a.t).atom.toArray⟩, .slice a.A a.n a.c]] w fun q w' => q = .returned (.tuple #[]) ∧ MvPost P base sb ⟨.lam x b, e, (tt, te) :: st, op⟩ m w w' := by
  have H := Lib.hid h
  obtain ⟨at_, aA, an, ac, ai⟩ := a
  have e1 := h.at_
  simp only at e1
  subst e1
  obtain ⟨g, cap, A0, A1, A2, n0, c0, n1, c1, n2, c2, e2, hcap, h3⟩ := h.aok.2.three
  simp only [tmTr, Tr.atom] at e2
  injection e2 with e2
  simp only [Array.mk.injEq, List.cons.injEq, Value.slice.injEq, and_true, true_and] at e2
  obtain ⟨rfl, rfl, rfl⟩ := e2
  obtain ⟨⟨ct, cA, cn, cc, ci⟩, r, rfl, rfl, hce, hst⟩ := h.rs
  obtain ⟨gs, cs, rfl, hgs0, hgs, hcs⟩ := own_pos h.stk (by simp)
  obtain ⟨ge, ce, rfl, hge0, hge, hce'⟩ := own_pos h.env (by have := (List.getElem?_eq_some_iff.1 h.e0).1; omega)
  have hgb : g < base := h.lo g h3.pg
  have hsb := h.bs
  have bl := h.box.lt
  have hgw : g < w.heap.size := by omega
  have k2 : w.cell? ⟨g, 2, none⟩ = some (.string ⟨x.toArray⟩) := h3.k2
  have k4 : w.cell? ⟨g, 4, none⟩ = some (.string ⟨(tmTr b).atom.toArray⟩) := h3.k4
  have k5 := h3.k5
  have s0 := own_cell h.stk (clCells_top r _ 0 (by omega))
  have s1 := own_cell h.stk (clCells_top r _ 1 (by omega))
  have s2 := own_cell h.stk (clCells_top r _ 2 (by omega))
  rw [Nat.add_zero] at s0
  have b2 := h.box.cell 2
  have b3 := h.box.cell 3
  have b4 := h.box.cell 4
  have b6 := h.box.cell 6
  have b12 := h.box.cell 12
  have bf := h.box.frozen
  simp only [List.getElem?_toArray, List.getElem?_cons_zero, List.getElem?_cons_succ] at b2 b3 b4 b6 b12
  have hst1 := h.ok.st
  have hel := h.eln
  have hsum := mvN_sum m
  have hRL : r.length ≤ 4000 := by have := hst.len; simp only [List.length_cons] at hst1; omega
  have hMT : mvN .t m ≤ 4000 := by omega
  have hLL : (letters m).length ≤ 4000 := by simp only [letters, List.length_map]; exact hm
  generalize hTN : mvN .t m = tn at *
  generalize hLM : letters m = lm at *
  have HS1 := Lib.hid hst1
  have HEL := Lib.hid hel
  have HST := Lib.hid hst
  have H3 := Lib.hid h3
  have HM := Lib.hid hm
  have HCE := Lib.hid hce
  have HTN := Lib.hid hTN
  have HLM := Lib.hid hLM
  clear h hst1 hel hsum hst hce hTN hLM h3 hm
  simp only [List.length_cons] at b3 hcs ⊢
  rw [show (tmTr (.lam x b)).atom = [] from rfl]
  generalize hBA : (tmTr b).atom = ba at *
  generalize hCA : (tmTr ct).atom = ca at *
  have HBA := Lib.hid hBA
  have HCA := Lib.hid hCA
  clear hBA hCA
  go_enter Tryz.func92, Tryz.ntmps92
  go_wp2_with fail
  go_region
  all_goals
    go_wp2_with fail
  have hz1 : (E.length : Int) + 1 ≤ 5000 := by have := HEL.out; have := HM.out; omega
  rw [letter_on]
  have hs0 : w.ownsRow base 61 3 (.slice (some ⟨gs, 0, none⟩) r.length cs) r.reverse.length (clCells r.reverse) := by
    have := H.out.stk
    rw [clCells_snoc, List.length_cons] at this
    have := ownsRow_pop (by rw [clCells_len, List.length_reverse]) this
    rwa [List.length_reverse]
  have hb1 := H.out.box.set_ 3 (.slice (some ⟨gs, 0, none⟩) r.length cs)
  have hs1 := ownsRow_set hs0 H.out.box (by decide) 3 (.slice (some ⟨gs, 0, none⟩) r.length cs)
  have he1 := ownsRow_set H.out.env H.out.box (by decide) 3 (.slice (some ⟨gs, 0, none⟩) r.length cs)
  have hb2 := hb1.set_ 6 (.int .i64 (↑tn + 1))
  have hs2 := ownsRow_set hs1 hb1 (by decide) 6 (.int .i64 (↑tn + 1))
  have he2 := ownsRow_set he1 hb1 (by decide) 6 (.int .i64 (↑tn + 1))
  have hb3 := hb2.set_ 12 (.string ⟨(lm ++ [116]).toArray⟩)
  have hs3 := ownsRow_set hs2 hb2 (by decide) 12 (.string ⟨(lm ++ [116]).toArray⟩)
  have he3 := ownsRow_set he2 hb2 (by decide) 12 (.string ⟨(lm ++ [116]).toArray⟩)
  clear hs0 hb1 hs1 he1 hb2 hs2 he2
  have hB : Below base w (((w.setCell ⟨sb, 3, none⟩ (.slice (some ⟨gs, 0, none⟩) r.length cs)).setCell ⟨sb, 6, none⟩ (.int .i64 (↑tn + 1))).setCell ⟨sb, 12, none⟩ (.string ⟨(lm ++ [116]).toArray⟩)) := (((Below.refl _ _).setCell hsb _).setCell hsb _).setCell hsb _
  have hzw : w.heap.size = (((w.setCell ⟨sb, 3, none⟩ (.slice (some ⟨gs, 0, none⟩) r.length cs)).setCell ⟨sb, 6, none⟩ (.int .i64 (↑tn + 1))).setCell ⟨sb, 12, none⟩ (.string ⟨(lm ++ [116]).toArray⟩)).heap.size := by simp [World.setCell]
  generalize hWA : ((w.setCell ⟨sb, 3, none⟩ (.slice (some ⟨gs, 0, none⟩) r.length cs)).setCell ⟨sb, 6, none⟩ (.int .i64 (↑tn + 1))).setCell ⟨sb, 12, none⟩ (.string ⟨(lm ++ [116]).toArray⟩) = wa at *
  rw [hzw] at hgs hge bl hgw ⊢
  clear hWA b2 b3 b4 b6 b12 bf k2 k4 k5 s0 s1 s2
  simp at hb3
  have h3a := H3.out.below hB H.out.lo
  obtain ⟨i0, hinf, hz0, hzs, hzb⟩ := info_parts infoEnv7
  obtain ⟨sv, hsv⟩ : ∃ sv, sv = Value.slice (some ⟨gs, 0, none⟩) r.length cs := ⟨_, rfl⟩
  have hne1 : some sb ≠ (Value.slice (some ⟨ge, 0, none⟩) E.length ce).ownBlock := hb3.apart (by decide) he3
  have hne2 : (Value.slice (some ⟨gs, 0, none⟩) r.length cs).ownBlock = none ∨ (Value.slice (some ⟨gs, 0, none⟩) r.length cs).ownBlock ≠ (Value.slice (some ⟨ge, 0, none⟩) E.length ce).ownBlock := rows_apart hs3 he3 (by decide)
  have HF : Hid (∀ w1, (((wa.alloc (.cells #[.string ⟨#[]⟩, .slice (some ⟨g, 0, none⟩) 3 ac] 51)).alloc (.cells #[.string ⟨x.toArray⟩, .bool true, .string ⟨ca.toArray⟩, .slice cA cn cc, .int .i64 ↑ci, .int .i64 0, .int .i64 ↑ai] 109)).alloc (.cells #[.string ⟨x.toArray⟩, .bool true, .string ⟨ca.toArray⟩, .slice cA cn cc, .int .i64 ↑ci, .int .i64 0, .int .i64 ↑ai] 109)).drew.drew.grownBy w1 (Value.slice (some ⟨ge, 0, none⟩) E.length ce).ownBlock →
      (w1.cell? ⟨sb, 4, none⟩ = some (.slice (some ⟨ge, 0, none⟩) E.length ce) ∧ w1.cell? ⟨wa.heap.size, 1, none⟩ = some (.slice (some ⟨g, 0, none⟩) 3 ac) ∧ w1.cell? ⟨g, 4, none⟩ = some (.string ⟨ba.toArray⟩) ∧ w1.cell? ⟨g, 5, none⟩ = some (.slice A2 n2 c2) ∧ (∀ i, w1.frozen? ⟨sb, i, none⟩ = false) ∧ sb < w1.heap.size ∧ g < w1.heap.size ∧ wa.heap.size < w1.heap.size ∧ (∃ u, w1.cell? ⟨sb, 0, none⟩ = some u) ∧ (∃ u, w1.cell? ⟨sb, 1, none⟩ = some u) ∧ (∃ u, w1.cell? ⟨sb, 2, none⟩ = some u)) ∧
      Blk w1 sb 65 #[.string ⟨(tmTr (Tm.lam x b)).atom.toArray⟩, .slice (some ⟨g, 0, none⟩) 3 ac, .int .i64 ai, .slice (some ⟨gs, 0, none⟩) r.length cs, .slice (some ⟨ge, 0, none⟩) E.length ce,
        .int .i64 (mvN .p m : Nat), .int .i64 (↑tn + 1), .int .i64 (mvN .o m : Nat), .int .i64 (mvN .l m : Nat), .string ⟨#[]⟩, .int .i64 0, .int .i64 (mvN .o m : Nat), .string ⟨(lm ++ [116]).toArray⟩] ∧
      w1.ownsRow base 61 3 (.slice (some ⟨gs, 0, none⟩) r.length cs) r.reverse.length (clCells r.reverse) ∧ Below base w w1) := Lib.hid (fun w1 hg => by
    have q := (((hb3.alloc (.cells #[.string ⟨#[]⟩, .slice (some ⟨g, 0, none⟩) 3 ac] 51)).alloc (.cells #[.string ⟨x.toArray⟩, .bool true, .string ⟨ca.toArray⟩, .slice cA cn cc, .int .i64 ↑ci, .int .i64 0, .int .i64 ↑ai] 109)).alloc (.cells #[.string ⟨x.toArray⟩, .bool true, .string ⟨ca.toArray⟩, .slice cA cn cc, .int .i64 ↑ci, .int .i64 0, .int .i64 ↑ai] 109)).drew.drew.grown hg hne1
    have q1 := ((((Blk.new wa 51 #[.string ⟨#[]⟩, .slice (some ⟨g, 0, none⟩) 3 ac])).alloc (.cells #[.string ⟨x.toArray⟩, .bool true, .string ⟨ca.toArray⟩, .slice cA cn cc, .int .i64 ↑ci, .int .i64 0, .int .i64 ↑ai] 109)).alloc (.cells #[.string ⟨x.toArray⟩, .bool true, .string ⟨ca.toArray⟩, .slice cA cn cc, .int .i64 ↑ci, .int .i64 0, .int .i64 ↑ai] 109)).drew.drew.grown hg (by simp [Value.ownBlock]; omega)
    have qb : Below base w w1 := ((((hB.alloc (by omega) _).alloc (by simp; omega) _).alloc (by simp; omega) _).drew.drew).grown hg (by simp; omega) (by simp [Value.ownBlock]; omega)
    have q3 := H3.out.below qb H.out.lo
    have qs := (((hs3.alloc (.cells #[.string ⟨#[]⟩, .slice (some ⟨g, 0, none⟩) 3 ac] 51)).alloc (.cells #[.string ⟨x.toArray⟩, .bool true, .string ⟨ca.toArray⟩, .slice cA cn cc, .int .i64 ↑ci, .int .i64 0, .int .i64 ↑ai] 109)).alloc (.cells #[.string ⟨x.toArray⟩, .bool true, .string ⟨ca.toArray⟩, .slice cA cn cc, .int .i64 ↑ci, .int .i64 0, .int .i64 ↑ai] 109)).drew.drew.kept hg hne2
    refine ⟨⟨q.cell 4, q1.cell 1, HBA.out ▸ q3.k4, q3.k5, q.frozen, q.lt, by have := q.lt; have := qb.size; omega, q1.lt, ⟨_, q.cell 0⟩, ⟨_, q.cell 1⟩, ⟨_, q.cell 2⟩⟩, q, qs, qb⟩)
  have HFIN : Hid (∀ w1 g2 c2', w1.ownsRow base 109 7 (.slice (some ⟨g2, 0, none⟩) (E.length + 1) c2') (E.length + 1) (enCells E ++ (#[.string ⟨x.toArray⟩, .bool true, .string ⟨ca.toArray⟩, .slice cA cn cc, .int .i64 ↑ci, .int .i64 0, .int .i64 ↑ai] : Array Value).toList) → ((((wa.alloc (.cells #[.string ⟨#[]⟩, .slice (some ⟨g, 0, none⟩) 3 ac] 51)).alloc (.cells #[.string ⟨x.toArray⟩, .bool true, .string ⟨ca.toArray⟩, .slice cA cn cc, .int .i64 ↑ci, .int .i64 0, .int .i64 ↑ai] 109)).alloc (.cells #[.string ⟨x.toArray⟩, .bool true, .string ⟨ca.toArray⟩, .slice cA cn cc, .int .i64 ↑ci, .int .i64 0, .int .i64 ↑ai] 109)).drew.drew).grownBy w1 (Value.slice (some ⟨ge, 0, none⟩) E.length ce).ownBlock →
      MvPost P base sb ⟨.lam x b, e, (ct, te) :: st, op⟩ m w (((((w1.setCell ⟨sb, 4, none⟩ (.slice (some ⟨g2, 0, none⟩) (E.length + 1) c2')).setCell ⟨sb, 0, none⟩ (.string ⟨ba.toArray⟩)).setCell ⟨sb, 1, none⟩ (.slice A2 n2 c2)).setCell ⟨sb, 2, none⟩ (.int .i64 E.length)).drew)) := Lib.hid (fun w1 g2 c2' ho hg => by
    obtain ⟨_, q, qs, qb⟩ := HF.out w1 hg
    have o1 := ownsRow_set ho q (by decide) 4 (.slice (some ⟨g2, 0, none⟩) (E.length + 1) c2')
    have s1 := ownsRow_set qs q (by decide) 4 (.slice (some ⟨g2, 0, none⟩) (E.length + 1) c2')
    have q1 := q.set_ 4 (.slice (some ⟨g2, 0, none⟩) (E.length + 1) c2')
    have o2 := ownsRow_set o1 q1 (by decide) 0 (.string ⟨ba.toArray⟩)
    have s2 := ownsRow_set s1 q1 (by decide) 0 (.string ⟨ba.toArray⟩)
    have q2 := q1.set_ 0 (.string ⟨ba.toArray⟩)
    have o3 := ownsRow_set o2 q2 (by decide) 1 (.slice A2 n2 c2)
    have s3 := ownsRow_set s2 q2 (by decide) 1 (.slice A2 n2 c2)
    have q3 := q2.set_ 1 (.slice A2 n2 c2)
    have o4 := (ownsRow_set o3 q3 (by decide) 2 (.int .i64 E.length)).drew
    have s4 := (ownsRow_set s3 q3 (by decide) 2 (.int .i64 E.length)).drew
    have q4 := (q3.set_ 2 (.int .i64 E.length)).drew
    have qB : Below base w (((((w1.setCell ⟨sb, 4, none⟩ (.slice (some ⟨g2, 0, none⟩) (E.length + 1) c2')).setCell ⟨sb, 0, none⟩ (.string ⟨ba.toArray⟩)).setCell ⟨sb, 1, none⟩ (.slice A2 n2 c2)).setCell ⟨sb, 2, none⟩ (.int .i64 E.length)).drew) := ((((qb.setCell hsb _).setCell hsb _).setCell hsb _).setCell hsb _).drew
    clear o1 o2 o3 s1 s2 s3 q1 q2 q3 q qs qb
    rw [List.length_reverse] at s4
    refine ⟨.t, ⟨b, .clo x ct te e, st, op⟩, ⟨b, A2, n2, c2, E.length⟩, r, E ++ [⟨x, some ⟨ct, cA, cn, cc, ci⟩, 0, ai⟩], .slice (some ⟨gs, 0, none⟩) r.length cs, .slice (some ⟨g2, 0, none⟩) (E.length + 1) c2', rfl, ?_, qB⟩
    have hE0 : 0 < E.length := (List.getElem?_eq_some_iff.1 H.out.e0).1
    refine ⟨?_, s4, ?_, rfl, ⟨by simpa using hE0, ⟨ct, cA, cn, cc, ci⟩, ai, ?_, rfl, HCE.out.more _, H.out.re.more _⟩, HST.out.more _, ?_, ?_, ?_, ?_, ?_, H.out.ok.step rfl, H.out.lo, hsb⟩
    · have e1 : mvN .p (m ++ [.t]) = mvN .p m := by simp [mvN_snoc, Mv.code]
      have e2 : mvN .t (m ++ [.t]) = tn + 1 := by rw [mvN_snoc, HTN.out]; simp
      have e3 : mvN .o (m ++ [.t]) = mvN .o m := by simp [mvN_snoc, Mv.code]
      have e4 : mvN .l (m ++ [.t]) = mvN .l m := by simp [mvN_snoc, Mv.code]
      rw [e1, e2, e3, e4, letters_snoc, HLM.out, HBA.out]
      simpa [Mv.letter] using q4
    · rw [List.length_append, List.length_singleton, enCells_snoc]
      have : (⟨x, some ⟨ct, cA, cn, cc, ci⟩, 0, ai⟩ : En).cells = (#[.string ⟨x.toArray⟩, .bool true, .string ⟨ca.toArray⟩, .slice cA cn cc, .int .i64 ↑ci, .int .i64 0, .int .i64 ↑ai] : Array Value).toList := by simp [En.cells, HCA.out]
      rw [this]
      exact o4
    · simp
    · rw [List.getElem?_append_left hE0]; exact H.out.e0
    · exact ClOk.lam H.out.aok.1 (H3.out.below qB H.out.lo)
    · exact fun c hc => (H.out.lok c (List.mem_cons_of_mem _ hc)).below qB H.out.lo
    · intro i z c hz hc
      rcases Nat.lt_or_ge i E.length with hi | hi
      · rw [List.getElem?_append_left hi] at hz
        exact (H.out.eok i z c hz hc).below qB H.out.lo
      · rw [List.getElem?_append_right hi] at hz
        have hi0 : i - E.length = 0 := by
          have := (List.getElem?_eq_some_iff.1 hz).1
          simp at this
          omega
        rw [hi0] at hz
        simp at hz
        subst hz
        injection hc with hc
        subst hc
        exact (H.out.lok _ (List.mem_cons_self ..)).below qB H.out.lo
    · have := HEL.out
      simp
      omega)
  have p4 : wa.cell? ⟨sb, 4, none⟩ = some (.slice (some ⟨ge, 0, none⟩) E.length ce) := hb3.cell 4
  have bl1 : sb < wa.heap.size + 1 := by omega
  have bl2 : sb < wa.heap.size + 2 := by omega
  have bl3 : sb < wa.heap.size + 1 + 1 := by omega
  clear hne1 hne2 hb3 hs3 h3a hsv
  have HE3 := Lib.hid he3
  have HB := Lib.hid hB
  clear he3 hB
  have hEL : E.length ≤ 5000 := by omega
  have HN : Hid (∀ j u, (#[.string ⟨x.toArray⟩, .bool true, .string ⟨ca.toArray⟩, .slice cA cn cc, .int .i64 ↑ci, .int .i64 0, .int .i64 ↑ai] : Array Value).toList[j]? = some u → ((((wa.alloc (.cells #[.string ⟨#[]⟩, .slice (some ⟨g, 0, none⟩) 3 ac] 51)).alloc (.cells #[.string ⟨x.toArray⟩, .bool true, .string ⟨ca.toArray⟩, .slice cA cn cc, .int .i64 ↑ci, .int .i64 0, .int .i64 ↑ai] 109)).alloc (.cells #[.string ⟨x.toArray⟩, .bool true, .string ⟨ca.toArray⟩, .slice cA cn cc, .int .i64 ↑ci, .int .i64 0, .int .i64 ↑ai] 109)).drew.drew).cell? ((⟨wa.heap.size + 2, 0, none⟩ : Addr).add j) = some u) := Lib.hid (World.news_of_block (t := 109) (fr := (0, 0)) (by
    have h := heap_alloc_new ((wa.alloc (.cells #[.string ⟨#[]⟩, .slice (some ⟨g, 0, none⟩) 3 ac] 51)).alloc (.cells #[.string ⟨x.toArray⟩, .bool true, .string ⟨ca.toArray⟩, .slice cA cn cc, .int .i64 ↑ci, .int .i64 0, .int .i64 ↑ai] 109)) (.cells #[.string ⟨x.toArray⟩, .bool true, .string ⟨ca.toArray⟩, .slice cA cn cc, .int .i64 ↑ci, .int .i64 0, .int .i64 ↑ai] 109)
    rw [show ((wa.alloc (.cells #[.string ⟨#[]⟩, .slice (some ⟨g, 0, none⟩) 3 ac] 51)).alloc (.cells #[.string ⟨x.toArray⟩, .bool true, .string ⟨ca.toArray⟩, .slice cA cn cc, .int .i64 ↑ci, .int .i64 0, .int .i64 ↑ai] 109)).heap.size = wa.heap.size + 2 from by simp] at h
    exact h))
  have HZ : Hid (((((wa.alloc (.cells #[.string ⟨#[]⟩, .slice (some ⟨g, 0, none⟩) 3 ac] 51)).alloc (.cells #[.string ⟨x.toArray⟩, .bool true, .string ⟨ca.toArray⟩, .slice cA cn cc, .int .i64 ↑ci, .int .i64 0, .int .i64 ↑ai] 109)).alloc (.cells #[.string ⟨x.toArray⟩, .bool true, .string ⟨ca.toArray⟩, .slice cA cn cc, .int .i64 ↑ci, .int .i64 0, .int .i64 ↑ai] 109)).drew.drew).heap.size = wa.heap.size + 3) := Lib.hid (by simp)
  have HO : Hid (∀ u ∈ (#[.string ⟨x.toArray⟩, .bool true, .string ⟨ca.toArray⟩, .slice cA cn cc, .int .i64 ↑ci, .int .i64 0, .int .i64 ↑ai] : Array Value).toList, u.oneCell' = true) := Lib.hid (by simp [Value.oneCell'])
  have HBS : Hid (base ≤ ((((wa.alloc (.cells #[.string ⟨#[]⟩, .slice (some ⟨g, 0, none⟩) 3 ac] 51)).alloc (.cells #[.string ⟨x.toArray⟩, .bool true, .string ⟨ca.toArray⟩, .slice cA cn cc, .int .i64 ↑ci, .int .i64 0, .int .i64 ↑ai] 109)).alloc (.cells #[.string ⟨x.toArray⟩, .bool true, .string ⟨ca.toArray⟩, .slice cA cn cc, .int .i64 ↑ci, .int .i64 0, .int .i64 ↑ai] 109)).drew.drew).heap.size) := Lib.hid (by simp; omega)
  go_region_law ((refine step_append_lies _ (by rfl) _ _ _ (by rfl) base 109 i0 (.agg #[.string ⟨#[]⟩, .bool false, .string ⟨#[]⟩, .slice none 0 0, .int .i64 0, .int .i64 0, .int .i64 0]) 7 88 Tryz.underlying63 hinf hz0 hzs hzb rfl (by omega) (.slice (some ⟨ge, 0, none⟩) E.length ce) E.length (enCells E) (by rfl) (((HE3.out.alloc _).alloc _).alloc _).drew.drew ⟨wa.heap.size + 2, 0, none⟩ 1 1 (#[.string ⟨x.toArray⟩, .bool true, .string ⟨ca.toArray⟩, .slice cA cn cc, .int .i64 ↑ci, .int .i64 0, .int .i64 ↑ai] : Array Value).toList (by rfl) (by rfl) HN.out HO.out (by omega) (by unfold maxLen; omega) (by omega) HBS.out (wa.heap.size + 3) HZ.out ?_; intro g2 c2' w1 hown1 hgrow hat2 hlt2; have hF := (HF.out _ hgrow).1; obtain ⟨f1, f2, f3, f4, f5, f6, f7, f8, ⟨u0, f9⟩, ⟨u1, f10⟩, ⟨u2, f11⟩⟩ := hF))
  all_goals
    have f12 : (E.length : Int) + 1 - 1 = (E.length : Int) := by omega
    go_wp2_with fail
    go_region
    all_goals
      go_wp2_with fail
      go_end0
      exact ⟨rfl, HFIN.out _ _ _ hown1 hgrow⟩
end Go.Proofs.YtjcdclnaplojcaaGreatDoor
