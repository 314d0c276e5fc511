/- The model's machine moves: a lam, a name. The model's run of a text. What is answered of a run. -/
import Derived.Test.YtjcdclnaplojcaaGreatDoorYF
import Derived.BigQuiet
import Derived.Laws.ResultCell
import Derived.BigRegion
namespace Go.Proofs.YtjcdclnaplojcaaGreatDoor
set_option linter.unusedVariables false
set_option linter.unusedSimpArgs false
open Go.RowKit

/-- The place where a name is found. -/
def ixOf (E : List En) (x : List UInt8) : Env → Nat → Nat
  | .nil, i => i
  | .clo y _ _ r, i => if y = x then i else ixOf E x r ((E[i]?.map En.r).getD 0)
  | .opn y _ r, i => if y = x then i else ixOf E x r ((E[i]?.map En.r).getD 0)
theorem RE.ixo {E : List En} {e : Env} {i : Nat} (h : RE E e i) (x : List UInt8) : (e = .nil ∧ i = 0) ∨ (0 < i ∧ ∃ z, E[i]? = some z ∧ e.names = z.x :: e.out.names ∧ RE E e.out z.r ∧ (ixOf E x e i = if z.x = x then i else ixOf E x e.out z.r)) := by
  cases e with
  | nil => exact .inl ⟨rfl, h⟩
  | clo y t e r => obtain ⟨h0, c, j, h1, h2, h3, h4⟩ := h; exact .inr ⟨h0, _, h1, rfl, h4, by simp only [ixOf, Env.out, h1, Option.map_some, Option.getD_some]⟩
  | opn y k r => obtain ⟨h0, j, h1, h2⟩ := h; exact .inr ⟨h0, _, h1, rfl, h2, by simp only [ixOf, Env.out, h1, Option.map_some, Option.getD_some]⟩
theorem RE.found {E : List En} (x : List UInt8) : ∀ {e : Env} {i : Nat}, RE E e i → RE E (e.look x) (ixOf E x e i) := by
  intro e
  induction e with
  | nil => intro i h; exact h
  | clo y t e r _ ih =>
    intro i h
    obtain ⟨h0, c, j, h1, h2, h3, h4⟩ := h
    simp only [Env.look, ixOf, h1, Option.map_some, Option.getD_some]
    split
    · exact ⟨h0, c, j, h1, h2, h3, h4⟩
    · exact ih h4
  | opn y k r ih =>
    intro i h
    obtain ⟨h0, j, h1, h2⟩ := h
    simp only [Env.look, ixOf, h1, Option.map_some, Option.getD_some]
    split
    · exact ⟨h0, j, h1, h2⟩
    · exact ih h2

set_option maxRecDepth 100000 in
set_option maxHeartbeats 2000000 in
theorem l7Look_q (E : List En) (e : Env) (i : Nat) (x : List UInt8) (w : World) (sb base : Nat) (ev : Value) (hc : w.cell? ⟨sb, 4, none⟩ = some ev) (hsb : sb < w.heap.size)
    (hrow : w.ownsRow base 109 7 ev E.length (enCells E)) (hre : RE E e i) (h0 : 0 < E.length) (hE : E.length ≤ 10000) :
    Calls Tryz.prog 61 #[.pointer (some ⟨sb, 0, none⟩), .int .i64 (i : Nat), .string ⟨x.toArray⟩] w fun q w' => q = .returned (.int .i64 (ixOf E x e i : Nat)) ∧ w' = w := by
  obtain ⟨g, c, rfl, _, hg, hcap⟩ := own_pos hrow h0
  have HR := Lib.hid hrow
  have HE := Lib.hid hre
  clear hrow
  go_enter Tryz.func61, Tryz.ntmps61
  go_wp2_with fail
  go_loopg [1] e.names.length (fun q v wr => ∃ (e' : Env) (j : Nat), q = e'.names.length ∧ v = .int .i64 (j : Nat) ∧ wr = w ∧ Hid (RE E e' j ∧ ixOf E x e' j = ixOf E x e i))
  case atStart => exact ⟨e, i, rfl, rfl, rfl, Lib.hid ⟨HE.out, rfl⟩⟩
  case round =>
    obtain ⟨e', j, hq, rfl, rfl, HT⟩ := hrel
    have HQ := Lib.hid hq
    clear hq
    have hjl := HT.out.1.lt h0
    rcases HT.out.1.ixo x with ⟨he, hj⟩ | ⟨hj, z, hz, hn, hr, hl⟩
    · have H1 := Lib.hid he
      subst hj
      clear he
      have H2 : Hid (ixOf E x e i = 0) := Lib.hid (by rw [← HT.out.2, H1.out]; rfl)
      go_wp2
      go_ret
      exact ⟨ret_int (by rw [H2.out]), rfl⟩
    · have hrl := hr.lt h0
      have HN := Lib.hid hn
      have HZ := Lib.hid hr
      have HL := Lib.hid hl
      have k0 := own_cell HR.out (j := j * 7 + 0) (u := .string ⟨z.x.toArray⟩) (by rw [enCells_at E j 0 z hz (by omega)]; exact z.at0)
      have k6 := own_cell HR.out (j := j * 7 + 6) (u := .int .i64 z.r) (by rw [enCells_at E j 6 z hz (by omega)]; exact z.at6)
      rw [Nat.add_zero] at k0
      have hd1 : decide ((0 : Int) < (j : Int)) = true := by simpa using hj
      clear hz hn hr hl
      cases hb : z.x == x with
      | true =>
        have HB := Lib.hid (beq_iff_eq.1 hb)
        have H2 : Hid (ixOf E x e i = j) := Lib.hid (by rw [← HT.out.2, HL.out, if_pos HB.out])
        go_wp2
        go_ret
        exact ⟨ret_int (by rw [H2.out]), rfl⟩
      | false =>
        have HB := Lib.hid (beq_eq_false_iff_ne.1 hb)
        go_wp2
        go_roundg e'.out.names.length
        case rel =>
          refine ⟨e'.out, z.r, rfl, rfl, rfl, Lib.hid ⟨HZ.out, ?_⟩⟩
          rw [← HT.out.2, HL.out, if_neg HB.out]
        case measure => rw [HQ.out, HN.out]; simp

theorem MvPost.from {P : Nat → Prop} {base sb : Nat} {S : St} {m : List Mv} {w w1 w2 : World} (h : MvPost P base sb S m w1 w2) (hb : Below base w w1) : MvPost P base sb S m w w2 := by
  obtain ⟨k, S', a, l, E, sv, ev, h1, h2, h3⟩ := h
  exact ⟨k, S', a, l, E, sv, ev, h1, h2, hb.trans h3⟩

set_option maxRecDepth 100000 in
set_option maxHeartbeats 4000000 in
theorem l7Move_lam (w : World) (P : Nat → Prop) (base sb : Nat) (x : List UInt8) (b : Tm) (e : Env) (st : List (Tm × Env)) (op : Nat) (m : List Mv) (a : Cl) (l : List Cl) (E : List En) (sv ev : Value)
    (h : MS w P base sb ⟨.lam x b, e, st, op⟩ m a l E sv ev) (hm : m.length ≤ 4000) :
    Calls Tryz.prog 55 #[.pointer (some ⟨sb, 0, none⟩)] w (MqPost P base sb ⟨.lam x b, e, st, op⟩ m w) := by
  have LC : ∀ w1, MS w1 P base sb ⟨.lam x b, e, st, op⟩ m a l E sv ev → Calls Tryz.prog 92 #[.pointer (some ⟨sb, 0, none⟩), .agg #[.string ⟨(tmTr a.t).atom.toArray⟩, .slice a.A a.n a.c]] w1 fun q w' => q = .returned (.tuple #[]) ∧ MvPost P base sb ⟨.lam x b, e, st, op⟩ m w1 w' := by
    intro w1 h1
    cases st with
    | nil => exact l7Lam_open w1 P base sb x b e op m a l E sv ev h1 hm
    | cons p st => exact l7Lam_take w1 P base sb x b e p.1 p.2 st op m a l E sv ev h1 hm
  obtain ⟨at_, aA, an, ac, ai⟩ := a
  have e1 := h.at_
  simp only at e1
  subst e1
  obtain ⟨g, cap, A0, A1, A2, n0, c0, n1, c1, n2, c2, e2, hcap, h3⟩ := h.aok.2.three
  simp only [tmTr, Tr.atom] at e2
  injection e2 with e2
  simp only [Array.mk.injEq, List.cons.injEq, Value.slice.injEq, and_true, true_and] at e2
  obtain ⟨rfl, rfl, rfl⟩ := e2
  have hgb : g < base := h.lo g h3.pg
  have hsb := h.bs
  have bl0 := h.box.lt
  have hgw0 : g < w.heap.size := by omega
  have b0 := h.box.cell 0
  have b1 := h.box.cell 1
  simp only [List.getElem?_toArray, List.getElem?_cons_zero, List.getElem?_cons_succ] at b0 b1
  rw [show (tmTr (.lam x b)).atom = [] from rfl] at b0
  simp only [show (tmTr (.lam x b)).atom = [] from rfl] at LC
  have HLC := Lib.hid LC
  have a3 := h3.alloc (fun b hb => by have := h.lo b hb; omega) (.cells #[.string ⟨#[]⟩, .slice (some ⟨g, 0, none⟩) 3 ac] 51)
  have H0 := Lib.hid h
  have HP : Hid (∀ b, P b → b < w.heap.size) := Lib.hid (fun b hb => by have := h.lo b hb; omega)
  clear h hm h3 LC
  go_enter Tryz.func55, Tryz.ntmps55
  go_wp2_with fail
  refine (l1Head3 _ P g ac (.mk sLam []) (.mk x []) (tmTr b) A0 A1 A2 n0 c0 n1 c1 n2 c2 a3 (fun b hb => by have := HP.out b hb; simp; omega)).mono ?_
  rintro e' w1 ⟨rfl, hb1⟩
  have hB1 : Below w.heap.size w w1 := ((Below.refl _ _).alloc (Nat.le_refl _) _).trans (hb1.mono (by simp))
  have hr := (Blk.new w 51 #[.string ⟨#[]⟩, .slice (some ⟨g, 0, none⟩) 3 ac]).below hb1 (by simp)
  have h := Lib.hid (H0.out.below hB1)
  have HB1 := Lib.hid hB1
  have r0 := hr.cell 0
  have r1 := hr.cell 1
  have rl := hr.lt
  simp only [List.getElem?_toArray, List.getElem?_cons_zero, List.getElem?_cons_succ] at r0 r1
  clear b0 b1 a3 hb1 hB1 hr
  have hl : (sLam == [97, 112, 112]) = false := rfl
  have hl2 : (sLam == [108, 97, 109]) = true := rfl
  simp only [Tr.atom]
  go_wp2_with fail
  refine (HLC.out w1 h.out).mono ?_
  rintro e' w2 ⟨rfl, hp⟩
  have HPO := Lib.hid (hp.from (HB1.out.mono (by omega)))
  clear hp
  go_wp2_with fail
  go_ret
  exact .inl ⟨rfl, HPO.out⟩
theorem below_drewN'' {B : Nat} {a w : World} (h : Below B a w) (n : Nat) : Below B a (w.drewN n) := ⟨h.os, h.tape, h.output, h.size, h.block⟩
theorem En.at1 (e : En) : e.cells[1]? = some (.bool e.c.isSome) := by unfold En.cells; split <;> rename_i h <;> simp [h]
theorem En.at2 (e : En) (c : Cl) (h : e.c = some c) : e.cells[2]? = some (.string ⟨(tmTr c.t).atom.toArray⟩) ∧ e.cells[3]? = some (.slice c.A c.n c.c) ∧ e.cells[4]? = some (.int .i64 c.i) := by unfold En.cells; rw [h]; exact ⟨rfl, rfl, rfl⟩
/-- What is found at the place of a name. -/
theorem RE.none_ {E : List En} {e : Env} {k : Nat} (h : RE E e k) (h0 : E[0]? = some ⟨[], none, 0, 0⟩) (hn : ∀ y t e' r, e ≠ .clo y t e' r) : ∃ z, E[k]? = some z ∧ z.c = none := by
  cases e with
  | nil => cases h; exact ⟨_, h0, rfl⟩
  | clo y t e' r => exact absurd rfl (hn y t e' r)
  | opn y j r => obtain ⟨_, q, h1, _⟩ := h; exact ⟨_, h1, rfl⟩

set_option maxRecDepth 100000 in
set_option maxHeartbeats 4000000 in
theorem l7Move_var (w : World) (P : Nat → Prop) (base sb : Nat) (x : List UInt8) (e : Env) (st : List (Tm × Env)) (op : Nat) (m : List Mv) (a : Cl) (l : List Cl) (E : List En) (sv ev : Value)
    (h : MS w P base sb ⟨.var x, e, st, op⟩ m a l E sv ev) (hm : m.length ≤ 4000) :
    Calls Tryz.prog 55 #[.pointer (some ⟨sb, 0, none⟩)] w (MqPost P base sb ⟨.var x, e, st, op⟩ m w) := by
  obtain ⟨at_, aA, an, ac, ai⟩ := a
  have e1 := h.at_
  simp only at e1
  subst e1
  have hxn : x ≠ [] := isNm_ne x h.aok.1
  have hsb := h.bs
  have bl0 := h.box.lt
  have b0 := h.box.cell 0
  have b1 := h.box.cell 1
  simp only [List.getElem?_toArray, List.getElem?_cons_zero, List.getElem?_cons_succ] at b0 b1
  rw [show (tmTr (.var x)).atom = x from rfl] at b0
  have H0 := Lib.hid h
  have HP : Hid (∀ b, P b → b < w.heap.size) := Lib.hid (fun b hb => by have := h.lo b hb; omega)
  have HM := Lib.hid hm
  have hT := h.aok.2.alloc HP.out (.cells #[.string ⟨x.toArray⟩, .slice aA an ac] 51)
  have HX := Lib.hid hxn
  clear h hm hxn
  go_enter Tryz.func55, Tryz.ntmps55
  go_wp2_with fail
  refine (l1Head_any (tmTr (.var x)) _ _ P hT (fun b hb => by have := HP.out b hb; simp; omega)).mono ?_
  rintro e' w1 ⟨rfl, hb1⟩
  rw [if_pos (show (tmTr (.var x)).atom ≠ [] from HX.out)]
  have hB1 : Below w.heap.size w w1 := ((Below.refl _ _).alloc (Nat.le_refl _) _).trans (hb1.mono (by simp))
  have hr := (Blk.new w 51 #[.string ⟨x.toArray⟩, .slice aA an ac]).below hb1 (by simp)
  have h := H0.out.below hB1
  have HB1 := Lib.hid hB1
  have r0 := hr.cell 0
  have rl := hr.lt
  have bl := h.box.lt
  have d0 := h.box.cell 0
  have d1 := h.box.cell 1
  have d9 := h.box.cell 9
  have d10 := h.box.cell 10
  have b2 := h.box.cell 2
  have b3 := h.box.cell 3
  have b4 := h.box.cell 4
  have b8 := h.box.cell 8
  have b12 := h.box.cell 12
  have bf := h.box.frozen
  simp only [List.getElem?_toArray, List.getElem?_cons_zero, List.getElem?_cons_succ] at r0 d0 d1 d9 d10 b2 b3 b4 b8 b12
  clear b0 b1 hT hb1 hB1 hr
  have hE0 : 0 < E.length := (List.getElem?_eq_some_iff.1 h.e0).1
  have heln := h.eln
  have hEL : E.length ≤ 5000 := by have := HM.out; omega
  obtain ⟨ge, ce, hev, hge0, hge, hce⟩ := own_pos h.env hE0
  subst hev
  obtain ⟨gs, cs, hsv⟩ := own_shape h.stk
  subst hsv
  have LC : Hid (∀ n : Nat, Calls Tryz.prog 61 #[.pointer (some ⟨sb, 0, none⟩), .int .i64 (ai : Nat), .string ⟨x.toArray⟩] (w1.drewN n) fun q w2 => q = .returned (.int .i64 (ixOf E x e ai : Nat)) ∧ w2 = w1.drewN n) := Lib.hid (fun n => l7Look_q E e ai x (w1.drewN n) sb base _ b4 bl h.env h.re hE0 (by omega))
  have hre := h.re.found x
  have hkl := hre.lt hE0
  have hst1 := h.ok.st
  have hsum := mvN_sum m
  have hrsl := h.rs.len
  have hRL : l.length ≤ 4000 := by have := HM.out; simp only at hst1 hrsl; omega
  have hLN : mvN .l m ≤ 4000 := by have := HM.out; omega
  have hLL : (letters m).length ≤ 4000 := by have := HM.out; simp only [letters, List.length_map]; exact this
  generalize hK : ixOf E x e ai = k at *
  generalize hLM : letters m = lm at *
  generalize hLN' : mvN .l m = ln at *
  have HLM := Lib.hid hLM
  have HLN := Lib.hid hLN'
  have H := Lib.hid h
  have HRE := Lib.hid hre
  have HRS := Lib.hid hrsl
  clear h hre hLM hLN' hst1 hsum hrsl heln hK
  have hl : (([] : List UInt8) == [97, 112, 112]) = false := rfl
  have hl2 : (([] : List UInt8) == [108, 97, 109]) = false := rfl
  by_cases hcl : ∃ y t e' r, e.look x = .clo y t e' r
  · obtain ⟨y, t, e', r, hlk⟩ := hcl
    obtain ⟨_, c, j, hz, hct, hre2, _⟩ := (show RE E (.clo y t e' r) k from hlk ▸ HRE.out)
    obtain ⟨c_t, cA, cn, cc, ci⟩ := c
    simp only at hct hre2
    subst hct
    obtain ⟨z2, z3, z4⟩ := En.at2 ⟨y, some ⟨c_t, cA, cn, cc, ci⟩, 0, j⟩ _ rfl
    have f1 := own_cell H.out.env (j := k * 7 + 1) (u := .bool true) (by rw [enCells_at E k 1 _ hz (by omega), En.at1]; rfl)
    have f2 := own_cell H.out.env (j := k * 7 + 2) (by rw [enCells_at E k 2 _ hz (by omega)]; exact z2)
    have f3 := own_cell H.out.env (j := k * 7 + 3) (by rw [enCells_at E k 3 _ hz (by omega)]; exact z3)
    have f4 := own_cell H.out.env (j := k * 7 + 4) (by rw [enCells_at E k 4 _ hz (by omega)]; exact z4)
    simp only at f2 f3 f4
    have HOK := Lib.hid (H.out.eok k _ _ hz rfl)
    have HLK := Lib.hid hlk
    have HR2 := Lib.hid hre2
    clear hz z2 z3 z4 hlk hre2
    have HFIN : Hid (∀ nq : Nat, MvPost P base sb ⟨.var x, e, st, op⟩ m w ((((((w1.drewN nq).setCell ⟨sb, 0, none⟩ (.string ⟨(tmTr c_t).atom.toArray⟩)).setCell ⟨sb, 1, none⟩ (.slice cA cn cc)).setCell ⟨sb, 2, none⟩ (.int .i64 ci)).setCell ⟨sb, 8, none⟩ (.int .i64 (↑ln + 1))).setCell ⟨sb, 12, none⟩ (.string ⟨(lm ++ [108]).toArray⟩))) := Lib.hid (fun nq => by
      have q0 := H.out.box.drewN nq
      have o0 : (w1.drewN nq).ownsRow base 109 7 (.slice (some ⟨ge, 0, none⟩) E.length ce) E.length (enCells E) := H.out.env
      have s0 : (w1.drewN nq).ownsRow base 61 3 (.slice gs l.length cs) l.length (clCells l.reverse) := H.out.stk
      have q1 := q0.set_ 0 (.string ⟨(tmTr c_t).atom.toArray⟩)
      have o1 := ownsRow_set o0 q0 (by decide) 0 (.string ⟨(tmTr c_t).atom.toArray⟩)
      have s1 := ownsRow_set s0 q0 (by decide) 0 (.string ⟨(tmTr c_t).atom.toArray⟩)
      have q2 := q1.set_ 1 (.slice cA cn cc)
      have o2 := ownsRow_set o1 q1 (by decide) 1 (.slice cA cn cc)
      have s2 := ownsRow_set s1 q1 (by decide) 1 (.slice cA cn cc)
      have q3 := q2.set_ 2 (.int .i64 ci)
      have o3 := ownsRow_set o2 q2 (by decide) 2 (.int .i64 ci)
      have s3 := ownsRow_set s2 q2 (by decide) 2 (.int .i64 ci)
      have q4 := q3.set_ 8 (.int .i64 (↑ln + 1))
      have o4 := ownsRow_set o3 q3 (by decide) 8 (.int .i64 (↑ln + 1))
      have s4 := ownsRow_set s3 q3 (by decide) 8 (.int .i64 (↑ln + 1))
      have q5 := q4.set_ 12 (.string ⟨(lm ++ [108]).toArray⟩)
      have o5 := ownsRow_set o4 q4 (by decide) 12 (.string ⟨(lm ++ [108]).toArray⟩)
      have s5 := ownsRow_set s4 q4 (by decide) 12 (.string ⟨(lm ++ [108]).toArray⟩)
      have hl1 : ∀ b, P b → b < w1.heap.size := fun b hb => by have := H.out.lo b hb; omega
      have qB1 : Below base w1 ((((((w1.drewN nq).setCell ⟨sb, 0, none⟩ (.string ⟨(tmTr c_t).atom.toArray⟩)).setCell ⟨sb, 1, none⟩ (.slice cA cn cc)).setCell ⟨sb, 2, none⟩ (.int .i64 ci)).setCell ⟨sb, 8, none⟩ (.int .i64 (↑ln + 1))).setCell ⟨sb, 12, none⟩ (.string ⟨(lm ++ [108]).toArray⟩)) := (((((below_drewN'' (Below.refl _ _) nq).setCell hsb _).setCell hsb _).setCell hsb _).setCell hsb _).setCell hsb _
      refine ⟨.l, ⟨c_t, e', st, op⟩, ⟨c_t, cA, cn, cc, ci⟩, l, E, _, _, by simp only [mstep, HLK.out], ⟨?_, s5, o5, rfl, HR2.out, H.out.rs, H.out.e0, HOK.out.below qB1 H.out.lo, fun c hc => (H.out.lok c hc).below qB1 H.out.lo, fun i z c hz hc => (H.out.eok i z c hz hc).below qB1 H.out.lo, ?_, H.out.ok.step (by simp only [mstep, HLK.out]), H.out.lo, hsb⟩, (HB1.out.mono (by omega)).trans qB1⟩
      · have e1 : mvN .p (m ++ [.l]) = mvN .p m := by simp [mvN_snoc, Mv.code]
        have e2 : mvN .t (m ++ [.l]) = mvN .t m := by simp [mvN_snoc, Mv.code]
        have e3 : mvN .o (m ++ [.l]) = mvN .o m := by simp [mvN_snoc, Mv.code]
        have e4 : mvN .l (m ++ [.l]) = ln + 1 := by rw [mvN_snoc, HLN.out]; simp
        rw [e1, e2, e3, e4, letters_snoc, HLM.out]
        simpa [Mv.letter] using q5
      · have := H.out.eln
        simp
        omega)
    generalize (tmTr c_t).atom = ca at *
    go_wp2_with fail
    go_quiet ((go_at_call 61; exact Calls.quiet_of_same (LC.out _)))
    go_wp2_with fail
    go_ret
    exact .inl ⟨rfl, by rw [letter_on]; exact HFIN.out nq⟩
  · have hnc : ∀ y t e' r, e.look x ≠ .clo y t e' r := fun y t e' r hq => hcl ⟨y, t, e', r, hq⟩
    obtain ⟨z, hz, hzc⟩ := HRE.out.none_ H.out.e0 hnc
    have f1 := own_cell H.out.env (j := k * 7 + 1) (u := .bool false) (by rw [enCells_at E k 1 _ hz (by omega), En.at1, hzc]; rfl)
    have HST : Hid (mstep ⟨.var x, e, st, op⟩ = none) := Lib.hid (by
      simp only [mstep])
    clear hz hzc hnc hcl
    have HFIN : Hid (∀ nq : Nat, MsEnd base sb ⟨.var x, e, st, op⟩ m w ((((w1.drewN nq).setCell ⟨sb, 9, none⟩ (.string ⟨x.toArray⟩)).setCell ⟨sb, 10, none⟩ (.int .i64 l.length)).setCell ⟨sb, 12, none⟩ (.string ⟨(lm ++ [46]).toArray⟩))) := Lib.hid (fun nq => by
      have q := (((H.out.box.drewN nq).set_ 9 (.string ⟨x.toArray⟩)).set_ 10 (.int .i64 l.length)).set_ 12 (.string ⟨(lm ++ [46]).toArray⟩)
      have qB := (HB1.out.mono (show base ≤ w.heap.size from by omega)).trans ((((below_drewN'' (Below.refl base w1) nq).setCell hsb (.string ⟨x.toArray⟩) (p := ⟨sb, 9, none⟩)).setCell hsb (.int .i64 l.length) (p := ⟨sb, 10, none⟩)).setCell hsb (.string ⟨(lm ++ [46]).toArray⟩) (p := ⟨sb, 12, none⟩))
      refine ⟨⟨.string ⟨(tmTr (.var x)).atom.toArray⟩, .slice aA an ac, .int .i64 ai, .slice gs l.length cs, .slice (some ⟨ge, 0, none⟩) E.length ce, ?_⟩, qB⟩
      rw [HLM.out, show (⟨.var x, e, st, op⟩ : St).st.length = l.length from HRS.out.symm, HLN.out, show (⟨.var x, e, st, op⟩ : St).name = x from rfl]
      rw [HLM.out, HLN.out] at q
      simpa using q)
    go_wp2_with fail
    go_quiet ((go_at_call 61; exact Calls.quiet_of_same (LC.out _)))
    go_wp2_with fail
    go_ret
    exact .inr ⟨HST.out, rfl, by rw [letter_on]; exact HFIN.out nq⟩

theorem l7Move_any (w : World) (P : Nat → Prop) (base sb : Nat) (S : St) (m : List Mv) (a : Cl) (l : List Cl) (E : List En) (sv ev : Value) (h : MS w P base sb S m a l E sv ev) (hm : m.length ≤ 4000) :
    Calls Tryz.prog 55 #[.pointer (some ⟨sb, 0, none⟩)] w (MqPost P base sb S m w) := by
  obtain ⟨t, e, st, op⟩ := S
  cases t with
  | var x => exact l7Move_var w P base sb x e st op m a l E sv ev h hm
  | lam x b => exact l7Move_lam w P base sb x b e st op m a l E sv ev h hm
  | app f p => exact l7Move_app w P base sb f p e st op m a l E sv ev h hm
end Go.Proofs.YtjcdclnaplojcaaGreatDoor

namespace Go.Proofs.YtjcdclnaplojcaaGreatDoor
set_option linter.unusedVariables false
set_option linter.unusedSimpArgs false
open Go.RowKit

/-- The cells of a Run. -/
def rnCells (S : St) (m : List Mv) : List Value := [.int .i64 (mvN .p m : Nat), .int .i64 (mvN .t m : Nat), .int .i64 (mvN .o m : Nat), .int .i64 (mvN .l m : Nat), .string ⟨S.name.toArray⟩, .int .i64 (S.st.length : Nat), .int .i64 (mvN .o m : Nat)]
/-- What the model's run of a text answers. -/
def RunPost (s : List UInt8) (w : World) (q : Ending) (w' : World) : Prop :=
  Below w.heap.size w w' ∧
  ((∃ S m sb u0 u1 u2 u3 u4, mcR s = some (S, m) ∧ q = .returned (.tuple #[.pointer (some ⟨sb, 0, none⟩), .bool true]) ∧
      Blk w' sb 65 #[u0, u1, u2, u3, u4, .int .i64 (mvN .p m : Nat), .int .i64 (mvN .t m : Nat), .int .i64 (mvN .o m : Nat), .int .i64 (mvN .l m : Nat), .string ⟨S.name.toArray⟩, .int .i64 (S.st.length : Nat), .int .i64 (mvN .o m : Nat), .string ⟨(letters m ++ [46]).toArray⟩]) ∨
   (mcR s = none ∧ ∃ sb, q = .returned (.tuple #[.pointer (some ⟨sb, 0, none⟩), .bool false])))
theorem mcR_ok {s : List UInt8} {S : St} {m : List Mv} (h : mcR s = some (S, m)) : StOk S m ∧ m.length ≤ 3000 := by
  unfold mcR at h
  split at h
  · cases h
  · rename_i t ht
    obtain ⟨a, b, c⟩ := mrun_ok 3000 _ _ _ _ (StOk.start t) h
    exact ⟨a, by simpa using c⟩

set_option maxRecDepth 100000 in
set_option maxHeartbeats 4000000 in
theorem l7Run_any (s : ByteArray) (w : World) (hm : s.size ≤ maxLen) :
    Calls Tryz.prog 26 #[.string s] w (RunPost s.data.toList w) := by
  go_enter Tryz.func26, Tryz.ntmps26
  go_wp2_with fail
  refine (l1Term_any s _ hm).mono ?_
  rintro e w1 ⟨hb1, ⟨t, v, hrd, rfl, htr⟩ | ⟨hrd, b, A, n, c, rfl⟩⟩
  · obtain ⟨A, n, c, rfl⟩ := htr.shape
    have hok := (rdTerm_good _ _ hrd).1
    have HMC : Hid (mcR s.data.toList = mrun 3000 ⟨t, .nil, [], 0⟩ []) := Lib.hid (by simp only [mcR, hrd])
    have HR := Lib.hid hrd
    have HS0 : Hid (MS (((w1.alloc (.cells #[.string ⟨(tmTr t).atom.toArray⟩, .slice A n c] 51)).alloc (.cells #[.string ⟨#[]⟩, .bool false, .string ⟨#[]⟩, .slice none 0 0, .int .i64 0, .int .i64 0, .int .i64 0] 109)).alloc (.cells #[.string ⟨(tmTr t).atom.toArray⟩, .slice A n c, .int .i64 0, .slice none 0 0, .slice (some ⟨w1.heap.size + 1, 0, none⟩) 1 1, .int .i64 0, .int .i64 0, .int .i64 0, .int .i64 0, .string ⟨#[]⟩, .int .i64 0, .int .i64 0, .string ⟨#[]⟩] 65))
        (fun b => w.heap.size ≤ b ∧ b < w1.heap.size) w1.heap.size (w1.heap.size + 2) ⟨t, .nil, [], 0⟩ [] ⟨t, A, n, c, 0⟩ [] [⟨[], none, 0, 0⟩] (.slice none 0 0) (.slice (some ⟨w1.heap.size + 1, 0, none⟩) 1 1)) := Lib.hid (by
      have hT := ((htr.alloc (fun b hb => hb.2) (.cells #[.string ⟨(tmTr t).atom.toArray⟩, .slice A n c] 51)).alloc (fun b hb => by have := hb.2; simp; omega) (.cells #[.string ⟨#[]⟩, .bool false, .string ⟨#[]⟩, .slice none 0 0, .int .i64 0, .int .i64 0, .int .i64 0] 109)).alloc (fun b hb => by have := hb.2; simp; omega) (.cells #[.string ⟨(tmTr t).atom.toArray⟩, .slice A n c, .int .i64 0, .slice none 0 0, .slice (some ⟨w1.heap.size + 1, 0, none⟩) 1 1, .int .i64 0, .int .i64 0, .int .i64 0, .int .i64 0, .string ⟨#[]⟩, .int .i64 0, .int .i64 0, .string ⟨#[]⟩] 65)
      have hbx := Blk.new ((w1.alloc (.cells #[.string ⟨(tmTr t).atom.toArray⟩, .slice A n c] 51)).alloc (.cells #[.string ⟨#[]⟩, .bool false, .string ⟨#[]⟩, .slice none 0 0, .int .i64 0, .int .i64 0, .int .i64 0] 109)) 65 #[.string ⟨(tmTr t).atom.toArray⟩, .slice A n c, .int .i64 0, .slice none 0 0, .slice (some ⟨w1.heap.size + 1, 0, none⟩) 1 1, .int .i64 0, .int .i64 0, .int .i64 0, .int .i64 0, .string ⟨#[]⟩, .int .i64 0, .int .i64 0, .string ⟨#[]⟩]
      rw [show ((w1.alloc (.cells #[.string ⟨(tmTr t).atom.toArray⟩, .slice A n c] 51)).alloc (.cells #[.string ⟨#[]⟩, .bool false, .string ⟨#[]⟩, .slice none 0 0, .int .i64 0, .int .i64 0, .int .i64 0] 109)).heap.size = w1.heap.size + 2 from by simp] at hbx
      have hrow := (Blk.new (w1.alloc (.cells #[.string ⟨(tmTr t).atom.toArray⟩, .slice A n c] 51)) 109 #[.string ⟨#[]⟩, .bool false, .string ⟨#[]⟩, .slice none 0 0, .int .i64 0, .int .i64 0, .int .i64 0]).alloc (.cells #[.string ⟨(tmTr t).atom.toArray⟩, .slice A n c, .int .i64 0, .slice none 0 0, .slice (some ⟨w1.heap.size + 1, 0, none⟩) 1 1, .int .i64 0, .int .i64 0, .int .i64 0, .int .i64 0, .string ⟨#[]⟩, .int .i64 0, .int .i64 0, .string ⟨#[]⟩] 65)
      rw [show (w1.alloc (.cells #[.string ⟨(tmTr t).atom.toArray⟩, .slice A n c] 51)).heap.size = w1.heap.size + 1 from by simp] at hrow
      refine ⟨hbx, World.ownsRow_nil _ _ _ _, ⟨rfl, .inr ⟨w1.heap.size + 1, 1, _, rfl, by omega, hrow, by simp, by unfold maxLen; omega, rfl, rfl⟩⟩, rfl, rfl, rfl, rfl, ⟨hok, hT⟩, (fun c hc => by cases hc), ?_, by simp, StOk.start t, fun b hb => hb.2, by omega⟩
      intro i z c hz hc
      cases i with
      | zero => simp at hz; subst hz; cases hc
      | succ i => simp at hz)
    generalize (tmTr t).atom = ta at *
    have hz1 := hb1.size
    have HB1 := Lib.hid hb1
    clear hrd htr hok hb1
    go_wp2_with fail
    go_loopg [7] 3001 (fun q v wr => ∃ S m a l E sv ev, q = 3001 - m.length ∧ m.length ≤ 3001 ∧ v = .int .i64 (m.length : Nat) ∧ Hid (MS wr (fun b => w.heap.size ≤ b ∧ b < w1.heap.size) w1.heap.size (w1.heap.size + 2) S m a l E sv ev) ∧ Hid (Below w.heap.size w wr) ∧
      Hid ((m.length ≤ 3000 → mcR s.data.toList = mrun (3000 - m.length) S m) ∧ (3000 < m.length → mcR s.data.toList = none)))
    case atStart => exact ⟨_, _, _, _, _, _, _, rfl, by simp, rfl, HS0, Lib.hid (((HB1.out.alloc (by omega) _).alloc (by simp; omega) _).alloc (by simp; omega) _), Lib.hid ⟨fun _ => HMC.out, fun h => by simp at h⟩⟩
    case round =>
      obtain ⟨S, m, a, l, E, sv, ev, hq, hml, rfl, HS, HB, HC⟩ := hrel
      have HQ := Lib.hid hq
      clear hq
      generalize hML : m.length = n at *
      have HML := Lib.hid hML
      clear hML
      by_cases hle : n ≤ 3000
      · go_wp2_with fail
        refine (l7Move_any wr _ w1.heap.size (w1.heap.size + 2) S m a l E sv ev HS.out (by rw [HML.out]; omega)).mono ?_
        rintro e w2 (⟨rfl, k, S', a', l', E', sv', ev', hst, hms, hb2⟩ | ⟨hst, rfl, ⟨u0, u1, u2, u3, u4, hbx⟩, hb2⟩)
        · have HST := Lib.hid hst
          have HMS := Lib.hid hms
          have HB2 := Lib.hid (HB.out.trans (hb2.mono hz1))
          clear hst hms hb2
          go_wp2_with fail
          go_roundg (3000 - n)
          case rel =>
            refine ⟨S', m ++ [k], a', l', E', sv', ev', by simp [HML.out]; try omega, by simp [HML.out]; omega, by rw [List.length_append, HML.out]; go_num, HMS, HB2, Lib.hid ⟨fun h => ?_, fun h => ?_⟩⟩
            · rw [List.length_append, HML.out, List.length_singleton] at h
              rw [HC.out.1 hle, show 3000 - n = (3000 - (n + 1)) + 1 from by omega, mrun_step HST.out, List.length_append, HML.out]
              rfl
            · rw [List.length_append, HML.out, List.length_singleton] at h
              rw [HC.out.1 hle, show 3000 - n = 0 from by omega, mrun_stop HST.out]
          case measure => rw [HQ.out]; omega
        · have HBX := Lib.hid hbx
          have HB2 := Lib.hid (HB.out.trans (hb2.mono hz1))
          have HRES : Hid (mcR s.data.toList = some (S, m)) := Lib.hid (by rw [HC.out.1 hle, mrun_end hst])
          clear hst hbx hb2
          go_wp2_with fail
          go_ret2
          exact ⟨HB2.out, .inl ⟨S, m, _, u0, u1, u2, u3, u4, HRES.out, rfl, HBX.out⟩⟩
      · have HRES : Hid (mcR s.data.toList = none) := Lib.hid (HC.out.2 (by omega))
        go_wp2_with fail
        go_ret2
        exact ⟨HB.out, .inr ⟨HRES.out, _, rfl⟩⟩
  · have HRES : Hid (mcR s.data.toList = none) := Lib.hid (by simp only [mcR, hrd])
    have hz1 := hb1.size
    have HB1 := Lib.hid hb1
    clear hrd hb1
    go_wp2_with fail
    go_ret2
    exact ⟨((HB1.out.alloc (by omega) _).alloc (by simp; omega) _).alloc (by simp; omega) _, .inr ⟨HRES.out, _, rfl⟩⟩
end Go.Proofs.YtjcdclnaplojcaaGreatDoor

namespace Go.Proofs.YtjcdclnaplojcaaGreatDoor
set_option linter.unusedVariables false
set_option linter.unusedSimpArgs false
open Go.RowKit

/-- A Run as a value. -/
def rnV (p t o l : Nat) (x : List UInt8) (a s : Nat) : Value := .agg #[.int .i64 p, .int .i64 t, .int .i64 o, .int .i64 l, .string ⟨x.toArray⟩, .int .i64 a, .int .i64 s]
def rnE : Option (St × List Mv) → Ending
  | some (S, m) => .returned (.tuple #[rnV (mvN .p m) (mvN .t m) (mvN .o m) (mvN .l m) S.name S.st.length (mvN .o m), .bool true])
  | none => .returned (.tuple #[rnV 0 0 0 0 [] 0 0, .bool false])
def mvR : Option (St × List Mv) → Int
  | some (_, m) => m.length
  | none => -1
/-- The letters of a trace. -/
def trE (n : Int) : Option (St × List Mv) → Ending
  | some (_, m) => if 0 ≤ n ∧ n ≤ 300 then .returned (.tuple #[.string ⟨((letters m ++ [46]).take n.toNat).toArray⟩, .bool true]) else .returned (.tuple #[.string ⟨#[]⟩, .bool false])
  | none => .returned (.tuple #[.string ⟨#[]⟩, .bool false])

theorem ext0 (l : List UInt8) (k : Nat) : (⟨l.toArray⟩ : ByteArray).extract 0 k = ⟨(l.take k).toArray⟩ := by
  have := ext_eq ⟨l.toArray⟩ 0 k
  simpa using this
theorem ret_run {fn : Func} {p u : Tmp} (h : fn.results = #[.cell p 31, .tmp u]) (tmps : Array Value) (w : World) (g : Nat) {a b c d e f i : Value} (hp : tmps.getD p undef = .pointer (some ⟨g, 0, none⟩)) (hb : Blk w g 31 #[a, b, c, d, e, f, i]) :
    (results fn tmps).run Tryz.prog w = .ok (.tuple #[.agg #[a, b, c, d, e, f, i], tmps.getD u undef]) w := by
  rw [results_cell_tmp h, hp]
  have h0 := hb.cell 0
  have h1 := hb.cell 1
  have h2 := hb.cell 2
  have h3 := hb.cell 3
  have h4 := hb.cell 4
  have h5 := hb.cell 5
  have h6 := hb.cell 6
  simp at h0 h1 h2 h3 h4 h5 h6
  simp [go_sem, h0, h1, h2, h3, h4, h5, h6]
theorem res_set7 {w : World} {g : Nat} {t : TypeId} {x0 x1 x2 x3 x4 x5 x6 : Value} (h : Blk w g t #[x0, x1, x2, x3, x4, x5, x6]) (a b c d e f i : Value) : Blk (((((((w.setCell ⟨g, 0, none⟩ a).setCell ⟨g, 1, none⟩ b).setCell ⟨g, 2, none⟩ c).setCell ⟨g, 3, none⟩ d).setCell ⟨g, 4, none⟩ e).setCell ⟨g, 5, none⟩ f).setCell ⟨g, 6, none⟩ i) g t #[a, b, c, d, e, f, i] := by
  have := ((((((h.set_ 0 a).set_ 1 b).set_ 2 c).set_ 3 d).set_ 4 e).set_ 5 f).set_ 6 i
  simpa using this
end Go.Proofs.YtjcdclnaplojcaaGreatDoor

