/- The model's machine moves: an app. -/
import Derived.Test.YtjcdclnaplojcaaGreatDoorYE
namespace Go.Proofs.YtjcdclnaplojcaaGreatDoor
set_option linter.unusedVariables false
open Go.RowKit

theorem infoCl3 : (Tryz.prog.info? 61).map (fun i => (i.zero, i.size, i.bytes)) = some (some (.agg #[.string ⟨#[]⟩, .slice none 0 0, .int .i64 0]), 3, 48) := by kernel_rfl

theorem own_below {w w' : World} {base e size n : Nat} {v : Value} {xs : List Value} (h : w.ownsRow base e size v n xs) (hb : Below w.heap.size w w') : w'.ownsRow base e size v n xs :=
  h.kept (grown_of_below hb none) (by cases hv : v.ownBlock with | none => exact .inl rfl | some k => exact .inr (by simp))
theorem MS.below {w w' : World} {P : Nat → Prop} {base sb : Nat} {S : St} {m : List Mv} {a : Cl} {l : List Cl} {E : List En} {sv ev : Value} (h : MS w P base sb S m a l E sv ev) (hb : Below w.heap.size w w') : MS w' P base sb S m a l E sv ev := by
  have hl : ∀ b, P b → b < w.heap.size := fun b hq => by have := h.lo b hq; have := h.bs; have := h.box.lt; omega
  exact ⟨h.box.below hb h.box.lt, own_below h.stk hb, own_below h.env hb, h.at_, h.re, h.rs, h.e0, h.aok.below hb hl, fun c hc => (h.lok c hc).below hb hl, fun i z c hz hc => (h.eok i z c hz hc).below hb hl, h.eln, h.ok, h.lo, h.bs⟩

/-- The end of the model's run. -/
def MsEnd (base sb : Nat) (S : St) (m : List Mv) (w w' : World) : Prop :=
  (∃ u0 u1 u2 u3 u4, Blk w' sb 65 #[u0, u1, u2, u3, u4, .int .i64 (mvN .p m : Nat), .int .i64 (mvN .t m : Nat), .int .i64 (mvN .o m : Nat), .int .i64 (mvN .l m : Nat), .string ⟨S.name.toArray⟩, .int .i64 (S.st.length : Nat), .int .i64 (mvN .o m : Nat), .string ⟨(letters m ++ [46]).toArray⟩]) ∧ Below base w w'
def MqPost (P : Nat → Prop) (base sb : Nat) (S : St) (m : List Mv) (w : World) (q : Ending) (w' : World) : Prop :=
  (q = .returned (.bool true) ∧ MvPost P base sb S m w w') ∨ (mstep S = none ∧ q = .returned (.bool false) ∧ MsEnd base sb S m w w')
theorem ClOk.two {w : World} {P : Nat → Prop} {f a : Tm} {g i : Nat} {A0 A1 A2 : Option Addr} {n0 c0 n1 c1 n2 c2 : Nat} (h : (Tm.app f a).ok) (h3 : Three w P g (.mk sApp []) (tmTr f) (tmTr a) A0 A1 A2 n0 c0 n1 c1 n2 c2) : ClOk w P ⟨f, A1, n1, c1, i⟩ ∧ ClOk w P ⟨a, A2, n2, c2, i⟩ := ⟨⟨h.1, h3.t1⟩, ⟨h.2, h3.t2⟩⟩

set_option maxRecDepth 100000 in
set_option maxHeartbeats 8000000 in
theorem l7Move_app (w : World) (P : Nat → Prop) (base sb : Nat) (f p : Tm) (e : Env) (st : List (Tm × Env)) (op : Nat) (m : List Mv) (a : Cl) (l : List Cl) (E : List En) (sv ev : Value)
    (h : MS w P base sb ⟨.app f p, e, st, op⟩ m a l E sv ev) (hm : m.length ≤ 4000) :
    Calls Tryz.prog 55 #[.pointer (some ⟨sb, 0, none⟩)] w (MqPost P base sb ⟨.app f p, e, st, op⟩ m w) := by
  obtain ⟨at_, aA, an, ac, ai⟩ := a
  have e1 := h.at_
  simp only at e1
  subst e1
  obtain ⟨g, cap, A0, A1, A2, n0, c0, n1, c1, n2, c2, e2, hcap, h3⟩ := h.aok.2.three
  simp only [tmTr, Tr.atom] at e2
  injection e2 with e2
  simp only [Array.mk.injEq, List.cons.injEq, Value.slice.injEq, and_true, true_and] at e2
  obtain ⟨rfl, rfl, rfl⟩ := e2
  have hgb : g < base := h.lo g h3.pg
  have hsb := h.bs
  have bl0 := h.box.lt
  have hgw0 : g < w.heap.size := by omega
  have b0 := h.box.cell 0
  have b1 := h.box.cell 1
  simp only [List.getElem?_toArray, List.getElem?_cons_zero, List.getElem?_cons_succ] at b0 b1
  rw [show (tmTr (.app f p)).atom = [] from rfl] at b0
  have a3 := h3.alloc (fun b hb => by have := h.lo b hb; omega) (.cells #[.string ⟨#[]⟩, .slice (some ⟨g, 0, none⟩) 3 ac] 51)
  have H0 := Lib.hid h
  have HP : Hid (∀ b, P b → b < w.heap.size) := Lib.hid (fun b hb => by have := h.lo b hb; omega)
  have HM := Lib.hid hm
  have H30 := Lib.hid h3
  clear h hm h3
  go_enter Tryz.func55, Tryz.ntmps55
  go_wp2_with fail
  refine (l1Head3 _ P g ac (.mk sApp []) (tmTr f) (tmTr p) A0 A1 A2 n0 c0 n1 c1 n2 c2 a3 (fun b hb => by have := HP.out b hb; simp; omega)).mono ?_
  rintro e' w1 ⟨rfl, hb1⟩
  have hB1 : Below w.heap.size w w1 := ((Below.refl _ _).alloc (Nat.le_refl _) _).trans (hb1.mono (by simp))
  have hr := (Blk.new w 51 #[.string ⟨#[]⟩, .slice (some ⟨g, 0, none⟩) 3 ac]).below hb1 (by simp)
  have h := H0.out.below hB1
  have h3 := a3.below hb1 (fun b hb => by have := HP.out b hb; simp; omega)
  have hz1 := hB1.size
  clear b0 b1 a3 hb1
  have r1 := hr.cell 1
  have rl := hr.lt
  simp only [List.getElem?_toArray, List.getElem?_cons_zero, List.getElem?_cons_succ] at r1
  have bl := h.box.lt
  have hgw : g < w1.heap.size := by omega
  obtain ⟨gs, cs, rfl⟩ := own_shape h.stk
  have k2 : w1.cell? ⟨g, 2, none⟩ = some (.string ⟨(tmTr f).atom.toArray⟩) := h3.k2
  have k3 := h3.k3
  have k4 : w1.cell? ⟨g, 4, none⟩ = some (.string ⟨(tmTr p).atom.toArray⟩) := h3.k4
  have k5 := h3.k5
  have b2 := h.box.cell 2
  have b3 := h.box.cell 3
  have bf := h.box.frozen
  simp only [List.getElem?_toArray, List.getElem?_cons_zero, List.getElem?_cons_succ] at b2 b3
  have hst1 := h.ok.st
  have hsum := mvN_sum m
  have hrsl := h.rs.len
  have hPN : mvN .p m ≤ 4000 := by have := HM.out; omega
  have hRL : l.length ≤ 4000 := by simp only at hst1 hrsl; omega
  have hLL : (letters m).length ≤ 4000 := by have := HM.out; simp only [letters, List.length_map]; exact this
  have HFA := Lib.hid (show (tmTr f).atom = (tmTr f).atom from rfl)
  generalize hPN' : mvN .p m = pn at *
  generalize hLM : letters m = lm at *
  generalize hBA : (tmTr f).atom = fa at *
  generalize hCA : (tmTr p).atom = pa at *
  have HBA := Lib.hid hBA
  have HCA := Lib.hid hCA
  have HPN := Lib.hid hPN'
  have HLM := Lib.hid hLM
  have H := Lib.hid h
  have H3 := Lib.hid h3
  have HB1 := Lib.hid hB1
  clear h h3 hst1 hsum hrsl hPN' hLM hBA hCA HFA hB1
  have hl : (sApp == [97, 112, 112]) = true := rfl
  simp only [Tr.atom]
  obtain ⟨i0, hinf, hz0, hzs, hzb⟩ := info_parts infoCl3
  have hne1 : some sb ≠ (Value.slice gs l.length cs).ownBlock := H.out.box.apart (by decide) H.out.stk
  have hne2 : ev.ownBlock = none ∨ ev.ownBlock ≠ (Value.slice gs l.length cs).ownBlock := rows_apart H.out.env H.out.stk (by decide)
  have hne3 : some w.heap.size ≠ (Value.slice gs l.length cs).ownBlock := hr.apart (by decide) H.out.stk
  have HR := Lib.hid hr
  clear hr
  have HF : Hid (∀ w2, ((w1.alloc (.cells #[.string ⟨pa.toArray⟩, .slice A2 n2 c2, .int .i64 ↑ai] 61)).drew).grownBy w2 (Value.slice gs l.length cs).ownBlock →
      (w2.cell? ⟨sb, 3, none⟩ = some (.slice gs l.length cs) ∧ w2.cell? ⟨w.heap.size, 1, none⟩ = some (.slice (some ⟨g, 0, none⟩) 3 ac) ∧ w2.cell? ⟨g, 2, none⟩ = some (.string ⟨fa.toArray⟩) ∧ w2.cell? ⟨g, 3, none⟩ = some (.slice A1 n1 c1) ∧ (∀ i, w2.frozen? ⟨sb, i, none⟩ = false) ∧ sb < w2.heap.size ∧ g < w2.heap.size ∧ w.heap.size < w2.heap.size ∧ (∃ u, w2.cell? ⟨sb, 0, none⟩ = some u) ∧ (∃ u, w2.cell? ⟨sb, 1, none⟩ = some u) ∧ w2.cell? ⟨sb, 2, none⟩ = some (.int .i64 ai) ∧ w2.cell? ⟨sb, 5, none⟩ = some (.int .i64 pn) ∧ w2.cell? ⟨sb, 12, none⟩ = some (.string ⟨lm.toArray⟩)) ∧
      Blk w2 sb 65 #[.string ⟨(tmTr (Tm.app f p)).atom.toArray⟩, .slice (some ⟨g, 0, none⟩) 3 ac, .int .i64 ai, .slice gs l.length cs, ev,
        .int .i64 pn, .int .i64 (mvN .t m : Nat), .int .i64 (mvN .o m : Nat), .int .i64 (mvN .l m : Nat), .string ⟨#[]⟩, .int .i64 0, .int .i64 (mvN .o m : Nat), .string ⟨lm.toArray⟩] ∧
      w2.ownsRow base 109 7 ev E.length (enCells E) ∧ Below base w w2) := Lib.hid (fun w2 hg => by
    have q := (H.out.box.alloc (.cells #[.string ⟨pa.toArray⟩, .slice A2 n2 c2, .int .i64 ↑ai] 61)).drew.grown hg hne1
    rw [HPN.out, HLM.out] at q
    have q1 := (HR.out.alloc (.cells #[.string ⟨pa.toArray⟩, .slice A2 n2 c2, .int .i64 ↑ai] 61)).drew.grown hg hne3
    have qb : Below base w w2 := ((((HB1.out.mono (by omega)).alloc (by omega) _)).drew).grown hg (by simp; omega) (by
      intro k hk
      exact (H.out.stk.lt k hk).1)
    have q3 := H3.out.below (((((Below.refl base w1).alloc (by omega) (.cells #[.string ⟨pa.toArray⟩, .slice A2 n2 c2, .int .i64 ↑ai] 61))).drew).grown hg (by simp; omega) (fun k hk => (H.out.stk.lt k hk).1)) H.out.lo
    have qs := (H.out.env.alloc (.cells #[.string ⟨pa.toArray⟩, .slice A2 n2 c2, .int .i64 ↑ai] 61)).drew.kept hg hne2
    refine ⟨⟨q.cell 3, q1.cell 1, HBA.out ▸ q3.k2, q3.k3, q.frozen, q.lt, by have := q.lt; have := qb.size; omega, q1.lt, ⟨_, q.cell 0⟩, ⟨_, q.cell 1⟩, q.cell 2, q.cell 5, q.cell 12⟩, q, qs, qb⟩)
  have HFIN : Hid (∀ w2 g2 c2', w2.ownsRow base 61 3 (.slice (some ⟨g2, 0, none⟩) (l.length + 1) c2') (l.length + 1) (clCells l.reverse ++ (#[.string ⟨pa.toArray⟩, .slice A2 n2 c2, .int .i64 ↑ai] : Array Value).toList) → ((w1.alloc (.cells #[.string ⟨pa.toArray⟩, .slice A2 n2 c2, .int .i64 ↑ai] 61)).drew).grownBy w2 (Value.slice gs l.length cs).ownBlock →
      MvPost P base sb ⟨.app f p, e, st, op⟩ m w (((((((w2.setCell ⟨sb, 3, none⟩ (.slice (some ⟨g2, 0, none⟩) (l.length + 1) c2')).setCell ⟨sb, 0, none⟩ (.string ⟨fa.toArray⟩)).setCell ⟨sb, 1, none⟩ (.slice A1 n1 c1)).setCell ⟨sb, 2, none⟩ (.int .i64 ↑ai)).setCell ⟨sb, 5, none⟩ (.int .i64 (↑pn + 1))).setCell ⟨sb, 12, none⟩ (.string (⟨lm.toArray⟩ ++ ⟨#[112]⟩))).drew)) := Lib.hid (fun w2 g2 c2' ho hg => by
    obtain ⟨_, q, qs, qb⟩ := HF.out w2 hg
    rw [letter_on]
    have o1 := ownsRow_set ho q (by decide) 3 (.slice (some ⟨g2, 0, none⟩) (l.length + 1) c2')
    have s1 := ownsRow_set qs q (by decide) 3 (.slice (some ⟨g2, 0, none⟩) (l.length + 1) c2')
    have q1 := q.set_ 3 (.slice (some ⟨g2, 0, none⟩) (l.length + 1) c2')
    have o2 := ownsRow_set o1 q1 (by decide) 0 (.string ⟨fa.toArray⟩)
    have s2 := ownsRow_set s1 q1 (by decide) 0 (.string ⟨fa.toArray⟩)
    have q2 := q1.set_ 0 (.string ⟨fa.toArray⟩)
    have o3 := ownsRow_set o2 q2 (by decide) 1 (.slice A1 n1 c1)
    have s3 := ownsRow_set s2 q2 (by decide) 1 (.slice A1 n1 c1)
    have q3 := q2.set_ 1 (.slice A1 n1 c1)
    have o4 := ownsRow_set o3 q3 (by decide) 2 (.int .i64 ai)
    have s4 := ownsRow_set s3 q3 (by decide) 2 (.int .i64 ai)
    have q4 := q3.set_ 2 (.int .i64 ai)
    have o5 := ownsRow_set o4 q4 (by decide) 5 (.int .i64 (↑pn + 1))
    have s5 := ownsRow_set s4 q4 (by decide) 5 (.int .i64 (↑pn + 1))
    have q5 := q4.set_ 5 (.int .i64 (↑pn + 1))
    have o6 := (ownsRow_set o5 q5 (by decide) 12 (.string ⟨(lm ++ [112]).toArray⟩)).drew
    have s6 := (ownsRow_set s5 q5 (by decide) 12 (.string ⟨(lm ++ [112]).toArray⟩)).drew
    have q6 := (q5.set_ 12 (.string ⟨(lm ++ [112]).toArray⟩)).drew
    have qB : Below base w (((((((w2.setCell ⟨sb, 3, none⟩ (.slice (some ⟨g2, 0, none⟩) (l.length + 1) c2')).setCell ⟨sb, 0, none⟩ (.string ⟨fa.toArray⟩)).setCell ⟨sb, 1, none⟩ (.slice A1 n1 c1)).setCell ⟨sb, 2, none⟩ (.int .i64 ↑ai)).setCell ⟨sb, 5, none⟩ (.int .i64 (↑pn + 1))).setCell ⟨sb, 12, none⟩ (.string ⟨(lm ++ [112]).toArray⟩)).drew) := ((((((qb.setCell hsb _).setCell hsb _).setCell hsb _).setCell hsb _).setCell hsb _).setCell hsb _).drew
    clear o1 o2 o3 o4 o5 s1 s2 s3 s4 s5 q1 q2 q3 q4 q5 q qs qb
    refine ⟨.p, ⟨f, e, (p, e) :: st, op⟩, ⟨f, A1, n1, c1, ai⟩, ⟨p, A2, n2, c2, ai⟩ :: l, E, .slice (some ⟨g2, 0, none⟩) (l.length + 1) c2', ev, rfl, ?_, qB⟩
    have hok := ClOk.two (i := ai) H0.out.aok.1 (H30.out.below qB H.out.lo)
    refine ⟨?_, ?_, s6, rfl, H.out.re, ⟨_, _, rfl, rfl, H.out.re, H.out.rs⟩, H.out.e0, hok.1, ?_, ?_, ?_, H.out.ok.step rfl, H.out.lo, hsb⟩
    · have e1 : mvN .p (m ++ [.p]) = pn + 1 := by rw [mvN_snoc, HPN.out]; simp
      have e2 : mvN .t (m ++ [.p]) = mvN .t m := by simp [mvN_snoc, Mv.code]
      have e3 : mvN .o (m ++ [.p]) = mvN .o m := by simp [mvN_snoc, Mv.code]
      have e4 : mvN .l (m ++ [.p]) = mvN .l m := by simp [mvN_snoc, Mv.code]
      rw [e1, e2, e3, e4, letters_snoc, HLM.out, HBA.out]
      simpa [Mv.letter] using q6
    · rw [List.length_cons, clCells_snoc]
      have : (⟨p, A2, n2, c2, ai⟩ : Cl).cells = (#[.string ⟨pa.toArray⟩, .slice A2 n2 c2, .int .i64 ↑ai] : Array Value).toList := by simp [Cl.cells, HCA.out]
      rw [this]
      exact o6
    · intro c hc
      rcases List.mem_cons.1 hc with rfl | hc
      · exact hok.2
      · exact (H0.out.lok c hc).below qB H.out.lo
    · exact fun i z c hz hc => (H0.out.eok i z c hz hc).below qB H.out.lo
    · have := H.out.eln
      simp
      omega)
  have HZ : Hid (((w1.alloc (.cells #[.string ⟨pa.toArray⟩, .slice A2 n2 c2, .int .i64 ↑ai] 61)).drew).heap.size = w1.heap.size + 1) := Lib.hid (by simp)
  have HN : Hid (∀ j u, (#[.string ⟨pa.toArray⟩, .slice A2 n2 c2, .int .i64 ↑ai] : Array Value).toList[j]? = some u → ((w1.alloc (.cells #[.string ⟨pa.toArray⟩, .slice A2 n2 c2, .int .i64 ↑ai] 61)).drew).cell? ((⟨w1.heap.size, 0, none⟩ : Addr).add j) = some u) := Lib.hid (World.news_of_block (t := 61) (fr := (0, 0)) (heap_alloc_new w1 (.cells #[.string ⟨pa.toArray⟩, .slice A2 n2 c2, .int .i64 ↑ai] 61)))
  have HO : Hid (∀ u ∈ (#[.string ⟨pa.toArray⟩, .slice A2 n2 c2, .int .i64 ↑ai] : Array Value).toList, u.oneCell' = true) := Lib.hid (by simp [Value.oneCell'])
  have HBS : Hid (base ≤ ((w1.alloc (.cells #[.string ⟨pa.toArray⟩, .slice A2 n2 c2, .int .i64 ↑ai] 61)).drew).heap.size) := Lib.hid (by simp; omega)
  have bl1 : sb < w1.heap.size + 1 := by omega
  clear hne1 hne2 hne3
  go_wp2_with fail
  go_region_law ((refine step_append_lies _ (by rfl) _ _ _ (by rfl) base 61 i0 (.agg #[.string ⟨#[]⟩, .slice none 0 0, .int .i64 0]) 3 48 Tryz.underlying62 hinf hz0 hzs hzb rfl (by omega) (.slice gs l.length cs) l.length (clCells l.reverse) (by rfl) (H.out.stk.alloc _).drew ⟨w1.heap.size, 0, none⟩ 1 1 (#[.string ⟨pa.toArray⟩, .slice A2 n2 c2, .int .i64 ↑ai] : Array Value).toList (by rfl) (by rfl) HN.out HO.out (by omega) (by unfold maxLen; omega) (by omega) HBS.out (w1.heap.size + 1) HZ.out ?_; intro g2 c2' w2 hown1 hgrow hat2 hlt2; have hF := (HF.out _ hgrow).1; obtain ⟨f1, f2, f3, f4, f5, f6, f7, f8, ⟨u0, f9⟩, ⟨u1, f10⟩, f11, f12, f13⟩ := hF))
  all_goals
    go_wp2_with fail
    go_region
    all_goals
      go_wp2_with fail
      go_ret
      exact .inl ⟨rfl, HFIN.out _ _ _ hown1 hgrow⟩
end Go.Proofs.YtjcdclnaplojcaaGreatDoor
