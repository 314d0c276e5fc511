/- The program's machine: a push; which move is next. -/
import Derived.Test.YtljkmeloleeopaaYL
namespace Go.Proofs.Ytljkmeloleeopaa
set_option linter.unusedVariables false
set_option linter.unusedSimpArgs false
open Go.RowKit

theorem below_drewN'' {B : Nat} {a w : World} (h : Below B a w) (n : Nat) : Below B a (w.drewN n) := ⟨h.os, h.tape, h.output, h.size, h.block⟩

set_option maxRecDepth 100000 in
set_option maxHeartbeats 8000000 in
theorem push_any (w : World) (P : Nat → Prop) (lo mb : Nat) (f a : Tm) (e : Env) (st : List (Tm × Env)) (op : Nat) (m : List Mv) (nb : Nat) (sv mv : Value) (vs : List Value)
    (h : MI w P lo mb ⟨.app f a, e, st, op⟩ m nb sv mv vs) (hst : st.length ≤ 10000) :
    Calls Try.prog 42 #[.pointer (some ⟨mb, 0, none⟩)] w (MpPost P lo mb ⟨f, e, (a, e) :: st, op⟩ m mv w) := by
  obtain ⟨nb', tb, ev, e1, hnb, ht, he⟩ := h.now
  injection e1 with e1
  injection e1 with e1
  injection e1 with e1
  subst e1
  obtain ⟨tb', tc, td, e1, hPb, ht', hf, ha⟩ := ht
  injection e1 with e1
  injection e1 with e1
  injection e1 with e1
  subst e1
  obtain ⟨ep, rfl⟩ := he.pt
  obtain ⟨gs, cs, rfl⟩ := own_shape h.stk
  have bl := h.box.lt
  have nl := hnb.lt
  have tl := ht'.lt
  have b0 := h.box.cell 0
  have b1 := h.box.cell 1
  have bf := h.box.frozen
  have n0 := hnb.cell 0
  have n1 := hnb.cell 1
  have t3 := ht'.cell 3
  have t4 := ht'.cell 4
  simp only [List.getElem?_toArray, List.getElem?_cons_zero, List.getElem?_cons_succ] at b0 b1 n0 n1 t3 t4
  have hvl := h.sat.len
  have hVL : vs.length ≤ 10000 := by simp only at hvl; omega
  have hbs := h.bs
  have H := Lib.hid h
  have HNB := Lib.hid hnb
  have HT := Lib.hid ht'
  have HFF := Lib.hid hf
  have HAA := Lib.hid ha
  have HE := Lib.hid he
  obtain ⟨i0, hinf, hz0, hzs, hzb⟩ := info_parts infoPtr1
  clear h hnb ht' hf ha he hvl
  go_enter Try.func42, Try.ntmps42
  go_wp2_with fail
  go_quiet (fail)
  have H1 := H.out.more ((Stands.refl w P).drewN nq) (below_drewN'' (Below.refl _ _) nq)
  have c0 : (w.drewN nq).cell? ⟨mb, 0, none⟩ = some (.pointer (some ⟨nb, 0, none⟩)) := b0
  have c1 : (w.drewN nq).cell? ⟨mb, 1, none⟩ = some (.slice gs vs.length cs) := b1
  have cf : ∀ i, (w.drewN nq).frozen? ⟨mb, i, none⟩ = false := bf
  have d3 : (w.drewN nq).cell? ⟨tb, 3, none⟩ = some (.pointer (some ⟨tc, 0, none⟩)) := t3
  have d4 : (w.drewN nq).cell? ⟨tb, 4, none⟩ = some (.pointer (some ⟨td, 0, none⟩)) := t4
  have HT1 : DAt (w.drewN nq) P (toDB e.names a) (.pointer (some ⟨td, 0, none⟩)) := HAA.out.drewN nq
  have HT2 : DAt (w.drewN nq) P (toDB e.names f) (.pointer (some ⟨tc, 0, none⟩)) := HFF.out.drewN nq
  have HTB : Blk (w.drewN nq) tb _ _ := HT.out
  have HE1 : EAt (w.drewN nq) P e (.pointer ep) := HE.out.stands ((Stands.refl w P).drewN nq)
  have hz0' : (w.drewN nq).heap.size = w.heap.size := rfl
  have HB0 : Below lo w (w.drewN nq) := below_drewN'' (Below.refl _ _) nq
  generalize w.drewN nq = w0 at *
  clear b0 b1 bf n0 n1 t3 t4
  rw [← hz0'] at bl nl tl
  have HZ0 := Lib.hid hz0'
  clear hz0'
  have HH := Lib.hid H1
  have HTA := Lib.hid HT1
  have HTF := Lib.hid HT2
  have HTBB := Lib.hid HTB
  have HEE := Lib.hid HE1
  have HB := Lib.hid HB0
  clear H1 HT1 HT2 HTB HE1 HB0
  have hne1 : some mb ≠ (Value.slice gs vs.length cs).ownBlock := HH.out.box.apart (by decide) HH.out.stk
  have hne2 : mv.ownBlock = none ∨ mv.ownBlock ≠ (Value.slice gs vs.length cs).ownBlock := rows_apart HH.out.made HH.out.stk (by decide)
  have hne3 : some w0.heap.size ≠ (Value.slice gs vs.length cs).ownBlock := fun q => by have := (HH.out.stk.lt _ q.symm).2; omega
  have HF : Hid (∀ w2, (((w0.alloc (.cells #[.pointer (some ⟨td, 0, none⟩), .pointer ep] 94)).alloc (.cells #[.pointer (some ⟨w0.heap.size, 0, none⟩)] 54)).drew).grownBy w2 (Value.slice gs vs.length cs).ownBlock →
      (w2.cell? ⟨mb, 0, none⟩ = some (.pointer (some ⟨nb, 0, none⟩)) ∧ w2.cell? ⟨mb, 1, none⟩ = some (.slice gs vs.length cs) ∧ w2.cell? ⟨tb, 3, none⟩ = some (.pointer (some ⟨tc, 0, none⟩)) ∧ (∀ i, w2.frozen? ⟨mb, i, none⟩ = false) ∧ mb < w2.heap.size ∧ tb < w2.heap.size) ∧
      Blk w2 mb 59 #[.pointer (some ⟨nb, 0, none⟩), .slice gs vs.length cs, mv, .int .i64 (op : Nat), fnV 42 mb, fnV 43 mb, fnV 44 mb, fnV 45 mb] ∧
      Blk w2 w0.heap.size 94 #[.pointer (some ⟨td, 0, none⟩), .pointer ep] ∧ w2.ownsRow lo 73 1 mv m.length (mvVals m) ∧ Stands w0 w2 P ∧ Below lo w w2) := Lib.hid (fun w2 hg => by
    have hs := (((Stands.refl w0 P).alloc HH.out.allP (.cells #[.pointer (some ⟨td, 0, none⟩), .pointer ep] 94)).alloc (fun b hb => by have := HH.out.allP b hb; simp; omega) (.cells #[.pointer (some ⟨w0.heap.size, 0, none⟩)] 54)).drew
    have hk := ((HH.out.stk.alloc (.cells #[.pointer (some ⟨td, 0, none⟩), .pointer ep] 94)).alloc (.cells #[.pointer (some ⟨w0.heap.size, 0, none⟩)] 54)).drew
    have hs2 := hs.grown hk hg (fun b hb => ⟨by have := HH.out.allP b hb; simp; omega, HH.out.lw b hb⟩) (by decide) (by decide)
    have q := ((HH.out.box.alloc (.cells #[.pointer (some ⟨td, 0, none⟩), .pointer ep] 94)).alloc (.cells #[.pointer (some ⟨w0.heap.size, 0, none⟩)] 54)).drew.grown hg hne1
    have qc := ((Blk.new w0 94 #[.pointer (some ⟨td, 0, none⟩), .pointer ep]).alloc (.cells #[.pointer (some ⟨w0.heap.size, 0, none⟩)] 54)).drew.grown hg hne3
    have qm := ((HH.out.made.alloc (.cells #[.pointer (some ⟨td, 0, none⟩), .pointer ep] 94)).alloc (.cells #[.pointer (some ⟨w0.heap.size, 0, none⟩)] 54)).drew.kept hg hne2
    have qb : Below lo w w2 := (((HB.out.alloc (by omega) (.cells #[.pointer (some ⟨td, 0, none⟩), .pointer ep] 94)).alloc (by simp; omega) (.cells #[.pointer (some ⟨w0.heap.size, 0, none⟩)] 54)).drew).grown hg (by simp; omega) (fun k hk' => (HH.out.stk.lt k hk').1)
    have qt := DAt.mono (fun q hq => ⟨hq, hs2.tm q hq⟩) HTA.out
    have q3 : w2.cell? ⟨tb, 3, none⟩ = some (.pointer (some ⟨tc, 0, none⟩)) := by
      have := (show Blk w2 tb _ _ from (hs2.tm tb hPb).trans HTBB.out).cell 3
      simpa using this
    exact ⟨⟨q.cell 0, q.cell 1, q3, q.frozen, q.lt, by have := (show Blk w2 tb _ _ from (hs2.tm tb hPb).trans HTBB.out).lt; omega⟩, q, qc, qm, hs2, qb⟩)
  clear hne1 hne2 hne3
  have HFIN : Hid (∀ w2 g2 c2', w2.ownsRow lo 54 1 (.slice (some ⟨g2, 0, none⟩) (vs.length + 1) c2') (vs.length + 1) (vs.reverse ++ (#[.pointer (some ⟨w0.heap.size, 0, none⟩)] : Array Value).toList) → (((w0.alloc (.cells #[.pointer (some ⟨td, 0, none⟩), .pointer ep] 94)).alloc (.cells #[.pointer (some ⟨w0.heap.size, 0, none⟩)] 54)).drew).grownBy w2 (Value.slice gs vs.length cs).ownBlock →
      MpPost P lo mb ⟨f, e, (a, e) :: st, op⟩ m mv w (.returned (.tuple #[])) (((w2.setCell ⟨mb, 1, none⟩ (.slice (some ⟨g2, 0, none⟩) (vs.length + 1) c2')).setCell ⟨mb, 0, none⟩ (.pointer (some ⟨w2.heap.size, 0, none⟩))).alloc (.cells #[.pointer (some ⟨tc, 0, none⟩), .pointer ep] 94))) := Lib.hid (fun w2 g2 c2' ho hg => by
    obtain ⟨_, q, qc, qm, hs, qb⟩ := HF.out w2 hg
    have hsz : ((w2.setCell ⟨mb, 1, none⟩ (.slice (some ⟨g2, 0, none⟩) (vs.length + 1) c2')).setCell ⟨mb, 0, none⟩ (.pointer (some ⟨w2.heap.size, 0, none⟩))).heap.size = w2.heap.size := by simp [World.setCell]
    have hle : w0.heap.size ≤ w2.heap.size := by have := qc.lt; omega
    have q1 := q.set_ 1 (.slice (some ⟨g2, 0, none⟩) (vs.length + 1) c2')
    have q2 := q1.set_ 0 (.pointer (some ⟨w2.heap.size, 0, none⟩))
    have q3 := q2.alloc (.cells #[.pointer (some ⟨tc, 0, none⟩), .pointer ep] 94)
    have hS := (((Stands.refl w2 P).set_ q HH.out.notP (by decide) (by decide) 1 (.slice (some ⟨g2, 0, none⟩) (vs.length + 1) c2')).set_ q1 HH.out.notP (by decide) (by decide) 0 (.pointer (some ⟨w2.heap.size, 0, none⟩))).alloc (fun b hb => by rw [hsz]; have := HH.out.allP b hb; omega) (.cells #[.pointer (some ⟨tc, 0, none⟩), .pointer ep] 94)
    have n1 := Blk.new ((w2.setCell ⟨mb, 1, none⟩ (.slice (some ⟨g2, 0, none⟩) (vs.length + 1) c2')).setCell ⟨mb, 0, none⟩ (.pointer (some ⟨w2.heap.size, 0, none⟩))) 94 #[.pointer (some ⟨tc, 0, none⟩), .pointer ep]
    rw [hsz] at n1
    have k1 := (ownsRow_set (ownsRow_set ho q (by decide) 1 (.slice (some ⟨g2, 0, none⟩) (vs.length + 1) c2')) q1 (by decide) 0 (.pointer (some ⟨w2.heap.size, 0, none⟩))).alloc (.cells #[.pointer (some ⟨tc, 0, none⟩), .pointer ep] 94)
    have m1 := (ownsRow_set (ownsRow_set qm q (by decide) 1 (.slice (some ⟨g2, 0, none⟩) (vs.length + 1) c2')) q1 (by decide) 0 (.pointer (some ⟨w2.heap.size, 0, none⟩))).alloc (.cells #[.pointer (some ⟨tc, 0, none⟩), .pointer ep] 94)
    have hST := hs.trans hS
    refine ⟨rfl, ⟨w2.heap.size, .slice (some ⟨g2, 0, none⟩) (vs.length + 1) c2', .pointer (some ⟨w0.heap.size, 0, none⟩) :: vs, ⟨?_, ⟨_, tc, _, rfl, n1, DAt.mono (fun q hq => ⟨hq, hST.tm q hq⟩) HTF.out, HEE.out.stands hST⟩, ?_, ⟨_, vs, rfl, ⟨_, td, _, rfl, hS.cl _ _ qc, DAt.mono (fun q hq => ⟨hq, hST.tm q hq⟩) HTA.out, HEE.out.stands hST⟩, HH.out.sat.stands hST⟩, m1, HH.out.lw, HH.out.bs⟩⟩, ?_⟩
    · simpa using q3
    · simpa using k1
    · exact ((qb.setCell hbs _).setCell hbs _).alloc (by rw [hsz]; have := qb.size; omega) _)
  have HZ : Hid ((((w0.alloc (.cells #[.pointer (some ⟨td, 0, none⟩), .pointer ep] 94)).alloc (.cells #[.pointer (some ⟨w0.heap.size, 0, none⟩)] 54)).drew).heap.size = w0.heap.size + 2) := Lib.hid (by simp)
  have HN : Hid (∀ j u, (#[.pointer (some ⟨w0.heap.size, 0, none⟩)] : Array Value).toList[j]? = some u → (((w0.alloc (.cells #[.pointer (some ⟨td, 0, none⟩), .pointer ep] 94)).alloc (.cells #[.pointer (some ⟨w0.heap.size, 0, none⟩)] 54)).drew).cell? ((⟨w0.heap.size + 1, 0, none⟩ : Addr).add j) = some u) := Lib.hid (World.news_of_block (t := 54) (fr := (0, 0)) (by
    have h := heap_alloc_new (w0.alloc (.cells #[.pointer (some ⟨td, 0, none⟩), .pointer ep] 94)) (.cells #[.pointer (some ⟨w0.heap.size, 0, none⟩)] 54)
    rw [show (w0.alloc (.cells #[.pointer (some ⟨td, 0, none⟩), .pointer ep] 94)).heap.size = w0.heap.size + 1 from by simp] at h
    exact h))
  have HO : Hid (∀ u ∈ (#[.pointer (some ⟨w0.heap.size, 0, none⟩)] : Array Value).toList, u.oneCell' = true) := Lib.hid (by simp [Value.oneCell'])
  have HBS : Hid (lo ≤ (((w0.alloc (.cells #[.pointer (some ⟨td, 0, none⟩), .pointer ep] 94)).alloc (.cells #[.pointer (some ⟨w0.heap.size, 0, none⟩)] 54)).drew).heap.size) := Lib.hid (by simp; omega)
  have bl1 : mb < w0.heap.size + 1 := by omega
  have bl2 : mb < w0.heap.size + 2 := by omega
  have bl3 : mb < w0.heap.size + 1 + 1 := by omega
  have tl1 : tb < w0.heap.size + 1 := by omega
  have tl2 : tb < w0.heap.size + 2 := by omega
  go_wp2_with fail
  go_region_law ((refine step_append_lies _ (by rfl) _ _ _ (by rfl) lo 54 i0 (.pointer none) 1 8 Try.underlying55 hinf hz0 hzs hzb rfl (by omega) (.slice gs vs.length cs) vs.length vs.reverse (by rfl) ((HH.out.stk.alloc _).alloc _).drew ⟨w0.heap.size + 1, 0, none⟩ 1 1 (#[.pointer (some ⟨w0.heap.size, 0, none⟩)] : Array Value).toList (by rfl) (by rfl) HN.out HO.out (by omega) (by unfold maxLen; omega) (by omega) HBS.out (w0.heap.size + 2) HZ.out ?_; intro g2 c2' w2 hown1 hgrow hat2 hlt2; have hF := (HF.out _ hgrow).1; obtain ⟨f1, f2, f3, f4, f5, f6⟩ := hF))
  all_goals
    have hgr := Lib.hid hgrow
    have how := Lib.hid hown1
    clear hgrow hown1
    go_wp2_with fail
    go_end0
    exact HFIN.out _ _ _ how.out hgr.out
/-- The number of the next move; 4 is the end. -/
def nxC (S : St) : Nat := match mstep S with
  | some (k, _) => k.code
  | none => 4
set_option maxRecDepth 100000 in
theorem next_any (w : World) (P : Nat → Prop) (lo mb : Nat) (S : St) (m : List Mv) (nb : Nat) (sv mv : Value) (vs : List Value)
    (h : MI w P lo mb S m nb sv mv vs) (hst : S.st.length ≤ 10000) (hel : S.e.names.length ≤ 10000) :
    Calls Try.prog 46 #[.pointer (some ⟨mb, 0, none⟩)] w fun q w' => q = .returned (.int .i64 (nxC S : Nat)) ∧ w' = w := by
  have HC := Lib.hid h.now
  obtain ⟨nb', tb, ev, e1, hnb, ht, he⟩ := h.now
  injection e1 with e1
  injection e1 with e1
  injection e1 with e1
  subst e1
  obtain ⟨gs, cs, rfl⟩ := own_shape h.stk
  have bl := h.box.lt
  have nl := hnb.lt
  have b0 := h.box.cell 0
  have b1 := h.box.cell 1
  have n0 := hnb.cell 0
  simp only [List.getElem?_toArray, List.getElem?_cons_zero, List.getElem?_cons_succ] at b0 b1 n0
  have hvl := h.sat.len
  obtain ⟨t, e, st, op⟩ := S
  simp only at ht hvl hst hel HC
  have hVL : vs.length ≤ 10000 := by omega
  have HVL := Lib.hid hvl
  cases t with
  | app f a =>
    obtain ⟨tb', tc, td, e1, hPb, ht', hf, ha⟩ := ht
    injection e1 with e1
    injection e1 with e1
    injection e1 with e1
    subst e1
    have tl := ht'.lt
    have t0 := ht'.cell 0
    simp only [List.getElem?_toArray, List.getElem?_cons_zero] at t0
    have HN : Hid (nxC ⟨.app f a, e, st, op⟩ = 0) := Lib.hid rfl
    clear hnb ht' hf ha he hvl h
    go_enter Try.func46, Try.ntmps46
    go_wp2_with fail
    go_ret
    exact ⟨ret_int (by rw [HN.out]; rfl), rfl⟩
  | lam x b =>
    obtain ⟨tb', tc, e1, hPb, hx, ht', hd⟩ := ht
    injection e1 with e1
    injection e1 with e1
    injection e1 with e1
    subst e1
    have tl := ht'.lt
    have t0 := ht'.cell 0
    simp only [List.getElem?_toArray, List.getElem?_cons_zero] at t0
    cases st with
    | nil =>
      have hv0 : vs.length = 0 := by rw [hvl]; rfl
      rw [hv0] at b1
      have HN : Hid (nxC ⟨.lam x b, e, [], op⟩ = 2) := Lib.hid rfl
      clear hnb ht' hd he hvl h hv0 hVL
      go_enter Try.func46, Try.ntmps46
      go_wp2_with fail
      go_ret
      exact ⟨ret_int (by rw [HN.out]; rfl), rfl⟩
    | cons p st =>
      have hv0 : 0 < vs.length := by rw [hvl]; simp
      have HN : Hid (nxC ⟨.lam x b, e, p :: st, op⟩ = 1) := Lib.hid rfl
      clear hnb ht' hd he hvl h
      go_enter Try.func46, Try.ntmps46
      go_wp2_with fail
      go_ret
      exact ⟨ret_int (by rw [HN.out]; rfl), rfl⟩
  | var x =>
    have HVC := Lib.hid (value_var x e (.pointer (some ⟨nb, 0, none⟩)) w P HC.out hel)
    have htc : ∃ c : Int, w.cell? ⟨tb, 0, none⟩ = some (.int .i64 c) ∧ (c = 0 ∨ c = 1) ∧ tb < w.heap.size := by
      unfold toDB at ht
      split at ht
      · obtain ⟨tb', e1, hPb, ht'⟩ := ht
        injection e1 with e1
        injection e1 with e1
        injection e1 with e1
        subst e1
        have t0 := ht'.cell 0
        simp only [List.getElem?_toArray, List.getElem?_cons_zero] at t0
        exact ⟨1, t0, .inr rfl, ht'.lt⟩
      · obtain ⟨tb', e1, hPb, hx, ht'⟩ := ht
        injection e1 with e1
        injection e1 with e1
        injection e1 with e1
        subst e1
        have t0 := ht'.cell 0
        simp only [List.getElem?_toArray, List.getElem?_cons_zero] at t0
        exact ⟨0, t0, .inl rfl, ht'.lt⟩
    obtain ⟨c, t0, hc, tl⟩ := htc
    have hc2 : (c == 2) = false := by rcases hc with rfl | rfl <;> rfl
    have hc3 : (c == 3) = false := by rcases hc with rfl | rfl <;> rfl
    clear hnb ht he hvl h hc
    go_enter Try.func46, Try.ntmps46
    go_wp2_with fail
    refine HVC.out.mono ?_
    rintro q w2 ⟨rfl, ⟨y, a', ea', r', p, h1, rfl, hcc⟩ | ⟨h1, rfl⟩⟩
    · have HN : Hid (nxC ⟨.var x, e, st, op⟩ = 3) := Lib.hid (by simp only [nxC, mstep, h1, Mv.code])
      clear h1 hcc
      go_wp2_with fail
      go_ret
      exact ⟨ret_int (by rw [HN.out]; rfl), rfl⟩
    · have HN : Hid (nxC ⟨.var x, e, st, op⟩ = 4) := Lib.hid (by
        unfold nxC mstep
        simp only
        cases hq : e.look x with
        | clo y t e' r => rw [hq] at h1; exact absurd h1 (by simp [Env.noClo])
        | nil => rfl
        | opn y j r => rfl)
      clear h1
      go_wp2_with fail
      go_ret
      exact ⟨ret_int (by rw [HN.out]; rfl), rfl⟩
end Go.Proofs.Ytljkmeloleeopaa
