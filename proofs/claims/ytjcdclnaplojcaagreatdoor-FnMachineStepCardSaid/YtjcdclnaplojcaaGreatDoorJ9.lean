/- The program's Run of a run. Takes against steps: the model's answer and the program's. -/
import Derived.Test.YtjcdclnaplojcaaGreatDoorJ1
import Derived.Test.YtjcdclnaplojcaaGreatDoorJ2
import Derived.Laws.ResultCell
import Derived.Deep.RegionHeld3
import Derived.Test.YtjcdclnaplojcaaGreatDoorJ7
import Derived.Test.YtjcdclnaplojcaaGreatDoorJ8
namespace Go.Proofs.YtjcdclnaplojcaaGreatDoor
set_option linter.unusedVariables false
set_option linter.unusedSimpArgs false
open Go.RowKit

theorem ret_run1 {fn : Func} {p : Tmp} (h : fn.results = #[.cell p 31]) (tmps : Array Value) (w : World) (g : Nat) (hp : tmps.getD p undef = .pointer (some ⟨g, 0, none⟩)) {a b c d e f i : Value} (hb : Blk w g 31 #[a, b, c, d, e, f, i]) :
    (results fn tmps).run Tryz.prog w = .ok (.agg #[a, b, c, d, e, f, i]) w :=
  results_cell_row h tmps w g 31 _ (0, 0) _ hp hb Tryz.underlying31 rfl (by kernel_rfl)
theorem take_snoc (m : List Mv) (i : Nat) (h : i < m.length) : m.take (i + 1) = m.take i ++ [m[i]] := by rw [List.take_succ_eq_append_getElem h]

theorem Blk.same {w : World} {b t : Nat} {c1 c2 : Array Value} (h : Blk w b t c1) (k : Blk w b t c2) : c1 = c2 := by
  have := (show w.heap[b]? = _ from h).symm.trans (show w.heap[b]? = _ from k)
  simpa using this

set_option maxRecDepth 100000 in
set_option maxHeartbeats 8000000 in
theorem result_any (w : World) (P : Nat → Prop) (lo mb : Nat) (S : St) (m : List Mv) (nb : Nat) (sv mv : Value) (vs : List Value)
    (h : MI w P lo mb S m nb sv mv vs) (hend : mstep S = none) (hok : StOk S m) (hbd : StBd m.length S) (hm : m.length ≤ 3000) :
    Calls Tryz.prog 39 #[.pointer (some ⟨mb, 0, none⟩)] w fun q w' => q = .returned (rnV (mvN .p m) (mvN .t m) (mvN .o m) (mvN .l m) S.name S.st.length (mvN .o m)) ∧ Below w.heap.size w w' := by
  obtain ⟨x, hx⟩ := mstep_var hend
  have hvl := h.sat.len
  have hop := hok.op
  have H := Lib.hid h
  have hnow := h.now
  rw [hx] at hnow
  have HNM : Hid (S.name = x) := Lib.hid (by unfold St.name; rw [hx])
  have HNOW := Lib.hid hnow
  have hel := Env.bd_len hbd.e
  obtain ⟨gm, cm, rfl⟩ := own_shape h.made
  obtain ⟨gs, cs, rfl⟩ := own_shape h.stk
  have b0 := h.box.cell 0
  have b1 := h.box.cell 1
  have b2 := h.box.cell 2
  have b3 := h.box.cell 3
  have bl := h.box.lt
  simp only [List.getElem?_toArray, List.getElem?_cons_zero, List.getElem?_cons_succ] at b0 b1 b2 b3
  rw [hop] at b3
  rw [hvl] at b1
  have hsum := mvN_sum m
  have hst2 := hok.st
  have hSL : S.st.length ≤ 3000 := by omega
  have hON : mvN .o m ≤ 3000 := by omega
  generalize hLN : S.st.length = ln at *
  generalize hOO : mvN .o m = on at *
  have HOO := Lib.hid hOO
  have HOP := Lib.hid hop
  have HLN := Lib.hid hLN
  clear h hx hnow hvl hop hsum hst2 hend hok hbd hLN hOO
  go_enter Tryz.func39, Tryz.ntmps39
  go_wp2_with fail
  clear b0 b1 b2 b3
  go_loopg [11] m.length (fun q v wr => ∃ i : Nat, q = m.length - i ∧ i ≤ m.length ∧ v = .int .i64 (i : Nat) ∧ Hid (Stands w wr P) ∧ Hid (Below w.heap.size w wr) ∧ Hid (Blk wr w.heap.size 31 #[.int .i64 0, .int .i64 0, .int .i64 0, .int .i64 0, .string ⟨#[]⟩, .int .i64 0, .int .i64 0]) ∧
    Hid (Blk wr (w.heap.size + 1) 134 #[.int .i64 (mvN .p (m.take i) : Nat), .int .i64 (mvN .t (m.take i) : Nat), .int .i64 (mvN .o (m.take i) : Nat), .int .i64 (mvN .l (m.take i) : Nat)]))
  case atStart =>
    have n1 := Blk.new (w.alloc (.cells #[.int .i64 0, .int .i64 0, .int .i64 0, .int .i64 0, .string ⟨#[]⟩, .int .i64 0, .int .i64 0] 31)) 134 #[.int .i64 0, .int .i64 0, .int .i64 0, .int .i64 0]
    rw [show (w.alloc (.cells #[.int .i64 0, .int .i64 0, .int .i64 0, .int .i64 0, .string ⟨#[]⟩, .int .i64 0, .int .i64 0] 31)).heap.size = w.heap.size + 1 from by simp] at n1
    exact ⟨0, by omega, by omega, rfl, Lib.hid (((Stands.refl w P).alloc H.out.allP _).alloc (fun b hb => by have := H.out.allP b hb; simp; omega) _), Lib.hid (((Below.refl _ _).alloc (Nat.le_refl _) _).alloc (by simp) _), Lib.hid ((Blk.new w _ _).alloc _), Lib.hid (by simpa [mvN] using n1)⟩
  case round =>
    obtain ⟨i, hq, hi, rfl, HS, HB, HRN, HCT⟩ := hrel
    have HQ := Lib.hid hq
    clear hq
    have HM := Lib.hid (H.out.more HS.out HB.out)
    by_cases hlt : i < m.length
    · obtain ⟨gm', cm', he, _, hgl, _⟩ := own_pos HM.out.made (by omega)
      injection he with he1 _ he2
      subst he1 he2
      have hcell := own_cell HM.out.made (j := i) (u := .int .i64 (m[i].code : Nat)) (by simp [mvVals, hlt])
      have c0 := HCT.out.cell 0
      have c1 := HCT.out.cell 1
      have c2 := HCT.out.cell 2
      have c3 := HCT.out.cell 3
      have cf := HCT.out.frozen
      have cl := HCT.out.lt
      simp only [List.getElem?_toArray, List.getElem?_cons_zero, List.getElem?_cons_succ] at c0 c1 c2 c3
      have q0 := mvN_le .p (m.take i)
      have q1 := mvN_le .t (m.take i)
      have q2 := mvN_le .o (m.take i)
      have q3 := mvN_le .l (m.take i)
      rw [List.length_take] at q0 q1 q2 q3
      have HSN := Lib.hid (take_snoc m i hlt)
      have HRB := Lib.hid (fun (o : Nat) (u : Value) => (show Stands w (wr.setCell ⟨w.heap.size + 1, o, none⟩ u) P from HS.out.set_ HCT.out (fun hp => by have := H.out.allP _ hp; omega) (by decide) (by decide) o u))
      generalize hk : m[i] = k at *
      generalize hp0 : mvN .p (m.take i) = n0 at *
      generalize hp1 : mvN .t (m.take i) = n1 at *
      generalize hp2 : mvN .o (m.take i) = n2 at *
      generalize hp3 : mvN .l (m.take i) = n3 at *
      have HP0 := Lib.hid hp0
      have HP1 := Lib.hid hp1
      have HP2 := Lib.hid hp2
      have HP3 := Lib.hid hp3
      clear hk hp0 hp1 hp2 hp3
      have hle0 : n0 ≤ 3000 := by omega
      have hle1 : n1 ≤ 3000 := by omega
      have hle2 : n2 ≤ 3000 := by omega
      have hle3 : n3 ≤ 3000 := by omega
      clear q0 q1 q2 q3
      cases k with
      | p =>
        rw [show ((Mv.p.code : Nat) : Int) = 0 from rfl] at hcell
        go_wp2_with fail
        go_roundg (m.length - (i + 1))
        case rel =>
          refine ⟨i + 1, by omega, by omega, by go_num, Lib.hid (HRB.out _ _), Lib.hid (HB.out.setCell (by simp) _), Lib.hid (HRN.out.far (by simp) _), Lib.hid ?_⟩
          have := HCT.out.set_ 0 (.int .i64 (↑n0 + 1))
          rw [HSN.out, mvN_snoc, mvN_snoc, mvN_snoc, mvN_snoc, HP0.out, HP1.out, HP2.out, HP3.out]
          simpa [Mv.code] using this
        case measure => rw [HQ.out]; omega
      | t =>
        rw [show ((Mv.t.code : Nat) : Int) = 1 from rfl] at hcell
        go_wp2_with fail
        go_roundg (m.length - (i + 1))
        case rel =>
          refine ⟨i + 1, by omega, by omega, by go_num, Lib.hid (HRB.out _ _), Lib.hid (HB.out.setCell (by simp) _), Lib.hid (HRN.out.far (by simp) _), Lib.hid ?_⟩
          have := HCT.out.set_ 1 (.int .i64 (↑n1 + 1))
          rw [HSN.out, mvN_snoc, mvN_snoc, mvN_snoc, mvN_snoc, HP0.out, HP1.out, HP2.out, HP3.out]
          simpa [Mv.code] using this
        case measure => rw [HQ.out]; omega
      | o =>
        rw [show ((Mv.o.code : Nat) : Int) = 2 from rfl] at hcell
        go_wp2_with fail
        go_roundg (m.length - (i + 1))
        case rel =>
          refine ⟨i + 1, by omega, by omega, by go_num, Lib.hid (HRB.out _ _), Lib.hid (HB.out.setCell (by simp) _), Lib.hid (HRN.out.far (by simp) _), Lib.hid ?_⟩
          have := HCT.out.set_ 2 (.int .i64 (↑n2 + 1))
          rw [HSN.out, mvN_snoc, mvN_snoc, mvN_snoc, mvN_snoc, HP0.out, HP1.out, HP2.out, HP3.out]
          simpa [Mv.code] using this
        case measure => rw [HQ.out]; omega
      | l =>
        rw [show ((Mv.l.code : Nat) : Int) = 3 from rfl] at hcell
        go_wp2_with fail
        go_roundg (m.length - (i + 1))
        case rel =>
          refine ⟨i + 1, by omega, by omega, by go_num, Lib.hid (HRB.out _ _), Lib.hid (HB.out.setCell (by simp) _), Lib.hid (HRN.out.far (by simp) _), Lib.hid ?_⟩
          have := HCT.out.set_ 3 (.int .i64 (↑n3 + 1))
          rw [HSN.out, mvN_snoc, mvN_snoc, mvN_snoc, mvN_snoc, HP0.out, HP1.out, HP2.out, HP3.out]
          simpa [Mv.code] using this
        case measure => rw [HQ.out]; omega
    · have hE : m.take i = m := List.take_of_length_le (by omega)
      have hc := HCT.out
      rw [hE] at hc
      have HC2 := Lib.hid hc
      clear hc hE
      have c0 := HC2.out.cell 0
      have c1 := HC2.out.cell 1
      have c2 := HC2.out.cell 2
      have c3 := HC2.out.cell 3
      have cl := HC2.out.lt
      have b0 := HM.out.box.cell 0
      have b1 := HM.out.box.cell 1
      have b3 := HM.out.box.cell 3
      have bl' := HM.out.box.lt
      have r0 := HRN.out.cell 0
      have r1 := HRN.out.cell 1
      have r2 := HRN.out.cell 2
      have r3 := HRN.out.cell 3
      have r4 := HRN.out.cell 4
      have r5 := HRN.out.cell 5
      have r6 := HRN.out.cell 6
      have rf := HRN.out.frozen
      have rl := HRN.out.lt
      simp only [List.getElem?_toArray, List.getElem?_cons_zero, List.getElem?_cons_succ] at c0 c1 c2 c3 b0 b1 b3 r0 r1 r2 r3 r4 r5 r6
      have HNMC := Lib.hid (name_any x S.e _ wr.drew P ((HNOW.out.stands HS.out).stands (Stands.refl wr P).drew) (by omega))
      have hmb : w.heap.size ≠ mb := by omega
      have HRR : Hid (∀ a b c d e f g, Blk (((((((wr.drew.setCell ⟨w.heap.size, 0, none⟩ a).setCell ⟨w.heap.size, 1, none⟩ b).setCell ⟨w.heap.size, 2, none⟩ c).setCell ⟨w.heap.size, 3, none⟩ d).setCell ⟨w.heap.size, 4, none⟩ e).setCell ⟨w.heap.size, 5, none⟩ f).setCell ⟨w.heap.size, 6, none⟩ g) w.heap.size 31 #[a, b, c, d, e, f, g] ∧ Below w.heap.size w (((((((wr.drew.setCell ⟨w.heap.size, 0, none⟩ a).setCell ⟨w.heap.size, 1, none⟩ b).setCell ⟨w.heap.size, 2, none⟩ c).setCell ⟨w.heap.size, 3, none⟩ d).setCell ⟨w.heap.size, 4, none⟩ e).setCell ⟨w.heap.size, 5, none⟩ f).setCell ⟨w.heap.size, 6, none⟩ g)) := Lib.hid (fun a b c d e f g =>
        ⟨res_set7 HRN.out.drew a b c d e f g, (((((((HB.out.drew.setCell (by simp) _).setCell (by simp) _).setCell (by simp) _).setCell (by simp) _).setCell (by simp) _).setCell (by simp) _).setCell (by simp) _)⟩)
      have hvl := HM.out.sat.len
      have hop := H.out
      rw [HOO.out] at c2
      rw [hvl, HLN.out] at b1
      rw [HOP.out] at b3
      clear hvl hop
      have c0 : wr.drew.cell? ⟨w.heap.size + 1, 0, none⟩ = _ := c0
      have c1 : wr.drew.cell? ⟨w.heap.size + 1, 1, none⟩ = _ := c1
      have c2 : wr.drew.cell? ⟨w.heap.size + 1, 2, none⟩ = _ := c2
      have c3 : wr.drew.cell? ⟨w.heap.size + 1, 3, none⟩ = _ := c3
      have b0 : wr.drew.cell? ⟨mb, 0, none⟩ = _ := b0
      have b1 : wr.drew.cell? ⟨mb, 1, none⟩ = _ := b1
      have b3 : wr.drew.cell? ⟨mb, 3, none⟩ = _ := b3
      have r0 : wr.drew.cell? ⟨w.heap.size, 0, none⟩ = _ := r0
      have r1 : wr.drew.cell? ⟨w.heap.size, 1, none⟩ = _ := r1
      have r2 : wr.drew.cell? ⟨w.heap.size, 2, none⟩ = _ := r2
      have r3 : wr.drew.cell? ⟨w.heap.size, 3, none⟩ = _ := r3
      have r4 : wr.drew.cell? ⟨w.heap.size, 4, none⟩ = _ := r4
      have r5 : wr.drew.cell? ⟨w.heap.size, 5, none⟩ = _ := r5
      have r6 : wr.drew.cell? ⟨w.heap.size, 6, none⟩ = _ := r6
      have rf : ∀ i, wr.drew.frozen? ⟨w.heap.size, i, none⟩ = false := rf
      have HSF : Hid (∀ a b c d e f g, (fun W' : World => W'.cell? ⟨w.heap.size + 1, 0, none⟩ = some (.int .i64 (mvN .p m : Nat)) ∧ W'.cell? ⟨w.heap.size + 1, 1, none⟩ = some (.int .i64 (mvN .t m : Nat)) ∧ W'.cell? ⟨w.heap.size + 1, 2, none⟩ = some (.int .i64 (on : Nat)) ∧ W'.cell? ⟨w.heap.size + 1, 3, none⟩ = some (.int .i64 (mvN .l m : Nat)) ∧ W'.cell? ⟨mb, 0, none⟩ = some (.pointer (some ⟨nb, 0, none⟩)) ∧ W'.cell? ⟨mb, 1, none⟩ = some (.slice gs ln cs) ∧ W'.cell? ⟨mb, 3, none⟩ = some (.int .i64 (on : Nat))) (((((((wr.drew.setCell ⟨w.heap.size, 0, none⟩ a).setCell ⟨w.heap.size, 1, none⟩ b).setCell ⟨w.heap.size, 2, none⟩ c).setCell ⟨w.heap.size, 3, none⟩ d).setCell ⟨w.heap.size, 4, none⟩ e).setCell ⟨w.heap.size, 5, none⟩ f).setCell ⟨w.heap.size, 6, none⟩ g)) := Lib.hid (fun a b c d e f g => by
        have hf : ∀ (p : Addr), p.block ≠ w.heap.size → ((((((((wr.drew.setCell ⟨w.heap.size, 0, none⟩ a).setCell ⟨w.heap.size, 1, none⟩ b).setCell ⟨w.heap.size, 2, none⟩ c).setCell ⟨w.heap.size, 3, none⟩ d).setCell ⟨w.heap.size, 4, none⟩ e).setCell ⟨w.heap.size, 5, none⟩ f).setCell ⟨w.heap.size, 6, none⟩ g)).cell? p = wr.drew.cell? p := by
          intro p hp
          have hg := HRR.out a b c d e f g
          rw [World.cell?_setCell_far _ _ _ _ (Ne.symm hp), World.cell?_setCell_far _ _ _ _ (Ne.symm hp), World.cell?_setCell_far _ _ _ _ (Ne.symm hp), World.cell?_setCell_far _ _ _ _ (Ne.symm hp), World.cell?_setCell_far _ _ _ _ (Ne.symm hp), World.cell?_setCell_far _ _ _ _ (Ne.symm hp), World.cell?_setCell_far _ _ _ _ (Ne.symm hp)]
        exact ⟨(hf _ (by simp)).trans c0, (hf _ (by simp)).trans c1, (hf _ (by simp)).trans c2, (hf _ (by simp)).trans c3, (hf _ (Ne.symm hmb)).trans b0, (hf _ (Ne.symm hmb)).trans b1, (hf _ (Ne.symm hmb)).trans b3⟩)
      generalize hp0 : mvN .p m = np at *
      generalize hp1 : mvN .t m = nt at *
      generalize hp3 : mvN .l m = nl at *
      have HP0 := Lib.hid hp0
      have HP1 := Lib.hid hp1
      have HP3 := Lib.hid hp3
      clear hp0 hp1 hp3
      go_wp2_with fail
      refine wp_region_held_drew (S := fun W' => W'.cell? ⟨w.heap.size + 1, 0, none⟩ = some (.int .i64 (np : Nat)) ∧ W'.cell? ⟨w.heap.size + 1, 1, none⟩ = some (.int .i64 (nt : Nat)) ∧ W'.cell? ⟨w.heap.size + 1, 2, none⟩ = some (.int .i64 (on : Nat)) ∧ W'.cell? ⟨w.heap.size + 1, 3, none⟩ = some (.int .i64 (nl : Nat)) ∧ W'.cell? ⟨mb, 0, none⟩ = some (.pointer (some ⟨nb, 0, none⟩)) ∧ W'.cell? ⟨mb, 1, none⟩ = some (.slice gs ln cs) ∧ W'.cell? ⟨mb, 3, none⟩ = some (.int .i64 (on : Nat))) (by kernel_rfl) ⟨c0, c1, c2, c3, b0, b1, b3⟩ (fun hHeld => ?_)
      generalize wr.drew = wd at *
      refine wpAnyH_take (i := 0) (v := ?_) rfl (by kernel_rfl) (by kernel_rfl) (by kernel_rfl) (fun _ _ _ h => h) (Or.inl ⟨by kernel_rfl, ?_⟩) (by assumption) ?_
      rotate_left
      · intro w0 hS0; (try dsimp only at hS0); go_simp; (try with_reducible rfl)
      (try simp only [List.getElem_toArray, List.getElem_cons_zero, List.getElem_cons_succ]); (try go_frame)
      refine wpAnyH_take (i := 2) (v := ?_) rfl (by kernel_rfl) (by kernel_rfl) (by kernel_rfl) (fun _ _ _ h => h) (Or.inl ⟨by kernel_rfl, ?_⟩) (by assumption) ?_
      rotate_left
      · intro w0 hS0; (try dsimp only at hS0); go_simp; (try with_reducible rfl)
      (try simp only [List.getElem_toArray, List.getElem_cons_zero, List.getElem_cons_succ]); (try go_frame)
      refine wpAnyH_take (i := 4) (v := ?_) rfl (by kernel_rfl) (by kernel_rfl) (by kernel_rfl) (fun _ _ _ h => h) (Or.inl ⟨by kernel_rfl, ?_⟩) (by assumption) ?_
      rotate_left
      · intro w0 hS0; (try dsimp only at hS0); go_simp; (try with_reducible rfl)
      (try simp only [List.getElem_toArray, List.getElem_cons_zero, List.getElem_cons_succ]); (try go_frame)
      refine wpAnyH_take (i := 6) (v := ?_) rfl (by kernel_rfl) (by kernel_rfl) (by kernel_rfl) (fun _ _ _ h => h) (Or.inl ⟨by kernel_rfl, ?_⟩) (by assumption) ?_
      rotate_left
      · intro w0 hS0; (try dsimp only at hS0); go_simp; (try with_reducible rfl)
      (try simp only [List.getElem_toArray, List.getElem_cons_zero, List.getElem_cons_succ]); (try go_frame)
      refine wpAnyH_take (i := 8) (v := ?_) rfl (by kernel_rfl) (by kernel_rfl) (by kernel_rfl) (fun _ _ _ h => h) (Or.inl ⟨by kernel_rfl, ?_⟩) (by assumption) ?_
      rotate_left
      · intro w0 hS0; (try dsimp only at hS0); go_simp; (try with_reducible rfl)
      (try simp only [List.getElem_toArray, List.getElem_cons_zero, List.getElem_cons_succ]); (try go_frame)
      refine wpAnyH_take (i := 13) (v := ?_) rfl (by kernel_rfl) (by kernel_rfl) (by kernel_rfl) (fun _ _ _ h => h) (Or.inl ⟨by kernel_rfl, ?_⟩) (by assumption) ?_
      rotate_left
      · intro w0 hS0; (try dsimp only at hS0); go_simp; (try with_reducible rfl)
      (try simp only [List.getElem_toArray, List.getElem_cons_zero, List.getElem_cons_succ]); (try go_frame)
      refine wpAnyH_take (i := 18) (v := ?_) rfl (by kernel_rfl) (by kernel_rfl) (by kernel_rfl) (fun _ _ _ h => h) (Or.inl ⟨by kernel_rfl, ?_⟩) (by assumption) ?_
      rotate_left
      · intro w0 hS0; (try dsimp only at hS0); go_simp; (try with_reducible rfl)
      (try simp only [List.getElem_toArray, List.getElem_cons_zero, List.getElem_cons_succ]); (try go_frame)
      refine wpAnyH_take (i := 1) (v := ?_) rfl (by kernel_rfl) (by kernel_rfl) (by kernel_rfl) (fun _ _ _ h => h) (Or.inl ⟨by kernel_rfl, ?_⟩) (by assumption) ?_
      rotate_left
      · intro w0 hS0; (try dsimp only at hS0); go_simp; (try with_reducible rfl)
      (try simp only [List.getElem_toArray, List.getElem_cons_zero, List.getElem_cons_succ]); (try go_frame)
      refine wpAnyH_take (i := 3) (v := ?_) rfl (by kernel_rfl) (by kernel_rfl) (by kernel_rfl) (fun _ _ _ h => h) (Or.inl ⟨by kernel_rfl, ?_⟩) (by assumption) ?_
      rotate_left
      · intro w0 hS0; (try dsimp only at hS0); go_simp; (try with_reducible rfl)
      (try simp only [List.getElem_toArray, List.getElem_cons_zero, List.getElem_cons_succ]); (try go_frame)
      refine wpAnyH_take (i := 5) (v := ?_) rfl (by kernel_rfl) (by kernel_rfl) (by kernel_rfl) (fun _ _ _ h => h) (Or.inl ⟨by kernel_rfl, ?_⟩) (by assumption) ?_
      rotate_left
      · intro w0 hS0; (try dsimp only at hS0); go_simp; (try with_reducible rfl)
      (try simp only [List.getElem_toArray, List.getElem_cons_zero, List.getElem_cons_succ]); (try go_frame)
      refine wpAnyH_take (i := 7) (v := ?_) rfl (by kernel_rfl) (by kernel_rfl) (by kernel_rfl) (fun _ _ _ h => h) (Or.inl ⟨by kernel_rfl, ?_⟩) (by assumption) ?_
      rotate_left
      · intro w0 hS0; (try dsimp only at hS0); go_simp; (try with_reducible rfl)
      (try simp only [List.getElem_toArray, List.getElem_cons_zero, List.getElem_cons_succ]); (try go_frame)
      refine wpAnyH_take (i := 9) (v := ?_) rfl (by kernel_rfl) (by kernel_rfl) (by kernel_rfl) (fun _ _ _ h => h) (Or.inl ⟨by kernel_rfl, ?_⟩) (by assumption) ?_
      rotate_left
      · intro w0 hS0; (try dsimp only at hS0); go_simp; (try with_reducible rfl)
      (try simp only [List.getElem_toArray, List.getElem_cons_zero, List.getElem_cons_succ]); (try go_frame)
      refine wpAnyH_take (i := 14) (v := ?_) rfl (by kernel_rfl) (by kernel_rfl) (by kernel_rfl) (fun _ _ _ h => h) (Or.inl ⟨by kernel_rfl, ?_⟩) (by assumption) ?_
      rotate_left
      · intro w0 hS0; (try dsimp only at hS0); go_simp; (try with_reducible rfl)
      (try simp only [List.getElem_toArray, List.getElem_cons_zero, List.getElem_cons_succ]); (try go_frame)
      refine wpAnyH_take (i := 19) (v := ?_) rfl (by kernel_rfl) (by kernel_rfl) (by kernel_rfl) (fun _ _ _ h => h) (Or.inl ⟨by kernel_rfl, ?_⟩) (by assumption) ?_
      rotate_left
      · intro w0 hS0; (try dsimp only at hS0); go_simp; (try with_reducible rfl)
      (try simp only [List.getElem_toArray, List.getElem_cons_zero, List.getElem_cons_succ]); (try go_frame)
      refine wpAnyH_take (i := 10) (v := ?_) rfl (by kernel_rfl) (by kernel_rfl) (by kernel_rfl) (fun _ _ _ h => h) (Or.inl ⟨by kernel_rfl, ?_⟩) (by assumption) ?_
      rotate_left
      · intro w0 hS0; (try dsimp only at hS0); go_simp; (try with_reducible rfl)
      (try simp only [List.getElem_toArray, List.getElem_cons_zero, List.getElem_cons_succ]); (try go_frame)
      refine wpAnyH_take (i := 15) (v := ?_) rfl (by kernel_rfl) (by kernel_rfl) (by kernel_rfl) (fun _ _ _ h => h) (Or.inl ⟨by kernel_rfl, ?_⟩) (by assumption) ?_
      rotate_left
      · intro w0 hS0; (try dsimp only at hS0); go_simp; (try with_reducible rfl)
      (try simp only [List.getElem_toArray, List.getElem_cons_zero, List.getElem_cons_succ]); (try go_frame)
      refine wpAnyH_take (i := 20) (v := ?_) rfl (by kernel_rfl) (by kernel_rfl) (by kernel_rfl) (fun _ _ _ h => h) (Or.inl ⟨by kernel_rfl, ?_⟩) (by assumption) ?_
      rotate_left
      · intro w0 hS0; (try dsimp only at hS0); go_simp; (try with_reducible rfl)
      (try simp only [List.getElem_toArray, List.getElem_cons_zero, List.getElem_cons_succ]); (try go_frame)
      refine wpAnyH_take (i := 11) (v := ?_) rfl (by kernel_rfl) (by kernel_rfl) (by kernel_rfl) (fun _ _ _ h => h) (Or.inl ⟨by kernel_rfl, ?_⟩) (by assumption) ?_
      rotate_left
      · intro w0 hS0; (try dsimp only at hS0); go_simp; (try with_reducible rfl)
      (try simp only [List.getElem_toArray, List.getElem_cons_zero, List.getElem_cons_succ]); (try go_frame)
      refine wpAnyH_take (i := 16) (v := ?_) rfl (by kernel_rfl) (by kernel_rfl) (by kernel_rfl) (fun _ _ _ h => h) (Or.inl ⟨by kernel_rfl, ?_⟩) (by assumption) ?_
      rotate_left
      · intro w0 hS0; (try dsimp only at hS0); go_simp; (try with_reducible rfl)
      (try simp only [List.getElem_toArray, List.getElem_cons_zero, List.getElem_cons_succ]); (try go_frame)
      refine wpAnyH_take (i := 21) (v := ?_) rfl (by kernel_rfl) (by kernel_rfl) (by kernel_rfl) (fun _ _ _ h => h) (Or.inl ⟨by kernel_rfl, ?_⟩) (by assumption) ?_
      rotate_left
      · intro w0 hS0; (try dsimp only at hS0); go_simp; (try with_reducible rfl)
      (try simp only [List.getElem_toArray, List.getElem_cons_zero, List.getElem_cons_succ]); (try go_frame)
      refine wpAnyH_take (i := 17) (v := ?_) rfl (by kernel_rfl) (by kernel_rfl) (by kernel_rfl) (fun _ _ _ h => h) (Or.inl ⟨by kernel_rfl, ?_⟩) (by assumption) ?_
      rotate_left
      · intro w0 hS0; (try dsimp only at hS0); go_simp; (try with_reducible rfl)
      (try simp only [List.getElem_toArray, List.getElem_cons_zero, List.getElem_cons_succ]); (try go_frame)
      refine wpAnyH_ready (rs := [12]) (by kernel_rfl) (by simp) ?_
      refine AllReadyH.cons rfl (fun K hK => ?_) (AllReadyH.nil)
      go_simp
      (go_at_call 71; (with_reducible refine HNMC.out.mono ?_); rintro e wc ⟨rfl, rfl⟩)
      refine hK.out _ _ hHeld (fun hHeld => ?_)
      clear hK K
      (try simp only [List.getElem_toArray, List.getElem_cons_zero, List.getElem_cons_succ]); (try go_frame)
      refine wpAnyH_take (i := 22) (v := ?_) rfl (by kernel_rfl) (by kernel_rfl) (by kernel_rfl) (fun _ _ _ h => h) (Or.inl ⟨by kernel_rfl, ?_⟩) (by assumption) ?_
      rotate_left
      · intro w0 hS0; (try dsimp only at hS0); go_simp; (try with_reducible rfl)
      (try simp only [List.getElem_toArray, List.getElem_cons_zero, List.getElem_cons_succ]); (try go_frame)
      refine wpAnyH_ready (rs := [23]) (by kernel_rfl) (by simp) ?_
      refine AllReadyH.cons rfl (fun K hK => ?_) (AllReadyH.nil)
      go_simp
      refine hK.out _ _ (HSF.out _ _ _ _ _ _ _) (fun hHeld => ?_)
      clear hK K
      refine wpAnyH_done (by kernel_rfl) ?_ _
      go_wp2_with fail
      refine bodyPost_ret (ret_run1 Tryz.results39 _ _ w.heap.size rfl (HRR.out _ _ _ _ _ _ _).1) rfl ?_
      exact ⟨by rw [HP0.out, HP1.out, HP3.out, HNM.out]; rfl, (HRR.out _ _ _ _ _ _ _).2⟩

set_option maxRecDepth 100000 in
set_option maxHeartbeats 4000000 in
theorem implMachineRun_any (s : ByteArray) (w : World) (hm : s.size ≤ maxLen) :
    Calls Tryz.prog 12 #[.string s] w fun q w' => q = rnE (mcR s.data.toList) ∧ Below w.heap.size w w' := by
  go_enter Tryz.func12, Tryz.ntmps12
  go_wp2_with fail
  refine (runText_any s _ hm).mono ?_
  rintro e w1 ⟨hb1, hcase⟩
  have hr := (Blk.new w 31 #[.int .i64 0, .int .i64 0, .int .i64 0, .int .i64 0, .string ⟨#[]⟩, .int .i64 0, .int .i64 0]).below hb1 (by simp)
  have hB : Below w.heap.size w w1 := ((Below.refl _ _).alloc (Nat.le_refl _) _).trans (hb1.mono (by simp))
  rcases hcase with ⟨S, m, P, lo, mb, nb, sv, mv, vs, hres, rfl, hmi, hbd, hlo⟩ | ⟨hres, p, rfl⟩
  · have hmc := mcR_ok hres
    have hend : mstep S = none := by
      have h2 := hres
      unfold mcR at h2
      split at h2
      · cases h2
      · exact (mrun_ok 3000 _ _ _ _ (StOk.start _) h2).2.1
    have HRES := Lib.hid (result_any w1 P lo mb S m nb sv mv vs hmi hend hmc.1 hbd hmc.2)
    have HR : Hid (rnE (mcR s.data.toList) = .returned (.tuple #[rnV (mvN .p m) (mvN .t m) (mvN .o m) (mvN .l m) S.name S.st.length (mvN .o m), .bool true])) := Lib.hid (by rw [hres]; rfl)
    have HRB := Lib.hid hr
    have HB := Lib.hid hB
    clear hmi hbd hres hmc hend hr hB hb1 hlo
    go_wp2_with fail
    refine HRES.out.mono ?_
    rintro e w2 ⟨rfl, hb2⟩
    have hr2 := HRB.out.below hb2 HRB.out.lt
    have r0 := hr2.cell 0
    have r1 := hr2.cell 1
    have r2 := hr2.cell 2
    have r3 := hr2.cell 3
    have r4 := hr2.cell 4
    have r5 := hr2.cell 5
    have r6 := hr2.cell 6
    have rf := hr2.frozen
    have rl := hr2.lt
    simp only [List.getElem?_toArray, List.getElem?_cons_zero, List.getElem?_cons_succ] at r0 r1 r2 r3 r4 r5 r6
    have HR2 := Lib.hid hr2
    have HB2 := Lib.hid (HB.out.trans (hb2.mono HB.out.size))
    clear hr2 hb2
    unfold rnV
    go_wp2_with fail
    refine bodyPost_ret (ret_run Tryz.results12 _ _ _ rfl (res_set7 HR2.out _ _ _ _ _ _ _)) rfl ?_
    exact ⟨by rw [HR.out]; rfl, (((((((HB2.out.setCell (by simp) _).setCell (by simp) _).setCell (by simp) _).setCell (by simp) _).setCell (by simp) _).setCell (by simp) _).setCell (by simp) _)⟩
  · have HR : Hid (rnE (mcR s.data.toList) = .returned (.tuple #[rnV 0 0 0 0 [] 0 0, .bool false])) := Lib.hid (by rw [hres]; rfl)
    have r0 := hr.cell 0
    have r1 := hr.cell 1
    have r2 := hr.cell 2
    have r3 := hr.cell 3
    have r4 := hr.cell 4
    have r5 := hr.cell 5
    have r6 := hr.cell 6
    have rf := hr.frozen
    have rl := hr.lt
    simp only [List.getElem?_toArray, List.getElem?_cons_zero, List.getElem?_cons_succ] at r0 r1 r2 r3 r4 r5 r6
    have HRB := Lib.hid hr
    have HB := Lib.hid hB
    clear hr hres hB hb1
    go_wp2_with fail
    refine bodyPost_ret (ret_run Tryz.results12 _ _ _ rfl (res_set7 HRB.out _ _ _ _ _ _ _)) rfl ?_
    exact ⟨by rw [HR.out]; rfl, (((((((HB.out.setCell (by simp) _).setCell (by simp) _).setCell (by simp) _).setCell (by simp) _).setCell (by simp) _).setCell (by simp) _).setCell (by simp) _)⟩
end Go.Proofs.YtjcdclnaplojcaaGreatDoor

namespace Go.Proofs.YtjcdclnaplojcaaGreatDoor
set_option linter.unusedVariables false
set_option linter.unusedSimpArgs false
open Go.RowKit

/-- The takes are the steps. -/
def agR (r : Option (St × List Mv)) (o : Option (List UInt8 × Nat)) : Bool :=
  match r with
  | none => false
  | some (_, m) => o.isSome && ((mvN .t m : Int) == tnN o)

set_option maxRecDepth 100000 in
set_option maxHeartbeats 4000000 in
theorem specMachineAgrees_any (s : ByteArray) (w : World) (hm : s.size ≤ maxLen) :
    Calls Tryz.prog 16 #[.string s] w fun q w' => q = .returned (.bool (agR (mcR s.data.toList) (noO (rdKind [104, 101, 97, 100]) (rdTerm s.data.toList)))) ∧ Below w.heap.size w w' := by
  have HNO := Lib.hid (fun w' => specNormalOf_any [104, 101, 97, 100] s w' hm)
  unfold TnPost at HNO
  generalize noO (rdKind [104, 101, 97, 100]) (rdTerm s.data.toList) = o at *
  go_enter Tryz.func16, Tryz.ntmps16
  go_wp2_with fail
  refine (l7Run_any s _ hm).mono ?_
  rintro e w1 ⟨hb1, ⟨S, m, sb, u0, u1, u2, u3, u4, hres, rfl, hbx⟩ | ⟨hres, sb, rfl⟩⟩
  · have HR : Hid (agR (mcR s.data.toList) o = (o.isSome && ((mvN .t m : Int) == tnN o))) := Lib.hid (by rw [hres]; rfl)
    have HBX := Lib.hid hbx
    have hz1 := hb1.size
    have HB1 := Lib.hid hb1
    clear hres hbx hb1
    go_wp2_with fail
    refine (HNO.out _).mono ?_
    rintro e w2 ⟨rfl, hb2⟩
    have hb3 := HBX.out.below hb2 HBX.out.lt
    have b6 := hb3.cell 6
    have bl := hb3.lt
    simp only [List.getElem?_toArray, List.getElem?_cons_zero, List.getElem?_cons_succ] at b6
    have HB2 := Lib.hid (HB1.out.trans (hb2.mono hz1))
    clear hb2 hb3
    generalize mvN .t m = nt at *
    cases o with
    | none =>
      simp only [Option.isSome_none] at *
      go_wp2_with fail
      go_ret
      exact ⟨ret_bool (by rw [HR.out]; rfl), HB2.out⟩
    | some p =>
      simp only [Option.isSome_some] at *
      go_wp2_with fail
      all_goals
        go_ret
        exact ⟨ret_bool (by rw [HR.out]; simp), HB2.out⟩
  · have HR : Hid (agR (mcR s.data.toList) o = false) := Lib.hid (by rw [hres]; rfl)
    have hz1 := hb1.size
    have HB1 := Lib.hid hb1
    clear hres hb1
    go_wp2_with fail
    refine (HNO.out _).mono ?_
    rintro e w2 ⟨rfl, hb2⟩
    have HB2 := Lib.hid (HB1.out.trans (hb2.mono hz1))
    clear hb2
    go_wp2_with fail
    go_ret
    exact ⟨ret_bool (by rw [HR.out]), HB2.out⟩

set_option maxRecDepth 100000 in
set_option maxHeartbeats 4000000 in
theorem implMachineAgrees_any (s : ByteArray) (w : World) (hm : s.size ≤ maxLen) (ht : Tab w) :
    Calls Tryz.prog 15 #[.string s] w fun q w' => q = .returned (.bool (agR (mcR s.data.toList) (noO (rdKind [104, 101, 97, 100]) (rdTerm s.data.toList)))) ∧ Below w.heap.size w w' := by
  have HNO := Lib.hid (fun w' (h : Tab w') => implNormalOf_any [104, 101, 97, 100] s w' hm h)
  unfold TnPost at HNO
  have HT := Lib.hid ht
  have HM := Lib.hid (implMachineRun_any s w hm)
  clear ht
  generalize noO (rdKind [104, 101, 97, 100]) (rdTerm s.data.toList) = o at *
  cases hr : mcR s.data.toList with
  | none =>
    rw [hr] at HM
    have HM2 := Lib.hid HM.out
    clear HM hr
    simp only [rnE, rnV] at HM2
    have HR : Hid (agR none o = false) := Lib.hid rfl
    go_enter Tryz.func15, Tryz.ntmps15
    go_wp2_with fail
    refine HM2.out.mono ?_
    rintro e w1 ⟨rfl, hb1⟩
    have hz1 := hb1.size
    have HB1 := Lib.hid (hb1.alloc hz1 (.cells #[.int .i64 0, .int .i64 0, .int .i64 0, .int .i64 0, .string ⟨#[]⟩, .int .i64 0, .int .i64 0] 31))
    clear hb1
    go_wp2_with fail
    go_ret
    exact ⟨ret_bool (by rw [HR.out]), HB1.out⟩
  | some p =>
    obtain ⟨S, m⟩ := p
    rw [hr] at HM
    have HM2 := Lib.hid HM.out
    have HR : Hid (agR (some (S, m)) o = (o.isSome && ((mvN .t m : Int) == tnN o))) := Lib.hid rfl
    clear HM hr
    simp only [rnE, rnV] at HM2
    generalize mvN .p m = np at *
    generalize mvN .t m = nt at *
    generalize mvN .o m = no at *
    generalize mvN .l m = nl at *
    generalize S.name = nm at *
    generalize S.st.length = na at *
    go_enter Tryz.func15, Tryz.ntmps15
    go_wp2_with fail
    refine HM2.out.mono ?_
    rintro e w1 ⟨rfl, hb1⟩
    have hz1 := hb1.size
    have HB1 := Lib.hid (hb1.alloc hz1 (.cells #[.int .i64 (np : Nat), .int .i64 (nt : Nat), .int .i64 (no : Nat), .int .i64 (nl : Nat), .string ⟨nm.toArray⟩, .int .i64 (na : Nat), .int .i64 (no : Nat)] 31))
    have HBK := Lib.hid (Blk.new w1 31 #[.int .i64 (np : Nat), .int .i64 (nt : Nat), .int .i64 (no : Nat), .int .i64 (nl : Nat), .string ⟨nm.toArray⟩, .int .i64 (na : Nat), .int .i64 (no : Nat)])
    clear hb1
    go_wp2_with fail
    refine (HNO.out _ (HT.out.below HB1.out)).mono ?_
    rintro e w2 ⟨rfl, hb2⟩
    have hb3 := HBK.out.below hb2 (by simp)
    have b1 := hb3.cell 1
    have bl := hb3.lt
    simp only [List.getElem?_toArray, List.getElem?_cons_zero, List.getElem?_cons_succ] at b1
    have HB2 := Lib.hid (HB1.out.trans (hb2.mono HB1.out.size))
    clear hb2 hb3
    cases o with
    | none =>
      simp only [Option.isSome_none] at *
      go_wp2_with fail
      go_ret
      exact ⟨ret_bool (by rw [HR.out]; rfl), HB2.out⟩
    | some p =>
      simp only [Option.isSome_some] at *
      go_wp2_with fail
      all_goals
        go_ret
        exact ⟨ret_bool (by rw [HR.out]; simp), HB2.out⟩
end Go.Proofs.YtjcdclnaplojcaaGreatDoor

