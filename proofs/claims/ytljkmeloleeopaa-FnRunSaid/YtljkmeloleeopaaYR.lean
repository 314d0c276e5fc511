/- The program's answers of a run. -/
import Derived.Test.YtljkmeloleeopaaYP
import Derived.Test.YtljkmeloleeopaaYQ
import Derived.Laws.ResultCell
import Derived.Deep.RegionHeld3
namespace Go.Proofs.Ytljkmeloleeopaa
set_option linter.unusedVariables false
set_option linter.unusedSimpArgs false
open Go.RowKit

set_option maxRecDepth 100000 in
theorem implMachineMoves_any (s : ByteArray) (w : World) (hm : s.size ≤ maxLen) :
    Calls Try.prog 14 #[.string s] w fun q w' => q = .returned (.int .i64 (mvR (mcR s.data.toList))) ∧ Below w.heap.size w w' := by
  go_enter Try.func14, Try.ntmps14
  go_wp2_with fail
  refine (runText_any s _ hm).mono ?_
  rintro e w1 ⟨hb1, ⟨S, m, P, lo, mb, nb, sv, mv, vs, hres, rfl, hmi, hbd, hlo⟩ | ⟨hres, p, rfl⟩⟩
  · obtain ⟨A, c, rfl⟩ := own_shape hmi.made
    have b2 := hmi.box.cell 2
    have bl := hmi.box.lt
    simp only [List.getElem?_toArray, List.getElem?_cons_zero, List.getElem?_cons_succ] at b2
    have HR : Hid (mvR (mcR s.data.toList) = (m.length : Int)) := Lib.hid (by rw [hres]; rfl)
    clear hmi hres hbd
    go_wp2_with fail
    go_ret
    exact ⟨ret_int (by rw [HR.out]), hb1⟩
  · have HR : Hid (mvR (mcR s.data.toList) = -1) := Lib.hid (by rw [hres]; rfl)
    clear hres
    go_wp2_with fail
    go_ret
    exact ⟨ret_int (by rw [HR.out]), hb1⟩

set_option maxRecDepth 100000 in
theorem implMachineVisits_any (s : ByteArray) (w : World) (hm : s.size ≤ maxLen) :
    Calls Try.prog 18 #[.string s] w fun q w' => q = .returned (.int .i64 (if mvR (mcR s.data.toList) < 0 then -1 else mvR (mcR s.data.toList) + 1)) ∧ Below w.heap.size w w' := by
  have hb : mvR (mcR s.data.toList) ≤ 3000 ∧ -1 ≤ mvR (mcR s.data.toList) := by
    cases hr : mcR s.data.toList with
    | none => simp [mvR]
    | some p => have := (mcR_ok (S := p.1) (m := p.2) hr).2; simp only [mvR]; omega
  have HM := Lib.hid (implMachineMoves_any s w hm)
  generalize mvR (mcR s.data.toList) = k at *
  obtain ⟨hk1, hk2⟩ := hb
  go_enter Try.func18, Try.ntmps18
  go_wp2_with fail
  refine HM.out.mono ?_
  rintro e w1 ⟨rfl, hb1⟩
  by_cases hn : k < 0
  · go_wp2_with fail
    go_ret
    exact ⟨rfl, hb1⟩
  · go_wp2_with fail
    go_ret
    exact ⟨rfl, hb1⟩

theorem ret_run1 {fn : Func} {p : Tmp} (h : fn.results = #[.cell p 25]) (tmps : Array Value) (w : World) (g : Nat) (hp : tmps.getD p undef = .pointer (some ⟨g, 0, none⟩)) {a b c d e f i : Value} (hb : Blk w g 25 #[a, b, c, d, e, f, i]) :
    (results fn tmps).run Try.prog w = .ok (.agg #[a, b, c, d, e, f, i]) w :=
  results_cell_row h tmps w g 25 _ (0, 0) _ hp hb Try.underlying25 rfl (by kernel_rfl)
theorem take_snoc (m : List Mv) (i : Nat) (h : i < m.length) : m.take (i + 1) = m.take i ++ [m[i]] := by rw [List.take_succ_eq_append_getElem h]

theorem Blk.same {w : World} {b t : Nat} {c1 c2 : Array Value} (h : Blk w b t c1) (k : Blk w b t c2) : c1 = c2 := by
  have := (show w.heap[b]? = _ from h).symm.trans (show w.heap[b]? = _ from k)
  simpa using this

set_option maxRecDepth 100000 in
set_option maxHeartbeats 8000000 in
theorem result_any (w : World) (P : Nat → Prop) (lo mb : Nat) (S : St) (m : List Mv) (nb : Nat) (sv mv : Value) (vs : List Value)
    (h : MI w P lo mb S m nb sv mv vs) (hend : mstep S = none) (hok : StOk S m) (hbd : StBd m.length S) (hm : m.length ≤ 3000) :
    Calls Try.prog 22 #[.pointer (some ⟨mb, 0, none⟩)] w fun q w' => q = .returned (rnV (mvN .p m) (mvN .t m) (mvN .o m) (mvN .l m) S.name S.st.length (mvN .o m)) ∧ Below w.heap.size w w' := by
  obtain ⟨x, hx⟩ := mstep_var hend
  have hvl := h.sat.len
  have hop := hok.op
  have H := Lib.hid h
  have hnow := h.now
  rw [hx] at hnow
  have HNM : Hid (S.name = x) := Lib.hid (by unfold St.name; rw [hx])
  have HNOW := Lib.hid hnow
  have hel := Env.bd_len hbd.e
  obtain ⟨gm, cm, rfl⟩ := own_shape h.made
  obtain ⟨gs, cs, rfl⟩ := own_shape h.stk
  have b0 := h.box.cell 0
  have b1 := h.box.cell 1
  have b2 := h.box.cell 2
  have b3 := h.box.cell 3
  have bl := h.box.lt
  simp only [List.getElem?_toArray, List.getElem?_cons_zero, List.getElem?_cons_succ] at b0 b1 b2 b3
  rw [hop] at b3
  rw [hvl] at b1
  have hsum := mvN_sum m
  have hst2 := hok.st
  have hSL : S.st.length ≤ 3000 := by omega
  have hON : mvN .o m ≤ 3000 := by omega
  generalize hLN : S.st.length = ln at *
  generalize hOO : mvN .o m = on at *
  have HOO := Lib.hid hOO
  have HOP := Lib.hid hop
  have HLN := Lib.hid hLN
  clear h hx hnow hvl hop hsum hst2 hend hok hbd hLN hOO
  go_enter Try.func22, Try.ntmps22
  go_wp2_with fail
  clear b0 b1 b2 b3
  go_loopg [11] m.length (fun q v wr => ∃ i : Nat, q = m.length - i ∧ i ≤ m.length ∧ v = .int .i64 (i : Nat) ∧ Hid (Stands w wr P) ∧ Hid (Below w.heap.size w wr) ∧ Hid (Blk wr w.heap.size 25 #[.int .i64 0, .int .i64 0, .int .i64 0, .int .i64 0, .string ⟨#[]⟩, .int .i64 0, .int .i64 0]) ∧
    Hid (Blk wr (w.heap.size + 1) 72 #[.int .i64 (mvN .p (m.take i) : Nat), .int .i64 (mvN .t (m.take i) : Nat), .int .i64 (mvN .o (m.take i) : Nat), .int .i64 (mvN .l (m.take i) : Nat)]))
  case atStart =>
    have n1 := Blk.new (w.alloc (.cells #[.int .i64 0, .int .i64 0, .int .i64 0, .int .i64 0, .string ⟨#[]⟩, .int .i64 0, .int .i64 0] 25)) 72 #[.int .i64 0, .int .i64 0, .int .i64 0, .int .i64 0]
    rw [show (w.alloc (.cells #[.int .i64 0, .int .i64 0, .int .i64 0, .int .i64 0, .string ⟨#[]⟩, .int .i64 0, .int .i64 0] 25)).heap.size = w.heap.size + 1 from by simp] at n1
    exact ⟨0, by omega, by omega, rfl, Lib.hid (((Stands.refl w P).alloc H.out.allP _).alloc (fun b hb => by have := H.out.allP b hb; simp; omega) _), Lib.hid (((Below.refl _ _).alloc (Nat.le_refl _) _).alloc (by simp) _), Lib.hid ((Blk.new w _ _).alloc _), Lib.hid (by simpa [mvN] using n1)⟩
  case round =>
    obtain ⟨i, hq, hi, rfl, HS, HB, HRN, HCT⟩ := hrel
    have HQ := Lib.hid hq
    clear hq
    have HM := Lib.hid (H.out.more HS.out HB.out)
    by_cases hlt : i < m.length
    · obtain ⟨gm', cm', he, _, hgl, _⟩ := own_pos HM.out.made (by omega)
      injection he with he1 _ he2
      subst he1 he2
      have hcell := own_cell HM.out.made (j := i) (u := .int .i64 (m[i].code : Nat)) (by simp [mvVals, hlt])
      have c0 := HCT.out.cell 0
      have c1 := HCT.out.cell 1
      have c2 := HCT.out.cell 2
      have c3 := HCT.out.cell 3
      have cf := HCT.out.frozen
      have cl := HCT.out.lt
      simp only [List.getElem?_toArray, List.getElem?_cons_zero, List.getElem?_cons_succ] at c0 c1 c2 c3
      have q0 := mvN_le .p (m.take i)
      have q1 := mvN_le .t (m.take i)
      have q2 := mvN_le .o (m.take i)
      have q3 := mvN_le .l (m.take i)
      rw [List.length_take] at q0 q1 q2 q3
      have HSN := Lib.hid (take_snoc m i hlt)
      have HRB := Lib.hid (fun (o : Nat) (u : Value) => (show Stands w (wr.setCell ⟨w.heap.size + 1, o, none⟩ u) P from HS.out.set_ HCT.out (fun hp => by have := H.out.allP _ hp; omega) (by decide) (by decide) o u))
      generalize hk : m[i] = k at *
      generalize hp0 : mvN .p (m.take i) = n0 at *
      generalize hp1 : mvN .t (m.take i) = n1 at *
      generalize hp2 : mvN .o (m.take i) = n2 at *
      generalize hp3 : mvN .l (m.take i) = n3 at *
      have HP0 := Lib.hid hp0
      have HP1 := Lib.hid hp1
      have HP2 := Lib.hid hp2
      have HP3 := Lib.hid hp3
      clear hk hp0 hp1 hp2 hp3
      have hle0 : n0 ≤ 3000 := by omega
      have hle1 : n1 ≤ 3000 := by omega
      have hle2 : n2 ≤ 3000 := by omega
      have hle3 : n3 ≤ 3000 := by omega
      clear q0 q1 q2 q3
      cases k with
      | p =>
        rw [show ((Mv.p.code : Nat) : Int) = 0 from rfl] at hcell
        go_wp2_with fail
        go_roundg (m.length - (i + 1))
        case rel =>
          refine ⟨i + 1, by omega, by omega, by go_num, Lib.hid (HRB.out _ _), Lib.hid (HB.out.setCell (by simp) _), Lib.hid (HRN.out.far (by simp) _), Lib.hid ?_⟩
          have := HCT.out.set_ 0 (.int .i64 (↑n0 + 1))
          rw [HSN.out, mvN_snoc, mvN_snoc, mvN_snoc, mvN_snoc, HP0.out, HP1.out, HP2.out, HP3.out]
          simpa [Mv.code] using this
        case measure => rw [HQ.out]; omega
      | t =>
        rw [show ((Mv.t.code : Nat) : Int) = 1 from rfl] at hcell
        go_wp2_with fail
        go_roundg (m.length - (i + 1))
        case rel =>
          refine ⟨i + 1, by omega, by omega, by go_num, Lib.hid (HRB.out _ _), Lib.hid (HB.out.setCell (by simp) _), Lib.hid (HRN.out.far (by simp) _), Lib.hid ?_⟩
          have := HCT.out.set_ 1 (.int .i64 (↑n1 + 1))
          rw [HSN.out, mvN_snoc, mvN_snoc, mvN_snoc, mvN_snoc, HP0.out, HP1.out, HP2.out, HP3.out]
          simpa [Mv.code] using this
        case measure => rw [HQ.out]; omega
      | o =>
        rw [show ((Mv.o.code : Nat) : Int) = 2 from rfl] at hcell
        go_wp2_with fail
        go_roundg (m.length - (i + 1))
        case rel =>
          refine ⟨i + 1, by omega, by omega, by go_num, Lib.hid (HRB.out _ _), Lib.hid (HB.out.setCell (by simp) _), Lib.hid (HRN.out.far (by simp) _), Lib.hid ?_⟩
          have := HCT.out.set_ 2 (.int .i64 (↑n2 + 1))
          rw [HSN.out, mvN_snoc, mvN_snoc, mvN_snoc, mvN_snoc, HP0.out, HP1.out, HP2.out, HP3.out]
          simpa [Mv.code] using this
        case measure => rw [HQ.out]; omega
      | l =>
        rw [show ((Mv.l.code : Nat) : Int) = 3 from rfl] at hcell
        go_wp2_with fail
        go_roundg (m.length - (i + 1))
        case rel =>
          refine ⟨i + 1, by omega, by omega, by go_num, Lib.hid (HRB.out _ _), Lib.hid (HB.out.setCell (by simp) _), Lib.hid (HRN.out.far (by simp) _), Lib.hid ?_⟩
          have := HCT.out.set_ 3 (.int .i64 (↑n3 + 1))
          rw [HSN.out, mvN_snoc, mvN_snoc, mvN_snoc, mvN_snoc, HP0.out, HP1.out, HP2.out, HP3.out]
          simpa [Mv.code] using this
        case measure => rw [HQ.out]; omega
    · have hE : m.take i = m := List.take_of_length_le (by omega)
      have hc := HCT.out
      rw [hE] at hc
      have HC2 := Lib.hid hc
      clear hc hE
      have c0 := HC2.out.cell 0
      have c1 := HC2.out.cell 1
      have c2 := HC2.out.cell 2
      have c3 := HC2.out.cell 3
      have cl := HC2.out.lt
      have b0 := HM.out.box.cell 0
      have b1 := HM.out.box.cell 1
      have b3 := HM.out.box.cell 3
      have bl' := HM.out.box.lt
      have r0 := HRN.out.cell 0
      have r1 := HRN.out.cell 1
      have r2 := HRN.out.cell 2
      have r3 := HRN.out.cell 3
      have r4 := HRN.out.cell 4
      have r5 := HRN.out.cell 5
      have r6 := HRN.out.cell 6
      have rf := HRN.out.frozen
      have rl := HRN.out.lt
      simp only [List.getElem?_toArray, List.getElem?_cons_zero, List.getElem?_cons_succ] at c0 c1 c2 c3 b0 b1 b3 r0 r1 r2 r3 r4 r5 r6
      have HNMC := Lib.hid (name_any x S.e _ wr.drew P ((HNOW.out.stands HS.out).stands (Stands.refl wr P).drew) (by omega))
      have hmb : w.heap.size ≠ mb := by omega
      have HRR : Hid (∀ a b c d e f g, Blk (((((((wr.drew.setCell ⟨w.heap.size, 0, none⟩ a).setCell ⟨w.heap.size, 1, none⟩ b).setCell ⟨w.heap.size, 2, none⟩ c).setCell ⟨w.heap.size, 3, none⟩ d).setCell ⟨w.heap.size, 4, none⟩ e).setCell ⟨w.heap.size, 5, none⟩ f).setCell ⟨w.heap.size, 6, none⟩ g) w.heap.size 25 #[a, b, c, d, e, f, g] ∧ Below w.heap.size w (((((((wr.drew.setCell ⟨w.heap.size, 0, none⟩ a).setCell ⟨w.heap.size, 1, none⟩ b).setCell ⟨w.heap.size, 2, none⟩ c).setCell ⟨w.heap.size, 3, none⟩ d).setCell ⟨w.heap.size, 4, none⟩ e).setCell ⟨w.heap.size, 5, none⟩ f).setCell ⟨w.heap.size, 6, none⟩ g)) := Lib.hid (fun a b c d e f g =>
        ⟨res_set7 HRN.out.drew a b c d e f g, (((((((HB.out.drew.setCell (by simp) _).setCell (by simp) _).setCell (by simp) _).setCell (by simp) _).setCell (by simp) _).setCell (by simp) _).setCell (by simp) _)⟩)
      have hvl := HM.out.sat.len
      have hop := H.out
      rw [HOO.out] at c2
      rw [hvl, HLN.out] at b1
      rw [HOP.out] at b3
      clear hvl hop
      have c0 : wr.drew.cell? ⟨w.heap.size + 1, 0, none⟩ = _ := c0
      have c1 : wr.drew.cell? ⟨w.heap.size + 1, 1, none⟩ = _ := c1
      have c2 : wr.drew.cell? ⟨w.heap.size + 1, 2, none⟩ = _ := c2
      have c3 : wr.drew.cell? ⟨w.heap.size + 1, 3, none⟩ = _ := c3
      have b0 : wr.drew.cell? ⟨mb, 0, none⟩ = _ := b0
      have b1 : wr.drew.cell? ⟨mb, 1, none⟩ = _ := b1
      have b3 : wr.drew.cell? ⟨mb, 3, none⟩ = _ := b3
      have r0 : wr.drew.cell? ⟨w.heap.size, 0, none⟩ = _ := r0
      have r1 : wr.drew.cell? ⟨w.heap.size, 1, none⟩ = _ := r1
      have r2 : wr.drew.cell? ⟨w.heap.size, 2, none⟩ = _ := r2
      have r3 : wr.drew.cell? ⟨w.heap.size, 3, none⟩ = _ := r3
      have r4 : wr.drew.cell? ⟨w.heap.size, 4, none⟩ = _ := r4
      have r5 : wr.drew.cell? ⟨w.heap.size, 5, none⟩ = _ := r5
      have r6 : wr.drew.cell? ⟨w.heap.size, 6, none⟩ = _ := r6
      have rf : ∀ i, wr.drew.frozen? ⟨w.heap.size, i, none⟩ = false := rf
      have HSF : Hid (∀ a b c d e f g, (fun W' : World => W'.cell? ⟨w.heap.size + 1, 0, none⟩ = some (.int .i64 (mvN .p m : Nat)) ∧ W'.cell? ⟨w.heap.size + 1, 1, none⟩ = some (.int .i64 (mvN .t m : Nat)) ∧ W'.cell? ⟨w.heap.size + 1, 2, none⟩ = some (.int .i64 (on : Nat)) ∧ W'.cell? ⟨w.heap.size + 1, 3, none⟩ = some (.int .i64 (mvN .l m : Nat)) ∧ W'.cell? ⟨mb, 0, none⟩ = some (.pointer (some ⟨nb, 0, none⟩)) ∧ W'.cell? ⟨mb, 1, none⟩ = some (.slice gs ln cs) ∧ W'.cell? ⟨mb, 3, none⟩ = some (.int .i64 (on : Nat))) (((((((wr.drew.setCell ⟨w.heap.size, 0, none⟩ a).setCell ⟨w.heap.size, 1, none⟩ b).setCell ⟨w.heap.size, 2, none⟩ c).setCell ⟨w.heap.size, 3, none⟩ d).setCell ⟨w.heap.size, 4, none⟩ e).setCell ⟨w.heap.size, 5, none⟩ f).setCell ⟨w.heap.size, 6, none⟩ g)) := Lib.hid (fun a b c d e f g => by
        have hf : ∀ (p : Addr), p.block ≠ w.heap.size → ((((((((wr.drew.setCell ⟨w.heap.size, 0, none⟩ a).setCell ⟨w.heap.size, 1, none⟩ b).setCell ⟨w.heap.size, 2, none⟩ c).setCell ⟨w.heap.size, 3, none⟩ d).setCell ⟨w.heap.size, 4, none⟩ e).setCell ⟨w.heap.size, 5, none⟩ f).setCell ⟨w.heap.size, 6, none⟩ g)).cell? p = wr.drew.cell? p := by
          intro p hp
          have hg := HRR.out a b c d e f g
          rw [World.cell?_setCell_far _ _ _ _ (Ne.symm hp), World.cell?_setCell_far _ _ _ _ (Ne.symm hp), World.cell?_setCell_far _ _ _ _ (Ne.symm hp), World.cell?_setCell_far _ _ _ _ (Ne.symm hp), World.cell?_setCell_far _ _ _ _ (Ne.symm hp), World.cell?_setCell_far _ _ _ _ (Ne.symm hp), World.cell?_setCell_far _ _ _ _ (Ne.symm hp)]
        exact ⟨(hf _ (by simp)).trans c0, (hf _ (by simp)).trans c1, (hf _ (by simp)).trans c2, (hf _ (by simp)).trans c3, (hf _ (Ne.symm hmb)).trans b0, (hf _ (Ne.symm hmb)).trans b1, (hf _ (Ne.symm hmb)).trans b3⟩)
      generalize hp0 : mvN .p m = np at *
      generalize hp1 : mvN .t m = nt at *
      generalize hp3 : mvN .l m = nl at *
      have HP0 := Lib.hid hp0
      have HP1 := Lib.hid hp1
      have HP3 := Lib.hid hp3
      clear hp0 hp1 hp3
      go_wp2_with fail
      refine wp_region_held_drew (S := fun W' => W'.cell? ⟨w.heap.size + 1, 0, none⟩ = some (.int .i64 (np : Nat)) ∧ W'.cell? ⟨w.heap.size + 1, 1, none⟩ = some (.int .i64 (nt : Nat)) ∧ W'.cell? ⟨w.heap.size + 1, 2, none⟩ = some (.int .i64 (on : Nat)) ∧ W'.cell? ⟨w.heap.size + 1, 3, none⟩ = some (.int .i64 (nl : Nat)) ∧ W'.cell? ⟨mb, 0, none⟩ = some (.pointer (some ⟨nb, 0, none⟩)) ∧ W'.cell? ⟨mb, 1, none⟩ = some (.slice gs ln cs) ∧ W'.cell? ⟨mb, 3, none⟩ = some (.int .i64 (on : Nat))) (by kernel_rfl) ⟨c0, c1, c2, c3, b0, b1, b3⟩ (fun hHeld => ?_)
      generalize wr.drew = wd at *
      refine wpAnyH_take (i := 0) (v := ?_) rfl (by kernel_rfl) (by kernel_rfl) (by kernel_rfl) (fun _ _ _ h => h) (Or.inl ⟨by kernel_rfl, ?_⟩) (by assumption) ?_
      rotate_left
      · intro w0 hS0; (try dsimp only at hS0); go_simp; (try with_reducible rfl)
      (try simp only [List.getElem_toArray, List.getElem_cons_zero, List.getElem_cons_succ]); (try go_frame)
      refine wpAnyH_take (i := 2) (v := ?_) rfl (by kernel_rfl) (by kernel_rfl) (by kernel_rfl) (fun _ _ _ h => h) (Or.inl ⟨by kernel_rfl, ?_⟩) (by assumption) ?_
      rotate_left
      · intro w0 hS0; (try dsimp only at hS0); go_simp; (try with_reducible rfl)
      (try simp only [List.getElem_toArray, List.getElem_cons_zero, List.getElem_cons_succ]); (try go_frame)
      refine wpAnyH_take (i := 4) (v := ?_) rfl (by kernel_rfl) (by kernel_rfl) (by kernel_rfl) (fun _ _ _ h => h) (Or.inl ⟨by kernel_rfl, ?_⟩) (by assumption) ?_
      rotate_left
      · intro w0 hS0; (try dsimp only at hS0); go_simp; (try with_reducible rfl)
      (try simp only [List.getElem_toArray, List.getElem_cons_zero, List.getElem_cons_succ]); (try go_frame)
      refine wpAnyH_take (i := 6) (v := ?_) rfl (by kernel_rfl) (by kernel_rfl) (by kernel_rfl) (fun _ _ _ h => h) (Or.inl ⟨by kernel_rfl, ?_⟩) (by assumption) ?_
      rotate_left
      · intro w0 hS0; (try dsimp only at hS0); go_simp; (try with_reducible rfl)
      (try simp only [List.getElem_toArray, List.getElem_cons_zero, List.getElem_cons_succ]); (try go_frame)
      refine wpAnyH_take (i := 8) (v := ?_) rfl (by kernel_rfl) (by kernel_rfl) (by kernel_rfl) (fun _ _ _ h => h) (Or.inl ⟨by kernel_rfl, ?_⟩) (by assumption) ?_
      rotate_left
      · intro w0 hS0; (try dsimp only at hS0); go_simp; (try with_reducible rfl)
      (try simp only [List.getElem_toArray, List.getElem_cons_zero, List.getElem_cons_succ]); (try go_frame)
      refine wpAnyH_take (i := 13) (v := ?_) rfl (by kernel_rfl) (by kernel_rfl) (by kernel_rfl) (fun _ _ _ h => h) (Or.inl ⟨by kernel_rfl, ?_⟩) (by assumption) ?_
      rotate_left
      · intro w0 hS0; (try dsimp only at hS0); go_simp; (try with_reducible rfl)
      (try simp only [List.getElem_toArray, List.getElem_cons_zero, List.getElem_cons_succ]); (try go_frame)
      refine wpAnyH_take (i := 18) (v := ?_) rfl (by kernel_rfl) (by kernel_rfl) (by kernel_rfl) (fun _ _ _ h => h) (Or.inl ⟨by kernel_rfl, ?_⟩) (by assumption) ?_
      rotate_left
      · intro w0 hS0; (try dsimp only at hS0); go_simp; (try with_reducible rfl)
      (try simp only [List.getElem_toArray, List.getElem_cons_zero, List.getElem_cons_succ]); (try go_frame)
      refine wpAnyH_take (i := 1) (v := ?_) rfl (by kernel_rfl) (by kernel_rfl) (by kernel_rfl) (fun _ _ _ h => h) (Or.inl ⟨by kernel_rfl, ?_⟩) (by assumption) ?_
      rotate_left
      · intro w0 hS0; (try dsimp only at hS0); go_simp; (try with_reducible rfl)
      (try simp only [List.getElem_toArray, List.getElem_cons_zero, List.getElem_cons_succ]); (try go_frame)
      refine wpAnyH_take (i := 3) (v := ?_) rfl (by kernel_rfl) (by kernel_rfl) (by kernel_rfl) (fun _ _ _ h => h) (Or.inl ⟨by kernel_rfl, ?_⟩) (by assumption) ?_
      rotate_left
      · intro w0 hS0; (try dsimp only at hS0); go_simp; (try with_reducible rfl)
      (try simp only [List.getElem_toArray, List.getElem_cons_zero, List.getElem_cons_succ]); (try go_frame)
      refine wpAnyH_take (i := 5) (v := ?_) rfl (by kernel_rfl) (by kernel_rfl) (by kernel_rfl) (fun _ _ _ h => h) (Or.inl ⟨by kernel_rfl, ?_⟩) (by assumption) ?_
      rotate_left
      · intro w0 hS0; (try dsimp only at hS0); go_simp; (try with_reducible rfl)
      (try simp only [List.getElem_toArray, List.getElem_cons_zero, List.getElem_cons_succ]); (try go_frame)
      refine wpAnyH_take (i := 7) (v := ?_) rfl (by kernel_rfl) (by kernel_rfl) (by kernel_rfl) (fun _ _ _ h => h) (Or.inl ⟨by kernel_rfl, ?_⟩) (by assumption) ?_
      rotate_left
      · intro w0 hS0; (try dsimp only at hS0); go_simp; (try with_reducible rfl)
      (try simp only [List.getElem_toArray, List.getElem_cons_zero, List.getElem_cons_succ]); (try go_frame)
      refine wpAnyH_take (i := 9) (v := ?_) rfl (by kernel_rfl) (by kernel_rfl) (by kernel_rfl) (fun _ _ _ h => h) (Or.inl ⟨by kernel_rfl, ?_⟩) (by assumption) ?_
      rotate_left
      · intro w0 hS0; (try dsimp only at hS0); go_simp; (try with_reducible rfl)
      (try simp only [List.getElem_toArray, List.getElem_cons_zero, List.getElem_cons_succ]); (try go_frame)
      refine wpAnyH_take (i := 14) (v := ?_) rfl (by kernel_rfl) (by kernel_rfl) (by kernel_rfl) (fun _ _ _ h => h) (Or.inl ⟨by kernel_rfl, ?_⟩) (by assumption) ?_
      rotate_left
      · intro w0 hS0; (try dsimp only at hS0); go_simp; (try with_reducible rfl)
      (try simp only [List.getElem_toArray, List.getElem_cons_zero, List.getElem_cons_succ]); (try go_frame)
      refine wpAnyH_take (i := 19) (v := ?_) rfl (by kernel_rfl) (by kernel_rfl) (by kernel_rfl) (fun _ _ _ h => h) (Or.inl ⟨by kernel_rfl, ?_⟩) (by assumption) ?_
      rotate_left
      · intro w0 hS0; (try dsimp only at hS0); go_simp; (try with_reducible rfl)
      (try simp only [List.getElem_toArray, List.getElem_cons_zero, List.getElem_cons_succ]); (try go_frame)
      refine wpAnyH_take (i := 10) (v := ?_) rfl (by kernel_rfl) (by kernel_rfl) (by kernel_rfl) (fun _ _ _ h => h) (Or.inl ⟨by kernel_rfl, ?_⟩) (by assumption) ?_
      rotate_left
      · intro w0 hS0; (try dsimp only at hS0); go_simp; (try with_reducible rfl)
      (try simp only [List.getElem_toArray, List.getElem_cons_zero, List.getElem_cons_succ]); (try go_frame)
      refine wpAnyH_take (i := 15) (v := ?_) rfl (by kernel_rfl) (by kernel_rfl) (by kernel_rfl) (fun _ _ _ h => h) (Or.inl ⟨by kernel_rfl, ?_⟩) (by assumption) ?_
      rotate_left
      · intro w0 hS0; (try dsimp only at hS0); go_simp; (try with_reducible rfl)
      (try simp only [List.getElem_toArray, List.getElem_cons_zero, List.getElem_cons_succ]); (try go_frame)
      refine wpAnyH_take (i := 20) (v := ?_) rfl (by kernel_rfl) (by kernel_rfl) (by kernel_rfl) (fun _ _ _ h => h) (Or.inl ⟨by kernel_rfl, ?_⟩) (by assumption) ?_
      rotate_left
      · intro w0 hS0; (try dsimp only at hS0); go_simp; (try with_reducible rfl)
      (try simp only [List.getElem_toArray, List.getElem_cons_zero, List.getElem_cons_succ]); (try go_frame)
      refine wpAnyH_take (i := 11) (v := ?_) rfl (by kernel_rfl) (by kernel_rfl) (by kernel_rfl) (fun _ _ _ h => h) (Or.inl ⟨by kernel_rfl, ?_⟩) (by assumption) ?_
      rotate_left
      · intro w0 hS0; (try dsimp only at hS0); go_simp; (try with_reducible rfl)
      (try simp only [List.getElem_toArray, List.getElem_cons_zero, List.getElem_cons_succ]); (try go_frame)
      refine wpAnyH_take (i := 16) (v := ?_) rfl (by kernel_rfl) (by kernel_rfl) (by kernel_rfl) (fun _ _ _ h => h) (Or.inl ⟨by kernel_rfl, ?_⟩) (by assumption) ?_
      rotate_left
      · intro w0 hS0; (try dsimp only at hS0); go_simp; (try with_reducible rfl)
      (try simp only [List.getElem_toArray, List.getElem_cons_zero, List.getElem_cons_succ]); (try go_frame)
      refine wpAnyH_take (i := 21) (v := ?_) rfl (by kernel_rfl) (by kernel_rfl) (by kernel_rfl) (fun _ _ _ h => h) (Or.inl ⟨by kernel_rfl, ?_⟩) (by assumption) ?_
      rotate_left
      · intro w0 hS0; (try dsimp only at hS0); go_simp; (try with_reducible rfl)
      (try simp only [List.getElem_toArray, List.getElem_cons_zero, List.getElem_cons_succ]); (try go_frame)
      refine wpAnyH_take (i := 17) (v := ?_) rfl (by kernel_rfl) (by kernel_rfl) (by kernel_rfl) (fun _ _ _ h => h) (Or.inl ⟨by kernel_rfl, ?_⟩) (by assumption) ?_
      rotate_left
      · intro w0 hS0; (try dsimp only at hS0); go_simp; (try with_reducible rfl)
      (try simp only [List.getElem_toArray, List.getElem_cons_zero, List.getElem_cons_succ]); (try go_frame)
      refine wpAnyH_ready (rs := [12]) (by kernel_rfl) (by simp) ?_
      refine AllReadyH.cons rfl (fun K hK => ?_) (AllReadyH.nil)
      go_simp
      (go_at_call 32; (with_reducible refine HNMC.out.mono ?_); rintro e wc ⟨rfl, rfl⟩)
      refine hK.out _ _ hHeld (fun hHeld => ?_)
      clear hK K
      (try simp only [List.getElem_toArray, List.getElem_cons_zero, List.getElem_cons_succ]); (try go_frame)
      refine wpAnyH_take (i := 22) (v := ?_) rfl (by kernel_rfl) (by kernel_rfl) (by kernel_rfl) (fun _ _ _ h => h) (Or.inl ⟨by kernel_rfl, ?_⟩) (by assumption) ?_
      rotate_left
      · intro w0 hS0; (try dsimp only at hS0); go_simp; (try with_reducible rfl)
      (try simp only [List.getElem_toArray, List.getElem_cons_zero, List.getElem_cons_succ]); (try go_frame)
      refine wpAnyH_ready (rs := [23]) (by kernel_rfl) (by simp) ?_
      refine AllReadyH.cons rfl (fun K hK => ?_) (AllReadyH.nil)
      go_simp
      refine hK.out _ _ (HSF.out _ _ _ _ _ _ _) (fun hHeld => ?_)
      clear hK K
      refine wpAnyH_done (by kernel_rfl) ?_ _
      go_wp2_with fail
      refine bodyPost_ret (ret_run1 Try.results22 _ _ w.heap.size rfl (HRR.out _ _ _ _ _ _ _).1) rfl ?_
      exact ⟨by rw [HP0.out, HP1.out, HP3.out, HNM.out]; rfl, (HRR.out _ _ _ _ _ _ _).2⟩

set_option maxRecDepth 100000 in
set_option maxHeartbeats 4000000 in
theorem implMachineRun_any (s : ByteArray) (w : World) (hm : s.size ≤ maxLen) :
    Calls Try.prog 9 #[.string s] w fun q w' => q = rnE (mcR s.data.toList) ∧ Below w.heap.size w w' := by
  go_enter Try.func9, Try.ntmps9
  go_wp2_with fail
  refine (runText_any s _ hm).mono ?_
  rintro e w1 ⟨hb1, hcase⟩
  have hr := (Blk.new w 25 #[.int .i64 0, .int .i64 0, .int .i64 0, .int .i64 0, .string ⟨#[]⟩, .int .i64 0, .int .i64 0]).below hb1 (by simp)
  have hB : Below w.heap.size w w1 := ((Below.refl _ _).alloc (Nat.le_refl _) _).trans (hb1.mono (by simp))
  rcases hcase with ⟨S, m, P, lo, mb, nb, sv, mv, vs, hres, rfl, hmi, hbd, hlo⟩ | ⟨hres, p, rfl⟩
  · have hmc := mcR_ok hres
    have hend : mstep S = none := by
      have h2 := hres
      unfold mcR at h2
      split at h2
      · cases h2
      · exact (mrun_ok 3000 _ _ _ _ (StOk.start _) h2).2.1
    have HRES := Lib.hid (result_any w1 P lo mb S m nb sv mv vs hmi hend hmc.1 hbd hmc.2)
    have HR : Hid (rnE (mcR s.data.toList) = .returned (.tuple #[rnV (mvN .p m) (mvN .t m) (mvN .o m) (mvN .l m) S.name S.st.length (mvN .o m), .bool true])) := Lib.hid (by rw [hres]; rfl)
    have HRB := Lib.hid hr
    have HB := Lib.hid hB
    clear hmi hbd hres hmc hend hr hB hb1 hlo
    go_wp2_with fail
    refine HRES.out.mono ?_
    rintro e w2 ⟨rfl, hb2⟩
    have hr2 := HRB.out.below hb2 HRB.out.lt
    have r0 := hr2.cell 0
    have r1 := hr2.cell 1
    have r2 := hr2.cell 2
    have r3 := hr2.cell 3
    have r4 := hr2.cell 4
    have r5 := hr2.cell 5
    have r6 := hr2.cell 6
    have rf := hr2.frozen
    have rl := hr2.lt
    simp only [List.getElem?_toArray, List.getElem?_cons_zero, List.getElem?_cons_succ] at r0 r1 r2 r3 r4 r5 r6
    have HR2 := Lib.hid hr2
    have HB2 := Lib.hid (HB.out.trans (hb2.mono HB.out.size))
    clear hr2 hb2
    unfold rnV
    go_wp2_with fail
    refine bodyPost_ret (ret_run Try.results9 _ _ _ rfl (res_set7 HR2.out _ _ _ _ _ _ _)) rfl ?_
    exact ⟨by rw [HR.out]; rfl, (((((((HB2.out.setCell (by simp) _).setCell (by simp) _).setCell (by simp) _).setCell (by simp) _).setCell (by simp) _).setCell (by simp) _).setCell (by simp) _)⟩
  · have HR : Hid (rnE (mcR s.data.toList) = .returned (.tuple #[rnV 0 0 0 0 [] 0 0, .bool false])) := Lib.hid (by rw [hres]; rfl)
    have r0 := hr.cell 0
    have r1 := hr.cell 1
    have r2 := hr.cell 2
    have r3 := hr.cell 3
    have r4 := hr.cell 4
    have r5 := hr.cell 5
    have r6 := hr.cell 6
    have rf := hr.frozen
    have rl := hr.lt
    simp only [List.getElem?_toArray, List.getElem?_cons_zero, List.getElem?_cons_succ] at r0 r1 r2 r3 r4 r5 r6
    have HRB := Lib.hid hr
    have HB := Lib.hid hB
    clear hr hres hB hb1
    go_wp2_with fail
    refine bodyPost_ret (ret_run Try.results9 _ _ _ rfl (res_set7 HRB.out _ _ _ _ _ _ _)) rfl ?_
    exact ⟨by rw [HR.out]; rfl, (((((((HB.out.setCell (by simp) _).setCell (by simp) _).setCell (by simp) _).setCell (by simp) _).setCell (by simp) _).setCell (by simp) _).setCell (by simp) _)⟩
end Go.Proofs.Ytljkmeloleeopaa
