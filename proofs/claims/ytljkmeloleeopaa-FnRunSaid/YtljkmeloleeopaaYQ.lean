/- The model's answers of a run. -/
import Derived.Test.YtljkmeloleeopaaYJ
import Derived.Laws.ResultCell
import Derived.BigRegion
namespace Go.Proofs.Ytljkmeloleeopaa
set_option linter.unusedVariables false
set_option linter.unusedSimpArgs false
open Go.RowKit

/-- A Run as a value. -/
def rnV (p t o l : Nat) (x : List UInt8) (a s : Nat) : Value := .agg #[.int .i64 p, .int .i64 t, .int .i64 o, .int .i64 l, .string ⟨x.toArray⟩, .int .i64 a, .int .i64 s]
def rnE : Option (St × List Mv) → Ending
  | some (S, m) => .returned (.tuple #[rnV (mvN .p m) (mvN .t m) (mvN .o m) (mvN .l m) S.name S.st.length (mvN .o m), .bool true])
  | none => .returned (.tuple #[rnV 0 0 0 0 [] 0 0, .bool false])
def mvR : Option (St × List Mv) → Int
  | some (_, m) => m.length
  | none => -1
/-- The letters of a trace. -/
def trE (n : Int) : Option (St × List Mv) → Ending
  | some (_, m) => if 0 ≤ n ∧ n ≤ 300 then .returned (.tuple #[.string ⟨((letters m ++ [46]).take n.toNat).toArray⟩, .bool true]) else .returned (.tuple #[.string ⟨#[]⟩, .bool false])
  | none => .returned (.tuple #[.string ⟨#[]⟩, .bool false])

theorem ext0 (l : List UInt8) (k : Nat) : (⟨l.toArray⟩ : ByteArray).extract 0 k = ⟨(l.take k).toArray⟩ := by
  have := ext_eq ⟨l.toArray⟩ 0 k
  simpa using this
theorem ret_run {fn : Func} {p u : Tmp} (h : fn.results = #[.cell p 25, .tmp u]) (tmps : Array Value) (w : World) (g : Nat) {a b c d e f i : Value} (hp : tmps.getD p undef = .pointer (some ⟨g, 0, none⟩)) (hb : Blk w g 25 #[a, b, c, d, e, f, i]) :
    (results fn tmps).run Try.prog w = .ok (.tuple #[.agg #[a, b, c, d, e, f, i], tmps.getD u undef]) w := by
  rw [results_cell_tmp h, hp]
  have h0 := hb.cell 0
  have h1 := hb.cell 1
  have h2 := hb.cell 2
  have h3 := hb.cell 3
  have h4 := hb.cell 4
  have h5 := hb.cell 5
  have h6 := hb.cell 6
  simp at h0 h1 h2 h3 h4 h5 h6
  simp [go_sem, h0, h1, h2, h3, h4, h5, h6]
theorem res_set7 {w : World} {g : Nat} {t : TypeId} {x0 x1 x2 x3 x4 x5 x6 : Value} (h : Blk w g t #[x0, x1, x2, x3, x4, x5, x6]) (a b c d e f i : Value) : Blk (((((((w.setCell ⟨g, 0, none⟩ a).setCell ⟨g, 1, none⟩ b).setCell ⟨g, 2, none⟩ c).setCell ⟨g, 3, none⟩ d).setCell ⟨g, 4, none⟩ e).setCell ⟨g, 5, none⟩ f).setCell ⟨g, 6, none⟩ i) g t #[a, b, c, d, e, f, i] := by
  have := ((((((h.set_ 0 a).set_ 1 b).set_ 2 c).set_ 3 d).set_ 4 e).set_ 5 f).set_ 6 i
  simpa using this

set_option maxRecDepth 100000 in
set_option maxHeartbeats 4000000 in
theorem specMachineMoves_any (s : ByteArray) (w : World) (hm : s.size ≤ maxLen) :
    Calls Try.prog 13 #[.string s] w fun q w' => q = .returned (.int .i64 (mvR (mcR s.data.toList))) ∧ Below w.heap.size w w' := by
  go_enter Try.func13, Try.ntmps13
  go_wp2_with fail
  refine (l7Run_any s _ hm).mono ?_
  rintro e w1 ⟨hb1, ⟨S, m, sb, u0, u1, u2, u3, u4, hres, rfl, hbx⟩ | ⟨hres, sb, rfl⟩⟩
  · have hml := (mcR_ok hres).2
    have b5 := hbx.cell 5
    have b6 := hbx.cell 6
    have b7 := hbx.cell 7
    have b8 := hbx.cell 8
    have bl := hbx.lt
    simp only [List.getElem?_toArray, List.getElem?_cons_zero, List.getElem?_cons_succ] at b5 b6 b7 b8
    have hsum := mvN_sum m
    have HR : Hid (mvR (mcR s.data.toList) = (mvN .p m : Int) + mvN .t m + mvN .o m + mvN .l m) := Lib.hid (by rw [hres]; simp only [mvR]; omega)
    generalize mvN .p m = np at *
    generalize mvN .t m = nt at *
    generalize mvN .o m = no at *
    generalize mvN .l m = nl at *
    have h1 : np ≤ 3000 := by omega
    have h2 : nt ≤ 3000 := by omega
    have h3 : no ≤ 3000 := by omega
    have h4 : nl ≤ 3000 := by omega
    clear hbx hres hsum hml
    go_wp2_with fail
    go_region
    all_goals
      go_wp2_with fail
      go_ret
      exact ⟨ret_int (by rw [HR.out]), hb1.drew⟩
  · have HR : Hid (mvR (mcR s.data.toList) = -1) := Lib.hid (by rw [hres]; rfl)
    clear hres
    go_wp2_with fail
    go_ret
    exact ⟨ret_int (by rw [HR.out]), hb1⟩

set_option maxRecDepth 100000 in
theorem specMachineVisits_any (s : ByteArray) (w : World) (hm : s.size ≤ maxLen) :
    Calls Try.prog 17 #[.string s] w fun q w' => q = .returned (.int .i64 (if mvR (mcR s.data.toList) < 0 then -1 else mvR (mcR s.data.toList) + 1)) ∧ Below w.heap.size w w' := by
  have hb : mvR (mcR s.data.toList) ≤ 3000 ∧ -1 ≤ mvR (mcR s.data.toList) := by
    cases hr : mcR s.data.toList with
    | none => simp [mvR]
    | some p => have := (mcR_ok (S := p.1) (m := p.2) hr).2; simp only [mvR]; omega
  have HM := Lib.hid (specMachineMoves_any s w hm)
  generalize mvR (mcR s.data.toList) = k at *
  obtain ⟨hk1, hk2⟩ := hb
  go_enter Try.func17, Try.ntmps17
  go_wp2_with fail
  refine HM.out.mono ?_
  rintro e w1 ⟨rfl, hb1⟩
  by_cases hn : k < 0
  · go_wp2_with fail
    go_ret
    exact ⟨rfl, hb1⟩
  · go_wp2_with fail
    go_ret
    exact ⟨rfl, hb1⟩

set_option maxRecDepth 100000 in
set_option maxHeartbeats 4000000 in
theorem specMachineRun_any (s : ByteArray) (w : World) (hm : s.size ≤ maxLen) :
    Calls Try.prog 10 #[.string s] w fun q w' => q = rnE (mcR s.data.toList) ∧ Below w.heap.size w w' := by
  go_enter Try.func10, Try.ntmps10
  go_wp2_with fail
  refine (l7Run_any s _ hm).mono ?_
  rintro e w1 ⟨hb1, hcase⟩
  have hr := (Blk.new w 25 #[.int .i64 0, .int .i64 0, .int .i64 0, .int .i64 0, .string ⟨#[]⟩, .int .i64 0, .int .i64 0]).below hb1 (by simp)
  have hB : Below w.heap.size w w1 := ((Below.refl _ _).alloc (Nat.le_refl _) _).trans (hb1.mono (by simp))
  have r0 := hr.cell 0
  have r1 := hr.cell 1
  have r2 := hr.cell 2
  have r3 := hr.cell 3
  have r4 := hr.cell 4
  have r5 := hr.cell 5
  have r6 := hr.cell 6
  have rf := hr.frozen
  have rl := hr.lt
  simp only [List.getElem?_toArray, List.getElem?_cons_zero, List.getElem?_cons_succ] at r0 r1 r2 r3 r4 r5 r6
  have HRB := Lib.hid hr
  have HB := Lib.hid hB
  clear hr hb1 hB
  rcases hcase with ⟨S, m, sb, u0, u1, u2, u3, u4, hres, rfl, hbx⟩ | ⟨hres, sb, rfl⟩
  · have b5 := hbx.cell 5
    have b6 := hbx.cell 6
    have b7 := hbx.cell 7
    have b8 := hbx.cell 8
    have b9 := hbx.cell 9
    have b10 := hbx.cell 10
    have b11 := hbx.cell 11
    have bl := hbx.lt
    simp only [List.getElem?_toArray, List.getElem?_cons_zero, List.getElem?_cons_succ] at b5 b6 b7 b8 b9 b10 b11
    have HR : Hid (rnE (mcR s.data.toList) = .returned (.tuple #[rnV (mvN .p m) (mvN .t m) (mvN .o m) (mvN .l m) S.name S.st.length (mvN .o m), .bool true])) := Lib.hid (by rw [hres]; rfl)
    generalize mvN .p m = np at *
    generalize mvN .t m = nt at *
    generalize mvN .o m = no at *
    generalize mvN .l m = nl at *
    generalize S.name = nm at *
    generalize S.st.length = na at *
    clear hbx hres
    go_wp2_with fail
    refine bodyPost_ret (ret_run Try.results10 _ _ _ rfl (res_set7 HRB.out _ _ _ _ _ _ _)) rfl ?_
    exact ⟨by rw [HR.out]; rfl, (((((((HB.out.setCell (by simp) _).setCell (by simp) _).setCell (by simp) _).setCell (by simp) _).setCell (by simp) _).setCell (by simp) _).setCell (by simp) _)⟩
  · have HR : Hid (rnE (mcR s.data.toList) = .returned (.tuple #[rnV 0 0 0 0 [] 0 0, .bool false])) := Lib.hid (by rw [hres]; rfl)
    clear hres
    go_wp2_with fail
    refine bodyPost_ret (ret_run Try.results10 _ _ _ rfl (res_set7 HRB.out _ _ _ _ _ _ _)) rfl ?_
    exact ⟨by rw [HR.out]; rfl, (((((((HB.out.setCell (by simp) _).setCell (by simp) _).setCell (by simp) _).setCell (by simp) _).setCell (by simp) _).setCell (by simp) _).setCell (by simp) _)⟩
set_option maxRecDepth 100000 in
set_option maxHeartbeats 4000000 in
theorem specMachineTrace_any (s : ByteArray) (n : Int) (w : World) (hm : s.size ≤ maxLen) :
    Calls Try.prog 15 #[.string s, .int .i64 n] w fun q w' => q = trE n (mcR s.data.toList) ∧ Below w.heap.size w w' := by
  go_enter Try.func15, Try.ntmps15
  go_wp2_with fail
  refine (l7Run_any s _ hm).mono ?_
  rintro e w1 ⟨hb1, ⟨S, m, sb, u0, u1, u2, u3, u4, hres, rfl, hbx⟩ | ⟨hres, sb, rfl⟩⟩
  · have hml := (mcR_ok hres).2
    have b12 := hbx.cell 12
    have bl := hbx.lt
    simp only [List.getElem?_toArray, List.getElem?_cons_zero, List.getElem?_cons_succ] at b12
    have HR := Lib.hid hres
    have hLL : (letters m).length ≤ 3000 := by simp only [letters, List.length_map]; exact hml
    have HL := Lib.hid (show (letters m ++ [46]).length = (letters m).length + 1 from by simp)
    generalize hT : letters m ++ [46] = tr at *
    generalize hTL : tr.length = tl at *
    have htl : tl ≤ 3001 := by have := HL.out; omega
    have HTT := Lib.hid hT
    have HTL := Lib.hid hTL
    clear hbx hres hml hT hTL hLL
    by_cases hn : 0 ≤ n ∧ n ≤ 300
    · have hn1 := hn.1
      have hn2 := hn.2
      have HN := Lib.hid hn
      clear hn
      obtain ⟨k, rfl⟩ : ∃ k : Nat, n = (k : Int) := ⟨n.toNat, by omega⟩
      have HE : Hid (trE k (mcR s.data.toList) = .returned (.tuple #[.string ⟨(tr.take k).toArray⟩, .bool true])) := Lib.hid (by rw [HR.out]; simp only [trE, if_pos HN.out, HTT.out, Int.toNat_natCast])
      go_wp2_with fail
      refine (l6In_any _ _ _ _).mono ?_
      rintro e w2 ⟨rfl, rfl⟩
      rw [show decide ((0 : Int) ≤ (k : Int) ∧ (k : Int) ≤ 300) = true from decide_eq_true HN.out]
      go_wp2_with fail
      go_region
      all_goals
        go_wp2_with fail
      · go_ret2
        refine ⟨?_, hb1.drew⟩
        rw [HE.out, List.take_of_length_le (by omega)]
        refine congrArg (fun z : ByteArray => Ending.returned (.tuple #[.string z, .bool true])) ?_
        rw [ext0, List.take_of_length_le (by omega)]
      · go_ret2
        refine ⟨?_, hb1.drew⟩
        rw [HE.out]
        refine congrArg (fun z : ByteArray => Ending.returned (.tuple #[.string z, .bool true])) ?_
        rw [ext0]
    · have HE : Hid (trE n (mcR s.data.toList) = .returned (.tuple #[.string ⟨#[]⟩, .bool false])) := Lib.hid (by rw [HR.out]; simp only [trE, if_neg hn])
      have HN := Lib.hid hn
      clear hn
      go_wp2_with fail
      refine (l6In_any _ _ _ _).mono ?_
      rintro e w2 ⟨rfl, rfl⟩
      rw [show decide ((0 : Int) ≤ n ∧ n ≤ 300) = false from decide_eq_false HN.out]
      go_wp2_with fail
      go_ret2
      exact ⟨by rw [HE.out]; rfl, hb1⟩
  · have HR : Hid (trE n (mcR s.data.toList) = .returned (.tuple #[.string ⟨#[]⟩, .bool false])) := Lib.hid (by rw [hres]; rfl)
    clear hres
    go_wp2_with fail
    go_ret2
    exact ⟨by rw [HR.out]; rfl, hb1⟩
end Go.Proofs.Ytljkmeloleeopaa
