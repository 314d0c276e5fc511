/- The program's machine runs. -/
import Derived.Test.YtljkmeloleeopaaYN
namespace Go.Proofs.Ytljkmeloleeopaa
set_option linter.unusedVariables false
set_option linter.unusedSimpArgs false
open Go.RowKit

/-- No environment has more names than so many. -/
def Env.bd (n : Nat) : Env → Prop
  | .nil => True
  | .clo _ _ e r => r.names.length < n ∧ e.bd n ∧ r.bd n
  | .opn _ _ r => r.names.length < n ∧ r.bd n
theorem Env.bd_le {n k : Nat} (h : n ≤ k) : ∀ {e : Env}, e.bd n → e.bd k := by
  intro e
  induction e with
  | nil => intro _; trivial
  | clo x t e r ihe ihr => intro q; exact ⟨by have := q.1; omega, ihe q.2.1, ihr q.2.2⟩
  | opn x j r ih => intro q; exact ⟨by have := q.1; omega, ih q.2⟩
theorem Env.bd_len {n : Nat} {e : Env} (h : e.bd n) : e.names.length ≤ n := by
  cases e with
  | nil => simp [Env.names]
  | clo x t e r => have := h.1; simp [Env.names]; omega
  | opn x j r => have := h.1; simp [Env.names]; omega
theorem Env.bd_look {n : Nat} (x : List UInt8) : ∀ {e : Env}, e.bd n → (e.look x).bd n := by
  intro e
  induction e with
  | nil => intro _; trivial
  | clo y t e r ihe ihr => intro q; simp only [Env.look]; split; · exact q
                           · exact ihr q.2.2
  | opn y j r ih => intro q; simp only [Env.look]; split; · exact q
                    · exact ih q.2
structure StBd (n : Nat) (S : St) : Prop where
  e : S.e.bd n
  st : ∀ p, p ∈ S.st → p.2.bd n
theorem StBd.step {n : Nat} {S S' : St} {k : Mv} (h : StBd n S) (hs : mstep S = some (k, S')) : StBd (n + 1) S' := by
  have hl : ∀ {e : Env}, e.bd n → e.bd (n + 1) := fun q => Env.bd_le (by omega) q
  unfold mstep at hs
  split at hs
  · injection hs with hs; injection hs with ha hb; subst ha hb
    refine ⟨hl h.e, fun p hp => ?_⟩
    rcases List.mem_cons.1 hp with rfl | hp
    · exact hl h.e
    · exact hl (h.st p hp)
  · split at hs
    · rename_i hq
      injection hs with hs; injection hs with ha hb; subst ha hb
      have hst := h.st
      rw [hq] at hst
      exact ⟨⟨by have := Env.bd_len h.e; omega, hl (hst _ (List.mem_cons_self ..)), hl h.e⟩, fun p hp => hl (hst p (List.mem_cons_of_mem _ hp))⟩
    · rename_i hq
      injection hs with hs; injection hs with ha hb; subst ha hb
      exact ⟨⟨by have := Env.bd_len h.e; omega, hl h.e⟩, fun p hp => by cases hp⟩
  · rename_i x hx
    split at hs
    · rename_i y t e' r hq
      injection hs with hs; injection hs with ha hb; subst ha hb
      have := Env.bd_look x h.e
      rw [hq] at this
      exact ⟨hl this.2.1, fun p hp => hl (h.st p hp)⟩
    · cases hs

def Mv.fn : Mv → Nat
  | .p => 42
  | .t => 43
  | .o => 44
  | .l => 45
theorem move_any (w : World) (P : Nat → Prop) (lo mb : Nat) (S S' : St) (k : Mv) (m : List Mv) (nb : Nat) (sv mv : Value) (vs : List Value) (h : MI w P lo mb S m nb sv mv vs) (hs : mstep S = some (k, S')) (hok : StOk S m) (hbd : StBd m.length S) (hm : m.length ≤ 4000) :
    Calls Try.prog k.fn #[.pointer (some ⟨mb, 0, none⟩)] w (MpPost P lo mb S' m mv w) := by
  have hsum := mvN_sum m
  have h1 := hok.op
  have h2 := hok.st
  have hel := Env.bd_len hbd.e
  obtain ⟨t, e, st, op⟩ := S
  simp only at h1 h2 hel
  unfold mstep at hs
  simp only at hs
  cases t with
  | app f a => injection hs with hs; injection hs with ha hb; subst ha hb; exact push_any w P lo mb f a e st op m nb sv mv vs h (by omega)
  | lam x b => cases st with
    | nil => injection hs with hs; injection hs with ha hb; subst ha hb; exact open_any w P lo mb x b e op m nb sv mv vs h (by omega)
    | cons p st => injection hs with hs; injection hs with ha hb; subst ha hb; exact take_any w P lo mb x b e p.1 p.2 st op m nb sv mv vs h (by simp only [List.length_cons] at h2; omega)
  | var x =>
    simp only at hs
    split at hs
    · rename_i y a' ea r hq
      injection hs with hs; injection hs with ha hb; subst ha hb
      exact lookup_any w P lo mb x e y a' ea r st op m nb sv mv vs h hq (by omega)
    · cases hs

theorem infoMv1 : (Try.prog.info? 73).map (fun i => (i.zero, i.size, i.bytes)) = some (some (.int .i64 0), 1, 8) := by kernel_rfl

/-- A move that was made is told. -/
theorem MI.told {w w2 : World} {P : Nat → Prop} {lo mb : Nat} {S : St} {m : List Mv} {nb : Nat} {sv mv : Value} {vs : List Value} (h : MI w P lo mb S m nb sv mv vs) (k : Mv) {o : Obj} {g c : Nat}
    (hown : w2.ownsRow lo 73 1 (.slice (some ⟨g, 0, none⟩) (m.length + 1) c) (m.length + 1) (mvVals m ++ [.int .i64 (k.code : Nat)])) (hg : (w.alloc o).grownBy w2 mv.ownBlock) :
    (w2.cell? ⟨mb, 2, none⟩ = some mv ∧ (∀ i, w2.frozen? ⟨mb, i, none⟩ = false) ∧ mb < w2.heap.size) ∧ MI (w2.setCell ⟨mb, 2, none⟩ (.slice (some ⟨g, 0, none⟩) (m.length + 1) c)) P lo mb S (m ++ [k]) nb sv (.slice (some ⟨g, 0, none⟩) (m.length + 1) c) vs ∧ Below lo w (w2.setCell ⟨mb, 2, none⟩ (.slice (some ⟨g, 0, none⟩) (m.length + 1) c)) := by
  have hbs := h.bs
  have hbl := h.box.lt
  have q := (h.box.alloc o).grown hg ((h.box.alloc o).apart (by decide) (h.made.alloc o))
  have hs := ((Stands.refl w P).alloc h.allP o).grown (h.made.alloc o) hg (fun b hb => ⟨by have := h.allP b hb; simp; omega, h.lw b hb⟩) (by decide) (by decide)
  have hk := (h.stk.alloc o).kept hg (rows_apart (h.stk.alloc o) (h.made.alloc o) (by decide))
  have q1 := q.set_ 2 (.slice (some ⟨g, 0, none⟩) (m.length + 1) c)
  have hS := hs.set_ q h.notP (by decide) (by decide) 2 (.slice (some ⟨g, 0, none⟩) (m.length + 1) c)
  have m1 := ownsRow_set hown q (by decide) 2 (.slice (some ⟨g, 0, none⟩) (m.length + 1) c)
  have k1 := ownsRow_set hk q (by decide) 2 (.slice (some ⟨g, 0, none⟩) (m.length + 1) c)
  have hb : Below lo w w2 := ((Below.refl lo w).alloc (by omega) o).grown hg (by simp; omega) (fun k hk' => (h.made.lt k hk').1)
  refine ⟨⟨q.cell 2, q.frozen, q.lt⟩, ⟨by simpa using q1, h.now.stands hS, k1, h.sat.stands hS, ?_, h.lw, h.bs⟩, hb.setCell hbs _⟩
  rw [List.length_append, List.length_singleton]
  have : mvVals (m ++ [k]) = mvVals m ++ [.int .i64 (k.code : Nat)] := by simp [mvVals]
  rw [this]
  exact m1

/-- What the program's run answers. -/
def RrPost (P : Nat → Prop) (lo mb : Nat) (R : Option (St × List Mv)) (w : World) (q : Ending) (w' : World) : Prop :=
  Below lo w w' ∧ ((∃ S m nb sv mv vs, R = some (S, m) ∧ q = .returned (.bool true) ∧ MI w' P lo mb S m nb sv mv vs ∧ StBd m.length S) ∨ (R = none ∧ q = .returned (.bool false)))

set_option maxRecDepth 100000 in
set_option maxHeartbeats 8000000 in
theorem run_any (w : World) (P : Nat → Prop) (lo mb : Nat) (S0 : St) (nb0 : Nat) (sv0 mv0 : Value) (vs0 : List Value) (h : MI w P lo mb S0 [] nb0 sv0 mv0 vs0) (hok0 : StOk S0 []) (hbd0 : StBd 0 S0) :
    Calls Try.prog 31 #[.pointer (some ⟨mb, 0, none⟩)] w (RrPost P lo mb (mrun 3000 S0 []) w) := by
  have H0 := Lib.hid h
  have HO0 := Lib.hid hok0
  have HB0 := Lib.hid hbd0
  obtain ⟨i0, hinf, hz0, hzs, hzb⟩ := info_parts infoMv1
  have hbs := h.bs
  have hN0 := next_any w P lo mb S0 [] nb0 sv0 mv0 vs0 h (by have : S0.st.length + 0 = 0 := hok0.st; omega) (by have := Env.bd_len hbd0.e; omega)
  have HN0 := Lib.hid hN0
  clear h hok0 hbd0 hN0
  go_enter Try.func31, Try.ntmps31
  go_wp2_with fail
  refine HN0.out.mono ?_
  rintro q w1 ⟨rfl, rfl⟩
  go_wp2_with fail
  go_loopg [3] 3001 (fun q v wr => ∃ S m nb sv mv vs, q = 3001 - m.length ∧ m.length ≤ 3000 ∧ v = .int .i64 (nxC S : Nat) ∧ Hid (MI wr P lo mb S m nb sv mv vs) ∧ Hid (StOk S m) ∧ Hid (StBd m.length S) ∧ Hid (Below lo w1 wr) ∧ Hid (mrun 3000 S0 [] = mrun (3000 - m.length) S m))
  case atStart => exact ⟨S0, [], nb0, sv0, mv0, vs0, rfl, by simp, rfl, H0, HO0, HB0, Lib.hid (Below.refl _ _), Lib.hid rfl⟩
  case round =>
    obtain ⟨S, m, nb, sv, mv, vs, hq, hml, rfl, HM, HOK, HBD, HB, HR⟩ := hrel
    have HQ := Lib.hid hq
    clear hq
    cases hst : mstep S with
    | none =>
      have hn4 : nxC S = 4 := by unfold nxC; rw [hst]
      have HRES : Hid (mrun 3000 S0 [] = some (S, m)) := Lib.hid (by rw [HR.out, mrun_end hst])
      rw [hn4]
      clear hn4 hst
      go_wp2_with fail
      go_ret
      exact ⟨HB.out, .inl ⟨S, m, nb, sv, mv, vs, HRES.out, rfl, HM.out, HBD.out⟩⟩
    | some kS =>
      obtain ⟨k, S'⟩ := kS
      have hnk : nxC S = k.code := by unfold nxC; rw [hst]
      have HST := Lib.hid hst
      have HNK := Lib.hid hnk
      clear hnk hst
      obtain ⟨gm, cm, hmv⟩ := own_shape HM.out.made
      subst hmv
      have b2 := HM.out.box.cell 2
      have bf := HM.out.box.frozen
      have bl := HM.out.box.lt
      have b4 := HM.out.box.cell 4
      have b5 := HM.out.box.cell 5
      have b6 := HM.out.box.cell 6
      have b7 := HM.out.box.cell 7
      simp only [List.getElem?_toArray, List.getElem?_cons_zero, List.getElem?_cons_succ, fnV] at b2 b4 b5 b6 b7
      by_cases hfull : m.length = 3000
      · have HRES : Hid (mrun 3000 S0 [] = none) := Lib.hid (by rw [HR.out, show 3000 - m.length = 0 from by omega, mrun_stop HST.out])
        rw [hfull] at b2
        have hf2 := Lib.hid hfull
        clear hfull hml
        cases k with
        | p =>
          rw [show nxC S = 0 from HNK.out]
          go_wp2_with fail
          go_ret
          exact ⟨HB.out, .inr ⟨HRES.out, rfl⟩⟩
        | t =>
          rw [show nxC S = 1 from HNK.out]
          go_wp2_with fail
          go_ret
          exact ⟨HB.out, .inr ⟨HRES.out, rfl⟩⟩
        | o =>
          rw [show nxC S = 2 from HNK.out]
          go_wp2_with fail
          go_ret
          exact ⟨HB.out, .inr ⟨HRES.out, rfl⟩⟩
        | l =>
          rw [show nxC S = 3 from HNK.out]
          go_wp2_with fail
          go_ret
          exact ⟨HB.out, .inr ⟨HRES.out, rfl⟩⟩
      · have hlt : m.length < 3000 := by omega
        have hne : ((m.length : Int) == 3000) = false := beq_eq_false_iff_ne.2 (by omega)
        have HMV := Lib.hid (move_any wr P lo mb S S' k m nb sv _ vs HM.out HST.out HOK.out HBD.out (by omega))
        clear hfull hml
        have HN2 : Hid (∀ w2 nb sv mv vs, MI w2 P lo mb S' (m ++ [k]) nb sv mv vs → Calls Try.prog 46 #[.pointer (some ⟨mb, 0, none⟩)] w2 fun q w' => q = .returned (.int .i64 (nxC S' : Nat)) ∧ w' = w2) := Lib.hid (fun w2 nb sv mv vs h2 => by
          have o2 := HOK.out.step HST.out
          have d2 := HBD.out.step HST.out
          have s2 := mvN_sum (m ++ [k])
          have := o2.st
          simp only [List.length_append, List.length_singleton] at s2
          exact next_any w2 P lo mb S' _ nb sv mv vs h2 (by omega) (by have := Env.bd_len d2.e; omega))
        cases k with
        | p =>
          rw [show nxC S = 0 from HNK.out]
          go_wp2_with fail
          refine (show Calls Try.prog 42 #[.pointer (some ⟨mb, 0, none⟩)] wr _ from HMV.out).mono ?_
          rintro q w2 ⟨rfl, ⟨nb2, sv2, vs2, hm2⟩, hb2⟩
          have d2 := hm2.box.cell 2
          have df := hm2.box.frozen
          have dl := hm2.box.lt
          simp only [List.getElem?_toArray, List.getElem?_cons_zero, List.getElem?_cons_succ] at d2
          have hown2 := hm2.made
          have HM2 := Lib.hid hm2
          have HB2 := Lib.hid (HB.out.trans hb2)
          have hw2 := Lib.hid hown2
          clear hm2 hb2 hown2
          go_wp2_with (first
            | (at_builtin
               refine wpList_append_own_at _ rfl (.tmp 27) (.tmp 29) 56 rfl lo 73 i0 (.int .i64 0) 1 8 Try.underlying56 hinf hz0 hzs hzb rfl (by decide) (.slice gm m.length cm) m.length (mvVals m) rfl (hw2.out.alloc _) ⟨w2.heap.size, 0, none⟩ 1 1 [.int .i64 0] rfl rfl (cell_one_new _ _ _) ?_ ?_ ?_ ?_ ?_
               · intro u hu
                 simp at hu
                 subst hu
                 rfl
               · unfold maxLen; omega
               · omega
               · simp; omega
               intro v3 w3 hown3 hg3 hlt3 hat3
               obtain ⟨g3, c3, hv3, _, _, _⟩ := own_pos hown3 (by omega)
               subst hv3
               have htold := HM2.out.told .p hown3 hg3
               have e2 := htold.1.1
               have ef := htold.1.2.1
               have el := htold.1.2.2
               have HM3 := Lib.hid htold.2.1
               have HB3 := Lib.hid htold.2.2
               clear htold hown3 hg3 hlt3 hat3)
            | fail)
          refine (HN2.out _ _ _ _ _ HM3.out).mono ?_
          rintro q w4 ⟨rfl, rfl⟩
          go_wp2_with fail
          go_roundg (3001 - (m.length + 1))
          case rel =>
            refine ⟨S', m ++ [.p], nb2, sv2, _, vs2, by simp, by simp; omega, rfl, HM3, Lib.hid (HOK.out.step HST.out), Lib.hid ?_, Lib.hid (HB2.out.trans HB3.out), Lib.hid ?_⟩
            · rw [List.length_append, List.length_singleton]; exact HBD.out.step HST.out
            · rw [HR.out, List.length_append, List.length_singleton, show 3000 - m.length = (3000 - (m.length + 1)) + 1 from by omega, mrun_step HST.out]
          case measure => rw [HQ.out]; omega
        | t =>
          rw [show nxC S = 1 from HNK.out]
          go_wp2_with fail
          refine (show Calls Try.prog 43 #[.pointer (some ⟨mb, 0, none⟩)] wr _ from HMV.out).mono ?_
          rintro q w2 ⟨rfl, ⟨nb2, sv2, vs2, hm2⟩, hb2⟩
          have d2 := hm2.box.cell 2
          have df := hm2.box.frozen
          have dl := hm2.box.lt
          simp only [List.getElem?_toArray, List.getElem?_cons_zero, List.getElem?_cons_succ] at d2
          have hown2 := hm2.made
          have HM2 := Lib.hid hm2
          have HB2 := Lib.hid (HB.out.trans hb2)
          have hw2 := Lib.hid hown2
          clear hm2 hb2 hown2
          go_wp2_with (first
            | (at_builtin
               refine wpList_append_own_at _ rfl (.tmp 27) (.tmp 29) 56 rfl lo 73 i0 (.int .i64 0) 1 8 Try.underlying56 hinf hz0 hzs hzb rfl (by decide) (.slice gm m.length cm) m.length (mvVals m) rfl (hw2.out.alloc _) ⟨w2.heap.size, 0, none⟩ 1 1 [.int .i64 1] rfl rfl (cell_one_new _ _ _) ?_ ?_ ?_ ?_ ?_
               · intro u hu
                 simp at hu
                 subst hu
                 rfl
               · unfold maxLen; omega
               · omega
               · simp; omega
               intro v3 w3 hown3 hg3 hlt3 hat3
               obtain ⟨g3, c3, hv3, _, _, _⟩ := own_pos hown3 (by omega)
               subst hv3
               have htold := HM2.out.told .t hown3 hg3
               have e2 := htold.1.1
               have ef := htold.1.2.1
               have el := htold.1.2.2
               have HM3 := Lib.hid htold.2.1
               have HB3 := Lib.hid htold.2.2
               clear htold hown3 hg3 hlt3 hat3)
            | fail)
          refine (HN2.out _ _ _ _ _ HM3.out).mono ?_
          rintro q w4 ⟨rfl, rfl⟩
          go_wp2_with fail
          go_roundg (3001 - (m.length + 1))
          case rel =>
            refine ⟨S', m ++ [.t], nb2, sv2, _, vs2, by simp, by simp; omega, rfl, HM3, Lib.hid (HOK.out.step HST.out), Lib.hid ?_, Lib.hid (HB2.out.trans HB3.out), Lib.hid ?_⟩
            · rw [List.length_append, List.length_singleton]; exact HBD.out.step HST.out
            · rw [HR.out, List.length_append, List.length_singleton, show 3000 - m.length = (3000 - (m.length + 1)) + 1 from by omega, mrun_step HST.out]
          case measure => rw [HQ.out]; omega
        | o =>
          rw [show nxC S = 2 from HNK.out]
          go_wp2_with fail
          refine (show Calls Try.prog 44 #[.pointer (some ⟨mb, 0, none⟩)] wr _ from HMV.out).mono ?_
          rintro q w2 ⟨rfl, ⟨nb2, sv2, vs2, hm2⟩, hb2⟩
          have d2 := hm2.box.cell 2
          have df := hm2.box.frozen
          have dl := hm2.box.lt
          simp only [List.getElem?_toArray, List.getElem?_cons_zero, List.getElem?_cons_succ] at d2
          have hown2 := hm2.made
          have HM2 := Lib.hid hm2
          have HB2 := Lib.hid (HB.out.trans hb2)
          have hw2 := Lib.hid hown2
          clear hm2 hb2 hown2
          go_wp2_with (first
            | (at_builtin
               refine wpList_append_own_at _ rfl (.tmp 27) (.tmp 29) 56 rfl lo 73 i0 (.int .i64 0) 1 8 Try.underlying56 hinf hz0 hzs hzb rfl (by decide) (.slice gm m.length cm) m.length (mvVals m) rfl (hw2.out.alloc _) ⟨w2.heap.size, 0, none⟩ 1 1 [.int .i64 2] rfl rfl (cell_one_new _ _ _) ?_ ?_ ?_ ?_ ?_
               · intro u hu
                 simp at hu
                 subst hu
                 rfl
               · unfold maxLen; omega
               · omega
               · simp; omega
               intro v3 w3 hown3 hg3 hlt3 hat3
               obtain ⟨g3, c3, hv3, _, _, _⟩ := own_pos hown3 (by omega)
               subst hv3
               have htold := HM2.out.told .o hown3 hg3
               have e2 := htold.1.1
               have ef := htold.1.2.1
               have el := htold.1.2.2
               have HM3 := Lib.hid htold.2.1
               have HB3 := Lib.hid htold.2.2
               clear htold hown3 hg3 hlt3 hat3)
            | fail)
          refine (HN2.out _ _ _ _ _ HM3.out).mono ?_
          rintro q w4 ⟨rfl, rfl⟩
          go_wp2_with fail
          go_roundg (3001 - (m.length + 1))
          case rel =>
            refine ⟨S', m ++ [.o], nb2, sv2, _, vs2, by simp, by simp; omega, rfl, HM3, Lib.hid (HOK.out.step HST.out), Lib.hid ?_, Lib.hid (HB2.out.trans HB3.out), Lib.hid ?_⟩
            · rw [List.length_append, List.length_singleton]; exact HBD.out.step HST.out
            · rw [HR.out, List.length_append, List.length_singleton, show 3000 - m.length = (3000 - (m.length + 1)) + 1 from by omega, mrun_step HST.out]
          case measure => rw [HQ.out]; omega
        | l =>
          rw [show nxC S = 3 from HNK.out]
          go_wp2_with fail
          refine (show Calls Try.prog 45 #[.pointer (some ⟨mb, 0, none⟩)] wr _ from HMV.out).mono ?_
          rintro q w2 ⟨rfl, ⟨nb2, sv2, vs2, hm2⟩, hb2⟩
          have d2 := hm2.box.cell 2
          have df := hm2.box.frozen
          have dl := hm2.box.lt
          simp only [List.getElem?_toArray, List.getElem?_cons_zero, List.getElem?_cons_succ] at d2
          have hown2 := hm2.made
          have HM2 := Lib.hid hm2
          have HB2 := Lib.hid (HB.out.trans hb2)
          have hw2 := Lib.hid hown2
          clear hm2 hb2 hown2
          go_wp2_with (first
            | (at_builtin
               refine wpList_append_own_at _ rfl (.tmp 27) (.tmp 29) 56 rfl lo 73 i0 (.int .i64 0) 1 8 Try.underlying56 hinf hz0 hzs hzb rfl (by decide) (.slice gm m.length cm) m.length (mvVals m) rfl (hw2.out.alloc _) ⟨w2.heap.size, 0, none⟩ 1 1 [.int .i64 3] rfl rfl (cell_one_new _ _ _) ?_ ?_ ?_ ?_ ?_
               · intro u hu
                 simp at hu
                 subst hu
                 rfl
               · unfold maxLen; omega
               · omega
               · simp; omega
               intro v3 w3 hown3 hg3 hlt3 hat3
               obtain ⟨g3, c3, hv3, _, _, _⟩ := own_pos hown3 (by omega)
               subst hv3
               have htold := HM2.out.told .l hown3 hg3
               have e2 := htold.1.1
               have ef := htold.1.2.1
               have el := htold.1.2.2
               have HM3 := Lib.hid htold.2.1
               have HB3 := Lib.hid htold.2.2
               clear htold hown3 hg3 hlt3 hat3)
            | fail)
          refine (HN2.out _ _ _ _ _ HM3.out).mono ?_
          rintro q w4 ⟨rfl, rfl⟩
          go_wp2_with fail
          go_roundg (3001 - (m.length + 1))
          case rel =>
            refine ⟨S', m ++ [.l], nb2, sv2, _, vs2, by simp, by simp; omega, rfl, HM3, Lib.hid (HOK.out.step HST.out), Lib.hid ?_, Lib.hid (HB2.out.trans HB3.out), Lib.hid ?_⟩
            · rw [List.length_append, List.length_singleton]; exact HBD.out.step HST.out
            · rw [HR.out, List.length_append, List.length_singleton, show 3000 - m.length = (3000 - (m.length + 1)) + 1 from by omega, mrun_step HST.out]
          case measure => rw [HQ.out]; omega
end Go.Proofs.Ytljkmeloleeopaa
