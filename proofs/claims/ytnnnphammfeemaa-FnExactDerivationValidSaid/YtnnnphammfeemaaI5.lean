/- The model counts the nodes of a derivation, and tells the plain ones. -/
import Derived.Test.YtnnnphammfeemaaI4
namespace Go.Proofs.Ytnnnphammfeemaa
set_option linter.unusedVariables false
set_option linter.unusedSimpArgs false
open Go.RowKit

theorem dvNs_take (r : List Tr) (j : Nat) (t : Tr) (h : r[j]? = some t) : dvNs (r.take (j + 1)) = dvNs (r.take j) + dvN t := by
  rw [dvNs_sum, dvNs_sum, List.take_add_one, h]
  simp
theorem dvNs_take_le (r : List Tr) (j : Nat) : dvNs (r.take j) ≤ dvNs r := by
  have h : dvNs r = dvNs (r.take j) + dvNs (r.drop j) := by
    rw [dvNs_sum, dvNs_sum, dvNs_sum, ← List.sum_append, ← List.map_append, List.take_append_drop]
  omega
theorem dvPs_next (r : List Tr) (j : Nat) (t : Tr) (h : r[j]? = some t) : dvPs (r.drop j) = (dvP t && dvPs (r.drop (j + 1))) := by
  obtain ⟨hj, e⟩ := List.getElem?_eq_some_iff.1 h
  rw [List.drop_eq_getElem_cons hj, e]
  rfl
/-- A derivation is a node: a word, and derivations or a type. -/
theorem isDv_form (k : Bool) (t : Tr) (h : isDv k t = true) : ∃ pa pq r, t = .mk [] (.mk pa pq :: r) ∧ (pa = sAx ∨ (pa ≠ sAx ∧ ∀ u ∈ r, isDv k u = true)) := by
  obtain ⟨a, ps⟩ := t
  by_cases ha : a = []
  · subst ha
    match ps with
    | [] => cases h
    | .mk pa pq :: r =>
      refine ⟨pa, pq, r, rfl, ?_⟩
      rw [isDv_node] at h
      by_cases hx : pa = sAx
      · exact .inl hx
      · rw [if_neg hx, Bool.and_eq_true, isDvs_all, List.all_eq_true] at h
        exact .inr ⟨hx, h.2⟩
  · unfold isDv at h
    rw [if_neg ha] at h
    cases h
/-- What l4Nodes answers. -/
def NoSaid (t : Tr) : Prop := ∀ (v : Value) (w : World) (P : Nat → Prop), TAt w P t v → (∀ b, P b → b < w.heap.size) → dvN t ≤ 100000 →
    Calls Try.prog 11 #[v] w fun e w' => e = .returned (.int .i64 (dvN t)) ∧ Below w.heap.size w w'
/-- A part of a node, in memory. -/
structure PaIn (w : World) (P : Nat → Prop) (g N : Nat) (ps : List Tr) (xs : List Value) : Prop where
  cells : ∀ j u, xs[j]? = some u → w.cell? ⟨g, j, none⟩ = some u
  trees : VsAt w P ps xs
  len : ps.length = N
theorem PaIn.part {w w' : World} {P : Nat → Prop} {g N : Nat} {ps : List Tr} {xs : List Value} (h : PaIn w P g N ps xs) (hP : ∀ b, P b → b < w.heap.size) (hg : P g) (hb : Below w.heap.size w w') (k : Nat) (t : Tr) (hk : ps[k]? = some t) :
    ∃ A n c, w'.cell? ⟨g, k * 2, none⟩ = some (.string ⟨t.atom.toArray⟩) ∧ w'.cell? ⟨g, k * 2 + 1, none⟩ = some (.slice A n c) ∧ TAt w' P t (.agg #[.string ⟨t.atom.toArray⟩, .slice A n c]) := by
  obtain ⟨x, y, hx, hy, hxy⟩ := h.trees.at_ k t hk
  obtain ⟨A, n, c, e⟩ := hxy.shape
  simp at e
  obtain ⟨rfl, rfl⟩ := e
  have hgb := hP g hg
  exact ⟨A, n, c, (hb.cell (p := ⟨g, k * 2, none⟩) hgb).trans (h.cells _ _ (by rw [Nat.mul_comm]; exact hx)), (hb.cell (p := ⟨g, k * 2 + 1, none⟩) hgb).trans (h.cells _ _ (by rw [Nat.mul_comm]; exact hy)), hxy.below hb hP⟩

set_option maxRecDepth 100000 in
theorem l4Nodes_ax (pq r : List Tr) : NoSaid (.mk [] (.mk [97, 120] pq :: r)) := by
  intro v w P ht hP hn
  have HH := Lib.hid (head_of [97, 120] pq r v w P ht hP)
  obtain ⟨A, n, c, rfl⟩ := ht.shape
  clear ht hP hn
  go_enter Try.func11, Try.ntmps11
  go_wp2_with fail
  refine (HH.out _).mono ?_
  rintro e w1 ⟨rfl, hb1⟩
  have hB1 : Below w.heap.size w w1 := ((Below.refl _ _).alloc (Nat.le_refl _) _).trans (hb1.mono (by simp))
  go_wp2_with fail
  go_ret
  exact ⟨rfl, hB1⟩

set_option maxRecDepth 100000 in
set_option maxHeartbeats 2000000 in
theorem l4Nodes_node (pa : List UInt8) (hx : pa ≠ sAx) (pq r : List Tr) (ih : ∀ t ∈ r, NoSaid t) : NoSaid (.mk [] (.mk pa pq :: r)) := by
  intro v w P ht hP hn
  have HH := Lib.hid (head_of pa pq r v w P ht hP)
  have HX : Hid (dvN (.mk [] (.mk pa pq :: r)) = 1 + dvNs r) := Lib.hid (by show 1 + (if (Tr.mk pa pq).atom = sAx then 0 else dvNs r) = _; rw [if_neg (show ¬ (Tr.mk pa pq).atom = sAx from hx)])
  have hxb : (pa == [97, 120]) = false := beq_eq_false_iff_ne.2 hx
  rw [HX.out] at hn
  obtain ⟨vp, rfl, hle, hle2, ⟨h0, _⟩ | ⟨_, g, cap, xs, rfl, hcap, hPg, hc, hvs⟩⟩ := ht.form
  · cases h0
  obtain ⟨N, hN⟩ : ∃ N, (Tr.mk pa pq :: r).length = N := ⟨_, rfl⟩
  have HB : Hid (PaIn w P g N (Tr.mk pa pq :: r) xs) := Lib.hid ⟨hc, hvs, hN⟩
  rw [hN] at ht hle2 hcap HH ⊢
  have HN : Hid (r.length + 1 = N) := Lib.hid hN
  have HP := Lib.hid hP
  have HG := Lib.hid hPg
  have IH := Lib.hid ih
  clear ht hP ih hc hvs hN hPg hx
  go_enter Try.func11, Try.ntmps11
  go_wp2_with fail
  refine (HH.out _).mono ?_
  rintro e w1 ⟨rfl, hb1⟩
  have hB1 : Below w.heap.size w w1 := ((Below.refl _ _).alloc (Nat.le_refl _) _).trans (hb1.mono (by simp))
  have hr := (Blk.new w 26 #[.string ⟨#[]⟩, .slice (some ⟨g, 0, none⟩) N cap]).below hb1 (by simp)
  clear hb1
  go_wp2_with fail
  go_loopw [3, 4] (fun n i wr => ∃ (j : Nat), 1 ≤ j ∧ j ≤ N ∧ i = .int .i64 (j : Nat) ∧ n = .int .i64 ((1 + dvNs (r.take (j - 1)) : Nat) : Int) ∧ Below w.heap.size w wr ∧ Blk wr w.heap.size 26 #[.string ⟨#[]⟩, .slice (some ⟨g, 0, none⟩) N cap]) (fun _ i _ => N - (intOf i).toNat)
  case atStart => exact ⟨1, by omega, by have := HN.out; omega, rfl, rfl, hB1, hr⟩
  case round =>
    obtain ⟨j, hj1, hjN, rfl, rfl, hbw, hblk⟩ := hrel
    have r1 := hblk.cell 1
    have hlt := hblk.lt
    simp at r1
    have hall : Hid (∀ q, P q → q < wr.heap.size) := Lib.hid fun q hq => by have := HP.out q hq; have := hbw.size; omega
    by_cases hkl : j < N
    · have hkr : j - 1 < r.length := by have := HN.out; omega
      obtain ⟨t1, ht1⟩ : ∃ t1, r[j - 1]? = some t1 := ⟨r[j - 1], by simp⟩
      have hp1 : (Tr.mk pa pq :: r)[j]? = some t1 := by
        obtain ⟨i, rfl⟩ : ∃ i, j = i + 1 := ⟨j - 1, by omega⟩
        simpa using ht1
      obtain ⟨A, n, c, x1, y1, tr1⟩ := HB.out.part HP.out HG.out hbw j t1 hp1
      have hst : dvNs (r.take j) = dvNs (r.take (j - 1)) + dvN t1 := by
        have := dvNs_take r (j - 1) t1 ht1
        rwa [show j - 1 + 1 = j by omega] at this
      have hle3 := dvNs_take_le r j
      have C := Lib.hid (IH.out t1 (List.mem_of_getElem? ht1) _ wr P tr1 hall.out (by omega))
      have HST := Lib.hid hst
      obtain ⟨m, hm⟩ : ∃ m, 1 + dvNs (r.take (j - 1)) = m := ⟨_, rfl⟩
      have HM := Lib.hid hm
      obtain ⟨d, hd⟩ : ∃ d, dvN t1 = d := ⟨_, rfl⟩
      have HD := Lib.hid hd
      have hmd : m + d ≤ 100000 := by omega
      rw [hd] at C
      simp only [hm]
      have hb0 : (0 : Int) ≤ (j : Int) := by omega
      have hb1 : (j : Int) < (N : Int) := by omega
      have hw : IntKind.i64.wrap ((m : Int) + (d : Int)) = ((m + d : Nat) : Int) := by rw [IntWalk.i64_in _ (by omega)]; omega
      clear ht1 hp1 tr1 hkr hst hle3 hm hd
      go_wp2_with fail
      refine C.out.mono ?_
      rintro e w2 ⟨rfl, hb2⟩
      have hB := hbw.trans (hb2.mono hbw.size)
      have hblk1 := hblk.below hb2 hblk.lt
      clear hb2
      go_wp2_with fail
      go_roundw
      case rel => exact ⟨j + 1, by omega, by omega, by go_num, by rw [show j + 1 - 1 = j by omega, HST.out]; have := HM.out; have := HD.out; go_num, hB, hblk1⟩
      case measure => simp [intOf]; omega
    · have HF : Hid (1 + dvNs (r.take (j - 1)) = dvN (.mk [] (.mk pa pq :: r))) := Lib.hid (by rw [HX.out, List.take_of_length_le (by have := HN.out; omega)])
      go_wp2_with fail
      go_ret
      exact ⟨ret_int (by rw [HF.out]), hbw⟩

theorem l4Nodes_any (k : Bool) : ∀ t : Tr, isDv k t = true → NoSaid t := by
  intro t
  refine Tr.all (p := fun t => isDv k t = true → NoSaid t) ?_ t
  intro a ps ih h
  obtain ⟨pa, pq, r, e, hr⟩ := isDv_form k _ h
  injection e with e1 e2
  subst e1 e2
  rcases hr with rfl | ⟨hx, hr⟩
  · exact l4Nodes_ax pq r
  · exact l4Nodes_node pa hx pq r fun t ht => ih t (List.mem_cons_of_mem _ ht) (hr t ht)
end Go.Proofs.Ytnnnphammfeemaa
