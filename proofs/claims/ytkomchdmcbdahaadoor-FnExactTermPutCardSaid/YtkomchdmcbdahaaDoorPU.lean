/- The model puts a term for a name, in any term. -/
import Derived.Test.YtkomchdmcbdahaaDoorPS
namespace Go.Proofs.YtkomchdmcbdahaaDoor
set_option linter.unusedVariables false
open Go.RowKit

set_option maxRecDepth 100000 in
set_option maxHeartbeats 4000000 in
theorem l1Put_lam (y : List UInt8) (d : Tm) (ih : PsSaid d) : PsSaid (.lam y d) := by
  rintro x c v vc w P hok ht hc hP
  obtain ⟨g, cap, A0, A1, A2, n0, c0, n1, c1, n2, c2, rfl, hcap, h3⟩ := ht.three
  obtain ⟨Ab, mb, nb, e⟩ := hc.shape
  generalize (tmTr c).atom = ub at e
  subst e
  have HP := Lib.hid hP
  have HOK := Lib.hid hok.2
  have HT := Lib.hid ht
  have K0 : Hid (PKp w P g cap c (.mk sLam []) (.mk y []) (tmTr d) A0 A1 A2 n0 c0 n1 c1 n2 c2 ub Ab mb nb _) := Lib.hid (PKp.start h3 hc hP)
  have CP : Hid (∀ w', PKp w P g cap c (.mk sLam []) (.mk y []) (tmTr d) A0 A1 A2 n0 c0 n1 c1 n2 c2 ub Ab mb nb w' → _) := Lib.hid (fun w' k => ps_call x ih hok.2 k k.three.t2)
  clear ih hP ht hok hc h3
  have hq : (y == x) = true ∨ (y == x) = false := by cases (y == x) <;> simp
  rcases hq with hq | hq
  · have HE : Hid (putT x c (.lam y d) = .lam y d) := Lib.hid (by simp [putT, beq_iff_eq.1 hq])
    go_enter Tryd.func53, Tryd.ntmps53
    go_wp2_with fail
    have hz0 := K0.out.grown.size
    refine (l1Head3 _ P g cap (.mk sLam []) (.mk y []) (tmTr d) A0 A1 A2 n0 c0 n1 c1 n2 c2 K0.out.three (fun b hb => Nat.lt_of_lt_of_le (HP.out b hb) hz0)).mono ?_
    rintro e w1 ⟨rfl, hb1⟩
    have hk := K0.out.below hb1
    have hl : (sLam == [108, 97, 109]) = true := rfl
    simp only [Tr.atom]
    have hks := hk.sl
    have r0 := hk.res.cell 0
    have r1 := hk.res.cell 1
    have rf0 := hk.res.frozen 0
    have rf1 := hk.res.frozen 1
    have rl := hk.res.lt
    have t0 := hk.box.cell 0
    have t1 := hk.box.cell 1
    simp only [List.getElem?_toArray, List.getElem?_cons_zero, List.getElem?_cons_succ] at r0 r1 t0 t1
    have HK := Lib.hid hk
    clear hk
    go_wp2_with fail
    have hsh := HT.out.short
    obtain ⟨hd1, hd2, hd3⟩ := ps_done HK.out (t := tmTr (.lam y d)) (u := .string ⟨#[]⟩) (v := .slice (some ⟨g, 0, none⟩) 3 cap) ((HT.out.below HK.out.grown HP.out).mono fun b hb => ⟨.inl hb, fun _ => rfl⟩)
    have y0 := hd1.cell 0
    have y1 := hd1.cell 1
    simp only [List.getElem?_toArray, List.getElem?_cons_zero, List.getElem?_cons_succ] at y0 y1
    refine bodyPost_ret (v := .agg #[.string ⟨#[]⟩, .slice (some ⟨g, 0, none⟩) 3 cap]) (by simp [results, Tryd.results53, go_sem, y0, y1]) rfl ?_
    exact ⟨[], _, _, _, rfl, by rw [HE.out]; exact hd2, hd3⟩
  · have HE : Hid (putT x c (.lam y d) = .lam y (putT x c d)) := Lib.hid (by simp [putT, beq_eq_false_iff_ne.1 hq])
    go_enter Tryd.func53, Tryd.ntmps53
    go_wp2_with fail
    have hz0 := K0.out.grown.size
    refine (l1Head3 _ P g cap (.mk sLam []) (.mk y []) (tmTr d) A0 A1 A2 n0 c0 n1 c1 n2 c2 K0.out.three (fun b hb => Nat.lt_of_lt_of_le (HP.out b hb) hz0)).mono ?_
    rintro e w1 ⟨rfl, hb1⟩
    have hk := K0.out.below hb1
    have hl : (sLam == [108, 97, 109]) = true := rfl
    simp only [Tr.atom]
    have hks := hk.sl
    have hkd := hk.drew
    go_wp2_with fail
    go_region_held3 (fun w' => w'.cell? ⟨w.heap.size, 1, none⟩ = some (.slice (some ⟨g, 0, none⟩) 3 cap) ∧ w'.cell? ⟨g, 2, none⟩ = some (.string ⟨y.toArray⟩) ∧ w'.cell? ⟨g, 3, none⟩ = some (.slice A1 n1 c1) ∧ w'.cell? ⟨g, 4, none⟩ = some (.string ⟨(tmTr d).atom.toArray⟩) ∧ w'.cell? ⟨g, 5, none⟩ = some (.slice A2 n2 c2) ∧ w'.cell? ⟨w.heap.size + 1, 0, none⟩ = some (.string ⟨ub.toArray⟩) ∧ w'.cell? ⟨w.heap.size + 1, 1, none⟩ = some (.slice Ab mb nb))
      (with_reducible first | exact hkd.sl | exact PKp.sl (by assumption) | exact PKp.sl (PKp.new (by assumption) _) | exact PKp.sputl (by assumption))
      (first
        | (go_at_call 53; (with_reducible refine (CP.out _ hkd).mono ?_); rintro e w3 ⟨u, A', m', c', rfl, ht4, hk4, -⟩)
        | (go_at_call 72; refine (pl_call [108, 97, 109] (by simp) hk4 (hk4.three.t1.mono fun b hb => ⟨.inl hb, fun _ => rfl⟩) ht4).mono ?_; rintro e w5 ⟨A5, m5, c5, rfl, ht5, hk5⟩; have s0 := hk5.res.cell 0; have s1 := hk5.res.cell 1; have sf0 := hk5.res.frozen 0; have sf1 := hk5.res.frozen 1; have sl := hk5.res.lt; simp only [List.getElem?_toArray, List.getElem?_cons_zero, List.getElem?_cons_succ] at s0 s1))
    all_goals
      obtain ⟨hd1, hd2, hd3⟩ := ps_done hk5 ht5
      have y0 := hd1.cell 0
      have y1 := hd1.cell 1
      simp only [List.getElem?_toArray, List.getElem?_cons_zero, List.getElem?_cons_succ] at y0 y1
      have HD2 := Lib.hid hd2
      have HD3 := Lib.hid hd3
      clear hd1 hd2 hd3 ht5 hk5
      go_wp2_with fail
      refine bodyPost_ret (v := .agg #[.string ⟨#[]⟩, .slice A5 m5 c5]) (by simp [results, Tryd.results53, go_sem, y0, y1]) rfl ?_
      exact ⟨[], _, _, _, rfl, by rw [HE.out]; exact HD2.out, HD3.out⟩

set_option maxRecDepth 100000 in
set_option maxHeartbeats 4000000 in
theorem l1Put_app (f a : Tm) (ihf : PsSaid f) (iha : PsSaid a) : PsSaid (.app f a) := by
  rintro x c v vc w P hok ht hc hP
  obtain ⟨g, cap, A0, A1, A2, n0, c0, n1, c1, n2, c2, rfl, hcap, h3⟩ := ht.three
  obtain ⟨Ab, mb, nb, e⟩ := hc.shape
  generalize (tmTr c).atom = ub at e
  subst e
  have HP := Lib.hid hP
  have K0 : Hid (PKp w P g cap c (.mk sApp []) (tmTr f) (tmTr a) A0 A1 A2 n0 c0 n1 c1 n2 c2 ub Ab mb nb _) := Lib.hid (PKp.start h3 hc hP)
  have CP : Hid (∀ w', PKp w P g cap c (.mk sApp []) (tmTr f) (tmTr a) A0 A1 A2 n0 c0 n1 c1 n2 c2 ub Ab mb nb w' → _) := Lib.hid (fun w' k => ps_call x ihf hok.1 k k.three.t1)
  have CQ : Hid (∀ w', PKp w P g cap c (.mk sApp []) (tmTr f) (tmTr a) A0 A1 A2 n0 c0 n1 c1 n2 c2 ub Ab mb nb w' → _) := Lib.hid (fun w' k => ps_call x iha hok.2 k k.three.t2)
  have HE : Hid (putT x c (.app f a) = .app (putT x c f) (putT x c a)) := Lib.hid rfl
  clear ihf iha hP ht hok hc h3
  go_enter Tryd.func53, Tryd.ntmps53
  go_wp2_with fail
  have hz0 := K0.out.grown.size
  refine (l1Head3 _ P g cap (.mk sApp []) (tmTr f) (tmTr a) A0 A1 A2 n0 c0 n1 c1 n2 c2 K0.out.three (fun b hb => Nat.lt_of_lt_of_le (HP.out b hb) hz0)).mono ?_
  rintro e w1 ⟨rfl, hb1⟩
  have hk := K0.out.below hb1
  have hl : (sApp == [108, 97, 109]) = false := rfl
  simp only [Tr.atom]
  have hks := hk.s
  have hkd := hk.drew
  go_wp2_with fail
  go_region_held3 (fun w' => w'.cell? ⟨w.heap.size, 1, none⟩ = some (.slice (some ⟨g, 0, none⟩) 3 cap) ∧ w'.cell? ⟨g, 2, none⟩ = some (.string ⟨(tmTr f).atom.toArray⟩) ∧ w'.cell? ⟨g, 3, none⟩ = some (.slice A1 n1 c1) ∧ w'.cell? ⟨g, 4, none⟩ = some (.string ⟨(tmTr a).atom.toArray⟩) ∧ w'.cell? ⟨g, 5, none⟩ = some (.slice A2 n2 c2) ∧ w'.cell? ⟨w.heap.size + 1, 0, none⟩ = some (.string ⟨ub.toArray⟩) ∧ w'.cell? ⟨w.heap.size + 1, 1, none⟩ = some (.slice Ab mb nb))
    (with_reducible first | exact hkd.s | exact PKp.s (by assumption) | exact PKp.s (PKp.new (by assumption) _) | exact PKp.sput (by assumption))
    (first
      | (go_at_call 53; (with_reducible refine (CP.out _ hkd).mono ?_); rintro e w3 ⟨u3, A3, m3, c3, rfl, ht3, hk3, -⟩)
      | (go_at_call 53; (with_reducible refine (CQ.out _ hk3).mono ?_); rintro e w4 ⟨u4, A4, m4, c4, rfl, ht4, hk4, hb4⟩; have ht34 := PTr.below hk3 ht3 hb4; clear hb4)
      | (go_at_call 72; refine (pl_call [97, 112, 112] (by simp) hk4 ht34 ht4).mono ?_; rintro e w5 ⟨A5, m5, c5, rfl, ht5, hk5⟩; have s0 := hk5.res.cell 0; have s1 := hk5.res.cell 1; have sf0 := hk5.res.frozen 0; have sf1 := hk5.res.frozen 1; have sl := hk5.res.lt; simp only [List.getElem?_toArray, List.getElem?_cons_zero, List.getElem?_cons_succ] at s0 s1))
  all_goals
    obtain ⟨hd1, hd2, hd3⟩ := ps_done hk5 ht5
    have y0 := hd1.cell 0
    have y1 := hd1.cell 1
    simp only [List.getElem?_toArray, List.getElem?_cons_zero, List.getElem?_cons_succ] at y0 y1
    have HD2 := Lib.hid hd2
    have HD3 := Lib.hid hd3
    clear hd1 hd2 hd3 ht5 hk5
    go_wp2_with fail
    refine bodyPost_ret (v := .agg #[.string ⟨#[]⟩, .slice A5 m5 c5]) (by simp [results, Tryd.results53, go_sem, y0, y1]) rfl ?_
    exact ⟨[], _, _, _, rfl, by rw [HE.out]; exact HD2.out, HD3.out⟩

theorem l1Put_any (t : Tm) : PsSaid t := by
  induction t with
  | var x => exact l1Put_var x
  | lam x d ih => exact l1Put_lam x d ih
  | app f a ihf iha => exact l1Put_app f a ihf iha
end Go.Proofs.YtkomchdmcbdahaaDoor
