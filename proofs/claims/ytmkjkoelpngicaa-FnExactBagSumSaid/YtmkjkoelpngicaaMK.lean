/- The model's sum of two bags. -/
import Derived.Test.YtmkjkoelpngicaaMJ
namespace Go.Proofs.Ytmkjkoelpngicaa
set_option linter.unusedVariables false
open Go.RowKit

theorem four_cells {w : World} {b d : Nat} {ty : TypeId} {x1 x2 y1 y2 : Value} (h : Blk w b ty #[x1, y1]) (k : Blk w d ty #[x2, y2]) :
    w.cell? ⟨b, 0, none⟩ = some x1 ∧ w.cell? ⟨b, 1, none⟩ = some y1 ∧ w.cell? ⟨d, 0, none⟩ = some x2 ∧ w.cell? ⟨d, 1, none⟩ = some y2 :=
  ⟨by simpa using h.cell 0, by simpa using h.cell 1, by simpa using k.cell 0, by simpa using k.cell 1⟩

set_option maxRecDepth 100000 in
set_option maxHeartbeats 4000000 in
theorem specBagSum_any (s u : ByteArray) (w : World) (hm : s.size ≤ 2000000) (hm2 : u.size ≤ 2000000) :
    Calls Try.prog 27 #[.string s, .string u] w fun e w' => txS (sumR s.data.toList u.data.toList) e ∧ Below w.heap.size w w' := by
  obtain ⟨i0, hinf, hz0, hzs, hzb⟩ := info_parts Try.infoS'
  have hs1 : s.size ≤ maxLen := by unfold maxLen; omega
  have hs2 : u.size ≤ maxLen := by unfold maxLen; omega
  go_enter Try.func27, Try.ntmps27
  go_wp2_with fail
  refine (l3Bag_any s _ hs1).mono ?_
  intro e w1 h1
  obtain ⟨x1, A1, n1, c1, q1, rfl, hq1, ht1, hb1⟩ := h1.two
  have hz1 := hb1.size
  have HT1 := Lib.hid ht1
  have HQ1 := Lib.hid hq1
  have HB1 := Lib.hid (hb1.alloc hz1 (.cells #[.string x1, .slice A1 n1 c1] 43))
  clear h1 ht1 hb1 hq1
  go_wp2_with fail
  refine (l3Bag_any u _ hs2).mono ?_
  intro e w2 h2
  obtain ⟨x2, A2, n2, c2, q2, rfl, hq2, ht2, hb2⟩ := h2.two
  have hz2 := hb2.size
  simp at hz2
  have HT2 := Lib.hid ht2
  have HQ2 := Lib.hid hq2
  have HX0 := Lib.hid ((Blk.new w1 43 #[.string x1, .slice A1 n1 c1]).below hb2 (by simp))
  have HTT : Hid (∀ t, rdBg s.data.toList = some t → TAt w2 (fun b => w.heap.size ≤ b ∧ b < w1.heap.size) t (.agg #[.string x1, .slice A1 n1 c1])) :=
    Lib.hid fun t ht => ((HT1.out t ht).alloc (fun q hq => hq.2) _).below hb2 (fun q hq => by have := hq.2; simp; omega)
  have HB2 := Lib.hid (HB1.out.trans (hb2.mono (by simp; omega)))
  clear h2 ht2 hb2 hq2
  cases hr1 : rdBg s.data.toList with
  | none =>
    have hq : q1 = false := by rw [HQ1.out, hr1]; rfl
    subst hq
    have HSUM : Hid (sumR s.data.toList u.data.toList = none) := Lib.hid (by unfold sumR; rw [hr1])
    clear hr1
    go_wp2_with fail
    go_ret2
    refine ⟨?_, HB2.out.alloc (by omega) _⟩
    rw [HSUM.out]
    rfl
  | some t1 =>
    have hq : q1 = true := by rw [HQ1.out, hr1]; rfl
    subst hq
    cases hr2 : rdBg u.data.toList with
    | none =>
      have hq : q2 = false := by rw [HQ2.out, hr2]; rfl
      subst hq
      have HSUM : Hid (sumR s.data.toList u.data.toList = none) := Lib.hid (by unfold sumR; rw [hr1, hr2])
      clear hr1 hr2
      go_wp2_with fail
      go_ret2
      refine ⟨?_, HB2.out.alloc (by omega) _⟩
      rw [HSUM.out]
      rfl
    | some t2 =>
      have hq : q2 = true := by rw [HQ2.out, hr2]; rfl
      subst hq
      obtain ⟨hrt1, hw1, hi1, _, he1, _⟩ := rdBg_spec _ _ hr1
      obtain ⟨hrt2, hw2, hi2, _, he2, _⟩ := rdBg_spec _ _ hr2
      have hl1 : (wrTr t1).length ≤ 8000 := by rw [he1]; exact (rdText_ok _ _ hrt1).2.2
      have hl2 : (wrTr t2).length ≤ 8000 := by rw [he2]; exact (rdText_ok _ _ hrt2).2.2
      obtain ⟨_, _, _, hy1, _, _, _, hn1⟩ := bg_short _ _ hr1
      obtain ⟨_, _, _, hy2, _, _, _, hn2⟩ := bg_short _ _ hr2
      have HSH : Hid (∀ x ∈ bagL t1 ++ bagL t2, x.length ≤ 2000000) := Lib.hid fun x hx => by
        rcases List.mem_append.1 hx with h | h
        · have := (ty_short x (hy1 x h)).1; omega
        · have := (ty_short x (hy2 x h)).1; omega
      have HSUM : Hid (sumR s.data.toList u.data.toList = bgOf (bagL t1 ++ bagL t2)) := Lib.hid (by unfold sumR; rw [hr1, hr2])
      have HX : Hid (Blk (w2.alloc (.cells #[.string x2, .slice A2 n2 c2] 43)).drew w1.heap.size 43 #[.string x1, .slice A1 n1 c1]) := Lib.hid ((HX0.out.alloc _).drew)
      have HY : Hid (Blk (w2.alloc (.cells #[.string x2, .slice A2 n2 c2] 43)).drew w2.heap.size 43 #[.string x2, .slice A2 n2 c2]) := Lib.hid ((Blk.new w2 43 #[.string x2, .slice A2 n2 c2]).drew)
      have HB3 : Hid (Below w.heap.size w (w2.alloc (.cells #[.string x2, .slice A2 n2 c2] 43)).drew) := Lib.hid ((HB2.out.alloc (by omega) _).drew)
      have HTA := (HTT.out t1 hr1).alloc (fun q hq => by have := hq.2; omega) (.cells #[.string x2, .slice A2 n2 c2] 43)
      have HTB := (HT2.out t2 hr2).alloc (fun q hq => hq.2) (.cells #[.string x2, .slice A2 n2 c2] 43)
      have HTA' : TAt (w2.alloc (.cells #[.string x2, .slice A2 n2 c2] 43)).drew (fun b => w.heap.size ≤ b ∧ b < w1.heap.size) t1 (.agg #[.string x1, .slice A1 n1 c1]) := HTA.mono fun _ hb => ⟨hb, fun _ => rfl⟩
      have HTB' : TAt (w2.alloc (.cells #[.string x2, .slice A2 n2 c2] 43)).drew (fun b => (w1.alloc (.cells #[.string x1, .slice A1 n1 c1] 43)).heap.size ≤ b ∧ b < w2.heap.size) t2 (.agg #[.string x2, .slice A2 n2 c2]) := HTB.mono fun _ hb => ⟨hb, fun _ => rfl⟩
      have C1 := Lib.hid (l3Types_any t1 hw1 hi1 hl1 _ _ _ HTA' (fun q hq => by have := hq.2; simp; omega))
      have HT2 := Lib.hid HTB'
      clear HTA HTB HTA' HTB' hrt1 hrt2 hw1 hi1 he1 he2 hy1 hy2 hr1 hr2
      go_wp2_with fail
      refine wp_region_held_drew (S := (fun w' => w'.cell? ⟨w1.heap.size, 0, none⟩ = some (.string x1) ∧ w'.cell? ⟨w1.heap.size, 1, none⟩ = some (.slice A1 n1 c1) ∧ w'.cell? ⟨w2.heap.size, 0, none⟩ = some (.string x2) ∧ w'.cell? ⟨w2.heap.size, 1, none⟩ = some (.slice A2 n2 c2))) (by kernel_rfl) (four_cells HX.out HY.out) (fun hHeld => ?_)
      refine wpAnyH_take (i := 0) (v := ?_) rfl (by kernel_rfl) (by kernel_rfl) (by kernel_rfl) (fun _ _ _ h => h) (Or.inl ⟨by kernel_rfl, ?_⟩) (by assumption) ?_
      rotate_left
      · intro w0 hS0; (try dsimp only at hS0); go_simp; (try with_reducible rfl)
      (try simp only [List.getElem_toArray, List.getElem_cons_zero]); (try go_frame)
      refine wpAnyH_take (i := 2) (v := ?_) rfl (by kernel_rfl) (by kernel_rfl) (by kernel_rfl) (fun _ _ _ h => h) (Or.inl ⟨by kernel_rfl, ?_⟩) (by assumption) ?_
      rotate_left
      · intro w0 hS0; (try dsimp only at hS0); go_simp; (try with_reducible rfl)
      (try simp only [List.getElem_toArray, List.getElem_cons_zero, List.getElem_cons_succ]); (try go_frame)
      refine wpAnyH_ready (rs := [1]) (by kernel_rfl) (by simp) ?_
      refine AllReadyH.cons rfl (fun K hK => ?_) AllReadyH.nil
      go_simp
      (go_at_call 46; (with_reducible refine C1.out.mono ?_); rintro e w4 ⟨g1, k1, rfl, hrow1, hb4⟩)
      have hz4 := hb4.size
      simp at hz4
      have HX4 := Lib.hid (HX.out.below hb4 (by simp; omega))
      have HY4 := Lib.hid (HY.out.below hb4 (by simp))
      have HT4 := Lib.hid (HT2.out.below hb4 (fun q hq => by have := hq.2; simp; omega))
      have HB4 := Lib.hid (HB3.out.trans (hb4.mono (by simp; omega)))
      have HR1 := Lib.hid hrow1
      have C2 := Lib.hid (l3Types_any t2 hw2 hi2 hl2 _ _ _ HT4.out (fun q hq => by have := hq.2; omega))
      clear hrow1 hb4
      go_wp2_with fail
      refine hK.out _ _ (four_cells HX4.out HY4.out) (fun hHeld => ?_)
      clear hK K
      (try simp only [List.getElem_toArray, List.getElem_cons_zero, List.getElem_cons_succ]); (try go_frame)
      refine wpAnyH_ready (rs := [3]) (by kernel_rfl) (by simp) ?_
      refine AllReadyH.cons rfl (fun K hK => ?_) AllReadyH.nil
      go_simp
      (go_at_call 46; (with_reducible refine C2.out.mono ?_); rintro e w5 ⟨g2, k2, rfl, hrow2, hb5⟩)
      have hz5 := hb5.size
      have HX5 := Lib.hid (HX4.out.below hb5 (by omega))
      have HY5 := Lib.hid (HY4.out.below hb5 (by omega))
      have HB5 := Lib.hid (HB4.out.trans (hb5.mono (by omega)))
      have HR15 := Lib.hid (HR1.out.kept (grown_of_below hb5 none) (by simp [Value.ownBlock]))
      have HR2 := Lib.hid hrow2
      clear hrow2 hb5
      go_wp2_with fail
      refine hK.out _ _ (four_cells HX5.out HY5.out) (fun hHeld => ?_)
      clear hK K
      (try simp only [List.getElem_toArray, List.getElem_cons_zero, List.getElem_cons_succ]); (try go_frame)
      refine wpAnyH_ready (rs := [4]) (by kernel_rfl) (by simp) ?_
      refine AllReadyH.cons rfl (fun K hK => ?_) AllReadyH.nil
      rw [if_pos (by kernel_rfl)]
      refine wp_append_own _ (.tmp 27) (.tmp 29) 23 rfl w2.heap.size 9 i0 (.string ⟨#[]⟩) 1 16 Try.underlying23 hinf hz0 hzs hzb rfl (by decide) (.slice (some ⟨g1, 0, none⟩) (bagL t1).length k1) (bagL t1).length ((bagL t1).map strV) rfl (row_low HR15.out (by simp)) ⟨g2, 0, none⟩ (bagL t2).length k2 ((bagL t2).map strV) rfl (by simp) (fun j u hu => HR2.out.cells (g := g2) rfl j u hu) (ins_one _) (by unfold maxLen; omega) (by omega) (by omega) ?_
      intro v6 w6 hown6 hg6 _
      have hz6 := hg6.size
      have hlo1 := (HR1.out.lt g1 rfl).1
      simp at hlo1
      have HX6 := Lib.hid (HX5.out.grown hg6 (fun e => by simp [Value.ownBlock] at e; omega))
      have HY6 := Lib.hid (HY5.out.grown hg6 (fun e => by simp [Value.ownBlock] at e; omega))
      have HB6 := Lib.hid (HB5.out.grown hg6 (by omega) (fun q e => by simp [Value.ownBlock] at e; omega))
      have HR6 : Hid (SRow w6 w2.heap.size v6 (bagL t1 ++ bagL t2)) := Lib.hid (by unfold SRow; rw [List.length_append, List.map_append]; exact hown6)
      have C3 := Lib.hid (specBagOf_any (bagL t1 ++ bagL t2) v6 w2.heap.size w6 HR6.out (by rw [List.length_append]; omega) HSH.out)
      clear hown6 hg6
      refine hK.out _ _ (four_cells HX6.out HY6.out) (fun hHeld => ?_)
      clear hK K
      (try simp only [List.getElem_toArray, List.getElem_cons_zero, List.getElem_cons_succ]); (try go_frame)
      refine wpAnyH_ready (rs := [5]) (by kernel_rfl) (by simp) ?_
      refine AllReadyH.cons rfl (fun K hK => ?_) AllReadyH.nil
      go_simp
      (go_at_call 19; (with_reducible refine C3.out.mono ?_); rintro e w7 ⟨hx7, hb7⟩)
      unfold txS at hx7
      subst hx7
      have HX7 := Lib.hid (HX6.out.below hb7 (by omega))
      have HY7 := Lib.hid (HY6.out.below hb7 (by omega))
      have HB7 := Lib.hid (HB6.out.trans (hb7.mono (by omega)))
      clear hb7
      go_wp2_with fail
      refine hK.out _ _ (four_cells HX7.out HY7.out) (fun hHeld => ?_)
      clear hK K
      (try simp only [List.getElem_toArray, List.getElem_cons_zero, List.getElem_cons_succ]); (try go_frame)
      refine wpAnyH_take (i := 6) (v := ?_) rfl (by kernel_rfl) (by kernel_rfl) (by kernel_rfl) (fun _ _ _ h => h) (Or.inl ⟨by kernel_rfl, ?_⟩) (by assumption) ?_
      rotate_left
      · intro w0 hS0; (try dsimp only at hS0); go_simp; (try with_reducible rfl)
      (try simp only [List.getElem_toArray, List.getElem_cons_zero, List.getElem_cons_succ]); (try go_frame)
      refine wpAnyH_take (i := 7) (v := ?_) rfl (by kernel_rfl) (by kernel_rfl) (by kernel_rfl) (fun _ _ _ h => h) (Or.inl ⟨by kernel_rfl, ?_⟩) (by assumption) ?_
      rotate_left
      · intro w0 hS0; (try dsimp only at hS0); go_simp; (try with_reducible rfl)
      (try simp only [List.getElem_toArray, List.getElem_cons_zero, List.getElem_cons_succ]); (try go_frame)
      refine wpAnyH_take (i := 8) (v := ?_) rfl (by kernel_rfl) (by kernel_rfl) (by kernel_rfl) (fun _ _ _ h => h) (Or.inl ⟨by kernel_rfl, ?_⟩) (by assumption) ?_
      rotate_left
      · intro w0 hS0; (try dsimp only at hS0); go_simp; (try with_reducible rfl)
      (try simp only [List.getElem_toArray, List.getElem_cons_zero, List.getElem_cons_succ]); (try go_frame)
      refine wpAnyH_take (i := 9) (v := ?_) rfl (by kernel_rfl) (by kernel_rfl) (by kernel_rfl) (fun _ _ _ h => h) (Or.inl ⟨by kernel_rfl, ?_⟩) (by assumption) ?_
      rotate_left
      · intro w0 hS0; (try dsimp only at hS0); go_simp; (try with_reducible rfl)
      (try simp only [List.getElem_toArray, List.getElem_cons_zero, List.getElem_cons_succ]); (try go_frame)
      refine wpAnyH_done (by kernel_rfl) ?_ _
      go_wp2_with fail
      go_ret2
      refine ⟨?_, HB7.out⟩
      rw [HSUM.out]
      rfl
end Go.Proofs.Ytmkjkoelpngicaa
