/- The model's functions of chapter 3: tight types, sizes, parts, what is made. -/
import Derived.Test.YtmkjkoelpngicaaMD
import Derived.Test.YtmkjkoelpngicaaRS
import Derived.Test.YtmkjkoelpngicaaS0
namespace Go.Proofs.Ytmkjkoelpngicaa
set_option linter.unusedVariables false
open Go.RowKit

theorem tightA_next (r : List Tr) (k : Nat) (t : Tr) (h : r[k]? = some t) : tightA (r.drop k) = (tightT t && tightA (r.drop (k + 1))) := by
  obtain ⟨hj, e⟩ := List.getElem?_eq_some_iff.1 h
  rw [List.drop_eq_getElem_cons hj, e]
  rfl

set_option maxRecDepth 100000 in
set_option maxHeartbeats 2000000 in
theorem l3Tight_any : ∀ (t : Tr) (v : Value) (w : World) (P : Nat → Prop), Wf t → TAt w P t v → (∀ b, P b → b < w.heap.size) →
    Calls Try.prog 56 #[v] w fun e w' => e = .returned (.bool (tightT t)) ∧ Below w.heap.size w w' := by
  intro t
  refine Tr.all (p := fun t => ∀ (v : Value) (w : World) (P : Nat → Prop), Wf t → TAt w P t v → (∀ b, P b → b < w.heap.size) →
    Calls Try.prog 56 #[v] w fun e w' => e = .returned (.bool (tightT t)) ∧ Below w.heap.size w w') ?_ t
  intro a ps ih v w P hw ht hP
  obtain ⟨vp, rfl, hle, hle2, hv⟩ := ht.form
  by_cases ha : a = []
  · subst ha
    obtain ⟨hne, hws⟩ := wf_list ps hw
    match ps, hne with
    | .mk pa pq :: r, _ =>
    rcases hv with ⟨h0, _⟩ | ⟨_, g, cap, xs, rfl, hcap, hPg, hc, hvs⟩
    · cases h0
    obtain ⟨N, hN⟩ : ∃ N, (Tr.mk pa pq :: r).length = N := ⟨_, rfl⟩
    have HN : Hid (r.length + 1 = N) := Lib.hid hN
    have HI := Lib.hid (show tightT (.mk [] (.mk pa pq :: r)) = (tightA r && decide (pa = [109])) by simp only [tightT, tightB, if_true]; rfl)
    have HHd : Hid (∀ w', Below w.heap.size w w' → Calls Try.prog 80 #[.agg #[.string ⟨#[]⟩, .slice (some ⟨g, 0, none⟩) N cap]] w' fun e w2 => e = .returned (.string ⟨pa.toArray⟩) ∧ Below w'.heap.size w' w2) := by
      refine Lib.hid fun w' hb => ?_
      have h := l1Head_any _ _ w' P (ht.below hb hP) (fun q hq => by have := hP q hq; have := hb.size; omega)
      rw [hN] at h
      refine h.mono fun e w2 ⟨he, hb⟩ => ⟨?_, hb⟩
      simpa [Tr.atom, Tr.parts] using he
    have IH : Hid (∀ t ∈ r, ∀ (v : Value) (w : World), TAt w P t v → (∀ b, P b → b < w.heap.size) → Calls Try.prog 56 #[v] w fun e w' => e = .returned (.bool (tightT t)) ∧ Below w.heap.size w w') :=
      Lib.hid fun t ht v w h1 h2 => ih t (List.mem_cons_of_mem _ ht) v w P (Wfs_mem t _ (List.mem_cons_of_mem _ ht) hws) h1 h2
    have HC := Lib.hid hc
    have HV := Lib.hid hvs
    have HP := Lib.hid hP
    have hgb := hP g hPg
    rw [hN] at hcap hle2 ⊢
    clear ih ht hP hc hvs hws hw hN
    go_enter Try.func56, Try.ntmps56
    go_wp2_with fail
    go_loopw [3] (fun i wr => ∃ k : Nat, 1 ≤ k ∧ k ≤ N ∧ i = .int .i64 (k : Nat) ∧ Hid (tightA r = tightA (r.drop (k - 1))) ∧ Below w.heap.size w wr ∧ Blk wr w.heap.size 43 #[.string ⟨#[]⟩, .slice (some ⟨g, 0, none⟩) N cap]) (fun i _ => N - (intOf i).toNat)
    case atStart => exact ⟨1, by omega, by have := HN.out; omega, rfl, Lib.hid rfl, (Below.refl _ _).alloc (Nat.le_refl _) _, Blk.new _ _ _⟩
    case round =>
      obtain ⟨k, hk1, hkN, rfl, HS, hbw, hblk⟩ := hrel
      have c0 := hblk.cell 0
      have c1 := hblk.cell 1
      have hlt := hblk.lt
      have hzw := hbw.size
      simp at c0 c1
      by_cases hkl : k < N
      · obtain ⟨t1, ht1⟩ : ∃ t1, r[k - 1]? = some t1 := ⟨r[k - 1]'(by have := HN.out; omega), by simp⟩
        have hp1 : (Tr.mk pa pq :: r)[k]? = some t1 := by
          obtain ⟨j, rfl⟩ : ∃ j, k = j + 1 := ⟨k - 1, by omega⟩
          simpa using ht1
        obtain ⟨x, y, hx, hy, hxy⟩ := HV.out.at_ k t1 hp1
        obtain ⟨A, n, c, e⟩ := hxy.shape
        simp at e
        obtain ⟨rfl, rfl⟩ := e
        have q0 := (hbw.cell (p := ⟨g, k * 2, none⟩) hgb).trans (HC.out _ _ (by rw [Nat.mul_comm]; exact hx))
        have q1 := (hbw.cell (p := ⟨g, k * 2 + 1, none⟩) hgb).trans (HC.out _ _ (by rw [Nat.mul_comm]; exact hy))
        have HXY := Lib.hid (hxy.below hbw HP.out)
        have HST := Lib.hid (show tightA (r.drop (k - 1)) = (tightT t1 && tightA (r.drop k)) by
          have := tightA_next r (k - 1) t1 ht1
          rwa [show k - 1 + 1 = k by omega] at this)
        have HM := Lib.hid (List.mem_of_getElem? ht1)
        clear ht1 hp1 hx hy hxy
        go_wp2_with fail
        refine (IH.out t1 HM.out _ _ HXY.out (fun b hb => by have := HP.out b hb; omega)).mono ?_
        rintro e w2 ⟨rfl, hb2⟩
        have hB2 := hbw.trans (hb2.mono (by omega))
        have hblk2 := hblk.below hb2 hblk.lt
        cases hT : tightT t1 with
        | true =>
          go_wp2_with fail
          go_roundw
          case rel => exact ⟨k + 1, by omega, by omega, by go_num, Lib.hid (by rw [HS.out, HST.out, hT]; rfl), hB2, hblk2⟩
          case measure => simp [intOf]; omega
        | false =>
          go_wp2_with fail
          go_ret
          exact ⟨ret_bool (by rw [HI.out, HS.out, HST.out, hT]; rfl), hB2⟩
      · have HE := Lib.hid (show tightA r = true by rw [HS.out, List.drop_of_length_le (by have := HN.out; omega)]; rfl)
        go_wp2_with fail
        refine (HHd.out _ hbw).mono ?_
        rintro e w2 ⟨rfl, hb2⟩
        have hB2 := hbw.trans (hb2.mono (by omega))
        by_cases hm : pa = [109]
        · have h1 : (pa == [109]) = true := by rw [hm]; rfl
          have HM := Lib.hid hm
          clear hm
          go_wp2_with fail
          go_ret
          exact ⟨ret_bool (by rw [HI.out, HE.out, decide_eq_true HM.out]; rfl), hB2⟩
        · have h1 : (pa == [109]) = false := by simpa using hm
          have HM := Lib.hid hm
          clear hm
          go_wp2_with fail
          go_ret
          exact ⟨ret_bool (by rw [HI.out, HE.out, decide_eq_false HM.out]; rfl), hB2⟩
  · have hae : (!a.isEmpty) = true := by
      cases h : a with
      | nil => exact absurd h ha
      | cons => rfl
    have HI := Lib.hid (show tightT (.mk a ps) = tight1 a by simp [tightT, ha])
    clear ih hv ht hw hP ha
    by_cases h1 : a = [110]
    · have hb : (a == [110]) = true := by rw [h1]; rfl
      have H : Hid (tight1 a = true) := Lib.hid (by rw [h1]; rfl)
      clear h1
      go_enter Try.func56, Try.ntmps56
      go_wp2
      go_ret
      exact ⟨ret_bool (by rw [HI.out, H.out]), by go_grown⟩
    · have hb : (a == [110]) = false := by simpa using h1
      by_cases h2 : a = [108]
      · have hb2 : (a == [108]) = true := by rw [h2]; rfl
        have H : Hid (tight1 a = true) := Lib.hid (by rw [h2]; rfl)
        clear h1 h2
        go_enter Try.func56, Try.ntmps56
        go_wp2
        go_ret
        exact ⟨ret_bool (by rw [HI.out, H.out]), by go_grown⟩
      · have hb2 : (a == [108]) = false := by simpa using h2
        have H : Hid (tight1 a = false) := Lib.hid (by simp [tight1, hb, hb2])
        clear h1 h2
        go_enter Try.func56, Try.ntmps56
        go_wp2
        go_ret
        exact ⟨ret_bool (by rw [HI.out, H.out]), by go_grown⟩

/-- A text in memory that was read, or none. -/
theorem TrRet.two {rd : List UInt8 → Option Tr} {s : ByteArray} {w : World} {e : Ending} {w' : World} (h : TrRet rd s w e w') : ∃ x A n c q, e = .returned (.tuple #[.agg #[.string x, .slice A n c], .bool q]) ∧ q = (rd s.data.toList).isSome ∧
    (∀ t, rd s.data.toList = some t → TAt w' (fun b => w.heap.size ≤ b ∧ b < w'.heap.size) t (.agg #[.string x, .slice A n c])) ∧ Below w.heap.size w w' := by
  obtain ⟨hb, ⟨t, v, hr, rfl, ht⟩ | ⟨hr, b, A, n, c, rfl⟩⟩ := h
  · obtain ⟨A, n, c, rfl⟩ := ht.shape
    refine ⟨_, A, n, c, _, rfl, by rw [hr]; rfl, fun u hu => ?_, hb⟩
    rw [hr] at hu
    injection hu with hu
    subst hu
    exact ht
  · exact ⟨b, A, n, c, _, rfl, by rw [hr]; rfl, fun u hu => (by rw [hr] at hu; cases hu), hb⟩

set_option maxRecDepth 100000 in
theorem specTypeTight_any (s : ByteArray) (w : World) (hm : s.size ≤ maxLen) :
    Calls Try.prog 35 #[.string s] w fun e w' => e = .returned (.bool (tightR s.data.toList)) ∧ Below w.heap.size w w' := by
  go_enter Try.func35, Try.ntmps35
  go_wp2_with fail
  refine (l3Type_any s _ hm).mono ?_
  intro e w1 h1
  obtain ⟨x1, A1, n1, c1, q1, rfl, hq1, ht1, hb1⟩ := h1.two
  have hz1 := hb1.size
  have HQ1 := Lib.hid hq1
  have HT1 := Lib.hid ht1
  have HB1 := Lib.hid hb1
  clear h1 hq1 ht1 hb1
  go_wp2_with fail
  refine (l3Bag_any s _ hm).mono ?_
  intro e w2 h2
  obtain ⟨x2, A2, n2, c2, q2, rfl, hq2, ht2, hb2⟩ := h2.two
  have hz2 := hb2.size
  simp at hz2
  have hlt3 : w1.heap.size < w2.heap.size := by omega
  have d0 := (hb2.cell (p := ⟨w1.heap.size, 0, none⟩) (by simp)).trans (show (w1.alloc (.cells #[.string x1, .slice A1 n1 c1] 43)).cell? ⟨w1.heap.size, 0, none⟩ = some (.string x1) by simp)
  have d1 := (hb2.cell (p := ⟨w1.heap.size, 1, none⟩) (by simp)).trans (show (w1.alloc (.cells #[.string x1, .slice A1 n1 c1] 43)).cell? ⟨w1.heap.size, 1, none⟩ = some (.slice A1 n1 c1) by simp)
  have HQ2 := Lib.hid hq2
  have HT2 := Lib.hid ht2
  have HB2 := Lib.hid hb2
  have HW2 := Lib.hid ((HB1.out.alloc hz1 (.cells #[.string x1, .slice A1 n1 c1] 43)).trans (hb2.mono (by simp; omega)))
  clear h2 hq2 ht2 hb2
  cases hr1 : rdTy s.data.toList with
  | some t =>
    have hq : q1 = true := by rw [HQ1.out, hr1]; rfl
    subst hq
    obtain ⟨_, hw, hi, _, he, _⟩ := rdTy_spec _ _ hr1
    have hno := ty_no_bg _ _ hr1
    have hq : q2 = false := by rw [HQ2.out, hno]; rfl
    subst hq
    have HTT := Lib.hid (show tightT t = tight1 s.data.toList by rw [tightT_ty t hw hi, he])
    have hTA : TAt (w2.alloc (.cells #[.string x2, .slice A2 n2 c2] 43)) (fun b => w.heap.size ≤ b ∧ b < w1.heap.size) t (.agg #[.string x1, .slice A1 n1 c1]) :=
      (((HT1.out t hr1).alloc (fun q hq => hq.2) _).below HB2.out (fun q hq => by have := hq.2; simp; omega)).alloc (fun q hq => by have := hq.2; omega) _
    have HC := Lib.hid (l3Tight_any t _ _ _ hw hTA (fun q hq => by have := hq.2; simp; omega))
    have HR : Hid (tightR s.data.toList = tight1 s.data.toList) := Lib.hid (by unfold tightR; rw [hr1])
    clear hw hi he hno hTA hr1
    cases hT : tightT t with
    | true =>
      rw [hT] at HC
      go_wp2_with fail
      refine HC.out.mono ?_
      rintro e w3 ⟨rfl, hb3⟩
      have HB3 := Lib.hid ((HW2.out.alloc (by omega) (.cells #[.string x2, .slice A2 n2 c2] 43)).trans (hb3.mono (by simp; omega)))
      clear hb3
      go_wp2_with fail
      go_ret
      exact ⟨ret_bool (by rw [HR.out, ← HTT.out, hT]), HB3.out⟩
    | false =>
      rw [hT] at HC
      go_wp2_with fail
      refine HC.out.mono ?_
      rintro e w3 ⟨rfl, hb3⟩
      have HB3 := Lib.hid ((HW2.out.alloc (by omega) (.cells #[.string x2, .slice A2 n2 c2] 43)).trans (hb3.mono (by simp; omega)))
      clear hb3
      go_wp2_with fail
      go_ret
      exact ⟨ret_bool (by rw [HR.out, ← HTT.out, hT]), HB3.out⟩
  | none =>
    have hq : q1 = false := by rw [HQ1.out, hr1]; rfl
    subst hq
    cases hr2 : rdBg s.data.toList with
    | some t =>
      have hq : q2 = true := by rw [HQ2.out, hr2]; rfl
      subst hq
      obtain ⟨_, hw, hi, _, he, _⟩ := rdBg_spec _ _ hr2
      have hTA : TAt (w2.alloc (.cells #[.string x2, .slice A2 n2 c2] 43)) _ t (.agg #[.string x2, .slice A2 n2 c2]) := (HT2.out t hr2).alloc (fun q hq => hq.2) _
      have HC := Lib.hid (l3Tight_any t _ _ _ hw hTA (fun q hq => by have := hq.2; simp; omega))
      have HR : Hid (tightR s.data.toList = tightT t) := Lib.hid (by unfold tightR; rw [hr1, hr2, tightT_bag t hw hi])
      clear hw hi he hTA hr1 hr2
      go_wp2_with fail
      refine HC.out.mono ?_
      rintro e w3 ⟨rfl, hb3⟩
      have HB3 := Lib.hid ((HW2.out.alloc (by omega) (.cells #[.string x2, .slice A2 n2 c2] 43)).trans (hb3.mono (by simp; omega)))
      clear hb3
      go_wp2_with fail
      go_ret
      exact ⟨ret_bool (by rw [HR.out]), HB3.out⟩
    | none =>
      have hq : q2 = false := by rw [HQ2.out, hr2]; rfl
      subst hq
      have HR : Hid (tightR s.data.toList = false) := Lib.hid (by unfold tightR; rw [hr1, hr2])
      clear hr1 hr2
      go_wp2_with fail
      go_ret
      exact ⟨ret_bool (by rw [HR.out]), HW2.out.alloc (by omega) _⟩
end Go.Proofs.Ytmkjkoelpngicaa
