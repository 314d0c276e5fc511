/- The model renames the bound names of a term. -/
import Derived.Test.YtkomchdmcbdahaaDoorDC
import Derived.Test.YtkomchdmcbdahaaDoorLL
import Derived.Test.YtkomchdmcbdahaaDoorF3
import Derived.Test.YtkomchdmcbdahaaDoorCN
import Derived.Test.YtkomchdmcbdahaaDoorC3
namespace Go.Proofs.YtkomchdmcbdahaaDoor
set_option linter.unusedVariables false
open Go.RowKit

/-- A tree lies in memory, where it was allowed or above a bound. -/
abbrev TNew (P : Nat → Prop) (lo : Nat) (w : World) (t : Tr) (v : Value) : Prop := TAt w (fun b => P b ∨ (lo ≤ b ∧ b < w.heap.size)) t v
theorem TNew.grown {P : Nat → Prop} {lo nb : Nat} {w w' : World} {t : Tr} {v : Value} (h : TNew P lo w t v) (hP : ∀ b, P b → b < w.heap.size ∧ b ≠ nb) (hl : nb < lo) (hg : w.grownBy w' (some nb)) : TNew P lo w' t v :=
  h.mono fun b hb => ⟨hb.imp id (fun h => ⟨h.1, Nat.lt_of_lt_of_le h.2 hg.size⟩), fun o => World.cell?_of_block (w := w) (hg.block b (by rcases hb with h | h; exact (hP b h).1; exact h.2) (fun e => by injection e with e; rcases hb with h | h; exact (hP b h).2 e; omega))⟩
theorem srow_drewN {w : World} {base : Nat} {v : Value} {l : List (List UInt8)} (h : SRow w base v l) (n : Nat) : SRow (w.drewN n) base v l := h.kept (grown_drewN (grown_refl _ none) n) (by cases v.ownBlock <;> simp)

theorem grown_tree {w W : World} {nb : Nat} {tk : Value} {n : Nat} (h : Below w.heap.size w W) (hn : Nms w nb tk n) (hr : Blk W (w.heap.size + 1) 35 #[.string ⟨#[]⟩, .slice none 0 0]) (a b : Value) :
    w.grownBy ((W.setCell ⟨w.heap.size + 1, 0, none⟩ a).setCell ⟨w.heap.size + 1, 1, none⟩ b) (some nb) ∧ Nms ((W.setCell ⟨w.heap.size + 1, 0, none⟩ a).setCell ⟨w.heap.size + 1, 1, none⟩ b) nb tk n ∧
    Blk ((W.setCell ⟨w.heap.size + 1, 0, none⟩ a).setCell ⟨w.heap.size + 1, 1, none⟩ b) (w.heap.size + 1) 35 #[a, b] := by
  have hB : Below w.heap.size w ((W.setCell ⟨w.heap.size + 1, 0, none⟩ a).setCell ⟨w.heap.size + 1, 1, none⟩ b) := (h.setCell (p := ⟨w.heap.size + 1, 0, none⟩) (by simp) _).setCell (p := ⟨w.heap.size + 1, 1, none⟩) (by simp) _
  exact ⟨below_grown hB _, hn.below hB hn.lt, res_set hr _ _⟩

theorem lk_rev (rs : List (List UInt8)) (x : List UInt8) (k : Nat) (hk : rs.reverse[k]? = some x) (h : ∀ i, k + 1 ≤ i → i < rs.length → rs.reverse[i]? ≠ some x) : lk rs x = some (rs.length - 1 - k) := by
  induction rs with
  | nil => simp at hk
  | cons y r ih =>
    rw [List.reverse_cons] at hk h
    have hkl : k < r.length + 1 := by
      have := (List.getElem?_eq_some_iff.1 hk).1
      simpa using this
    by_cases hyx : y = x
    · subst hyx
      have : k = r.length := by
        rcases Nat.lt_or_ge k r.length with h1 | h1
        · exact absurd (by simp) (h r.length (by omega) (by simp))
        · omega
      subst this
      simp [lk]
    · have hkr : k < r.length := by
        rcases Nat.lt_or_ge k r.length with h1 | h1
        · exact h1
        · have e : k = r.length := by omega
          rw [e] at hk
          simp at hk
          exact absurd hk hyx
      have h2 := ih (by rwa [List.getElem?_append_left (by simpa using hkr)] at hk) (fun i h1 h2 => by
        have := h i h1 (by simp; omega)
        rwa [List.getElem?_append_left (by simpa using h2)] at this)
      simp only [lk, if_neg hyx, h2, Option.map_some, List.length_cons]
      congr 1
      omega

def RsPost (P : Nat → Prop) (fr : List (List UInt8)) (t : Tm) (rs ts : List (List UInt8)) (n nb : Nat) (tk : Value) (w : World) (e : Ending) (w' : World) : Prop :=
  ∃ a A m c, e = .returned (.agg #[a, .slice A m c]) ∧ TNew P w.heap.size w' (tmTr (renT fr t rs ts n).1) (.agg #[a, .slice A m c]) ∧ w.grownBy w' (some nb) ∧ Nms w' nb tk (renT fr t rs ts n).2
def RsSaid (t : Tm) : Prop := ∀ (rs ts fr : List (List UInt8)) (n nb base b1 g1 c1 b2 g2 c2 : Nat) (tk v : Value) (w : World) (P : Nat → Prop), t.ok → TAt w P (tmTr t) v → (∀ b, P b → b < w.heap.size ∧ b ≠ nb) →
  Nms w nb tk n → SRow w base tk fr → SRow w b1 (.slice (some ⟨g1, 0, none⟩) rs.length c1) rs.reverse → SRow w b2 (.slice (some ⟨g2, 0, none⟩) ts.length c2) ts.reverse → ts.length = rs.length → (∀ x ∈ ts, x.length ≤ 8000) →
  fr.length ≤ 999 → rs.length + t.size ≤ 8000 → n + t.size * 1000 ≤ 900000 →
  Calls Tryd.prog 47 #[v, .slice (some ⟨g1, 0, none⟩) rs.length c1, .slice (some ⟨g2, 0, none⟩) ts.length c2, .pointer (some ⟨nb, 0, none⟩)] w (RsPost P fr t rs ts n nb tk w)

set_option maxRecDepth 100000 in
set_option maxHeartbeats 2000000 in
theorem l1Rename_var (x : List UInt8) : RsSaid (.var x) := by
  rintro rs ts fr n nb base b1 g1 c1 b2 g2 c2 tk v w P hok ht hP hn hf h1 h2 hlen hts hfr hsz hnx
  have hx := isNm_ne x hok
  have hae : (!x.isEmpty) = true := by cases x with
    | nil => exact absurd rfl hx
    | cons => rfl
  obtain ⟨A, m, c, e⟩ := ht.shape
  have e : v = .agg #[.string ⟨x.toArray⟩, .slice A m c] := e
  subst e
  have HT := Lib.hid ht
  have HP := Lib.hid hP
  have HN := Lib.hid hn
  have HR := Lib.hid h1
  have HTS := Lib.hid h2
  have HSH := Lib.hid hts
  have hsz' : rs.length ≤ 8000 := by omega
  have HLEN := Lib.hid hlen
  clear ht hP hn hf h1 h2 hx hok hts hsz hnx hlen
  go_enter Tryd.func47, Tryd.ntmps47
  go_wp2
  go_loopg [9] rs.length (fun q iv wr => ∃ k j : Nat, q = k ∧ k ≤ rs.length ∧ iv = .int .i64 ((k : Int) - 1) ∧ wr = ((w.alloc (.cells #[.string ⟨x.toArray⟩, .slice A m c] 35)).alloc (.cells #[.string ⟨#[]⟩, .slice none 0 0] 35)).drewN j ∧ Hid (∀ i, k ≤ i → i < rs.length → rs.reverse[i]? ≠ some x))
  case atStart => exact ⟨rs.length, 0, rfl, Nat.le_refl _, by go_num, rfl, Lib.hid (fun i h1 h2 => by omega)⟩
  case round =>
    obtain ⟨k, j, hq, hk, rfl, rfl, HA⟩ := hrel
    have HQ := Lib.hid hq
    clear hq
    have hbx : Blk ((((w.alloc (.cells #[.string ⟨x.toArray⟩, .slice A m c] 35)).alloc (.cells #[.string ⟨#[]⟩, .slice none 0 0] 35)).drewN j)) w.heap.size 35 #[.string ⟨x.toArray⟩, .slice A m c] := ((Blk.new w _ _).alloc _).drewN j
    have hrs : Blk ((((w.alloc (.cells #[.string ⟨x.toArray⟩, .slice A m c] 35)).alloc (.cells #[.string ⟨#[]⟩, .slice none 0 0] 35)).drewN j)) (w.heap.size + 1) 35 #[.string ⟨#[]⟩, .slice none 0 0] := by
      have := (Blk.new (w.alloc (.cells #[.string ⟨x.toArray⟩, .slice A m c] 35)) 35 #[.string ⟨#[]⟩, .slice none 0 0]).drewN j
      simpa using this
    have HR2 := Lib.hid (srow_drewN ((HR.out.alloc (.cells #[.string ⟨x.toArray⟩, .slice A m c] 35)).alloc (.cells #[.string ⟨#[]⟩, .slice none 0 0] 35)) j)
    have HTS2 := Lib.hid (srow_drewN ((HTS.out.alloc (.cells #[.string ⟨x.toArray⟩, .slice A m c] 35)).alloc (.cells #[.string ⟨#[]⟩, .slice none 0 0] 35)) j)
    have HW : Hid (Below w.heap.size w ((((w.alloc (.cells #[.string ⟨x.toArray⟩, .slice A m c] 35)).alloc (.cells #[.string ⟨#[]⟩, .slice none 0 0] 35)).drewN j))) := Lib.hid (below_drewN' (((Below.refl _ _).alloc (Nat.le_refl _) _).alloc (by simp) _) _)
    generalize hW : ((w.alloc (.cells #[.string ⟨x.toArray⟩, .slice A m c] 35)).alloc (.cells #[.string ⟨#[]⟩, .slice none 0 0] 35)).drewN j = W at hbx hrs HR2 HTS2 HW
    have b0 := hbx.cell 0
    have b1 := hbx.cell 1
    have r0 := hrs.cell 0
    have r1 := hrs.cell 1
    have rl := hrs.lt
    have f0 := hrs.frozen 0
    have f1 := hrs.frozen 1
    simp at b0 b1 r0 r1
    have HRS := Lib.hid hrs
    have HWE := Lib.hid hW
    clear hbx hrs hW
    by_cases hk0 : k = 0
    · subst hk0
      go_wp2_with fail
      obtain ⟨hg3, hn3, hb3⟩ := grown_tree HW.out HN.out HRS.out (.string ⟨x.toArray⟩) (.slice A m c)
      have g0 := hb3.cell 0
      have g1 := hb3.cell 1
      simp only [List.getElem?_toArray, List.getElem?_cons_zero, List.getElem?_cons_succ] at g0 g1
      refine bodyPost_ret (v := .agg #[.string ⟨x.toArray⟩, .slice A m c]) (by simp [results, Tryd.results47, go_sem, g0, g1]) rfl ?_
      have hlk : lk rs x = none := (lk_none rs x).2 (fun hm => by
        obtain ⟨i, hi, e⟩ := List.getElem_of_mem (List.mem_reverse.2 hm)
        exact HA.out i (Nat.zero_le _) (by simpa using hi) (by rw [List.getElem?_eq_getElem hi, e]))
      refine ⟨_, _, _, _, rfl, ?_, hg3, hn3⟩
      simp only [renT, hlk]
      exact HT.out.mono fun b hb => ⟨.inl hb, fun o => World.cell?_of_block (w := w) (hg3.block b (HP.out b hb).1 (fun e => (HP.out b hb).2 (by injection e)))⟩
    · obtain ⟨k, rfl⟩ : ∃ k', k = k' + 1 := ⟨k - 1, by omega⟩
      have hkr : k < rs.reverse.length := by simp; omega
      have hkt : k < ts.reverse.length := by have := HLEN.out; simp; omega
      obtain ⟨g, hg1, -, -, -, hcell⟩ := HR2.out.cell hkr
      obtain ⟨g', hg2, -, -, -, hcell2⟩ := HTS2.out.cell hkt
      injection hg1 with hg1
      injection hg1 with hg1
      subst hg1
      injection hg2 with hg2
      injection hg2 with hg2
      subst hg2
      have HY := Lib.hid (List.getElem?_eq_getElem hkr)
      have HZ := Lib.hid (List.getElem?_eq_getElem hkt)
      generalize rs.reverse[k] = y at hcell HY
      generalize ts.reverse[k] = z at hcell2 HZ
      clear hkr hkt
      rw [show (((k + 1 : Nat) : Int) - 1) = (k : Int) by omega]
      have hcase : (y == x) = true ∨ (y == x) = false := by cases (y == x) <;> simp
      rcases hcase with hc | hc
      · go_wp2_with fail
        go_quiet (fail)
        have hkt2 : k < ts.length := by have := HLEN.out; omega
        go_wp2_with fail
        have hlk := lk_rev rs x k (by rw [HY.out, beq_iff_eq.1 hc]) HA.out
        obtain ⟨hg3, hn3, hb3⟩ := grown_tree (below_drewN' HW.out nq) HN.out (HRS.out.drewN nq) (.string ⟨z.toArray⟩) (.slice none 0 0)
        have g0 := hb3.cell 0
        have g1 := hb3.cell 1
        simp only [List.getElem?_toArray, List.getElem?_cons_zero, List.getElem?_cons_succ] at g0 g1
        refine bodyPost_ret (v := .agg #[.string ⟨z.toArray⟩, .slice none 0 0]) (by simp [results, Tryd.results47, go_sem, g0, g1]) rfl ?_
        have hz : ts[rs.length - 1 - k]? = some z := by
          have := HZ.out
          rwa [List.getElem?_reverse (by have := HLEN.out; omega), HLEN.out] at this
        refine ⟨_, _, _, _, rfl, ?_, hg3, hn3⟩
        simp only [renT, hlk, hz, Option.getD_some]
        have hzs := HSH.out z (List.mem_of_getElem? hz)
        show TAt _ _ (.mk z []) _
        unfold TAt
        exact ⟨_, rfl, hzs, by simp, .inl ⟨rfl, rfl⟩⟩
      · go_wp2_with fail
        go_quiet (fail)
        go_wp2_with fail
        go_roundg k
        case rel =>
          refine ⟨k, j + nq, rfl, by omega, rfl, by rw [← HWE.out, World.drewN_drewN], Lib.hid (fun i h1 h2 => ?_)⟩
          by_cases hik : i = k
          · subst hik
            rw [HY.out]
            intro e
            injection e with e
            rw [e] at hc
            simp at hc
          · exact HA.out i (by omega) h2
        case measure => have := HQ.out; omega
end Go.Proofs.YtkomchdmcbdahaaDoor
