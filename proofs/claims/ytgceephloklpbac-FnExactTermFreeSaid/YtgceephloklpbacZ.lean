/- The program's free names of a term. -/
import Derived.Test.YtgceephloklpbacZ0
import Derived.Test.YtgceephloklpbacP
import Derived.Test.YtgceephloklpbacW1
namespace Go.Proofs.Ytgceephloklpbac
set_option linter.unusedVariables false
open Go.RowKit

/-- The contract of freeNames at a term with depths. -/
def FnSaid (t : DB) : Prop := ∀ (l : List (List UInt8)) (base : Nat) (v lv : Value) (w : World) (P : Nat → Prop), DAt w P t v → (∀ b, P b → b < w.heap.size ∧ some b ≠ lv.ownBlock) → SRow w base lv l → base ≤ w.heap.size → (freeD t l).length ≤ 9000 → l.length ≤ 9000 →
  Calls Try.prog 27 #[v, lv] w (FnPost (freeD t l) base lv w)

theorem freeD_grows (t : DB) : ∀ l : List (List UInt8), l.length ≤ (freeD t l).length := by
  induction t with
  | free x => intro l; simp only [freeD]; split <;> simp
  | bnd i => intro l; exact Nat.le_refl _
  | lam x b ih => intro l; exact ih l
  | app f a ihf iha => intro l; exact Nat.le_trans (ihf l) (iha _)

set_option maxRecDepth 100000 in
theorem freeNames_free (x : List UInt8) : FnSaid (.free x) := by
  rintro l base v lv w P ⟨b, rfl, hPb, hx, hb⟩ hP hl hbase hlen hl9
  have k0 := hb.cell 0
  have k1 := hb.cell 1
  simp at k0 k1
  obtain ⟨A, c, rfl⟩ := own_shape hl
  have HL := Lib.hid hl
  clear hl hP hb
  by_cases hxl : x ∈ l
  · have hd : decide (x ∈ l) = true := decide_eq_true hxl
    have HX : Hid (freeD (.free x) l = l) := Lib.hid (by simp [freeD, hxl])
    clear hxl hlen
    go_enter Try.func27, Try.ntmps27
    go_wp2_with fail
    refine (sContains_any l x base _ _ HL.out (by omega)).mono ?_
    rintro e w1 ⟨rfl, rfl⟩
    go_wp2_with fail
    go_ret
    exact ⟨_, rfl, by rw [HX.out]; exact HL.out, grown_refl _ _, .inl rfl⟩
  · have hd : decide (x ∈ l) = false := decide_eq_false hxl
    have HX : Hid (freeD (.free x) l = l ++ [x]) := Lib.hid (by simp [freeD, hxl])
    obtain ⟨i0, hinf, hz0, hzs, hzb⟩ := info_parts Try.infoStr
    clear hxl hlen
    go_enter Try.func27, Try.ntmps27
    go_wp2_with fail
    refine (sContains_any l x base _ _ HL.out (by omega)).mono ?_
    rintro e w1 ⟨rfl, rfl⟩
    go_wp2_with (first
      | (at_builtin
         refine wpList_append_own_at _ rfl (.tmp 18) (.tmp 23) 23 rfl base 9 i0 (.string ⟨#[]⟩) 1 16 Try.underlying23 hinf hz0 hzs hzb rfl (by decide) (.slice A l.length c) l.length (l.map strV) rfl (HL.out.alloc _) ⟨w.heap.size, 0, none⟩ 1 1 [.string ⟨x.toArray⟩] rfl rfl (cell_one_new _ _ _) ?_ ?_ ?_ ?_ ?_
         · intro u hu
           simp at hu
           subst hu
           rfl
         · unfold maxLen; omega
         · omega
         · simp; omega
         intro v2 w2 hown2 hg2 _ hat2)
      | fail)
    go_wp2
    go_ret
    refine ⟨_, rfl, ?_, (World.grownBy_alloc _ _ _).trans hg2, ?_⟩
    · rw [HX.out]
      unfold SRow
      rw [List.length_append, List.map_append]
      exact hown2
    · rcases hat2 with h | h
      · exact .inl h
      · exact .inr ⟨_, h, by simp⟩

theorem freeNames_bnd (i : Nat) : FnSaid (.bnd i) := by
  rintro l base v lv w P ⟨b, rfl, hPb, hb⟩ hP hl hbase hlen hl9
  have k0 := hb.cell 0
  simp at k0
  have HL := Lib.hid hl
  clear hl hP hb
  go_enter Try.func27, Try.ntmps27
  go_wp2
  go_ret
  exact ⟨_, rfl, HL.out, grown_refl _ _, .inl rfl⟩

theorem freeNames_lam (x : List UInt8) (d : DB) (ih : FnSaid d) : FnSaid (.lam x d) := by
  rintro l base v lv w P ⟨b, c, rfl, hPb, hx, hb, hd⟩ hP hl hbase hlen hl9
  have k0 := hb.cell 0
  have k3 := hb.cell 3
  simp at k0 k3
  have H := Lib.hid (ih l base _ lv w P hd hP hl hbase hlen hl9)
  clear hl hP hb hd ih hlen
  go_enter Try.func27, Try.ntmps27
  go_wp2_with fail
  refine H.out.mono ?_
  rintro e w1 ⟨v', rfl, h1, h2, h3⟩
  have H1 : Hid (FnPost (freeD d l) base lv w (.returned v') w1) := Lib.hid ⟨v', rfl, h1, h2, h3⟩
  clear h1 h2 h3
  go_wp2_with fail
  go_ret
  exact H1.out

set_option maxRecDepth 100000 in
set_option maxHeartbeats 4000000 in
theorem freeNames_app (f a : DB) (ihf : FnSaid f) (iha : FnSaid a) : FnSaid (.app f a) := by
  rintro l base v lv w P ⟨b, c, d, rfl, hPb, hb, hf, ha⟩ hP hl hbase hlen hl9
  have k0 := hb.cell 0
  have k3 := hb.cell 3
  have k4 := hb.cell 4
  simp at k0 k3 k4
  have hfl : (freeD f l).length ≤ 9000 := Nat.le_trans (freeD_grows a _) hlen
  have HB := Lib.hid hb
  have HP := Lib.hid hP
  have C1 : Hid (Calls Try.prog 27 #[.pointer (some ⟨c, 0, none⟩), lv] w.drew (FnPost (freeD f l) base lv w)) :=
    Lib.hid ((ihf l base _ lv w.drew P (DAt.drewN hf 1) hP hl hbase hfl hl9).mono fun _ _ h => h.drew)
  have C2 : Hid (∀ v' w1, SRow w1 base v' (freeD f l) → w.grownBy w1 lv.ownBlock → (v'.ownBlock = lv.ownBlock ∨ ∃ b, v'.ownBlock = some b ∧ w.heap.size ≤ b) →
      Calls Try.prog 27 #[.pointer (some ⟨d, 0, none⟩), v'] w1 (FnPost (freeD (.app f a) l) base lv w)) :=
    Lib.hid (fun v' w1 h1 h2 h3 => (iha (freeD f l) base _ v' w1 P (ha.far hP h2) (fun q hq => ⟨by have := (hP q hq).1; have := h2.size; omega, by
        rcases h3 with h3 | ⟨q', h3, h4⟩
        · rw [h3]; exact (hP q hq).2
        · rw [h3]; intro e; injection e with e; have := (hP q hq).1; omega⟩) h1 (by have := h2.size; omega) hlen hfl).mono fun e w2 hh => by
      obtain ⟨v2, rfl, g1, g2, g3⟩ := hh
      refine ⟨v2, rfl, g1, grown_two h2 g2 h3, ?_⟩
      rcases g3 with g3 | ⟨q, g3, g4⟩
      · rw [g3]; exact h3
      · exact .inr ⟨q, g3, by have := h2.size; omega⟩)
  clear hb hf ha hP hl ihf iha hlen hfl
  go_enter Try.func27, Try.ntmps27
  go_wp2
  go_region_with (first
    | (go_at_call 27; (with_reducible refine C1.out.mono ?_); rintro e w1 ⟨v', rfl, h1, h2, h3⟩; have hb1 := HB.out.grown h2 (HP.out b hPb).2; have k4' := hb1.cell 4; simp at k4'; have HH := Lib.hid (C2.out v' w1 h1 h2 h3); clear h1 h2 h3 hb1)
    | (go_at_call 27; (with_reducible refine HH.out.mono ?_); rintro e w2 ⟨v2, rfl, g1, g2, g3⟩; have HE : Hid (FnPost (freeD (.app f a) l) base lv w (.returned v2) w2) := Lib.hid ⟨v2, rfl, g1, g2, g3⟩; clear g1 g2 g3))
  all_goals
    go_wp2
    go_ret
    exact HE.out

theorem freeNames_any (t : DB) : FnSaid t := by
  induction t with
  | free x => exact freeNames_free x
  | bnd i => exact freeNames_bnd i
  | lam x d ih => exact freeNames_lam x d ih
  | app f a ihf iha => exact freeNames_app f a ihf iha

end Go.Proofs.Ytgceephloklpbac
