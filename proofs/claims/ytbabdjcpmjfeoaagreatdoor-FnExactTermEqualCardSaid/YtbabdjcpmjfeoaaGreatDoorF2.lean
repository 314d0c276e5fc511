/- The model adds the free names of a term to a list. -/
import Derived.Test.YtbabdjcpmjfeoaaGreatDoorF1
import Derived.Test.YtbabdjcpmjfeoaaGreatDoorR0
namespace Go.Proofs.YtbabdjcpmjfeoaaGreatDoor
set_option linter.unusedVariables false
open Go.RowKit

/-- The box of a tree and its three parts, kept while calls write elsewhere. -/
structure CKeep (P : Nat → Prop) (g cap b : Nat) (p0 p1 p2 : Tr) (A0 A1 A2 : Option Addr) (n0 c0 n1 c1 n2 c2 : Nat) (w' : World) : Prop where
  box : Blk w' b 63 #[.string ⟨#[]⟩, .slice (some ⟨g, 0, none⟩) 3 cap]
  three : Three w' P g p0 p1 p2 A0 A1 A2 n0 c0 n1 c1 n2 c2
  all : ∀ q, P q → q < w'.heap.size
section
variable {w' w2 : World} {P : Nat → Prop} {g cap b : Nat} {p0 p1 p2 : Tr} {A0 A1 A2 : Option Addr} {n0 c0 n1 c1 n2 c2 : Nat}
theorem CKeep.drew (h : CKeep P g cap b p0 p1 p2 A0 A1 A2 n0 c0 n1 c1 n2 c2 w') : CKeep P g cap b p0 p1 p2 A0 A1 A2 n0 c0 n1 c1 n2 c2 w'.drew :=
  ⟨h.box, h.three.mono fun _ hb => ⟨hb, fun _ => rfl⟩, h.all⟩
theorem CKeep.far (h : CKeep P g cap b p0 p1 p2 A0 A1 A2 n0 c0 n1 c1 n2 c2 w') {r : Option Nat} (hg : w'.grownBy w2 r) (hb : some b ≠ r) (hP : ∀ q, P q → some q ≠ r) : CKeep P g cap b p0 p1 p2 A0 A1 A2 n0 c0 n1 c1 n2 c2 w2 :=
  ⟨h.box.grown hg hb, h.three.mono fun q hq => ⟨hq, fun o => World.cell?_of_block (w := w') (hg.block q (h.all q hq) (hP q hq))⟩, fun q hq => Nat.lt_of_lt_of_le (h.all q hq) hg.size⟩
theorem CKeep.s (h : CKeep P g cap b p0 p1 p2 A0 A1 A2 n0 c0 n1 c1 n2 c2 w') :
    w'.cell? ⟨b, 1, none⟩ = some (.slice (some ⟨g, 0, none⟩) 3 cap) ∧ w'.cell? ⟨g, 2, none⟩ = some (.string ⟨p1.atom.toArray⟩) ∧ w'.cell? ⟨g, 3, none⟩ = some (.slice A1 n1 c1) ∧
    w'.cell? ⟨g, 4, none⟩ = some (.string ⟨p2.atom.toArray⟩) ∧ w'.cell? ⟨g, 5, none⟩ = some (.slice A2 n2 c2) ∧ CKeep P g cap b p0 p1 p2 A0 A1 A2 n0 c0 n1 c1 n2 c2 w' := by
  have := h.box.cell 1
  simp at this
  exact ⟨this, h.three.k2, h.three.k3, h.three.k4, h.three.k5, h⟩
end

theorem freeS_grows (t : Tm) : ∀ b l : List (List UInt8), l.length ≤ (freeS b t l).length := by
  induction t with
  | var x => intro b l; simp only [freeS]; split <;> simp
  | lam x d ih => intro b l; exact ih _ l
  | app f a ihf iha => intro b l; exact Nat.le_trans (ihf b l) (iha b _)

/-- The contract of l1Free at a term. -/
def FsSaid (t : Tm) : Prop := ∀ (bound l : List (List UInt8)) (b1 gb cb base : Nat) (v lv : Value) (w : World) (P : Nat → Prop), t.ok → TAt w P (tmTr t) v → (∀ b, P b → b < w.heap.size ∧ some b ≠ lv.ownBlock) →
  SRow w b1 (.slice (some ⟨gb, 0, none⟩) bound.length cb) bound → lv.ownBlock ≠ some gb → SRow w base lv l → base ≤ w.heap.size → l.length + t.atoms ≤ 9000 → bound.length + t.atoms ≤ 9000 →
  Calls Tryz.prog 55 #[v, .slice (some ⟨gb, 0, none⟩) bound.length cb, lv] w (FnPost (freeS bound t l) base lv w)

set_option maxRecDepth 100000 in
theorem l1Free_var (x : List UInt8) : FsSaid (.var x) := by
  intro bound l b1 gb cb base v lv w P hok ht hP hbd hne hl hbase hlen hlen2
  have hx := isNm_ne x hok
  have hae : (!x.isEmpty) = true := by cases x with
    | nil => exact absurd rfl hx
    | cons => rfl
  obtain ⟨vp, rfl, _⟩ := ht.form
  obtain ⟨A, c, rfl⟩ := own_shape hl
  have HL := Lib.hid (hl.alloc (.cells #[.string ⟨x.toArray⟩, vp] 63))
  have HBD := Lib.hid (hbd.alloc (.cells #[.string ⟨x.toArray⟩, vp] 63))
  have hn1 : l.length ≤ 9000 := by omega
  have hn2 : bound.length ≤ 9000 := by omega
  have hla : l.length + 1 ≤ 9000 := by simp only [Tm.atoms] at hlen; omega
  have HL0 := Lib.hid hl
  have HBASE := Lib.hid hbase
  clear ht hP hbd hl hx hok hlen hlen2
  have hh1 : decide (x ∈ bound) = true ∨ decide (x ∈ bound) = false := by cases decide (x ∈ bound) <;> simp
  by_cases hxb : x ∈ bound
  · have hd : decide (x ∈ bound) = true := decide_eq_true hxb
    have HX : Hid (freeS bound (.var x) l = l) := Lib.hid (by simp [freeS, hxb])
    clear hxb hh1
    go_enter Tryz.func55, Tryz.ntmps55
    go_wp2_with fail
    refine (l1Has_any bound x b1 _ _ HBD.out (by omega)).mono ?_
    rintro e w1 ⟨rfl, rfl⟩
    go_wp2_with fail
    go_ret
    exact ⟨_, rfl, by rw [HX.out]; exact HL.out, World.grownBy_alloc _ _ _, .inl rfl⟩
  · have hd : decide (x ∈ bound) = false := decide_eq_false hxb
    by_cases hxl : x ∈ l
    · have hd2 : decide (x ∈ l) = true := decide_eq_true hxl
      have HX : Hid (freeS bound (.var x) l = l) := Lib.hid (by simp [freeS, hxl])
      clear hxb hxl hh1
      go_enter Tryz.func55, Tryz.ntmps55
      go_wp2_with fail
      refine (l1Has_any bound x b1 _ _ HBD.out (by omega)).mono ?_
      rintro e w1 ⟨rfl, rfl⟩
      go_wp2_with fail
      refine (l1Has_any l x base _ _ HL.out (by omega)).mono ?_
      rintro e w1 ⟨rfl, rfl⟩
      go_wp2_with fail
      go_ret
      exact ⟨_, rfl, by rw [HX.out]; exact HL.out, World.grownBy_alloc _ _ _, .inl rfl⟩
    · have hd2 : decide (x ∈ l) = false := decide_eq_false hxl
      have HX : Hid (freeS bound (.var x) l = l ++ [x]) := Lib.hid (by simp [freeS, hxb, hxl])
      obtain ⟨i0, hinf, hz0, hzs, hzb⟩ := info_parts Tryz.infoStr
      clear hxb hxl hh1
      go_enter Tryz.func55, Tryz.ntmps55
      go_wp2_with fail
      refine (l1Has_any bound x b1 _ _ HBD.out (by omega)).mono ?_
      rintro e w1 ⟨rfl, rfl⟩
      go_wp2_with fail
      refine (l1Has_any l x base _ _ HL.out (by omega)).mono ?_
      rintro e w1 ⟨rfl, rfl⟩
      go_wp2_with (first
        | (at_builtin
           refine wpList_append_own_at _ rfl (.tmp 21) (.tmp 24) 53 rfl base 9 i0 (.string ⟨#[]⟩) 1 16 Tryz.underlying53 hinf hz0 hzs hzb rfl (by decide) (.slice A l.length c) l.length (l.map strV) rfl (HL.out.alloc _) ⟨w.heap.size + 1, 0, none⟩ 1 1 [.string ⟨x.toArray⟩] rfl rfl ?_ ?_ ?_ ?_ ?_ ?_
           · have hh := cell_one_new (w.alloc (.cells #[.string ⟨x.toArray⟩, vp] 63)) (.string ⟨x.toArray⟩) 9
             simpa using hh
           · intro u hu
             simp at hu
             subst hu
             rfl
           · unfold maxLen; omega
           · omega
           · have := HBASE.out; simp; omega
           intro v2 w2 hown2 hg2 _ hat2)
        | fail)
      go_wp2
      go_ret
      refine ⟨_, rfl, ?_, ((World.grownBy_alloc _ _ _).trans (World.grownBy_alloc _ _ _)).trans hg2, ?_⟩
      · rw [HX.out]
        unfold SRow
        rw [List.length_append, List.map_append]
        exact hown2
      · rcases hat2 with h | h
        · exact .inl h
        · exact .inr ⟨_, h, by simp; omega⟩
end Go.Proofs.YtbabdjcpmjfeoaaGreatDoor
