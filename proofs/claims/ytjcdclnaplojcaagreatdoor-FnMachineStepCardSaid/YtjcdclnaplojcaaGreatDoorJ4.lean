/- The model adds the free names of a term to a list. The model's free names of a function and of an application. Small facts of names and of terms in memory. The model renames the bound names of a term. The model renames the bound names of a function. The model renames the bound names of an application, and of any term. What the canonical text of a term answers. The model writes a tree. The model's canonical term. The model puts a term for a name. The model puts a term for a name, in any term. The model renames apart from some terms. TermPut of the model and of the program. -/
import Derived.Test.YtjcdclnaplojcaaGreatDoorF1
import Derived.Test.YtjcdclnaplojcaaGreatDoorR0
import Derived.Test.YtjcdclnaplojcaaGreatDoorWB
import Derived.Test.YtjcdclnaplojcaaGreatDoorW0
import Derived.Test.YtjcdclnaplojcaaGreatDoorC1
import Derived.Test.YtjcdclnaplojcaaGreatDoorDC
import Derived.Test.YtjcdclnaplojcaaGreatDoorLL
import Derived.Test.YtjcdclnaplojcaaGreatDoorJ0
import Derived.Test.YtjcdclnaplojcaaGreatDoorB
import Derived.Test.YtjcdclnaplojcaaGreatDoorL
import Derived.Test.YtjcdclnaplojcaaGreatDoorA
namespace Go.Proofs.YtjcdclnaplojcaaGreatDoor
set_option linter.unusedVariables false
open Go.RowKit

/-- The box of a tree and its three parts, kept while calls write elsewhere. -/
structure CKeep (P : Nat → Prop) (g cap b : Nat) (p0 p1 p2 : Tr) (A0 A1 A2 : Option Addr) (n0 c0 n1 c1 n2 c2 : Nat) (w' : World) : Prop where
  box : Blk w' b 51 #[.string ⟨#[]⟩, .slice (some ⟨g, 0, none⟩) 3 cap]
  three : Three w' P g p0 p1 p2 A0 A1 A2 n0 c0 n1 c1 n2 c2
  all : ∀ q, P q → q < w'.heap.size
section
variable {w' w2 : World} {P : Nat → Prop} {g cap b : Nat} {p0 p1 p2 : Tr} {A0 A1 A2 : Option Addr} {n0 c0 n1 c1 n2 c2 : Nat}
theorem CKeep.drew (h : CKeep P g cap b p0 p1 p2 A0 A1 A2 n0 c0 n1 c1 n2 c2 w') : CKeep P g cap b p0 p1 p2 A0 A1 A2 n0 c0 n1 c1 n2 c2 w'.drew :=
  ⟨h.box, h.three.mono fun _ hb => ⟨hb, fun _ => rfl⟩, h.all⟩
theorem CKeep.far (h : CKeep P g cap b p0 p1 p2 A0 A1 A2 n0 c0 n1 c1 n2 c2 w') {r : Option Nat} (hg : w'.grownBy w2 r) (hb : some b ≠ r) (hP : ∀ q, P q → some q ≠ r) : CKeep P g cap b p0 p1 p2 A0 A1 A2 n0 c0 n1 c1 n2 c2 w2 :=
  ⟨h.box.grown hg hb, h.three.mono fun q hq => ⟨hq, fun o => World.cell?_of_block (w := w') (hg.block q (h.all q hq) (hP q hq))⟩, fun q hq => Nat.lt_of_lt_of_le (h.all q hq) hg.size⟩
theorem CKeep.s (h : CKeep P g cap b p0 p1 p2 A0 A1 A2 n0 c0 n1 c1 n2 c2 w') :
    w'.cell? ⟨b, 1, none⟩ = some (.slice (some ⟨g, 0, none⟩) 3 cap) ∧ w'.cell? ⟨g, 2, none⟩ = some (.string ⟨p1.atom.toArray⟩) ∧ w'.cell? ⟨g, 3, none⟩ = some (.slice A1 n1 c1) ∧
    w'.cell? ⟨g, 4, none⟩ = some (.string ⟨p2.atom.toArray⟩) ∧ w'.cell? ⟨g, 5, none⟩ = some (.slice A2 n2 c2) ∧ CKeep P g cap b p0 p1 p2 A0 A1 A2 n0 c0 n1 c1 n2 c2 w' := by
  have := h.box.cell 1
  simp at this
  exact ⟨this, h.three.k2, h.three.k3, h.three.k4, h.three.k5, h⟩
end

theorem freeS_grows (t : Tm) : ∀ b l : List (List UInt8), l.length ≤ (freeS b t l).length := by
  induction t with
  | var x => intro b l; simp only [freeS]; split <;> simp
  | lam x d ih => intro b l; exact ih _ l
  | app f a ihf iha => intro b l; exact Nat.le_trans (ihf b l) (iha b _)

/-- The contract of l1Free at a term. -/
def FsSaid (t : Tm) : Prop := ∀ (bound l : List (List UInt8)) (b1 gb cb base : Nat) (v lv : Value) (w : World) (P : Nat → Prop), t.ok → TAt w P (tmTr t) v → (∀ b, P b → b < w.heap.size ∧ some b ≠ lv.ownBlock) →
  SRow w b1 (.slice (some ⟨gb, 0, none⟩) bound.length cb) bound → lv.ownBlock ≠ some gb → SRow w base lv l → base ≤ w.heap.size → l.length + t.atoms ≤ 9000 → bound.length + t.atoms ≤ 9000 →
  Calls Tryz.prog 90 #[v, .slice (some ⟨gb, 0, none⟩) bound.length cb, lv] w (FnPost (freeS bound t l) base lv w)

set_option maxRecDepth 100000 in
theorem l1Free_var (x : List UInt8) : FsSaid (.var x) := by
  intro bound l b1 gb cb base v lv w P hok ht hP hbd hne hl hbase hlen hlen2
  have hx := isNm_ne x hok
  have hae : (!x.isEmpty) = true := by cases x with
    | nil => exact absurd rfl hx
    | cons => rfl
  obtain ⟨vp, rfl, _⟩ := ht.form
  obtain ⟨A, c, rfl⟩ := own_shape hl
  have HL := Lib.hid (hl.alloc (.cells #[.string ⟨x.toArray⟩, vp] 51))
  have HBD := Lib.hid (hbd.alloc (.cells #[.string ⟨x.toArray⟩, vp] 51))
  have hn1 : l.length ≤ 9000 := by omega
  have hn2 : bound.length ≤ 9000 := by omega
  have hla : l.length + 1 ≤ 9000 := by simp only [Tm.atoms] at hlen; omega
  have HL0 := Lib.hid hl
  have HBASE := Lib.hid hbase
  clear ht hP hbd hl hx hok hlen hlen2
  have hh1 : decide (x ∈ bound) = true ∨ decide (x ∈ bound) = false := by cases decide (x ∈ bound) <;> simp
  by_cases hxb : x ∈ bound
  · have hd : decide (x ∈ bound) = true := decide_eq_true hxb
    have HX : Hid (freeS bound (.var x) l = l) := Lib.hid (by simp [freeS, hxb])
    clear hxb hh1
    go_enter Tryz.func90, Tryz.ntmps90
    go_wp2_with fail
    refine (l1Has_any bound x b1 _ _ HBD.out (by omega)).mono ?_
    rintro e w1 ⟨rfl, rfl⟩
    go_wp2_with fail
    go_ret
    exact ⟨_, rfl, by rw [HX.out]; exact HL.out, World.grownBy_alloc _ _ _, .inl rfl⟩
  · have hd : decide (x ∈ bound) = false := decide_eq_false hxb
    by_cases hxl : x ∈ l
    · have hd2 : decide (x ∈ l) = true := decide_eq_true hxl
      have HX : Hid (freeS bound (.var x) l = l) := Lib.hid (by simp [freeS, hxl])
      clear hxb hxl hh1
      go_enter Tryz.func90, Tryz.ntmps90
      go_wp2_with fail
      refine (l1Has_any bound x b1 _ _ HBD.out (by omega)).mono ?_
      rintro e w1 ⟨rfl, rfl⟩
      go_wp2_with fail
      refine (l1Has_any l x base _ _ HL.out (by omega)).mono ?_
      rintro e w1 ⟨rfl, rfl⟩
      go_wp2_with fail
      go_ret
      exact ⟨_, rfl, by rw [HX.out]; exact HL.out, World.grownBy_alloc _ _ _, .inl rfl⟩
    · have hd2 : decide (x ∈ l) = false := decide_eq_false hxl
      have HX : Hid (freeS bound (.var x) l = l ++ [x]) := Lib.hid (by simp [freeS, hxb, hxl])
      obtain ⟨i0, hinf, hz0, hzs, hzb⟩ := info_parts Tryz.infoStr
      clear hxb hxl hh1
      go_enter Tryz.func90, Tryz.ntmps90
      go_wp2_with fail
      refine (l1Has_any bound x b1 _ _ HBD.out (by omega)).mono ?_
      rintro e w1 ⟨rfl, rfl⟩
      go_wp2_with fail
      refine (l1Has_any l x base _ _ HL.out (by omega)).mono ?_
      rintro e w1 ⟨rfl, rfl⟩
      go_wp2_with (first
        | (at_builtin
           refine wpList_append_own_at _ rfl (.tmp 21) (.tmp 24) 55 rfl base 9 i0 (.string ⟨#[]⟩) 1 16 Tryz.underlying55 hinf hz0 hzs hzb rfl (by decide) (.slice A l.length c) l.length (l.map strV) rfl (HL.out.alloc _) ⟨w.heap.size + 1, 0, none⟩ 1 1 [.string ⟨x.toArray⟩] rfl rfl ?_ ?_ ?_ ?_ ?_ ?_
           · have hh := cell_one_new (w.alloc (.cells #[.string ⟨x.toArray⟩, vp] 51)) (.string ⟨x.toArray⟩) 9
             simpa using hh
           · intro u hu
             simp at hu
             subst hu
             rfl
           · unfold maxLen; omega
           · omega
           · have := HBASE.out; simp; omega
           intro v2 w2 hown2 hg2 _ hat2)
        | fail)
      go_wp2
      go_ret
      refine ⟨_, rfl, ?_, ((World.grownBy_alloc _ _ _).trans (World.grownBy_alloc _ _ _)).trans hg2, ?_⟩
      · rw [HX.out]
        unfold SRow
        rw [List.length_append, List.map_append]
        exact hown2
      · rcases hat2 with h | h
        · exact .inl h
        · exact .inr ⟨_, h, by simp; omega⟩
end Go.Proofs.YtjcdclnaplojcaaGreatDoor

namespace Go.Proofs.YtjcdclnaplojcaaGreatDoor
set_option linter.unusedVariables false
open Go.RowKit

theorem below_grown {w w' : World} (h : Below w.heap.size w w') (r : Option Nat) : w.grownBy w' r := ⟨h.os, h.tape, h.output, h.size, fun k hk _ => h.block k hk⟩
theorem SRow.below {w w' : World} {base : Nat} {v : Value} {l : List (List UInt8)} (h : SRow w base v l) (hb : Below w.heap.size w w') : SRow w' base v l :=
  h.kept (below_grown hb none) (by cases v.ownBlock <;> simp)
theorem FnPost.under {res : List (List UInt8)} {base : Nat} {lv : Value} {w w1 : World} {e : Ending} {w' : World} (hB : Below w.heap.size w w1) (h : FnPost res base lv w1 e w') : FnPost res base lv w e w' := by
  obtain ⟨v', rfl, h1, h2, h3⟩ := h
  refine ⟨v', rfl, h1, (below_grown hB _).trans h2, ?_⟩
  rcases h3 with h3 | ⟨b, h3, h4⟩
  · exact .inl h3
  · exact .inr ⟨b, h3, by have := hB.size; omega⟩

set_option maxRecDepth 100000 in
theorem l1Free_lam (x : List UInt8) (d : Tm) (ih : FsSaid d) : FsSaid (.lam x d) := by
  intro bound l b1 gb cb base v lv w P hok ht hP hbd hne hl hbase hlen hlen2
  obtain ⟨g, cap, A0, A1, A2, n0, c0, n1, c1, n2, c2, rfl, hcap, h3⟩ := ht.three
  have HP : Hid (∀ q, P q → q < w.heap.size) := Lib.hid (fun q hq => (hP q hq).1)
  have HP2 := Lib.hid hP
  have IH := Lib.hid ih
  have HOK := Lib.hid hok.2
  have HBD := Lib.hid hbd
  have HL := Lib.hid hl
  have HNE := Lib.hid hne
  have HLEN : Hid (l.length + d.atoms ≤ 9000 ∧ (bound ++ [x]).length + d.atoms ≤ 9000 ∧ bound.length ≤ 9000 ∧ base ≤ w.heap.size) := Lib.hid (by
    simp only [Tm.atoms] at hlen hlen2
    simp only [List.length_append, List.length_singleton]
    omega)
  have a3 := h3.alloc HP.out (.cells #[.string ⟨#[]⟩, .slice (some ⟨g, 0, none⟩) 3 cap] 51)
  clear ih hP ht hok hbd hl hne hlen hlen2 hbase
  go_enter Tryz.func90, Tryz.ntmps90
  go_wp2_with fail
  refine (l1Head3 _ P g cap (.mk sLam []) (.mk x []) (tmTr d) A0 A1 A2 n0 c0 n1 c1 n2 c2 a3 (fun b hb => by have := HP.out b hb; simp; omega)).mono ?_
  rintro e w1 ⟨rfl, hb1⟩
  have hB1 : Below w.heap.size w w1 := ((Below.refl _ _).alloc (Nat.le_refl _) _).trans (hb1.mono (by simp))
  have b3 := a3.below hb1 (fun b hb => by have := HP.out b hb; simp; omega)
  have hr := (Blk.new w 51 #[.string ⟨#[]⟩, .slice (some ⟨g, 0, none⟩) 3 cap]).below hb1 (by simp)
  have hlt := hr.lt
  have hk : CKeep P g cap w.heap.size (.mk sLam []) (.mk x []) (tmTr d) A0 A1 A2 n0 c0 n1 c1 n2 c2 w1 := ⟨hr, b3, fun q hq => by have := HP.out q hq; omega⟩
  have hbox : some w.heap.size ≠ lv.ownBlock := by
    intro e
    have := (HL.out.lt _ e.symm).2
    omega
  have C1 : Hid (Calls Tryz.prog 58 #[.slice (some ⟨gb, 0, none⟩) bound.length cb, .string ⟨x.toArray⟩] w1.drew (LwPost (bound ++ [x]) w1.drew)) :=
    Lib.hid (l1With_any bound x b1 gb cb w1.drew (HBD.out.below hB1).drew HLEN.out.2.2.1)
  have C2 : Hid (∀ g' c' w2, SRow w2 w1.heap.size (.slice (some ⟨g', 0, none⟩) (bound ++ [x]).length c') (bound ++ [x]) → Below w1.heap.size w1.drew w2 →
      Calls Tryz.prog 90 #[.agg #[.string ⟨(tmTr d).atom.toArray⟩, .slice A2 n2 c2], .slice (some ⟨g', 0, none⟩) (bound.length + 1) c', lv] w2 fun e w3 => FnPost (freeS bound (.lam x d) l) base lv w e w3 ∧ CKeep P g cap w.heap.size (.mk sLam []) (.mk x []) (tmTr d) A0 A1 A2 n0 c0 n1 c1 n2 c2 w3) :=
    Lib.hid (fun g' c' w2 h1 h2 => by
      have hB2 : Below w.heap.size w w2 := hB1.drew.trans (h2.mono (by omega))
      have hk2 := hk.drew.far (below_grown h2 none) (by simp) (by simp)
      have hs : freeS bound (.lam x d) l = freeS (bound ++ [x]) d l := rfl
      have hle : bound.length + 1 = (bound ++ [x]).length := by simp
      rw [hs, hle]
      refine (IH.out (bound ++ [x]) l w1.heap.size g' c' base _ lv w2 P HOK.out hk2.three.t2 (fun q hq => ⟨hk2.all q hq, (HP2.out q hq).2⟩) h1 ?_ (HL.out.below hB2) (by have := hB2.size; have := HLEN.out.2.2.2; omega) HLEN.out.1 HLEN.out.2.1).mono fun e w3 h => ⟨h.under hB2, by
        obtain ⟨v2, rfl, g1, g2, g3⟩ := h
        exact hk2.far g2 hbox (fun q hq => (HP2.out q hq).2)⟩
      intro e
      have := (HL.out.lt _ e).2
      have := (h1.lt g' rfl).1
      omega)
  have hl : (sLam == [108, 97, 109]) = true := rfl
  simp only [Tr.atom]
  go_wp2_with fail
  go_region_held3 (fun w' => w'.cell? ⟨w.heap.size, 1, none⟩ = some (.slice (some ⟨g, 0, none⟩) 3 cap) ∧ w'.cell? ⟨g, 2, none⟩ = some (.string ⟨x.toArray⟩) ∧ w'.cell? ⟨g, 3, none⟩ = some (.slice A1 n1 c1) ∧
      w'.cell? ⟨g, 4, none⟩ = some (.string ⟨(tmTr d).atom.toArray⟩) ∧ w'.cell? ⟨g, 5, none⟩ = some (.slice A2 n2 c2) ∧ CKeep P g cap w.heap.size (.mk sLam []) (.mk x []) (tmTr d) A0 A1 A2 n0 c0 n1 c1 n2 c2 w')
    (first | exact hk.drew.s | exact CKeep.s (by assumption) | exact (CKeep.drew (by assumption)).s)
    (first
      | (go_at_call 58; (with_reducible refine C1.out.mono ?_); rintro e w2 ⟨g', c', rfl, h1, h2⟩; have hk2 := hk.drew.far (below_grown h2 none) (by simp) (by simp); have HH := Lib.hid (C2.out g' c' w2 h1 h2); clear h1 h2)
      | (go_at_call 90; (with_reducible refine HH.out.mono ?_); rintro e w3 ⟨⟨v2, rfl, g1, g2, g3⟩, hk3⟩; have HE : Hid (FnPost (freeS bound (.lam x d) l) base lv w (.returned v2) w3) := Lib.hid ⟨v2, rfl, g1, g2, g3⟩; clear g1 g2 g3))
  all_goals
    go_wp2
    go_ret
    exact HE.out

set_option maxRecDepth 100000 in
theorem l1Free_app (f a : Tm) (ihf : FsSaid f) (iha : FsSaid a) : FsSaid (.app f a) := by
  intro bound l b1 gb cb base v lv w P hok ht hP hbd hne hl hbase hlen hlen2
  obtain ⟨g, cap, A0, A1, A2, n0, c0, n1, c1, n2, c2, rfl, hcap, h3⟩ := ht.three
  have HP : Hid (∀ q, P q → q < w.heap.size) := Lib.hid (fun q hq => (hP q hq).1)
  have HP2 := Lib.hid hP
  have IHF := Lib.hid ihf
  have IHA := Lib.hid iha
  have HOK := Lib.hid hok
  have HBD := Lib.hid hbd
  have HL := Lib.hid hl
  have HNE := Lib.hid hne
  have HLEN : Hid (l.length + f.atoms ≤ 9000 ∧ bound.length + f.atoms ≤ 9000 ∧ (freeS bound f l).length + a.atoms ≤ 9000 ∧ bound.length + a.atoms ≤ 9000 ∧ base ≤ w.heap.size) := Lib.hid (by
    have := freeS_length f bound l
    simp only [Tm.atoms] at hlen hlen2
    omega)
  have a3 := h3.alloc HP.out (.cells #[.string ⟨#[]⟩, .slice (some ⟨g, 0, none⟩) 3 cap] 51)
  clear ihf iha hP ht hok hbd hl hne hlen hlen2 hbase
  go_enter Tryz.func90, Tryz.ntmps90
  go_wp2_with fail
  refine (l1Head3 _ P g cap (.mk sApp []) (tmTr f) (tmTr a) A0 A1 A2 n0 c0 n1 c1 n2 c2 a3 (fun b hb => by have := HP.out b hb; simp; omega)).mono ?_
  rintro e w1 ⟨rfl, hb1⟩
  have hB1 : Below w.heap.size w w1 := ((Below.refl _ _).alloc (Nat.le_refl _) _).trans (hb1.mono (by simp))
  have b3 := a3.below hb1 (fun b hb => by have := HP.out b hb; simp; omega)
  have hr := (Blk.new w 51 #[.string ⟨#[]⟩, .slice (some ⟨g, 0, none⟩) 3 cap]).below hb1 (by simp)
  have hlt := hr.lt
  have hk : CKeep P g cap w.heap.size (.mk sApp []) (tmTr f) (tmTr a) A0 A1 A2 n0 c0 n1 c1 n2 c2 w1 := ⟨hr, b3, fun q hq => by have := HP.out q hq; omega⟩
  have hbox : some w.heap.size ≠ lv.ownBlock := by
    intro e
    have := (HL.out.lt _ e.symm).2
    omega
  have C1 : Hid (Calls Tryz.prog 90 #[.agg #[.string ⟨(tmTr f).atom.toArray⟩, .slice A1 n1 c1], .slice (some ⟨gb, 0, none⟩) bound.length cb, lv] w1.drew (FnPost (freeS bound f l) base lv w1.drew)) :=
    Lib.hid (IHF.out bound l b1 gb cb base _ lv w1.drew P HOK.out.1 hk.drew.three.t1 (fun q hq => ⟨hk.drew.all q hq, (HP2.out q hq).2⟩) (HBD.out.below hB1).drew HNE.out (HL.out.below hB1).drew (by have := hB1.size; have := HLEN.out.2.2.2.2; simp; omega) HLEN.out.1 HLEN.out.2.1)
  have C2 : Hid (∀ v' w2, SRow w2 base v' (freeS bound f l) → w1.drew.grownBy w2 lv.ownBlock → (v'.ownBlock = lv.ownBlock ∨ ∃ b, v'.ownBlock = some b ∧ w1.drew.heap.size ≤ b) →
      Calls Tryz.prog 90 #[.agg #[.string ⟨(tmTr a).atom.toArray⟩, .slice A2 n2 c2], .slice (some ⟨gb, 0, none⟩) bound.length cb, v'] w2 fun e w3 => FnPost (freeS bound (.app f a) l) base lv w e w3 ∧ CKeep P g cap w.heap.size (.mk sApp []) (tmTr f) (tmTr a) A0 A1 A2 n0 c0 n1 c1 n2 c2 w3) :=
    Lib.hid (fun v' w2 h1 h2 h3 => by
      have hk2 := hk.drew.far h2 hbox (fun q hq => (HP2.out q hq).2)
      have hz2 : w1.heap.size ≤ w2.heap.size := h2.size
      have hzb := (HBD.out.lt gb rfl).2
      have hG2 : w.grownBy w2 lv.ownBlock := (below_grown hB1.drew _).trans h2
      have hbd2 : SRow w2 b1 (.slice (some ⟨gb, 0, none⟩) bound.length cb) bound := (HBD.out.below hB1).drew.kept h2 (.inr fun e => HNE.out e.symm)
      have h3' : v'.ownBlock = lv.ownBlock ∨ ∃ b, v'.ownBlock = some b ∧ w.heap.size ≤ b := by
        rcases h3 with h3 | ⟨b, h3, h4⟩
        · exact .inl h3
        · exact .inr ⟨b, h3, by have h4' : w1.heap.size ≤ b := h4; omega⟩
      refine (IHA.out bound (freeS bound f l) b1 gb cb base _ v' w2 P HOK.out.2 hk2.three.t2 ?_ hbd2 ?_ h1 (by have := hB1.size; have := HLEN.out.2.2.2.2; omega) HLEN.out.2.2.1 HLEN.out.2.2.2.1).mono fun e w3 hh => ?_
      · intro q hq
        refine ⟨hk2.all q hq, ?_⟩
        rcases h3' with h3 | ⟨q', h3, h4⟩
        · rw [h3]; exact (HP2.out q hq).2
        · rw [h3]; intro e; injection e with e; have := HP.out q hq; omega
      · rcases h3' with h3 | ⟨q', h3, h4⟩
        · rw [h3]; exact HNE.out
        · rw [h3]; intro e; injection e with e; omega
      · obtain ⟨v2, rfl, g1, g2, g3⟩ := hh
        have hk3 := hk2.far g2 (by
          rcases h3 with h3 | ⟨b, h3, h4⟩
          · rw [h3]; exact hbox
          · rw [h3]; have h4' : w1.heap.size ≤ b := h4; intro e; injection e with e; omega) (fun q hq => by
          rcases h3' with h3 | ⟨q', h3, h4⟩
          · rw [h3]; exact (HP2.out q hq).2
          · rw [h3]; intro e; injection e with e; have := HP.out q hq; omega)
        refine ⟨⟨v2, rfl, g1, grown_two hG2 g2 h3', ?_⟩, hk3⟩
        rcases g3 with g3 | ⟨q, g3, g4⟩
        · rw [g3]; exact h3'
        · exact .inr ⟨q, g3, by omega⟩)
  have hl : (sApp == [108, 97, 109]) = false := rfl
  simp only [Tr.atom]
  go_wp2_with fail
  go_region_held3 (fun w' => w'.cell? ⟨w.heap.size, 1, none⟩ = some (.slice (some ⟨g, 0, none⟩) 3 cap) ∧ w'.cell? ⟨g, 2, none⟩ = some (.string ⟨(tmTr f).atom.toArray⟩) ∧ w'.cell? ⟨g, 3, none⟩ = some (.slice A1 n1 c1) ∧
      w'.cell? ⟨g, 4, none⟩ = some (.string ⟨(tmTr a).atom.toArray⟩) ∧ w'.cell? ⟨g, 5, none⟩ = some (.slice A2 n2 c2) ∧ CKeep P g cap w.heap.size (.mk sApp []) (tmTr f) (tmTr a) A0 A1 A2 n0 c0 n1 c1 n2 c2 w')
    (first | exact hk.drew.s | exact CKeep.s (by assumption) | exact (CKeep.drew (by assumption)).s)
    (first
      | (go_at_call 90; (with_reducible refine C1.out.mono ?_); rintro e w2 ⟨v', rfl, h1, h2, h3⟩; have hk2 := hk.drew.far h2 hbox (fun q hq => (HP2.out q hq).2); have HH := Lib.hid (C2.out v' w2 h1 h2 h3); clear h1 h2 h3)
      | (go_at_call 90; (with_reducible refine HH.out.mono ?_); rintro e w3 ⟨⟨v2, rfl, g1, g2, g3⟩, hk3⟩; have HE : Hid (FnPost (freeS bound (.app f a) l) base lv w (.returned v2) w3) := Lib.hid ⟨v2, rfl, g1, g2, g3⟩; clear g1 g2 g3))
  all_goals
    go_wp2
    go_ret
    exact HE.out

theorem l1Free_any (t : Tm) : FsSaid t := by
  induction t with
  | var x => exact l1Free_var x
  | lam x d ih => exact l1Free_lam x d ih
  | app f a ihf iha => exact l1Free_app f a ihf iha
end Go.Proofs.YtjcdclnaplojcaaGreatDoor

namespace Go.Proofs.YtjcdclnaplojcaaGreatDoor
set_option linter.unusedVariables false
open Go.RowKit

theorem Blk.ne2 {w : World} {q k : Nat} {t u : TypeId} {cs ds : Array Value} (h : Blk w q t cs) (h2 : Blk w k u ds) (hne : t ≠ u) : q ≠ k := by
  rintro rfl
  have h1 : w.heap[q]? = some (.cells cs t (0, 0)) := h
  have h3 : w.heap[q]? = some (.cells ds u (0, 0)) := h2
  rw [h1] at h3
  injection h3 with h3
  injection h3 with _ h4
  exact hne h4

theorem z_bytes (l : List UInt8) : (ByteArray.mk #[122]) ++ (ByteArray.mk l.toArray) = ⟨(122 :: l).toArray⟩ := by
  apply WideShapes.bytes_inj
  simp [ByteArray.data_append]

theorem dec_le (u : Nat) : (Lib.decDigits u).length ≤ u + 1 := by
  induction u using Nat.strongRecOn with
  | _ u ih =>
    by_cases h : u < 10
    · rw [Lib.decDigits, dif_pos h]; simp
    · rw [Lib.decDigits, dif_neg h, List.length_append]
      have := ih (u / 10) (by omega)
      simp
      omega

/-- A term lies in memory, wherever. -/
abbrev DTm (w : World) (d : DB) (v : Value) : Prop := DAt w (fun _ => True) d v
theorem DAt.any {w : World} {P Q : Nat → Prop} (h : ∀ q cs, Blk w q 132 cs → Q q) : ∀ {t : DB} {v : Value}, DAt w P t v → DAt w Q t v := by
  intro t
  induction t with
  | free x => rintro v ⟨b, rfl, hb, hl, hk⟩; exact ⟨b, rfl, h _ _ hk, hl, hk⟩
  | bnd i => rintro v ⟨b, rfl, hb, hk⟩; exact ⟨b, rfl, h _ _ hk, hk⟩
  | lam x d ih => rintro v ⟨b, c, rfl, hb, hl, hk, hd⟩; exact ⟨b, c, rfl, h _ _ hk, hl, hk, ih hd⟩
  | app f a ihf iha => rintro v ⟨b, c, d, rfl, hb, hk, hf, ha⟩; exact ⟨b, c, d, rfl, h _ _ hk, hk, ihf hf, iha ha⟩
theorem DAt.tm {w : World} {P : Nat → Prop} {t : DB} {v : Value} (h : DAt w P t v) : DTm w t v := h.any fun _ _ _ => trivial
theorem DAt.low {w : World} {P : Nat → Prop} {t : DB} {v : Value} (h : DAt w P t v) : DAt w (fun q => q < w.heap.size) t v := h.any fun _ _ hk => hk.lt
theorem DAt.far2 {w w' : World} {P : Nat → Prop} {t : DB} {v : Value} (h : DAt w P t v) {k : Nat} {u : TypeId} {ds : Array Value} (hk : Blk w k u ds) (hu : 132 ≠ u) (hg : w.grownBy w' (some k)) : DAt w' P t v :=
  h.keep fun q cs hq => hq.grown hg (fun e => hq.ne2 hk hu (Option.some.inj e))
theorem DAt.below2 {w w' : World} {P : Nat → Prop} {t : DB} {v : Value} (h : DAt w P t v) (hb : Below w.heap.size w w') : DAt w' P t v := h.keep fun q cs hq => hq.below hb hq.lt

theorem renD_next (fr : List (List UInt8)) (hf : fr.length ≤ 999) (d : DB) : ∀ n, (renD fr d n).2 ≤ n + d.size * 1000 := by
  induction d with
  | free x => intro n; exact Nat.le_add_right _ _
  | bnd i => intro n; exact Nat.le_add_right _ _
  | lam x b ih => intro n; have h1 := ih (fresh fr n + 1); have h2 := (fresh_spec fr n).2.1; simp only [renD, DB.size]; omega
  | app f a ihf iha => intro n; have h1 := ihf n; have h2 := iha (renD fr f n).2; simp only [renD, DB.size]; omega

theorem SRow.far2 {w w' : World} {base : Nat} {v : Value} {l : List (List UInt8)} (h : SRow w base v l) {k : Nat} {u : TypeId} {ds : Array Value} (hk : Blk w k u ds) (hu : u ≠ 9) (hg : w.grownBy w' (some k)) : SRow w' base v l :=
  h.kept hg (by
    cases h1 : v.ownBlock with
    | none => exact .inl rfl
    | some q => exact .inr fun e => row_not hk h hu (by rw [h1]; exact e.symm))
theorem dec_len : ∀ (k u : Nat), u < 10 ^ (k + 1) → (Lib.decDigits u).length ≤ k + 1
  | 0, u, h => by rw [Lib.decDigits, dif_pos (by simpa using h)]; simp
  | k + 1, u, h => by
    by_cases h1 : u < 10
    · rw [Lib.decDigits, dif_pos h1]; simp
    · rw [Lib.decDigits, dif_neg h1, List.length_append]
      rw [Nat.pow_succ] at h
      have := dec_len k (u / 10) (by omega)
      simp
      omega
theorem zN_short (k : Nat) (h : k ≤ 1000000) : (zN k).length ≤ 8000 := by have := dec_len 6 k (by omega); simp only [zN, List.length_cons]; omega

end Go.Proofs.YtjcdclnaplojcaaGreatDoor

namespace Go.Proofs.YtjcdclnaplojcaaGreatDoor
set_option linter.unusedVariables false
open Go.RowKit

/-- A tree lies in memory, where it was allowed or above a bound. -/
abbrev TNew (P : Nat → Prop) (lo : Nat) (w : World) (t : Tr) (v : Value) : Prop := TAt w (fun b => P b ∨ (lo ≤ b ∧ b < w.heap.size)) t v
theorem TNew.grown {P : Nat → Prop} {lo nb : Nat} {w w' : World} {t : Tr} {v : Value} (h : TNew P lo w t v) (hP : ∀ b, P b → b < w.heap.size ∧ b ≠ nb) (hl : nb < lo) (hg : w.grownBy w' (some nb)) : TNew P lo w' t v :=
  h.mono fun b hb => ⟨hb.imp id (fun h => ⟨h.1, Nat.lt_of_lt_of_le h.2 hg.size⟩), fun o => World.cell?_of_block (w := w) (hg.block b (by rcases hb with h | h; exact (hP b h).1; exact h.2) (fun e => by injection e with e; rcases hb with h | h; exact (hP b h).2 e; omega))⟩
theorem srow_drewN {w : World} {base : Nat} {v : Value} {l : List (List UInt8)} (h : SRow w base v l) (n : Nat) : SRow (w.drewN n) base v l := h.kept (grown_drewN (grown_refl _ none) n) (by cases v.ownBlock <;> simp)

theorem grown_tree {w W : World} {nb : Nat} {tk : Value} {n : Nat} (h : Below w.heap.size w W) (hn : Nms w nb tk n) (hr : Blk W (w.heap.size + 1) 51 #[.string ⟨#[]⟩, .slice none 0 0]) (a b : Value) :
    w.grownBy ((W.setCell ⟨w.heap.size + 1, 0, none⟩ a).setCell ⟨w.heap.size + 1, 1, none⟩ b) (some nb) ∧ Nms ((W.setCell ⟨w.heap.size + 1, 0, none⟩ a).setCell ⟨w.heap.size + 1, 1, none⟩ b) nb tk n ∧
    Blk ((W.setCell ⟨w.heap.size + 1, 0, none⟩ a).setCell ⟨w.heap.size + 1, 1, none⟩ b) (w.heap.size + 1) 51 #[a, b] := by
  have hB : Below w.heap.size w ((W.setCell ⟨w.heap.size + 1, 0, none⟩ a).setCell ⟨w.heap.size + 1, 1, none⟩ b) := (h.setCell (p := ⟨w.heap.size + 1, 0, none⟩) (by simp) _).setCell (p := ⟨w.heap.size + 1, 1, none⟩) (by simp) _
  exact ⟨below_grown hB _, hn.below hB hn.lt, res_set hr _ _⟩

theorem lk_rev (rs : List (List UInt8)) (x : List UInt8) (k : Nat) (hk : rs.reverse[k]? = some x) (h : ∀ i, k + 1 ≤ i → i < rs.length → rs.reverse[i]? ≠ some x) : lk rs x = some (rs.length - 1 - k) := by
  induction rs with
  | nil => simp at hk
  | cons y r ih =>
    rw [List.reverse_cons] at hk h
    have hkl : k < r.length + 1 := by
      have := (List.getElem?_eq_some_iff.1 hk).1
      simpa using this
    by_cases hyx : y = x
    · subst hyx
      have : k = r.length := by
        rcases Nat.lt_or_ge k r.length with h1 | h1
        · exact absurd (by simp) (h r.length (by omega) (by simp))
        · omega
      subst this
      simp [lk]
    · have hkr : k < r.length := by
        rcases Nat.lt_or_ge k r.length with h1 | h1
        · exact h1
        · have e : k = r.length := by omega
          rw [e] at hk
          simp at hk
          exact absurd hk hyx
      have h2 := ih (by rwa [List.getElem?_append_left (by simpa using hkr)] at hk) (fun i h1 h2 => by
        have := h i h1 (by simp; omega)
        rwa [List.getElem?_append_left (by simpa using h2)] at this)
      simp only [lk, if_neg hyx, h2, Option.map_some, List.length_cons]
      congr 1
      omega

def RsPost (P : Nat → Prop) (fr : List (List UInt8)) (t : Tm) (rs ts : List (List UInt8)) (n nb : Nat) (tk : Value) (w : World) (e : Ending) (w' : World) : Prop :=
  ∃ a A m c, e = .returned (.agg #[a, .slice A m c]) ∧ TNew P w.heap.size w' (tmTr (renT fr t rs ts n).1) (.agg #[a, .slice A m c]) ∧ w.grownBy w' (some nb) ∧ Nms w' nb tk (renT fr t rs ts n).2
def RsSaid (t : Tm) : Prop := ∀ (rs ts fr : List (List UInt8)) (n nb base b1 g1 c1 b2 g2 c2 : Nat) (tk v : Value) (w : World) (P : Nat → Prop), t.ok → TAt w P (tmTr t) v → (∀ b, P b → b < w.heap.size ∧ b ≠ nb) →
  Nms w nb tk n → SRow w base tk fr → SRow w b1 (.slice (some ⟨g1, 0, none⟩) rs.length c1) rs.reverse → SRow w b2 (.slice (some ⟨g2, 0, none⟩) ts.length c2) ts.reverse → ts.length = rs.length → (∀ x ∈ ts, x.length ≤ 8000) →
  fr.length ≤ 999 → rs.length + t.size ≤ 8000 → n + t.size * 1000 ≤ 900000 →
  Calls Tryz.prog 91 #[v, .slice (some ⟨g1, 0, none⟩) rs.length c1, .slice (some ⟨g2, 0, none⟩) ts.length c2, .pointer (some ⟨nb, 0, none⟩)] w (RsPost P fr t rs ts n nb tk w)

set_option maxRecDepth 100000 in
set_option maxHeartbeats 2000000 in
theorem l1Rename_var (x : List UInt8) : RsSaid (.var x) := by
  rintro rs ts fr n nb base b1 g1 c1 b2 g2 c2 tk v w P hok ht hP hn hf h1 h2 hlen hts hfr hsz hnx
  have hx := isNm_ne x hok
  have hae : (!x.isEmpty) = true := by cases x with
    | nil => exact absurd rfl hx
    | cons => rfl
  obtain ⟨A, m, c, e⟩ := ht.shape
  have e : v = .agg #[.string ⟨x.toArray⟩, .slice A m c] := e
  subst e
  have HT := Lib.hid ht
  have HP := Lib.hid hP
  have HN := Lib.hid hn
  have HR := Lib.hid h1
  have HTS := Lib.hid h2
  have HSH := Lib.hid hts
  have hsz' : rs.length ≤ 8000 := by omega
  have HLEN := Lib.hid hlen
  clear ht hP hn hf h1 h2 hx hok hts hsz hnx hlen
  go_enter Tryz.func91, Tryz.ntmps91
  go_wp2
  go_loopg [9] rs.length (fun q iv wr => ∃ k j : Nat, q = k ∧ k ≤ rs.length ∧ iv = .int .i64 ((k : Int) - 1) ∧ wr = ((w.alloc (.cells #[.string ⟨x.toArray⟩, .slice A m c] 51)).alloc (.cells #[.string ⟨#[]⟩, .slice none 0 0] 51)).drewN j ∧ Hid (∀ i, k ≤ i → i < rs.length → rs.reverse[i]? ≠ some x))
  case atStart => exact ⟨rs.length, 0, rfl, Nat.le_refl _, by go_num, rfl, Lib.hid (fun i h1 h2 => by omega)⟩
  case round =>
    obtain ⟨k, j, hq, hk, rfl, rfl, HA⟩ := hrel
    have HQ := Lib.hid hq
    clear hq
    have hbx : Blk ((((w.alloc (.cells #[.string ⟨x.toArray⟩, .slice A m c] 51)).alloc (.cells #[.string ⟨#[]⟩, .slice none 0 0] 51)).drewN j)) w.heap.size 51 #[.string ⟨x.toArray⟩, .slice A m c] := ((Blk.new w _ _).alloc _).drewN j
    have hrs : Blk ((((w.alloc (.cells #[.string ⟨x.toArray⟩, .slice A m c] 51)).alloc (.cells #[.string ⟨#[]⟩, .slice none 0 0] 51)).drewN j)) (w.heap.size + 1) 51 #[.string ⟨#[]⟩, .slice none 0 0] := by
      have := (Blk.new (w.alloc (.cells #[.string ⟨x.toArray⟩, .slice A m c] 51)) 51 #[.string ⟨#[]⟩, .slice none 0 0]).drewN j
      simpa using this
    have HR2 := Lib.hid (srow_drewN ((HR.out.alloc (.cells #[.string ⟨x.toArray⟩, .slice A m c] 51)).alloc (.cells #[.string ⟨#[]⟩, .slice none 0 0] 51)) j)
    have HTS2 := Lib.hid (srow_drewN ((HTS.out.alloc (.cells #[.string ⟨x.toArray⟩, .slice A m c] 51)).alloc (.cells #[.string ⟨#[]⟩, .slice none 0 0] 51)) j)
    have HW : Hid (Below w.heap.size w ((((w.alloc (.cells #[.string ⟨x.toArray⟩, .slice A m c] 51)).alloc (.cells #[.string ⟨#[]⟩, .slice none 0 0] 51)).drewN j))) := Lib.hid (below_drewN' (((Below.refl _ _).alloc (Nat.le_refl _) _).alloc (by simp) _) _)
    generalize hW : ((w.alloc (.cells #[.string ⟨x.toArray⟩, .slice A m c] 51)).alloc (.cells #[.string ⟨#[]⟩, .slice none 0 0] 51)).drewN j = W at hbx hrs HR2 HTS2 HW
    have b0 := hbx.cell 0
    have b1 := hbx.cell 1
    have r0 := hrs.cell 0
    have r1 := hrs.cell 1
    have rl := hrs.lt
    have f0 := hrs.frozen 0
    have f1 := hrs.frozen 1
    simp at b0 b1 r0 r1
    have HRS := Lib.hid hrs
    have HWE := Lib.hid hW
    clear hbx hrs hW
    by_cases hk0 : k = 0
    · subst hk0
      go_wp2_with fail
      obtain ⟨hg3, hn3, hb3⟩ := grown_tree HW.out HN.out HRS.out (.string ⟨x.toArray⟩) (.slice A m c)
      have g0 := hb3.cell 0
      have g1 := hb3.cell 1
      simp only [List.getElem?_toArray, List.getElem?_cons_zero, List.getElem?_cons_succ] at g0 g1
      refine bodyPost_ret (v := .agg #[.string ⟨x.toArray⟩, .slice A m c]) (by simp [results, Tryz.results91, go_sem, g0, g1]) rfl ?_
      have hlk : lk rs x = none := (lk_none rs x).2 (fun hm => by
        obtain ⟨i, hi, e⟩ := List.getElem_of_mem (List.mem_reverse.2 hm)
        exact HA.out i (Nat.zero_le _) (by simpa using hi) (by rw [List.getElem?_eq_getElem hi, e]))
      refine ⟨_, _, _, _, rfl, ?_, hg3, hn3⟩
      simp only [renT, hlk]
      exact HT.out.mono fun b hb => ⟨.inl hb, fun o => World.cell?_of_block (w := w) (hg3.block b (HP.out b hb).1 (fun e => (HP.out b hb).2 (by injection e)))⟩
    · obtain ⟨k, rfl⟩ : ∃ k', k = k' + 1 := ⟨k - 1, by omega⟩
      have hkr : k < rs.reverse.length := by simp; omega
      have hkt : k < ts.reverse.length := by have := HLEN.out; simp; omega
      obtain ⟨g, hg1, -, -, -, hcell⟩ := HR2.out.cell hkr
      obtain ⟨g', hg2, -, -, -, hcell2⟩ := HTS2.out.cell hkt
      injection hg1 with hg1
      injection hg1 with hg1
      subst hg1
      injection hg2 with hg2
      injection hg2 with hg2
      subst hg2
      have HY := Lib.hid (List.getElem?_eq_getElem hkr)
      have HZ := Lib.hid (List.getElem?_eq_getElem hkt)
      generalize rs.reverse[k] = y at hcell HY
      generalize ts.reverse[k] = z at hcell2 HZ
      clear hkr hkt
      rw [show (((k + 1 : Nat) : Int) - 1) = (k : Int) by omega]
      have hcase : (y == x) = true ∨ (y == x) = false := by cases (y == x) <;> simp
      rcases hcase with hc | hc
      · go_wp2_with fail
        go_quiet (fail)
        have hkt2 : k < ts.length := by have := HLEN.out; omega
        go_wp2_with fail
        have hlk := lk_rev rs x k (by rw [HY.out, beq_iff_eq.1 hc]) HA.out
        obtain ⟨hg3, hn3, hb3⟩ := grown_tree (below_drewN' HW.out nq) HN.out (HRS.out.drewN nq) (.string ⟨z.toArray⟩) (.slice none 0 0)
        have g0 := hb3.cell 0
        have g1 := hb3.cell 1
        simp only [List.getElem?_toArray, List.getElem?_cons_zero, List.getElem?_cons_succ] at g0 g1
        refine bodyPost_ret (v := .agg #[.string ⟨z.toArray⟩, .slice none 0 0]) (by simp [results, Tryz.results91, go_sem, g0, g1]) rfl ?_
        have hz : ts[rs.length - 1 - k]? = some z := by
          have := HZ.out
          rwa [List.getElem?_reverse (by have := HLEN.out; omega), HLEN.out] at this
        refine ⟨_, _, _, _, rfl, ?_, hg3, hn3⟩
        simp only [renT, hlk, hz, Option.getD_some]
        have hzs := HSH.out z (List.mem_of_getElem? hz)
        show TAt _ _ (.mk z []) _
        unfold TAt
        exact ⟨_, rfl, hzs, by simp, .inl ⟨rfl, rfl⟩⟩
      · go_wp2_with fail
        go_quiet (fail)
        go_wp2_with fail
        go_roundg k
        case rel =>
          refine ⟨k, j + nq, rfl, by omega, rfl, by rw [← HWE.out, World.drewN_drewN], Lib.hid (fun i h1 h2 => ?_)⟩
          by_cases hik : i = k
          · subst hik
            rw [HY.out]
            intro e
            injection e with e
            rw [e] at hc
            simp at hc
          · exact HA.out i (by omega) h2
        case measure => have := HQ.out; omega
end Go.Proofs.YtjcdclnaplojcaaGreatDoor

namespace Go.Proofs.YtjcdclnaplojcaaGreatDoor
set_option linter.unusedVariables false
open Go.RowKit

/-- What is kept while the parts of a term are renamed. -/
structure RKp (fr rs ts : List (List UInt8)) (nb base b1 g1 d1 b2 g2 d2 : Nat) (tk : Value) (w0 : World) (P : Nat → Prop) (g cap : Nat) (p0 p1 p2 : Tr) (A0 A1 A2 : Option Addr) (n0 c0 n1 c1 n2 c2 n : Nat) (w' : World) : Prop where
  box : Blk w' w0.heap.size 51 #[.string ⟨#[]⟩, .slice (some ⟨g, 0, none⟩) 3 cap]
  res : Blk w' (w0.heap.size + 1) 51 #[.string ⟨#[]⟩, .slice none 0 0]
  three : Three w' P g p0 p1 p2 A0 A1 A2 n0 c0 n1 c1 n2 c2
  all : ∀ q, P q → q < w0.heap.size ∧ q ≠ nb
  nms : Nms w' nb tk n
  nbl : nb < w0.heap.size
  frs : SRow w' base tk fr
  fro : SRow w' b1 (.slice (some ⟨g1, 0, none⟩) rs.length d1) rs.reverse
  too : SRow w' b2 (.slice (some ⟨g2, 0, none⟩) ts.length d2) ts.reverse
  grown : w0.grownBy w' (some nb)
section
variable {fr rs ts : List (List UInt8)} {nb base b1 g1 d1 b2 g2 d2 : Nat} {tk : Value} {w0 : World} {P : Nat → Prop} {g cap : Nat} {p0 p1 p2 : Tr} {A0 A1 A2 : Option Addr} {n0 c0 n1 c1 n2 c2 n n' : Nat} {w' w2 : World}
theorem RKp.grow (h : RKp fr rs ts nb base b1 g1 d1 b2 g2 d2 tk w0 P g cap p0 p1 p2 A0 A1 A2 n0 c0 n1 c1 n2 c2 n w') (hg : w'.grownBy w2 (some nb)) (hn : Nms w2 nb tk n') : RKp fr rs ts nb base b1 g1 d1 b2 g2 d2 tk w0 P g cap p0 p1 p2 A0 A1 A2 n0 c0 n1 c1 n2 c2 n' w2 :=
  ⟨h.box.grown hg (fun e => by injection e with e; have := h.nbl; omega), h.res.grown hg (fun e => by injection e with e; have := h.nbl; omega),
   h.three.mono fun q hq => ⟨hq, fun o => World.cell?_of_block (w := w') (hg.block q (Nat.lt_of_lt_of_le (h.all q hq).1 h.grown.size) (fun e => (h.all q hq).2 (by injection e)))⟩,
   h.all, hn, h.nbl, h.frs.far2 h.nms (by decide) hg, h.fro.far2 h.nms (by decide) hg, h.too.far2 h.nms (by decide) hg, h.grown.trans hg⟩
theorem RKp.below (h : RKp fr rs ts nb base b1 g1 d1 b2 g2 d2 tk w0 P g cap p0 p1 p2 A0 A1 A2 n0 c0 n1 c1 n2 c2 n w') (hb : Below w'.heap.size w' w2) : RKp fr rs ts nb base b1 g1 d1 b2 g2 d2 tk w0 P g cap p0 p1 p2 A0 A1 A2 n0 c0 n1 c1 n2 c2 n w2 :=
  h.grow (below_grown hb _) (h.nms.below hb h.nms.lt)
theorem RKp.drew (h : RKp fr rs ts nb base b1 g1 d1 b2 g2 d2 tk w0 P g cap p0 p1 p2 A0 A1 A2 n0 c0 n1 c1 n2 c2 n w') : RKp fr rs ts nb base b1 g1 d1 b2 g2 d2 tk w0 P g cap p0 p1 p2 A0 A1 A2 n0 c0 n1 c1 n2 c2 n w'.drew :=
  h.below (Below.refl _ _).drew
theorem RKp.new (h : RKp fr rs ts nb base b1 g1 d1 b2 g2 d2 tk w0 P g cap p0 p1 p2 A0 A1 A2 n0 c0 n1 c1 n2 c2 n w') (o : Obj) : RKp fr rs ts nb base b1 g1 d1 b2 g2 d2 tk w0 P g cap p0 p1 p2 A0 A1 A2 n0 c0 n1 c1 n2 c2 n (w'.alloc o) :=
  h.below ((Below.refl _ _).alloc (Nat.le_refl _) _)
theorem RKp.new1 (h : RKp fr rs ts nb base b1 g1 d1 b2 g2 d2 tk w0 P g cap p0 p1 p2 A0 A1 A2 n0 c0 n1 c1 n2 c2 n w') (o : Obj) (i : Nat) (u : Value) : RKp fr rs ts nb base b1 g1 d1 b2 g2 d2 tk w0 P g cap p0 p1 p2 A0 A1 A2 n0 c0 n1 c1 n2 c2 n ((w'.alloc o).setCell ⟨w'.heap.size, i, none⟩ u) :=
  h.below (((Below.refl _ _).alloc (Nat.le_refl _) _).setCell (p := ⟨w'.heap.size, i, none⟩) (Nat.le_refl _) _)
theorem RKp.new2 (h : RKp fr rs ts nb base b1 g1 d1 b2 g2 d2 tk w0 P g cap p0 p1 p2 A0 A1 A2 n0 c0 n1 c1 n2 c2 n w') (o : Obj) (i j : Nat) (u v : Value) : RKp fr rs ts nb base b1 g1 d1 b2 g2 d2 tk w0 P g cap p0 p1 p2 A0 A1 A2 n0 c0 n1 c1 n2 c2 n (((w'.alloc o).setCell ⟨w'.heap.size, i, none⟩ u).setCell ⟨w'.heap.size, j, none⟩ v) :=
  h.below ((((Below.refl _ _).alloc (Nat.le_refl _) _).setCell (p := ⟨w'.heap.size, i, none⟩) (Nat.le_refl _) _).setCell (p := ⟨w'.heap.size, j, none⟩) (Nat.le_refl _) _)
theorem RKp.put2 (h : RKp fr rs ts nb base b1 g1 d1 b2 g2 d2 tk w0 P g cap p0 p1 p2 A0 A1 A2 n0 c0 n1 c1 n2 c2 n w') {k : Nat} {x y : Value} (hk : Blk w' k 51 #[x, y]) (hl : w0.heap.size + 2 ≤ k) (u v : Value) : RKp fr rs ts nb base b1 g1 d1 b2 g2 d2 tk w0 P g cap p0 p1 p2 A0 A1 A2 n0 c0 n1 c1 n2 c2 n ((w'.setCell ⟨k, 0, none⟩ u).setCell ⟨k, 1, none⟩ v) := by
  have hrow : ∀ {base : Nat} {v : Value} {l : List (List UInt8)}, SRow w' base v l → v.ownBlock ≠ some k := fun hr e => row_not hk hr (by decide) e.symm
  have hf : ∀ {base : Nat} {v' : Value} {l : List (List UInt8)}, SRow w' base v' l → SRow ((w'.setCell ⟨k, 0, none⟩ u).setCell ⟨k, 1, none⟩ v) base v' l := fun hr => ownsRow_far (ownsRow_far hr (hrow hr) _) (hrow hr) _
  have hnb := h.nbl
  refine ⟨(h.box.far (by simp; omega) _).far (by simp; omega) _, (h.res.far (by simp; omega) _).far (by simp; omega) _, h.three.mono fun q hq => ⟨hq, fun o => ?_⟩, h.all, (h.nms.far (by simp; omega) _).far (by simp; omega) _, h.nbl, hf h.frs, hf h.fro, hf h.too, ?_⟩
  · have := (h.all q hq).1
    rw [World.cell?_setCell_other _ _ _ _ (by intro e; injection e with e; omega), World.cell?_setCell_other _ _ _ _ (by intro e; injection e with e; omega)]
  · exact grown_two h.grown ((grown_set w' k 0 u).trans (grown_set _ k 1 v)) (.inr ⟨k, rfl, by omega⟩)
theorem RKp.frow {b : Nat} {v : Value} {l : List (List UInt8)} (k : RKp fr rs ts nb base b1 g1 d1 b2 g2 d2 tk w0 P g cap p0 p1 p2 A0 A1 A2 n0 c0 n1 c1 n2 c2 n w') (h : SRow w' b v l) (hg : w'.grownBy w2 (some nb)) : SRow w2 b v l := h.far2 k.nms (by decide) hg
theorem SRow.drew' {w : World} {b : Nat} {v : Value} {l : List (List UInt8)} (h : SRow w b v l) : SRow w.drew b v l := srow_drewN h 1
/-- A new box for a tree. -/
structure NB (w0 : World) (k : Nat) (w : World) : Prop where
  hi : w0.heap.size + 2 ≤ k
  blk : Blk w k 51 #[.string ⟨#[]⟩, .slice none 0 0]
theorem NB.facts {w0 w : World} {k : Nat} (h : NB w0 k w) : w.cell? ⟨k, 0, none⟩ = some (.string ⟨#[]⟩) ∧ w.cell? ⟨k, 1, none⟩ = some (.slice none 0 0) ∧ w.frozen? ⟨k, 0, none⟩ = false ∧ w.frozen? ⟨k, 1, none⟩ = false ∧ k < w.heap.size :=
  ⟨by simpa using h.blk.cell 0, by simpa using h.blk.cell 1, h.blk.frozen 0, h.blk.frozen 1, h.blk.lt⟩
theorem nbx {w3 : World} (hg : (w3.alloc (.cells #[.string ⟨#[]⟩, .slice none 0 0] 51)).grownBy w2 (some nb)) (h : RKp fr rs ts nb base b1 g1 d1 b2 g2 d2 tk w0 P g cap p0 p1 p2 A0 A1 A2 n0 c0 n1 c1 n2 c2 n w3) : NB w0 w3.heap.size w2 :=
  ⟨h.res.lt, (Blk.new w3 51 #[.string ⟨#[]⟩, .slice none 0 0]).grown hg (fun e => by injection e with e; have := h.nms.lt; omega)⟩
theorem nbx' {w3 : World} (hg : (w3.alloc (.cells #[.string ⟨#[]⟩, .slice none 0 0] 51)).drew.grownBy w2 (some nb)) (h : RKp fr rs ts nb base b1 g1 d1 b2 g2 d2 tk w0 P g cap p0 p1 p2 A0 A1 A2 n0 c0 n1 c1 n2 c2 n w3) : NB w0 w3.heap.size w2 :=
  nbx ((grown_drewN (grown_refl _ (some nb)) 1).trans hg) h
theorem nbxT {Q : Nat → Prop} {w3 : World} (hg : (w3.alloc (.cells #[.string ⟨#[]⟩, .slice none 0 0] 51)).grownBy w2 (some nb)) (h : RKp fr rs ts nb base b1 g1 d1 b2 g2 d2 tk w0 P g cap p0 p1 p2 A0 A1 A2 n0 c0 n1 c1 n2 c2 n w3)
    (hQ : ∀ k, w0.heap.size + 2 ≤ k → k < (w3.alloc (.cells #[.string ⟨#[]⟩, .slice none 0 0] 51)).heap.size → Q k) : NB w0 w3.heap.size w2 ∧ Q w3.heap.size :=
  ⟨nbx hg h, hQ _ h.res.lt (by simp)⟩
theorem nbcT {Q : Nat → Prop} {k : Nat} (hN : NB w0 k w') (hg : w'.grownBy w2 (some nb)) (h : RKp fr rs ts nb base b1 g1 d1 b2 g2 d2 tk w0 P g cap p0 p1 p2 A0 A1 A2 n0 c0 n1 c1 n2 c2 n w')
    (hQ : ∀ k, w0.heap.size + 2 ≤ k → k < w'.heap.size → Q k) : NB w0 k w2 ∧ Q k :=
  ⟨⟨hN.hi, hN.blk.grown hg (fun e => by injection e with e; have := h.nbl; have := hN.hi; omega)⟩, hQ _ hN.hi hN.blk.lt⟩
/-- What the walk goes on with: the tree in its box. -/
structure NX (P : Nat → Prop) (w0 : World) (k : Nat) (W : World) (t : Tr) (u v : Value) : Prop where
  hi : w0.heap.size + 2 ≤ k
  blk : Blk W k 51 #[u, v]
  tree : TAt W (fun b => P b ∨ (w0.heap.size + 2 ≤ b ∧ b < W.heap.size)) t (.agg #[u, v])
theorem nx_new {w4 : World} {t : Tr} {u v : Value} (h : RKp fr rs ts nb base b1 g1 d1 b2 g2 d2 tk w0 P g cap p0 p1 p2 A0 A1 A2 n0 c0 n1 c1 n2 c2 n w4) (ht : TAt w4 (fun b => P b ∨ (w0.heap.size + 2 ≤ b ∧ b < w4.heap.size)) t (.agg #[u, v])) : NX P w0 w4.heap.size (w4.alloc (.cells #[u, v] 51)) t u v := by
  have hz := h.res.lt
  refine ⟨by omega, Blk.new _ _ _, ht.mono fun b hb => ⟨hb.imp id (fun h => ⟨h.1, by simp; omega⟩), fun o => ?_⟩⟩
  have hb' : b < w4.heap.size := by
    rcases hb with hb | hb
    · have := (h.all b hb).1; omega
    · exact hb.2
  exact World.cell?_alloc_lt _ _ _ hb'
theorem nx_set {w4 : World} {k : Nat} {t : Tr} {u v : Value} (hN : NB w0 k w4) (ht : TAt w4 (fun b => (P b ∨ (w0.heap.size + 2 ≤ b ∧ b < w4.heap.size)) ∧ b ≠ k) t (.agg #[u, v])) : NX P w0 k ((w4.setCell ⟨k, 0, none⟩ u).setCell ⟨k, 1, none⟩ v) t u v := by
  refine ⟨hN.hi, res_set hN.blk _ _, ht.mono fun b hb => ⟨hb.1.imp id (fun h => ⟨h.1, by simpa [World.setCell] using h.2⟩), fun o => ?_⟩⟩
  rw [World.cell?_setCell_other _ _ _ _ (by intro e; injection e with e; exact hb.2 e.symm), World.cell?_setCell_other _ _ _ _ (by intro e; injection e with e; exact hb.2 e.symm)]
theorem nbc {k : Nat} (hN : NB w0 k w') (hg : w'.grownBy w2 (some nb)) (h : RKp fr rs ts nb base b1 g1 d1 b2 g2 d2 tk w0 P g cap p0 p1 p2 A0 A1 A2 n0 c0 n1 c1 n2 c2 n w') : NB w0 k w2 :=
  ⟨hN.hi, hN.blk.grown hg (fun e => by injection e with e; have := h.nbl; have := hN.hi; omega)⟩
theorem RKp.s (h : RKp fr rs ts nb base b1 g1 d1 b2 g2 d2 tk w0 P g cap p0 p1 p2 A0 A1 A2 n0 c0 n1 c1 n2 c2 n w') :
    w'.cell? ⟨w0.heap.size, 1, none⟩ = some (.slice (some ⟨g, 0, none⟩) 3 cap) ∧ w'.cell? ⟨g, 2, none⟩ = some (.string ⟨p1.atom.toArray⟩) ∧ w'.cell? ⟨g, 3, none⟩ = some (.slice A1 n1 c1) ∧
    w'.cell? ⟨g, 4, none⟩ = some (.string ⟨p2.atom.toArray⟩) ∧ w'.cell? ⟨g, 5, none⟩ = some (.slice A2 n2 c2) := by
  have := h.box.cell 1
  simp at this
  exact ⟨this, h.three.k2, h.three.k3, h.three.k4, h.three.k5⟩
theorem RKp.sl {x : List UInt8} (h : RKp fr rs ts nb base b1 g1 d1 b2 g2 d2 tk w0 P g cap p0 (.mk x []) p2 A0 A1 A2 n0 c0 n1 c1 n2 c2 n w') :
    w'.cell? ⟨w0.heap.size, 1, none⟩ = some (.slice (some ⟨g, 0, none⟩) 3 cap) ∧ w'.cell? ⟨g, 2, none⟩ = some (.string ⟨x.toArray⟩) ∧ w'.cell? ⟨g, 3, none⟩ = some (.slice A1 n1 c1) ∧
    w'.cell? ⟨g, 4, none⟩ = some (.string ⟨p2.atom.toArray⟩) ∧ w'.cell? ⟨g, 5, none⟩ = some (.slice A2 n2 c2) := h.s
theorem ll_call (hd s : List UInt8) (hhd : hd.length ≤ 8000) (hs : s.length ≤ 8000) {W : World} (K : RKp fr rs ts nb base b1 g1 d1 b2 g2 d2 tk w0 P g cap p0 p1 p2 A0 A1 A2 n0 c0 n1 c1 n2 c2 n W) {t1 t2 : Tr} {u1 v1 u2 v2 : Value}
    (hT1 : TAt W (fun b => P b ∨ (w0.heap.size + 2 ≤ b ∧ b < W.heap.size)) t1 (.agg #[u1, v1])) (hT2 : TAt W (fun b => P b ∨ (w0.heap.size + 2 ≤ b ∧ b < W.heap.size)) t2 (.agg #[u2, v2])) (gb : Nat) (hgb : gb = W.heap.size) :
    Calls Tryz.prog 30 #[.string ⟨hd.toArray⟩, .slice (some ⟨gb, 0, none⟩) 2 2] (W.alloc (.cells #[u1, v1, u2, v2] 51)) fun e w'' =>
      ∃ A' m' c', e = .returned (.agg #[.string ⟨#[]⟩, .slice A' m' c']) ∧ TAt w'' (fun b => P b ∨ (w0.heap.size + 2 ≤ b ∧ b < w''.heap.size)) (.mk [] [.mk hd [], t1, t2]) (.agg #[.string ⟨#[]⟩, .slice A' m' c']) ∧
        RKp fr rs ts nb base b1 g1 d1 b2 g2 d2 tk w0 P g cap p0 p1 p2 A0 A1 A2 n0 c0 n1 c1 n2 c2 n w'' ∧ Below W.heap.size W w'' := by
  subst hgb
  have hz := K.res.lt
  have hP : ∀ b, (P b ∨ (w0.heap.size + 2 ≤ b ∧ b < W.heap.size)) → b < W.heap.size := by
    rintro b (h | h)
    · have := (K.all b h).1; omega
    · exact h.2
  have hbk := Blk.new W 51 #[u1, v1, u2, v2]
  have h := l1List_any hd hhd [t1, t2] (by simp) (fun b => P b ∨ (w0.heap.size + 2 ≤ b ∧ b < W.heap.size)) W.heap.size 2 [u1, v1, u2, v2] (W.alloc (.cells #[u1, v1, u2, v2] 51)) (by simp)
    (fun j u hu => by rw [hbk.cell j]; simpa using hu) (VsAt.cons' (hT1.alloc hP _) (VsAt.cons' (hT2.alloc hP _) (by unfold VsAt; rfl))) (fun b hb => by have := hP b hb; simp; omega)
  refine h.mono ?_
  rintro e w'' ⟨A', m', c', rfl, h1, h2⟩
  have hz2 := h2.size
  simp at hz2
  refine ⟨A', m', c', rfl, h1.mono fun b hb => ⟨?_, fun _ => rfl⟩, (K.new _).below h2, ((Below.refl _ _).alloc (Nat.le_refl _) _).trans (h2.mono (by simp))⟩
  rcases hb with (h | h) | h
  · exact .inl h
  · exact .inr ⟨h.1, by omega⟩
  · have := h.1
    simp at this
    exact .inr ⟨by omega, h.2⟩
theorem rs_done {w5 : World} (K : RKp fr rs ts nb base b1 g1 d1 b2 g2 d2 tk w0 P g cap p0 p1 p2 A0 A1 A2 n0 c0 n1 c1 n2 c2 n w5) {t : Tr} {u v : Value} (hT : TAt w5 (fun b => P b ∨ (w0.heap.size + 2 ≤ b ∧ b < w5.heap.size)) t (.agg #[u, v])) :
    Blk ((w5.setCell ⟨w0.heap.size + 1, 0, none⟩ u).setCell ⟨w0.heap.size + 1, 1, none⟩ v) (w0.heap.size + 1) 51 #[u, v] ∧
    TNew P w0.heap.size ((w5.setCell ⟨w0.heap.size + 1, 0, none⟩ u).setCell ⟨w0.heap.size + 1, 1, none⟩ v) t (.agg #[u, v]) ∧
    w0.grownBy ((w5.setCell ⟨w0.heap.size + 1, 0, none⟩ u).setCell ⟨w0.heap.size + 1, 1, none⟩ v) (some nb) ∧ Nms ((w5.setCell ⟨w0.heap.size + 1, 0, none⟩ u).setCell ⟨w0.heap.size + 1, 1, none⟩ v) nb tk n := by
  have hnb := K.nbl
  refine ⟨res_set K.res _ _, hT.mono fun b hb => ⟨hb.imp id (fun h => ⟨by omega, by simpa [World.setCell] using h.2⟩), fun o => ?_⟩, grown_two K.grown ((grown_set w5 (w0.heap.size + 1) 0 u).trans (grown_set _ (w0.heap.size + 1) 1 v)) (.inr ⟨_, rfl, by omega⟩), (K.nms.far (by simp; omega) _).far (by simp; omega) _⟩
  have hne : b ≠ w0.heap.size + 1 := by
    rcases hb with h | h
    · have := (K.all b h).1; omega
    · omega
  rw [World.cell?_setCell_other _ _ _ _ (by intro e; injection e with e; omega), World.cell?_setCell_other _ _ _ _ (by intro e; injection e with e; omega)]
end

set_option maxRecDepth 100000 in
set_option maxHeartbeats 4000000 in
theorem l1Rename_lam (x : List UInt8) (d : Tm) (ih : RsSaid d) : RsSaid (.lam x d) := by
  rintro rs ts fr n nb base b1 g1 d1 b2 g2 d2 tk v w P hok ht hP hn hf h1 h2 hlen hts hfr hsz hnx
  obtain ⟨g, cap, A0, A1, A2, n0, c0, n1, c1, n2, c2, rfl, hcap, h3⟩ := ht.three
  obtain ⟨f1, f2, _, _⟩ := fresh_spec fr n
  have HF2 : Hid (fresh fr n + 1 + d.size * 1000 ≤ 900000 ∧ n ≤ 900000 ∧ rs.length + 1 + d.size ≤ 8000 ∧ rs.length ≤ 8000 ∧ ts.length = rs.length) := Lib.hid (by simp only [Tm.size] at hsz hnx; omega)
  have HP := Lib.hid hP
  have HP1 : Hid (∀ b, P b → b < w.heap.size) := Lib.hid fun b hb => (hP b hb).1
  have IH := Lib.hid ih
  have HOK := Lib.hid hok.2
  have HTS := Lib.hid hts
  have a3 := (h3.alloc HP1.out (.cells #[.string ⟨#[]⟩, .slice (some ⟨g, 0, none⟩) 3 cap] 51)).alloc (fun b hb => by have := HP1.out b hb; simp; omega) (.cells #[.string ⟨#[]⟩, .slice none 0 0] 51)
  have hr2 : Blk ((w.alloc (.cells #[.string ⟨#[]⟩, .slice (some ⟨g, 0, none⟩) 3 cap] 51)).alloc (.cells #[.string ⟨#[]⟩, .slice none 0 0] 51)) (w.heap.size + 1) 51 #[.string ⟨#[]⟩, .slice none 0 0] := by
    have := Blk.new (w.alloc (.cells #[.string ⟨#[]⟩, .slice (some ⟨g, 0, none⟩) 3 cap] 51)) 51 #[.string ⟨#[]⟩, .slice none 0 0]
    simpa using this
  have K0 : Hid (RKp fr rs ts nb base b1 g1 d1 b2 g2 d2 tk w P g cap (.mk sLam []) (.mk x []) (tmTr d) A0 A1 A2 n0 c0 n1 c1 n2 c2 n ((w.alloc (.cells #[.string ⟨#[]⟩, .slice (some ⟨g, 0, none⟩) 3 cap] 51)).alloc (.cells #[.string ⟨#[]⟩, .slice none 0 0] 51))) :=
    Lib.hid ⟨(Blk.new w _ _).alloc _, hr2, a3, hP, (hn.alloc _).alloc _, hn.lt, (hf.alloc _).alloc _, (h1.alloc _).alloc _, (h2.alloc _).alloc _, (World.grownBy_alloc _ _ _).trans (World.grownBy_alloc _ _ _)⟩
  have A3 := Lib.hid a3
  clear ih hP ht hok hn hf h1 h2 hlen hts hsz hnx h3 a3 hr2 f1 f2
  go_enter Tryz.func91, Tryz.ntmps91
  go_wp2_with fail
  refine (l1Head3 _ P g cap (.mk sLam []) (.mk x []) (tmTr d) A0 A1 A2 n0 c0 n1 c1 n2 c2 A3.out (fun b hb => by have := HP1.out b hb; simp; omega)).mono ?_
  rintro e w1 ⟨rfl, hb1⟩
  have k1 := K0.out.below hb1
  have hl : (sLam == [108, 97, 109]) = true := rfl
  have K1 := Lib.hid k1
  clear k1
  simp only [Tr.atom]
  go_wp2_with fail
  refine (l1Fresh_any fr n nb base tk _ K1.out.nms K1.out.frs (by omega) HF2.out.2.1).mono ?_
  rintro e w2 ⟨rfl, hg2, hn2⟩
  have hk := K1.out.grow hg2 hn2
  have CF : Hid (∀ w', RKp fr rs ts nb base b1 g1 d1 b2 g2 d2 tk w P g cap (.mk sLam []) (.mk x []) (tmTr d) A0 A1 A2 n0 c0 n1 c1 n2 c2 (fresh fr n + 1) w' → Calls Tryz.prog 58 #[.slice (some ⟨g1, 0, none⟩) rs.length d1, .string ⟨x.toArray⟩] w' fun e w'' =>
      ∃ b' g' c', e = .returned (.slice (some ⟨g', 0, none⟩) (rs.length + 1) c') ∧ SRow w'' b' (.slice (some ⟨g', 0, none⟩) (x :: rs).length c') (x :: rs).reverse ∧ w'.grownBy w'' (some nb) ∧ RKp fr rs ts nb base b1 g1 d1 b2 g2 d2 tk w P g cap (.mk sLam []) (.mk x []) (tmTr d) A0 A1 A2 n0 c0 n1 c1 n2 c2 (fresh fr n + 1) w'') := Lib.hid (fun w' k => by
    have h := l1With_any rs.reverse x b1 g1 d1 w' (by rw [List.length_reverse]; exact k.fro) (by rw [List.length_reverse]; have := HF2.out; omega)
    rw [List.length_reverse] at h
    refine h.mono ?_
    rintro e w'' ⟨g', c', rfl, h1, h2⟩
    rw [← List.reverse_cons] at h1
    exact ⟨_, g', c', by simp, by rw [List.length_reverse] at h1; exact h1, below_grown h2 _, k.below h2⟩)
  have CT : Hid (∀ w', RKp fr rs ts nb base b1 g1 d1 b2 g2 d2 tk w P g cap (.mk sLam []) (.mk x []) (tmTr d) A0 A1 A2 n0 c0 n1 c1 n2 c2 (fresh fr n + 1) w' → Calls Tryz.prog 58 #[.slice (some ⟨g2, 0, none⟩) ts.length d2, .string ⟨(zN (fresh fr n)).toArray⟩] w' fun e w'' =>
      ∃ b' g' c', e = .returned (.slice (some ⟨g', 0, none⟩) (ts.length + 1) c') ∧ SRow w'' b' (.slice (some ⟨g', 0, none⟩) (zN (fresh fr n) :: ts).length c') (zN (fresh fr n) :: ts).reverse ∧ w'.grownBy w'' (some nb) ∧ RKp fr rs ts nb base b1 g1 d1 b2 g2 d2 tk w P g cap (.mk sLam []) (.mk x []) (tmTr d) A0 A1 A2 n0 c0 n1 c1 n2 c2 (fresh fr n + 1) w'') := Lib.hid (fun w' k => by
    have h := l1With_any ts.reverse (zN (fresh fr n)) b2 g2 d2 w' (by rw [List.length_reverse]; exact k.too) (by rw [List.length_reverse]; have := HF2.out; omega)
    rw [List.length_reverse] at h
    refine h.mono ?_
    rintro e w'' ⟨g', c', rfl, h1, h2⟩
    rw [← List.reverse_cons] at h1
    exact ⟨_, g', c', by simp, by rw [List.length_reverse] at h1; exact h1, below_grown h2 _, k.below h2⟩)
  have CR : Hid (∀ w' b' g' c' b'' g'' c'', RKp fr rs ts nb base b1 g1 d1 b2 g2 d2 tk w P g cap (.mk sLam []) (.mk x []) (tmTr d) A0 A1 A2 n0 c0 n1 c1 n2 c2 (fresh fr n + 1) w' → SRow w' b' (.slice (some ⟨g', 0, none⟩) (x :: rs).length c') (x :: rs).reverse → SRow w' b'' (.slice (some ⟨g'', 0, none⟩) (zN (fresh fr n) :: ts).length c'') (zN (fresh fr n) :: ts).reverse →
      Calls Tryz.prog 91 #[.agg #[.string ⟨(tmTr d).atom.toArray⟩, .slice A2 n2 c2], .slice (some ⟨g', 0, none⟩) (rs.length + 1) c', .slice (some ⟨g'', 0, none⟩) (ts.length + 1) c'', .pointer (some ⟨nb, 0, none⟩)] w' fun e w'' =>
      ∃ (a : List UInt8) (A : Option Addr) (m c : Nat), e = .returned (.agg #[.string ⟨a.toArray⟩, .slice A m c]) ∧ TAt w'' (fun b => P b ∨ (w.heap.size + 2 ≤ b ∧ b < w''.heap.size)) (tmTr (renT fr d (x :: rs) (zN (fresh fr n) :: ts) (fresh fr n + 1)).1) (.agg #[.string ⟨a.toArray⟩, .slice A m c]) ∧ (∀ k, w.heap.size + 2 ≤ k → k < w'.heap.size → TAt w'' (fun b => (P b ∨ (w.heap.size + 2 ≤ b ∧ b < w''.heap.size)) ∧ b ≠ k) (tmTr (renT fr d (x :: rs) (zN (fresh fr n) :: ts) (fresh fr n + 1)).1) (.agg #[.string ⟨a.toArray⟩, .slice A m c])) ∧ RKp fr rs ts nb base b1 g1 d1 b2 g2 d2 tk w P g cap (.mk sLam []) (.mk x []) (tmTr d) A0 A1 A2 n0 c0 n1 c1 n2 c2 (renT fr d (x :: rs) (zN (fresh fr n) :: ts) (fresh fr n + 1)).2 w'' ∧ w'.grownBy w'' (some nb)) := Lib.hid (fun w' b' g' c' b'' g'' c'' k h1 h2 => by
    have hs := HF2.out
    refine (IH.out (x :: rs) (zN (fresh fr n) :: ts) fr (fresh fr n + 1) nb base b' g' c' b'' g'' c'' tk _ w' P HOK.out k.three.t2 (fun q hq => ⟨Nat.lt_of_lt_of_le (HP1.out q hq) k.grown.size, (HP.out q hq).2⟩) k.nms k.frs h1 h2 (by simp; omega) ?_ hfr (by simp; omega) (by omega)).mono ?_
    · intro y hy
      rcases List.mem_cons.1 hy with rfl | hy
      · exact zN_short _ (by omega)
      · exact HTS.out y hy
    · rintro e w'' ⟨a, A, m, c, rfl, h3, h4, h5⟩
      obtain ⟨A', n', c', e⟩ := h3.shape
      simp only [Value.agg.injEq, Array.mk.injEq, List.cons.injEq] at e
      obtain ⟨rfl, -, -⟩ := e
      have hz := k.res.lt
      refine ⟨_, A, m, c, rfl, h3.mono fun b hb => ⟨hb.imp id (fun h => ⟨by omega, h.2⟩), fun _ => rfl⟩, fun q hq1 hq2 => h3.mono fun b hb => ⟨⟨hb.imp id (fun h => ⟨by omega, h.2⟩), ?_⟩, fun _ => rfl⟩, k.grow h4 h5, h4⟩
      rcases hb with h | h
      · have := HP1.out b h; omega
      · omega)
  clear hg2 hn2
  go_wp2_with fail
  go_region_held3 (fun w' => w'.cell? ⟨w.heap.size, 1, none⟩ = some (.slice (some ⟨g, 0, none⟩) 3 cap) ∧ w'.cell? ⟨g, 2, none⟩ = some (.string ⟨x.toArray⟩) ∧ w'.cell? ⟨g, 3, none⟩ = some (.slice A1 n1 c1) ∧
      w'.cell? ⟨g, 4, none⟩ = some (.string ⟨(tmTr d).atom.toArray⟩) ∧ w'.cell? ⟨g, 5, none⟩ = some (.slice A2 n2 c2))
    (with_reducible first | exact hk.drew.sl | exact RKp.sl (by assumption) | exact (RKp.drew (by assumption)).sl | exact (RKp.new (by assumption) _).sl | exact (RKp.drew (RKp.new (by assumption) _)).sl | exact (RKp.new1 (by assumption) _ _ _).sl | exact (RKp.new2 (by assumption) _ _ _ _ _).sl | exact (RKp.put2 (by assumption) (NB.blk (by assumption)) (NB.hi (by assumption)) _ _).sl)
    (first
      | (go_at_call 58; (with_reducible refine (CF.out _ ?hkp).mono ?_); (case hkp => with_reducible first | exact hk.drew | assumption | exact (RKp.drew (by assumption)) | exact RKp.new (by first | exact hk.drew | assumption) _ | exact RKp.drew (RKp.new (by assumption) _)); rintro e w3 ⟨bF, gF, cF, rfl, hF, hgF, hkF⟩; (try (with_reducible first | replace hT := RKp.frow (by assumption) hT hgF | replace hT := RKp.frow (RKp.drew (by assumption)) (SRow.drew' hT) hgF | replace hT := RKp.frow (RKp.new (by assumption) _) (World.ownsRow.alloc hT _) hgF)); (with_reducible first | (have hN := nbx hgF (by first | exact hk.drew | assumption)) | (have hN := nbx' hgF (by assumption)) | (have hN := nbc (by assumption) hgF (by assumption)) | skip); clear hgF)
      | (go_at_call 58; (with_reducible refine (CT.out _ ?hkp).mono ?_); (case hkp => with_reducible first | exact hk.drew | assumption | exact (RKp.drew (by assumption)) | exact RKp.new (by first | exact hk.drew | assumption) _ | exact RKp.drew (RKp.new (by assumption) _)); rintro e w3 ⟨bT, gT, cT, rfl, hT, hgT, hkT⟩; (try (with_reducible first | replace hF := RKp.frow (by assumption) hF hgT | replace hF := RKp.frow (RKp.drew (by assumption)) (SRow.drew' hF) hgT | replace hF := RKp.frow (RKp.new (by assumption) _) (World.ownsRow.alloc hF _) hgT)); (with_reducible first | (have hN := nbx hgT (by first | exact hk.drew | assumption)) | (have hN := nbx' hgT (by assumption)) | (have hN := nbc (by assumption) hgT (by assumption)) | skip); clear hgT)
      | (go_at_call 91; (with_reducible refine (CR.out _ bF gF cF bT gT cT ?k1 ?k2 ?k3).mono ?_); (case k1 => with_reducible first | assumption | exact RKp.new (by assumption) _); (case k2 => with_reducible first | assumption | exact World.ownsRow.alloc hF _); (case k3 => with_reducible first | assumption | exact World.ownsRow.alloc hT _); rintro e w4 ⟨a, A, m, c, rfl, ht4, htk, hk4, hg4⟩; (with_reducible first | (have hNT := nbxT hg4 (by first | exact hk.drew | assumption) htk) | (have hNT := nbcT (by assumption) hg4 (by assumption) htk) | skip); (try (obtain ⟨hN, hTk⟩ := hNT)); (try (have hNf := NB.facts hN; obtain ⟨x0, x1, x2, x3, x4⟩ := hNf)); (try clear hg4)))
  all_goals
    first
    | (have hX := nx_set hN hTk; have hK := hk4.put2 hN.blk hN.hi (.string ⟨a.toArray⟩) (.slice A m c))
    | (have hX := nx_new hk4 ht4; have hK := hk4.new (.cells #[.string ⟨a.toArray⟩, .slice A m c] 51))
    obtain ⟨xh, xb, xt⟩ := hX
    have q0 := xb.cell 0
    have q1 := xb.cell 1
    have ql := xb.lt
    have r0 := hK.res.cell 0
    have r1 := hK.res.cell 1
    have rf0 := hK.res.frozen 0
    have rf1 := hK.res.frozen 1
    have rl := hK.res.lt
    simp only [List.getElem?_toArray, List.getElem?_cons_zero, List.getElem?_cons_succ] at q0 q1 r0 r1
    have XB := Lib.hid xb
    have XT := Lib.hid xt
    have HK := Lib.hid hK
    clear xb xt hK
    go_wp2_with fail
    refine (ll_call [108, 97, 109] (zN (fresh fr n)) (by simp) (zN_short _ (by have := HF2.out.1; omega)) HK.out (t1 := .mk (zN (fresh fr n)) []) (by unfold TAt; exact ⟨_, rfl, zN_short _ (by have := HF2.out.1; omega), by simp, .inl ⟨rfl, rfl⟩⟩) XT.out _ (by simp)).mono ?_
    rintro e w5 ⟨A', m', c', rfl, ht5, hk5, -⟩
    have s0 := hk5.res.cell 0
    have s1 := hk5.res.cell 1
    have sf0 := hk5.res.frozen 0
    have sf1 := hk5.res.frozen 1
    have sl := hk5.res.lt
    simp only [List.getElem?_toArray, List.getElem?_cons_zero, List.getElem?_cons_succ] at s0 s1
    obtain ⟨hd1, hd2, hd3, hd4⟩ := rs_done hk5 ht5
    have y0 := hd1.cell 0
    have y1 := hd1.cell 1
    simp only [List.getElem?_toArray, List.getElem?_cons_zero, List.getElem?_cons_succ] at y0 y1
    have HD2 := Lib.hid hd2
    have HD3 := Lib.hid hd3
    have HD4 := Lib.hid hd4
    clear hd1 hd2 hd3 hd4 ht5 hk5
    go_wp2_with fail
    refine bodyPost_ret (v := .agg #[.string ⟨#[]⟩, .slice A' m' c']) (by simp [results, Tryz.results91, go_sem, y0, y1]) rfl ?_
    exact ⟨_, _, _, _, rfl, HD2.out, HD3.out, HD4.out⟩
end Go.Proofs.YtjcdclnaplojcaaGreatDoor

namespace Go.Proofs.YtjcdclnaplojcaaGreatDoor
set_option linter.unusedVariables false
open Go.RowKit

section
variable {fr rs ts : List (List UInt8)} {nb base b1 g1 d1 b2 g2 d2 : Nat} {tk : Value} {w0 : World} {P : Nat → Prop} {g cap : Nat} {p0 p1 p2 : Tr} {A0 A1 A2 : Option Addr} {n0 c0 n1 c1 n2 c2 n n' : Nat} {w' w2 : World}
theorem rs_call {t : Tm} (IH : RsSaid t) (hok : t.ok) {v : Value} (ht : TAt w' P (tmTr t) v) (K : RKp fr rs ts nb base b1 g1 d1 b2 g2 d2 tk w0 P g cap p0 p1 p2 A0 A1 A2 n0 c0 n1 c1 n2 c2 n w') (hlen : ts.length = rs.length) (hts : ∀ x ∈ ts, x.length ≤ 8000) (hfr : fr.length ≤ 999) (hsz : rs.length + t.size ≤ 8000) (hnx : n + t.size * 1000 ≤ 900000) :
    Calls Tryz.prog 91 #[v, .slice (some ⟨g1, 0, none⟩) rs.length d1, .slice (some ⟨g2, 0, none⟩) ts.length d2, .pointer (some ⟨nb, 0, none⟩)] w' fun e w'' =>
      ∃ (a : List UInt8) (A : Option Addr) (m c : Nat), e = .returned (.agg #[.string ⟨a.toArray⟩, .slice A m c]) ∧ TAt w'' (fun b => P b ∨ (w0.heap.size + 2 ≤ b ∧ b < w''.heap.size)) (tmTr (renT fr t rs ts n).1) (.agg #[.string ⟨a.toArray⟩, .slice A m c]) ∧
        (∀ k, w0.heap.size + 2 ≤ k → k < w'.heap.size → TAt w'' (fun b => (P b ∨ (w0.heap.size + 2 ≤ b ∧ b < w''.heap.size)) ∧ b ≠ k) (tmTr (renT fr t rs ts n).1) (.agg #[.string ⟨a.toArray⟩, .slice A m c])) ∧
        RKp fr rs ts nb base b1 g1 d1 b2 g2 d2 tk w0 P g cap p0 p1 p2 A0 A1 A2 n0 c0 n1 c1 n2 c2 (renT fr t rs ts n).2 w'' ∧ w'.grownBy w'' (some nb) := by
  refine (IH rs ts fr n nb base b1 g1 d1 b2 g2 d2 tk _ w' P hok ht (fun q hq => ⟨Nat.lt_of_lt_of_le (K.all q hq).1 K.grown.size, (K.all q hq).2⟩) K.nms K.frs K.fro K.too hlen hts hfr hsz hnx).mono ?_
  rintro e w'' ⟨a, A, m, c, rfl, h3, h4, h5⟩
  obtain ⟨A', n', c', e⟩ := h3.shape
  simp only [Value.agg.injEq, Array.mk.injEq, List.cons.injEq] at e
  obtain ⟨rfl, -, -⟩ := e
  have hz := K.res.lt
  refine ⟨_, A, m, c, rfl, h3.mono fun b hb => ⟨hb.imp id (fun h => ⟨by omega, h.2⟩), fun _ => rfl⟩, fun q hq1 hq2 => h3.mono fun b hb => ⟨⟨hb.imp id (fun h => ⟨by omega, h.2⟩), ?_⟩, fun _ => rfl⟩, K.grow h4 h5, h4⟩
  rcases hb with h | h
  · have := (K.all b h).1; omega
  · omega
theorem NX.grow {k : Nat} {t : Tr} {u v : Value} (X : NX P w0 k w' t u v) (K : RKp fr rs ts nb base b1 g1 d1 b2 g2 d2 tk w0 P g cap p0 p1 p2 A0 A1 A2 n0 c0 n1 c1 n2 c2 n w') (hg : w'.grownBy w2 (some nb)) : NX P w0 k w2 t u v := by
  have hnb := K.nbl
  have hh := X.hi
  refine ⟨X.hi, X.blk.grown hg (fun e => by injection e with e; omega), X.tree.mono fun b hb => ⟨hb.imp id (fun h => ⟨h.1, Nat.lt_of_lt_of_le h.2 hg.size⟩), fun o => World.cell?_of_block (w := w') (hg.block b ?_ (fun e => ?_))⟩⟩
  · rcases hb with h | h
    · exact Nat.lt_of_lt_of_le (K.all b h).1 K.grown.size
    · exact h.2
  · injection e with e
    rcases hb with h | h
    · exact (K.all b h).2 e
    · omega
theorem RKp.s7 {k : Nat} {t : Tr} {u v : Value} (h : RKp fr rs ts nb base b1 g1 d1 b2 g2 d2 tk w0 P g cap p0 p1 p2 A0 A1 A2 n0 c0 n1 c1 n2 c2 n w') (X : NX P w0 k w' t u v) :
    w'.cell? ⟨w0.heap.size, 1, none⟩ = some (.slice (some ⟨g, 0, none⟩) 3 cap) ∧ w'.cell? ⟨g, 4, none⟩ = some (.string ⟨p2.atom.toArray⟩) ∧ w'.cell? ⟨g, 5, none⟩ = some (.slice A2 n2 c2) ∧ w'.cell? ⟨k, 0, none⟩ = some u ∧ w'.cell? ⟨k, 1, none⟩ = some v := by
  have h1 := X.blk.cell 0
  have h2 := X.blk.cell 1
  simp only [List.getElem?_toArray, List.getElem?_cons_zero, List.getElem?_cons_succ] at h1 h2
  exact ⟨h.s.1, h.s.2.2.2.1, h.s.2.2.2.2, h1, h2⟩
theorem RKp.s7p {k : Nat} {t : Tr} {u v x y : Value} (h : RKp fr rs ts nb base b1 g1 d1 b2 g2 d2 tk w0 P g cap p0 p1 p2 A0 A1 A2 n0 c0 n1 c1 n2 c2 n w') (X : NX P w0 k w' t u v) :
    ((w'.setCell ⟨w0.heap.size + 1, 0, none⟩ x).setCell ⟨w0.heap.size + 1, 1, none⟩ y).cell? ⟨w0.heap.size, 1, none⟩ = some (.slice (some ⟨g, 0, none⟩) 3 cap) ∧ ((w'.setCell ⟨w0.heap.size + 1, 0, none⟩ x).setCell ⟨w0.heap.size + 1, 1, none⟩ y).cell? ⟨g, 4, none⟩ = some (.string ⟨p2.atom.toArray⟩) ∧
    ((w'.setCell ⟨w0.heap.size + 1, 0, none⟩ x).setCell ⟨w0.heap.size + 1, 1, none⟩ y).cell? ⟨g, 5, none⟩ = some (.slice A2 n2 c2) ∧ ((w'.setCell ⟨w0.heap.size + 1, 0, none⟩ x).setCell ⟨w0.heap.size + 1, 1, none⟩ y).cell? ⟨k, 0, none⟩ = some u ∧ ((w'.setCell ⟨w0.heap.size + 1, 0, none⟩ x).setCell ⟨w0.heap.size + 1, 1, none⟩ y).cell? ⟨k, 1, none⟩ = some v := by
  have hs := h.s7 X
  have hg := (h.all g h.three.pg).1
  have hh := X.hi
  have e : ∀ b i, b ≠ w0.heap.size + 1 → ((w'.setCell ⟨w0.heap.size + 1, 0, none⟩ x).setCell ⟨w0.heap.size + 1, 1, none⟩ y).cell? ⟨b, i, none⟩ = w'.cell? ⟨b, i, none⟩ := by
    intro b i hb
    rw [World.cell?_setCell_other _ _ _ _ (by intro e; injection e with e; omega), World.cell?_setCell_other _ _ _ _ (by intro e; injection e with e; omega)]
  rw [e _ _ (by omega), e _ _ (by omega), e _ _ (by omega), e _ _ (by omega), e _ _ (by omega)]
  exact hs
end

set_option maxRecDepth 100000 in
set_option maxHeartbeats 4000000 in
theorem l1Rename_app (f a : Tm) (ihf : RsSaid f) (iha : RsSaid a) : RsSaid (.app f a) := by
  rintro rs ts fr n nb base b1 g1 d1 b2 g2 d2 tk v w P hok ht hP hn hf h1 h2 hlen hts hfr hsz hnx
  obtain ⟨g, cap, A0, A1, A2, n0, c0, n1, c1, n2, c2, rfl, hcap, h3⟩ := ht.three
  have hle : (renT fr f rs ts n).2 ≤ n + f.size * 1000 := by
    have := renD_next fr hfr (toDB rs f) n
    rw [(renT_renD fr f rs ts n).1]
    rwa [toDB_size] at this
  have HF2 : Hid (n + f.size * 1000 ≤ 900000 ∧ (renT fr f rs ts n).2 + a.size * 1000 ≤ 900000 ∧ rs.length + f.size ≤ 8000 ∧ rs.length + a.size ≤ 8000 ∧ ts.length = rs.length) := Lib.hid (by simp only [Tm.size] at hsz hnx; omega)
  have HP := Lib.hid hP
  have HP1 : Hid (∀ b, P b → b < w.heap.size) := Lib.hid fun b hb => (hP b hb).1
  have IHF := Lib.hid ihf
  have IHA := Lib.hid iha
  have HOK := Lib.hid hok
  have HTS := Lib.hid hts
  have a3 := (h3.alloc HP1.out (.cells #[.string ⟨#[]⟩, .slice (some ⟨g, 0, none⟩) 3 cap] 51)).alloc (fun b hb => by have := HP1.out b hb; simp; omega) (.cells #[.string ⟨#[]⟩, .slice none 0 0] 51)
  have hr2 : Blk ((w.alloc (.cells #[.string ⟨#[]⟩, .slice (some ⟨g, 0, none⟩) 3 cap] 51)).alloc (.cells #[.string ⟨#[]⟩, .slice none 0 0] 51)) (w.heap.size + 1) 51 #[.string ⟨#[]⟩, .slice none 0 0] := by
    have := Blk.new (w.alloc (.cells #[.string ⟨#[]⟩, .slice (some ⟨g, 0, none⟩) 3 cap] 51)) 51 #[.string ⟨#[]⟩, .slice none 0 0]
    simpa using this
  have K0 : Hid (RKp fr rs ts nb base b1 g1 d1 b2 g2 d2 tk w P g cap (.mk sApp []) (tmTr f) (tmTr a) A0 A1 A2 n0 c0 n1 c1 n2 c2 n ((w.alloc (.cells #[.string ⟨#[]⟩, .slice (some ⟨g, 0, none⟩) 3 cap] 51)).alloc (.cells #[.string ⟨#[]⟩, .slice none 0 0] 51))) :=
    Lib.hid ⟨(Blk.new w _ _).alloc _, hr2, a3, hP, (hn.alloc _).alloc _, hn.lt, (hf.alloc _).alloc _, (h1.alloc _).alloc _, (h2.alloc _).alloc _, (World.grownBy_alloc _ _ _).trans (World.grownBy_alloc _ _ _)⟩
  have A3 := Lib.hid a3
  have CR : Hid (∀ w', RKp fr rs ts nb base b1 g1 d1 b2 g2 d2 tk w P g cap (.mk sApp []) (tmTr f) (tmTr a) A0 A1 A2 n0 c0 n1 c1 n2 c2 n w' → _) := Lib.hid (fun w' k => rs_call ihf hok.1 k.three.t1 k hlen hts hfr HF2.out.2.2.1 HF2.out.1)
  have CS : Hid (∀ w', RKp fr rs ts nb base b1 g1 d1 b2 g2 d2 tk w P g cap (.mk sApp []) (tmTr f) (tmTr a) A0 A1 A2 n0 c0 n1 c1 n2 c2 (renT fr f rs ts n).2 w' → _) := Lib.hid (fun w' k => rs_call iha hok.2 k.three.t2 k hlen hts hfr HF2.out.2.2.2.1 HF2.out.2.1)
  clear ihf iha hP ht hok hn hf h1 h2 hlen hts hsz hnx h3 a3 hr2 hle
  go_enter Tryz.func91, Tryz.ntmps91
  go_wp2_with fail
  refine (l1Head3 _ P g cap (.mk sApp []) (tmTr f) (tmTr a) A0 A1 A2 n0 c0 n1 c1 n2 c2 A3.out (fun b hb => by have := HP1.out b hb; simp; omega)).mono ?_
  rintro e w1 ⟨rfl, hb1⟩
  have hk := K0.out.below hb1
  have hl : (sApp == [108, 97, 109]) = false := rfl
  simp only [Tr.atom]
  have hks := hk.s
  have HK := Lib.hid hk
  clear hk
  go_wp2_with fail
  refine (CR.out _ HK.out).mono ?_
  rintro e w2 ⟨u, A, m, c, rfl, ht2, -, hk2, -⟩
  have hX := nx_new hk2 ht2
  have hk3 := hk2.new (.cells #[.string ⟨u.toArray⟩, .slice A m c] 51)
  clear hks hk2 ht2
  have hKd := hk3.drew
  have hXd : NX P w w2.heap.size (w2.alloc (.cells #[.string ⟨u.toArray⟩, .slice A m c] 51)).drew (tmTr (renT fr f rs ts n).1) (.string ⟨u.toArray⟩) (.slice A m c) := hX.grow hk3 (grown_drewN (grown_refl _ (some nb)) 1)
  have CL : Hid (∀ W n' u' A' m' c', RKp fr rs ts nb base b1 g1 d1 b2 g2 d2 tk w P g cap (.mk sApp []) (tmTr f) (tmTr a) A0 A1 A2 n0 c0 n1 c1 n2 c2 n' W → NX P w w2.heap.size W (tmTr (renT fr f rs ts n).1) (.string ⟨u.toArray⟩) (.slice A m c) → TAt W (fun b => P b ∨ (w.heap.size + 2 ≤ b ∧ b < W.heap.size)) (tmTr (renT fr a rs ts (renT fr f rs ts n).2).1) (.agg #[.string ⟨u'⟩, .slice A' m' c']) →
      Calls Tryz.prog 30 #[.string ⟨#[97, 112, 112]⟩, .slice (some ⟨W.heap.size, 0, none⟩) 2 2] (W.alloc (.cells #[.string ⟨u.toArray⟩, .slice A m c, .string ⟨u'⟩, .slice A' m' c'] 51)) fun e w'' =>
        ∃ A' m' c', e = .returned (.agg #[.string ⟨#[]⟩, .slice A' m' c']) ∧ TAt w'' (fun b => P b ∨ (w.heap.size + 2 ≤ b ∧ b < w''.heap.size)) (tmTr (renT fr (.app f a) rs ts n).1) (.agg #[.string ⟨#[]⟩, .slice A' m' c']) ∧
          RKp fr rs ts nb base b1 g1 d1 b2 g2 d2 tk w P g cap (.mk sApp []) (tmTr f) (tmTr a) A0 A1 A2 n0 c0 n1 c1 n2 c2 n' w'' ∧ NX P w w2.heap.size w'' (tmTr (renT fr f rs ts n).1) (.string ⟨u.toArray⟩) (.slice A m c)) := Lib.hid (fun W n' u' A' m' c' K X T => by
    refine (ll_call [97, 112, 112] [] (by simp) (by simp) K X.tree T _ rfl).mono ?_
    rintro e w'' ⟨B, j, d, rfl, h1, h2, h3⟩
    exact ⟨B, j, d, rfl, h1, h2, X.grow K (below_grown h3 _)⟩)
  go_wp2_with fail
  go_region_held3 (fun w' => w'.cell? ⟨w.heap.size, 1, none⟩ = some (.slice (some ⟨g, 0, none⟩) 3 cap) ∧ w'.cell? ⟨g, 4, none⟩ = some (.string ⟨(tmTr a).atom.toArray⟩) ∧ w'.cell? ⟨g, 5, none⟩ = some (.slice A2 n2 c2) ∧ w'.cell? ⟨w2.heap.size, 0, none⟩ = some (.string ⟨u.toArray⟩) ∧ w'.cell? ⟨w2.heap.size, 1, none⟩ = some (.slice A m c))
    (with_reducible first | exact hKd.s7 hXd | exact RKp.s7 (by assumption) (by assumption) | exact RKp.s7 (RKp.new (by assumption) _) (NX.grow (by assumption) (by assumption) (World.grownBy_alloc _ _ _)) | exact RKp.s7p (by assumption) (by assumption))
    (first
      | (go_at_call 91; (with_reducible refine (CS.out _ hKd).mono ?_); rintro e w3 ⟨u', A', m', c', rfl, ht4, -, hk4, hg4⟩; have hX4 := hXd.grow hKd hg4; clear hg4)
      | (go_at_call 30; (with_reducible refine (CL.out _ _ _ _ _ _ hk4 hX4 ht4).mono ?_); rintro e w5 ⟨A5, m5, c5, rfl, ht5, hk5, hX5⟩; have s0 := hk5.res.cell 0; have s1 := hk5.res.cell 1; have sf0 := hk5.res.frozen 0; have sf1 := hk5.res.frozen 1; have sl := hk5.res.lt; simp only [List.getElem?_toArray, List.getElem?_cons_zero, List.getElem?_cons_succ] at s0 s1))
  all_goals
    obtain ⟨hd1, hd2, hd3, hd4⟩ := rs_done hk5 ht5
    have y0 := hd1.cell 0
    have y1 := hd1.cell 1
    simp only [List.getElem?_toArray, List.getElem?_cons_zero, List.getElem?_cons_succ] at y0 y1
    have HD2 := Lib.hid hd2
    have HD3 := Lib.hid hd3
    have HD4 := Lib.hid hd4
    clear hd1 hd2 hd3 hd4 ht5 hk5
    go_wp2_with fail
    refine bodyPost_ret (v := .agg #[.string ⟨#[]⟩, .slice A5 m5 c5]) (by simp [results, Tryz.results91, go_sem, y0, y1]) rfl ?_
    exact ⟨_, _, _, _, rfl, HD2.out, HD3.out, HD4.out⟩

theorem l1Rename_any (t : Tm) : RsSaid t := by
  induction t with
  | var x => exact l1Rename_var x
  | lam x d ih => exact l1Rename_lam x d ih
  | app f a ihf iha => exact l1Rename_app f a ihf iha
end Go.Proofs.YtjcdclnaplojcaaGreatDoor

namespace Go.Proofs.YtjcdclnaplojcaaGreatDoor
set_option linter.unusedVariables false
open Go.RowKit

/-- The text of a term, if there is one. -/
def ctS : Option Tm → List UInt8
  | some t => wrTm t
  | none => []
def canO (t : Tm) : Option Tm := if t.atoms ≤ 400 then some (canT t) else none
def CtPost (o : Option Tm) (w : World) (e : Ending) (w' : World) : Prop :=
  e = .returned (.tuple #[.string ⟨(ctS o).toArray⟩, .bool o.isSome]) ∧ Below w.heap.size w w'

def cnO (o : Option Tm) : Option Tm := o.map canT
end Go.Proofs.YtjcdclnaplojcaaGreatDoor

namespace Go.Proofs.YtjcdclnaplojcaaGreatDoor
set_option linter.unusedVariables false
open Go.RowKit

theorem ba_list (a b : ByteArray) : (a ++ b).data.toList = a.data.toList ++ b.data.toList := by rw [ByteArray.data_append, Array.toList_append]
theorem ba_eq (a : ByteArray) (l : List UInt8) (h : a.data.toList = l) : a = ⟨l.toArray⟩ := by
  obtain ⟨⟨m⟩⟩ := a
  simp at h
  rw [h]
theorem ba_size (a : ByteArray) : a.size = a.data.toList.length := by rw [Array.length_toList]; rfl

set_option maxRecDepth 100000 in
theorem l1Text_any : ∀ (t : Tr) (v : Value) (w : World) (P : Nat → Prop), TAt w P t v → (∀ b, P b → b < w.heap.size) → (wrTr t).length ≤ 1000000 →
    Calls Tryz.prog 33 #[v] w fun e w' => e = .returned (.string ⟨(wrTr t).toArray⟩) ∧ Below w.heap.size w w' := by
  intro t
  refine Tr.all (p := fun t => ∀ (v : Value) (w : World) (P : Nat → Prop), TAt w P t v → (∀ b, P b → b < w.heap.size) → (wrTr t).length ≤ 1000000 →
    Calls Tryz.prog 33 #[v] w fun e w' => e = .returned (.string ⟨(wrTr t).toArray⟩) ∧ Below w.heap.size w w') ?_ t
  intro a ps ih v w P ht hP hat
  obtain ⟨vp, rfl, hle, hle2, hv⟩ := ht.form
  by_cases ha : a = []
  · subst ha
    have hsum : wrTr (.mk [] ps) = 40 :: (wrSp ps).drop 1 ++ [41] := by simp [wrTr]
    rw [hsum] at hat
    simp at hat
    have HS := Lib.hid hsum
    clear hsum
    rcases hv with ⟨rfl, rfl⟩ | ⟨hne, g, cap, xs, rfl, hcap, hPg, hc, hvs⟩
    · clear ih
      go_enter Tryz.func33, Tryz.ntmps33
      go_wp2
      refine wp_loop_rounds 1 ?_; rw [rounds_succ]
      go_wp2
      go_ret
      exact ⟨by rw [HS.out]; rfl, by go_grown⟩
    · have IH := Lib.hid ih
      have HP := Lib.hid hP
      have HC := Lib.hid hc
      have HV := Lib.hid hvs
      have hg := hP g hPg
      clear ih hP hc hvs ht
      go_enter Tryz.func33, Tryz.ntmps33
      go_wp2
      go_loopw [3, 4] (fun n i wr => ∃ (k : Nat) (so : ByteArray), k ≤ ps.length ∧ i = .int .i64 k ∧ n = .string so ∧ so.data.toList = 40 :: (wrSp (ps.take k)).drop 1 ∧ Below w.heap.size w wr ∧ Blk wr w.heap.size 51 #[.string ⟨#[]⟩, .slice (some ⟨g, 0, none⟩) ps.length cap]) (fun _ i _ => ps.length - (intOf i).toNat)
      case atStart => exact ⟨0, ⟨#[40]⟩, by omega, rfl, rfl, rfl, by go_grown, Blk.new _ _ _⟩
      case round =>
        obtain ⟨k, so, hk, rfl, rfl, hso, hbw, hblk⟩ := hrel
        have r1 := hblk.cell 1
        have hlt := hblk.lt
        simp at r1
        have hsz := ba_size so
        have hb0 := wrSp_take_le ps k
        rw [hso] at hsz
        simp at hsz
        have hsl : so.size ≤ 1000000 := by omega
        have HSO := Lib.hid hso
        have HSZ := Lib.hid hsz
        clear hso hsz
        by_cases hkl : k < ps.length
        · obtain ⟨x, y, hx, hy, hxy⟩ := HV.out.at_ k ps[k] (by simp [hkl])
          rw [Nat.mul_comm] at hx hy
          obtain ⟨A, n, c, e⟩ := hxy.shape
          simp at e
          obtain ⟨rfl, rfl⟩ := e
          have q0 := (hbw.cell (p := ⟨g, k * 2, none⟩) hg).trans (HC.out _ _ hx)
          have q1 := (hbw.cell (p := ⟨g, k * 2 + 1, none⟩) hg).trans (HC.out _ _ hy)
          have htk := wrSp_take ps k ps[k] (by simp [hkl])
          have hb1 := wrSp_take_le ps (k + 1)
          rw [htk] at hb1
          simp at hb1
          have hsx : (wrTr ps[k]).length ≤ 1000000 := by omega
          have HTK := Lib.hid htk
          have HXY := Lib.hid (hxy.below hbw HP.out)
          clear htk hxy
          by_cases hk0 : ¬ 0 < k
          · go_wp2_with fail
            refine (IH.out ps[k] (List.getElem_mem _) _ _ P HXY.out (fun b hb => by have := HP.out b hb; omega) hsx).mono ?_
            rintro e w1 ⟨rfl, hb1'⟩
            have hblk1 := hblk.below hb1' hblk.lt
            have hB := hbw.trans (hb1'.mono (by omega))
            go_wp2_with fail
            go_roundw
            case rel =>
              refine ⟨k + 1, _, by omega, by go_num, rfl, ?_, hB, hblk1⟩
              have hkz : k = 0 := by omega
              have hz : wrSp (ps.take k) = [] := by rw [hkz]; rfl
              rw [ba_list, HSO.out, HTK.out, hz]
              simp
            case measure => simp [intOf]; omega
          · go_wp2_with fail
            refine (IH.out ps[k] (List.getElem_mem _) _ _ P HXY.out (fun b hb => by have := HP.out b hb; omega) hsx).mono ?_
            rintro e w1 ⟨rfl, hb1'⟩
            have hblk1 := hblk.below hb1' hblk.lt
            have hB := hbw.trans (hb1'.mono (by omega))
            go_wp2_with fail
            go_roundw
            case rel =>
              refine ⟨k + 1, _, by omega, by go_num, rfl, ?_, hB, hblk1⟩
              have hpos := wrSp_one ps k (by omega) (by omega)
              rw [ba_list, ba_list, HSO.out, HTK.out, List.drop_append_of_le_length (by omega)]
              simp
            case measure => simp [intOf]; omega
        · have hfin : wrSp (ps.take k) = wrSp ps := by rw [List.take_of_length_le (by omega)]
          have HF := Lib.hid hfin
          clear hfin
          go_wp2
          go_ret
          refine ⟨?_, hbw⟩
          rw [HS.out, ← HF.out]
          refine congrArg (fun s => Ending.returned (.string s)) (ba_eq _ _ ?_)
          rw [ba_list, HSO.out]
  · have hae : (!a.isEmpty) = true := by cases a with
      | nil => exact absurd rfl ha
      | cons => rfl
    have hone : wrTr (.mk a ps) = a := by simp [wrTr, ha]
    have HX := Lib.hid hone
    clear ih hv ht hone
    go_enter Tryz.func33, Tryz.ntmps33
    go_wp2
    go_ret
    exact ⟨by rw [HX.out]; rfl, by go_grown⟩
end Go.Proofs.YtjcdclnaplojcaaGreatDoor

namespace Go.Proofs.YtjcdclnaplojcaaGreatDoor
set_option linter.unusedVariables false
open Go.RowKit

def ApPost (P : Nat → Prop) (r : Tr) (w : World) (e : Ending) (w' : World) : Prop :=
  ∃ a A m c, e = .returned (.agg #[a, .slice A m c]) ∧ TNew P w.heap.size w' r (.agg #[a, .slice A m c]) ∧ Below w.heap.size w w'

theorem apart_call (t : Tm) (hok : t.ok) (hat : t.atoms ≤ 400) (fr : List (List UInt8)) (hfr : fr.length ≤ 999) (base : Nat) (fv v : Value) (W : World) (P : Nat → Prop) (ht : TAt W P (tmTr t) v) (hP : ∀ b, P b → b < W.heap.size) (hf : SRow W base fv fr) :
    Calls Tryz.prog 91 #[v, .slice (some ⟨W.heap.size, 0, none⟩) 0 0, .slice (some ⟨W.heap.size + 1, 0, none⟩) 0 0, .pointer (some ⟨W.heap.size + 1 + 1, 0, none⟩)] (((W.alloc (.cells #[] 9)).alloc (.cells #[] 9)).alloc (.cells #[fv, .int .i64 0] 157))
      fun e w' => ∃ (a : List UInt8) (A : Option Addr) (m c : Nat), e = .returned (.agg #[.string ⟨a.toArray⟩, .slice A m c]) ∧ TNew P W.heap.size w' (tmTr (renT fr t [] [] 0).1) (.agg #[.string ⟨a.toArray⟩, .slice A m c]) ∧ Below W.heap.size W w' := by
  have hsz := size_atoms t
  have r1 : SRow (((W.alloc (.cells #[] 9)).alloc (.cells #[] 9)).alloc (.cells #[fv, .int .i64 0] 157)) 0 (.slice (some ⟨W.heap.size, 0, none⟩) 0 0) [] :=
    ((World.ownsRow_made (base := 0) (e := 9) (size := 1) W #[] 0 (Nat.zero_le _) (Nat.zero_le _) rfl).alloc _).alloc _
  have r2 : SRow (((W.alloc (.cells #[] 9)).alloc (.cells #[] 9)).alloc (.cells #[fv, .int .i64 0] 157)) 0 (.slice (some ⟨W.heap.size + 1, 0, none⟩) 0 0) [] := by
    have h := (World.ownsRow_made (base := 0) (e := 9) (size := 1) (W.alloc (.cells #[] 9)) #[] 0 (Nat.zero_le _) (Nat.zero_le _) rfl).alloc (.cells #[fv, .int .i64 0] 157)
    have e : (W.alloc (.cells #[] 9)).heap.size = W.heap.size + 1 := by simp
    rw [e] at h
    exact h
  have hn : Nms (((W.alloc (.cells #[] 9)).alloc (.cells #[] 9)).alloc (.cells #[fv, .int .i64 0] 157)) (W.heap.size + 1 + 1) fv 0 := by
    have h := Blk.new ((W.alloc (.cells #[] 9)).alloc (.cells #[] 9)) 157 #[fv, .int .i64 0]
    have e : ((W.alloc (.cells #[] 9)).alloc (.cells #[] 9)).heap.size = W.heap.size + 1 + 1 := by simp
    rw [e] at h
    exact h
  have ht3 := ((ht.alloc hP (.cells #[] 9)).alloc (fun b hb => by have := hP b hb; simp; omega) (.cells #[] 9)).alloc (fun b hb => by have := hP b hb; simp; omega) (.cells #[fv, .int .i64 0] 157)
  have hz3 : (((W.alloc (.cells #[] 9)).alloc (.cells #[] 9)).alloc (.cells #[fv, .int .i64 0] 157)).heap.size = W.heap.size + 3 := by simp
  have hB : Below W.heap.size W (((W.alloc (.cells #[] 9)).alloc (.cells #[] 9)).alloc (.cells #[fv, .int .i64 0] 157)) := (((Below.refl _ _).alloc (Nat.le_refl _) _).alloc (by simp) _).alloc (by simp; omega) _
  refine (l1Rename_any t [] [] fr 0 (W.heap.size + 1 + 1) base 0 W.heap.size 0 0 (W.heap.size + 1) 0 fv v _ P hok ht3 (fun b hb => by have := hP b hb; exact ⟨by omega, by omega⟩) hn (((hf.alloc _).alloc _).alloc _) r1 r2 rfl (by simp) hfr (by simp; omega) (by omega)).mono ?_
  rintro e w' ⟨a, A, m, c, rfl, h1, h2, h3⟩
  obtain ⟨A', n', c', e⟩ := h1.shape
  simp only [Value.agg.injEq, Array.mk.injEq, List.cons.injEq] at e
  obtain ⟨rfl, -, -⟩ := e
  exact ⟨_, A, m, c, rfl, h1.mono fun b hb => ⟨hb.imp id (fun h => ⟨by omega, h.2⟩), fun _ => rfl⟩, hB.grown h2 (by omega) (fun k e => by injection e with e; omega)⟩

set_option maxRecDepth 100000 in
theorem l1Apart_none (t : Tm) (hok : t.ok) (hat : t.atoms ≤ 400) (v : Value) (w : World) (P : Nat → Prop) (ht : TAt w P (tmTr t) v) (hP : ∀ b, P b → b < w.heap.size) :
    Calls Tryz.prog 54 #[v, .slice none 0 0] w (ApPost P (tmTr (canT t)) w) := by
  obtain ⟨A, m, c, rfl⟩ := ht.shape
  have HT := Lib.hid ht
  have HP := Lib.hid hP
  have HK := Lib.hid hok
  have HAT := Lib.hid hat
  clear ht hP hok hat
  go_enter Tryz.func54, Tryz.ntmps54
  go_wp2_with fail
  have hbx : Blk ((w.alloc (.cells #[.string ⟨(tmTr t).atom.toArray⟩, .slice A m c] 51)).alloc (.cells #[.string ⟨#[]⟩, .slice none 0 0] 51)) w.heap.size 51 #[.string ⟨(tmTr t).atom.toArray⟩, .slice A m c] := (Blk.new w _ _).alloc _
  have hrs : Blk ((w.alloc (.cells #[.string ⟨(tmTr t).atom.toArray⟩, .slice A m c] 51)).alloc (.cells #[.string ⟨#[]⟩, .slice none 0 0] 51)) (w.heap.size + 1) 51 #[.string ⟨#[]⟩, .slice none 0 0] := by
    have := Blk.new (w.alloc (.cells #[.string ⟨(tmTr t).atom.toArray⟩, .slice A m c] 51)) 51 #[.string ⟨#[]⟩, .slice none 0 0]
    simpa using this
  have ht1 := (HT.out.alloc HP.out (.cells #[.string ⟨(tmTr t).atom.toArray⟩, .slice A m c] 51)).alloc (fun q hq => by have := HP.out q hq; simp; omega) (.cells #[.string ⟨#[]⟩, .slice none 0 0] 51)
  have hB1 : Below w.heap.size w ((w.alloc (.cells #[.string ⟨(tmTr t).atom.toArray⟩, .slice A m c] 51)).alloc (.cells #[.string ⟨#[]⟩, .slice none 0 0] 51)) := ((Below.refl _ _).alloc (Nat.le_refl _) _).alloc (by simp) _
  have hsz : ((w.alloc (.cells #[.string ⟨(tmTr t).atom.toArray⟩, .slice A m c] 51)).alloc (.cells #[.string ⟨#[]⟩, .slice none 0 0] 51)).heap.size = w.heap.size + 2 := by simp
  generalize (w.alloc (.cells #[.string ⟨(tmTr t).atom.toArray⟩, .slice A m c] 51)).alloc (.cells #[.string ⟨#[]⟩, .slice none 0 0] 51) = W at hbx hrs ht1 hB1 hsz ⊢
  have r1 : SRow ((W.alloc (.cells #[] 9)).alloc (.cells #[] 9)) (w.heap.size + 2) (.slice (some ⟨w.heap.size + 1 + 1, 0, none⟩) 0 0) [] := by
    have h := World.ownsRow_made (base := w.heap.size + 2) (e := 9) (size := 1) W #[] 0 (by omega) (Nat.zero_le _) rfl
    have h2 := h.alloc (.cells #[] 9)
    rw [hsz] at h2
    exact h2
  have r2 : SRow ((W.alloc (.cells #[] 9)).alloc (.cells #[] 9)) (w.heap.size + 3) (.slice (some ⟨w.heap.size + 1 + 1 + 1, 0, none⟩) 0 0) [] := by
    have h := World.ownsRow_made (base := w.heap.size + 3) (e := 9) (size := 1) (W.alloc (.cells #[] 9)) #[] 0 (by simp; omega) (Nat.zero_le _) rfl
    have e : (W.alloc (.cells #[] 9)).heap.size = w.heap.size + 1 + 1 + 1 := by simp; omega
    rw [e] at h
    exact h
  have ht2 := (ht1.alloc (fun q hq => by have := HP.out q hq; omega) (.cells #[] 9)).alloc (fun q hq => by have := HP.out q hq; simp; omega) (.cells #[] 9)
  have hat := HAT.out
  refine (l1Free_any t [] [] (w.heap.size + 2) (w.heap.size + 1 + 1) 0 (w.heap.size + 3) _ _ _ P HK.out ht2 (fun q hq => ⟨by have := HP.out q hq; simp; omega, by intro e; simp [Value.ownBlock] at e; have := HP.out q hq; omega⟩) r1 (by simp [Value.ownBlock]) r2 (by simp; omega) (by simp; omega) (by simp; omega)).mono ?_
  rintro e w2 ⟨v2, rfl, gg1, gg2, -⟩
  have hb2 : Below (w.heap.size + 2) W w2 := (((Below.refl (w.heap.size + 2) W).alloc (by omega) _).alloc (by simp; omega) _).grown gg2 (by simp; omega) (fun k e => by simp [Value.ownBlock] at e; omega)
  have hbx2 := hbx.below hb2 (by omega)
  have hrs2 := hrs.below hb2 (by omega)
  have hB2 : Below w.heap.size w w2 := hB1.trans (hb2.mono (by omega))
  have ht3 := ht1.below hb2 (fun q hq => by have := HP.out q hq; omega)
  have hz2 := hb2.size
  obtain ⟨AF, cF, rfl⟩ := own_shape gg1
  have b0 := hbx2.cell 0
  have b1 := hbx2.cell 1
  simp only [List.getElem?_toArray, List.getElem?_cons_zero, List.getElem?_cons_succ] at b0 b1
  have HBX := Lib.hid hbx2
  have HRS := Lib.hid hrs2
  have HB := Lib.hid hB2
  have HT3 := Lib.hid ht3
  have HF := Lib.hid gg1
  have hz2' : w.heap.size + 2 ≤ w2.heap.size := by omega
  clear hbx hrs ht1 hB1 r1 r2 ht2 hat gg1 gg2 hb2 hbx2 hrs2 hB2 ht3 hz2 hsz
  go_wp2_with fail
  go_loopg [5, 6] 0 (fun q v5 v6 wr => q = 0 ∧ v5 = .slice AF (freeS [] t []).length cF ∧ v6 = .int .i64 0 ∧ wr = w2)
  case atStart => exact ⟨rfl, rfl, rfl, rfl⟩
  case round =>
    obtain ⟨-, rfl, rfl, rfl⟩ := hrel
    go_wp2_with fail
    have hfl : (freeS [] t []).length ≤ 999 := by
      have h0 := freeS_length t [] []
      have := HAT.out
      simp at h0
      omega
    refine (apart_call t HK.out HAT.out (freeS [] t []) hfl _ _ _ wr P HT3.out (fun q hq => by have := HP.out q hq; omega) HF.out).mono ?_
    rintro e w3 ⟨u, A', m', c', rfl, h1, h2⟩
    have hz3 := h2.size
    have hrs3 := HRS.out.below h2 (by omega)
    have s0 := hrs3.cell 0
    have s1 := hrs3.cell 1
    have sf0 := hrs3.frozen 0
    have sf1 := hrs3.frozen 1
    have sl := hrs3.lt
    simp only [List.getElem?_toArray, List.getElem?_cons_zero, List.getElem?_cons_succ] at s0 s1
    have hW : Blk ((w3.setCell ⟨w.heap.size + 1, 0, none⟩ (.string ⟨u.toArray⟩)).setCell ⟨w.heap.size + 1, 1, none⟩ (.slice A' m' c')) (w.heap.size + 1) 51 #[.string ⟨u.toArray⟩, .slice A' m' c'] := res_set hrs3 _ _
    have y0 := hW.cell 0
    have y1 := hW.cell 1
    simp only [List.getElem?_toArray, List.getElem?_cons_zero, List.getElem?_cons_succ] at y0 y1
    have HT5 : Hid (TNew P w.heap.size ((w3.setCell ⟨w.heap.size + 1, 0, none⟩ (.string ⟨u.toArray⟩)).setCell ⟨w.heap.size + 1, 1, none⟩ (.slice A' m' c')) (tmTr (canT t)) (.agg #[.string ⟨u.toArray⟩, .slice A' m' c'])) := Lib.hid (by
      refine h1.mono fun b hb => ⟨hb.imp id (fun h => ⟨by omega, by simpa [World.setCell] using h.2⟩), fun o => ?_⟩
      have hne : b ≠ w.heap.size + 1 := by
        rcases hb with h | h
        · have := HP.out b h; omega
        · omega
      rw [World.cell?_setCell_other _ _ _ _ (by intro e; injection e with e; omega), World.cell?_setCell_other _ _ _ _ (by intro e; injection e with e; omega)])
    have HB5 : Hid (Below w.heap.size w ((w3.setCell ⟨w.heap.size + 1, 0, none⟩ (.string ⟨u.toArray⟩)).setCell ⟨w.heap.size + 1, 1, none⟩ (.slice A' m' c'))) := Lib.hid (((HB.out.trans (h2.mono (by omega))).setCell (p := ⟨w.heap.size + 1, 0, none⟩) (by simp) _).setCell (p := ⟨w.heap.size + 1, 1, none⟩) (by simp) _)
    clear hrs3 hW h1 h2
    go_wp2_with fail
    refine bodyPost_ret (v := .agg #[.string ⟨u.toArray⟩, .slice A' m' c']) (by simp [results, Tryz.results54, go_sem, y0, y1]) rfl ?_
    exact ⟨_, _, _, _, rfl, HT5.out, HB5.out⟩

theorem specTermCanon_any (s : ByteArray) (w : World) (hm : s.size ≤ maxLen) :
    Calls Tryz.prog 25 #[.string s] w (CtPost (cnO (rdTerm s.data.toList)) w) := by
  go_enter Tryz.func25, Tryz.ntmps25
  go_wp2_with fail
  refine (l1Term_any s _ hm).mono ?_
  rintro e w1 ⟨hb1, ⟨t, v, hrd, rfl, htr⟩ | ⟨hrd, b, A, n, c, rfl⟩⟩
  · obtain ⟨A, n, c, rfl⟩ := htr.shape
    obtain ⟨hok, hat⟩ := rdTerm_good _ _ hrd
    have HR := Lib.hid hrd
    have HAT := Lib.hid hat
    have HT := Lib.hid htr
    have HK := Lib.hid hok
    have HB := Lib.hid hb1
    have hz := hb1.size
    clear hrd htr hok hat hb1
    go_wp2_with fail
    refine (l1Apart_none t HK.out HAT.out _ _ (fun b => w.heap.size ≤ b ∧ b < w1.heap.size) (HT.out.alloc (fun q hq => hq.2) _) (fun b hb => by have := hb.2; simp; omega)).mono ?_
    rintro e w2 ⟨u, A', m', c', rfl, h1, h2⟩
    obtain ⟨A'', n'', c'', e⟩ := h1.shape
    simp only [Value.agg.injEq, Array.mk.injEq, List.cons.injEq] at e
    obtain ⟨rfl, -, -⟩ := e
    have HT2 := Lib.hid h1
    have HB2 := Lib.hid ((HB.out.alloc hz _).trans (h2.mono (by simp; omega)))
    have hz2 := h2.size
    simp at hz2
    clear h1 h2
    go_wp2_with fail
    have htx := l1Text_any (tmTr (canT t)) _ w2 _ HT2.out (fun b hb => by
      rcases hb with hb | hb
      · have := hb.2; omega
      · exact hb.2) (by rw [wrTr_tm _ (canT_ok t HK.out HAT.out)]; have := wrTm_short (canT t) (canT_ok t HK.out HAT.out); have := canT_atoms t; have := HAT.out; omega)
    rw [wrTr_tm _ (canT_ok t HK.out HAT.out)] at htx
    refine htx.mono ?_
    rintro e w3 ⟨rfl, hb3⟩
    have HB3 := Lib.hid (HB2.out.trans (hb3.mono (by have := HB2.out.size; omega)))
    clear htx hb3
    go_wp2_with fail
    go_ret2
    exact ⟨by rw [HR.out]; rfl, HB3.out⟩
  · have HR := Lib.hid hrd
    have hz := hb1.size
    clear hrd
    go_wp2
    go_ret2
    exact ⟨by rw [HR.out]; rfl, hb1.alloc hz _⟩
end Go.Proofs.YtjcdclnaplojcaaGreatDoor

namespace Go.Proofs.YtjcdclnaplojcaaGreatDoor
set_option linter.unusedVariables false
open Go.RowKit

def PsPost (P : Nat → Prop) (r : Tr) (w : World) (e : Ending) (w' : World) : Prop :=
  ∃ (a : List UInt8) (A : Option Addr) (m c : Nat), e = .returned (.agg #[.string ⟨a.toArray⟩, .slice A m c]) ∧ TNew P w.heap.size w' r (.agg #[.string ⟨a.toArray⟩, .slice A m c]) ∧ Below w.heap.size w w'
def PsSaid (t : Tm) : Prop := ∀ (x : List UInt8) (c : Tm) (v vc : Value) (w : World) (P : Nat → Prop), t.ok → TAt w P (tmTr t) v → TAt w P (tmTr c) vc → (∀ b, P b → b < w.heap.size) →
  Calls Tryz.prog 142 #[v, .string ⟨x.toArray⟩, vc] w (PsPost P (tmTr (putT x c t)) w)

/-- What is kept while a term is put into the parts of another one. -/
structure PKp (w0 : World) (P : Nat → Prop) (g cap : Nat) (c : Tm) (p0 p1 p2 : Tr) (A0 A1 A2 : Option Addr) (n0 c0 n1 c1 n2 c2 : Nat) (ub : List UInt8) (Ab : Option Addr) (mb nb : Nat) (w' : World) : Prop where
  box : Blk w' w0.heap.size 51 #[.string ⟨#[]⟩, .slice (some ⟨g, 0, none⟩) 3 cap]
  byb : Blk w' (w0.heap.size + 1) 51 #[.string ⟨ub.toArray⟩, .slice Ab mb nb]
  res : Blk w' (w0.heap.size + 2) 51 #[.string ⟨#[]⟩, .slice none 0 0]
  three : Three w' P g p0 p1 p2 A0 A1 A2 n0 c0 n1 c1 n2 c2
  byT : TAt w' P (tmTr c) (.agg #[.string ⟨ub.toArray⟩, .slice Ab mb nb])
  all : ∀ q, P q → q < w0.heap.size
  grown : Below w0.heap.size w0 w'
section
variable {w0 : World} {P : Nat → Prop} {g cap : Nat} {c : Tm} {p0 p1 p2 : Tr} {A0 A1 A2 : Option Addr} {n0 c0 n1 c1 n2 c2 : Nat} {ub : List UInt8} {Ab : Option Addr} {mb nb : Nat} {w' w2 : World}
theorem PKp.start {w : World} {p0 p1 p2 : Tr} (h3 : Three w P g p0 p1 p2 A0 A1 A2 n0 c0 n1 c1 n2 c2) (hc : TAt w P (tmTr c) (.agg #[.string ⟨ub.toArray⟩, .slice Ab mb nb])) (hP : ∀ q, P q → q < w.heap.size) :
    PKp w P g cap c p0 p1 p2 A0 A1 A2 n0 c0 n1 c1 n2 c2 ub Ab mb nb (((w.alloc (.cells #[.string ⟨#[]⟩, .slice (some ⟨g, 0, none⟩) 3 cap] 51)).alloc (.cells #[.string ⟨ub.toArray⟩, .slice Ab mb nb] 51)).alloc (.cells #[.string ⟨#[]⟩, .slice none 0 0] 51)) := by
  have hB : Below w.heap.size w (((w.alloc (.cells #[.string ⟨#[]⟩, .slice (some ⟨g, 0, none⟩) 3 cap] 51)).alloc (.cells #[.string ⟨ub.toArray⟩, .slice Ab mb nb] 51)).alloc (.cells #[.string ⟨#[]⟩, .slice none 0 0] 51)) := (((Below.refl _ _).alloc (Nat.le_refl _) _).alloc (by simp) _).alloc (by simp; omega) _
  refine ⟨((Blk.new w _ _).alloc _).alloc _, ?_, ?_, h3.below hB hP, hc.below hB hP, hP, hB⟩
  · have := (Blk.new (w.alloc (.cells #[.string ⟨#[]⟩, .slice (some ⟨g, 0, none⟩) 3 cap] 51)) 51 #[.string ⟨ub.toArray⟩, .slice Ab mb nb]).alloc (.cells #[.string ⟨#[]⟩, .slice none 0 0] 51)
    simpa using this
  · have := Blk.new ((w.alloc (.cells #[.string ⟨#[]⟩, .slice (some ⟨g, 0, none⟩) 3 cap] 51)).alloc (.cells #[.string ⟨ub.toArray⟩, .slice Ab mb nb] 51)) 51 #[.string ⟨#[]⟩, .slice none 0 0]
    simpa using this
theorem PKp.below (h : PKp w0 P g cap c p0 p1 p2 A0 A1 A2 n0 c0 n1 c1 n2 c2 ub Ab mb nb w') (hb : Below w'.heap.size w' w2) : PKp w0 P g cap c p0 p1 p2 A0 A1 A2 n0 c0 n1 c1 n2 c2 ub Ab mb nb w2 :=
  have hz := h.grown.size
  ⟨h.box.below hb h.box.lt, h.byb.below hb h.byb.lt, h.res.below hb h.res.lt, h.three.below hb (fun q hq => Nat.lt_of_lt_of_le (h.all q hq) hz), h.byT.below hb (fun q hq => Nat.lt_of_lt_of_le (h.all q hq) hz), h.all, h.grown.trans (hb.mono hz)⟩
theorem PKp.drew (h : PKp w0 P g cap c p0 p1 p2 A0 A1 A2 n0 c0 n1 c1 n2 c2 ub Ab mb nb w') : PKp w0 P g cap c p0 p1 p2 A0 A1 A2 n0 c0 n1 c1 n2 c2 ub Ab mb nb w'.drew := h.below (Below.refl _ _).drew
theorem PKp.new (h : PKp w0 P g cap c p0 p1 p2 A0 A1 A2 n0 c0 n1 c1 n2 c2 ub Ab mb nb w') (o : Obj) : PKp w0 P g cap c p0 p1 p2 A0 A1 A2 n0 c0 n1 c1 n2 c2 ub Ab mb nb (w'.alloc o) := h.below ((Below.refl _ _).alloc (Nat.le_refl _) _)
theorem PKp.s (h : PKp w0 P g cap c p0 p1 p2 A0 A1 A2 n0 c0 n1 c1 n2 c2 ub Ab mb nb w') :
    w'.cell? ⟨w0.heap.size, 1, none⟩ = some (.slice (some ⟨g, 0, none⟩) 3 cap) ∧ w'.cell? ⟨g, 2, none⟩ = some (.string ⟨p1.atom.toArray⟩) ∧ w'.cell? ⟨g, 3, none⟩ = some (.slice A1 n1 c1) ∧
    w'.cell? ⟨g, 4, none⟩ = some (.string ⟨p2.atom.toArray⟩) ∧ w'.cell? ⟨g, 5, none⟩ = some (.slice A2 n2 c2) ∧ w'.cell? ⟨w0.heap.size + 1, 0, none⟩ = some (.string ⟨ub.toArray⟩) ∧ w'.cell? ⟨w0.heap.size + 1, 1, none⟩ = some (.slice Ab mb nb) := by
  have h1 := h.box.cell 1
  have h2 := h.byb.cell 0
  have h3 := h.byb.cell 1
  simp at h1 h2 h3
  exact ⟨h1, h.three.k2, h.three.k3, h.three.k4, h.three.k5, h2, h3⟩
theorem PKp.sl {y : List UInt8} (h : PKp w0 P g cap c p0 (.mk y []) p2 A0 A1 A2 n0 c0 n1 c1 n2 c2 ub Ab mb nb w') :
    w'.cell? ⟨w0.heap.size, 1, none⟩ = some (.slice (some ⟨g, 0, none⟩) 3 cap) ∧ w'.cell? ⟨g, 2, none⟩ = some (.string ⟨y.toArray⟩) ∧ w'.cell? ⟨g, 3, none⟩ = some (.slice A1 n1 c1) ∧
    w'.cell? ⟨g, 4, none⟩ = some (.string ⟨p2.atom.toArray⟩) ∧ w'.cell? ⟨g, 5, none⟩ = some (.slice A2 n2 c2) ∧ w'.cell? ⟨w0.heap.size + 1, 0, none⟩ = some (.string ⟨ub.toArray⟩) ∧ w'.cell? ⟨w0.heap.size + 1, 1, none⟩ = some (.slice Ab mb nb) := h.s
theorem PKp.sput (h : PKp w0 P g cap c p0 p1 p2 A0 A1 A2 n0 c0 n1 c1 n2 c2 ub Ab mb nb w') {u v : Value} :
    ((w'.setCell ⟨w0.heap.size + 2, 0, none⟩ u).setCell ⟨w0.heap.size + 2, 1, none⟩ v).cell? ⟨w0.heap.size, 1, none⟩ = some (.slice (some ⟨g, 0, none⟩) 3 cap) ∧ ((w'.setCell ⟨w0.heap.size + 2, 0, none⟩ u).setCell ⟨w0.heap.size + 2, 1, none⟩ v).cell? ⟨g, 2, none⟩ = some (.string ⟨p1.atom.toArray⟩) ∧ ((w'.setCell ⟨w0.heap.size + 2, 0, none⟩ u).setCell ⟨w0.heap.size + 2, 1, none⟩ v).cell? ⟨g, 3, none⟩ = some (.slice A1 n1 c1) ∧
    ((w'.setCell ⟨w0.heap.size + 2, 0, none⟩ u).setCell ⟨w0.heap.size + 2, 1, none⟩ v).cell? ⟨g, 4, none⟩ = some (.string ⟨p2.atom.toArray⟩) ∧ ((w'.setCell ⟨w0.heap.size + 2, 0, none⟩ u).setCell ⟨w0.heap.size + 2, 1, none⟩ v).cell? ⟨g, 5, none⟩ = some (.slice A2 n2 c2) ∧ ((w'.setCell ⟨w0.heap.size + 2, 0, none⟩ u).setCell ⟨w0.heap.size + 2, 1, none⟩ v).cell? ⟨w0.heap.size + 1, 0, none⟩ = some (.string ⟨ub.toArray⟩) ∧ ((w'.setCell ⟨w0.heap.size + 2, 0, none⟩ u).setCell ⟨w0.heap.size + 2, 1, none⟩ v).cell? ⟨w0.heap.size + 1, 1, none⟩ = some (.slice Ab mb nb) := by
  have hs := h.s
  have hg := h.all g h.three.pg
  have e : ∀ b i, b ≠ w0.heap.size + 2 → ((w'.setCell ⟨w0.heap.size + 2, 0, none⟩ u).setCell ⟨w0.heap.size + 2, 1, none⟩ v).cell? ⟨b, i, none⟩ = w'.cell? ⟨b, i, none⟩ := by
    intro b i hb
    rw [World.cell?_setCell_other _ _ _ _ (by intro e; injection e with e; omega), World.cell?_setCell_other _ _ _ _ (by intro e; injection e with e; omega)]
  rw [e _ _ (by omega), e _ _ (by omega), e _ _ (by omega), e _ _ (by omega), e _ _ (by omega), e _ _ (by omega), e _ _ (by omega)]
  exact hs
theorem PKp.sputl {y : List UInt8} (h : PKp w0 P g cap c p0 (.mk y []) p2 A0 A1 A2 n0 c0 n1 c1 n2 c2 ub Ab mb nb w') {u v : Value} :
    ((w'.setCell ⟨w0.heap.size + 2, 0, none⟩ u).setCell ⟨w0.heap.size + 2, 1, none⟩ v).cell? ⟨w0.heap.size, 1, none⟩ = some (.slice (some ⟨g, 0, none⟩) 3 cap) ∧ ((w'.setCell ⟨w0.heap.size + 2, 0, none⟩ u).setCell ⟨w0.heap.size + 2, 1, none⟩ v).cell? ⟨g, 2, none⟩ = some (.string ⟨y.toArray⟩) ∧ ((w'.setCell ⟨w0.heap.size + 2, 0, none⟩ u).setCell ⟨w0.heap.size + 2, 1, none⟩ v).cell? ⟨g, 3, none⟩ = some (.slice A1 n1 c1) ∧
    ((w'.setCell ⟨w0.heap.size + 2, 0, none⟩ u).setCell ⟨w0.heap.size + 2, 1, none⟩ v).cell? ⟨g, 4, none⟩ = some (.string ⟨p2.atom.toArray⟩) ∧ ((w'.setCell ⟨w0.heap.size + 2, 0, none⟩ u).setCell ⟨w0.heap.size + 2, 1, none⟩ v).cell? ⟨g, 5, none⟩ = some (.slice A2 n2 c2) ∧ ((w'.setCell ⟨w0.heap.size + 2, 0, none⟩ u).setCell ⟨w0.heap.size + 2, 1, none⟩ v).cell? ⟨w0.heap.size + 1, 0, none⟩ = some (.string ⟨ub.toArray⟩) ∧ ((w'.setCell ⟨w0.heap.size + 2, 0, none⟩ u).setCell ⟨w0.heap.size + 2, 1, none⟩ v).cell? ⟨w0.heap.size + 1, 1, none⟩ = some (.slice Ab mb nb) := h.sput
/-- A tree of new blocks or of those that were there. -/
abbrev PTr (P : Nat → Prop) (w0 w : World) (t : Tr) (v : Value) : Prop := TAt w (fun b => P b ∨ (w0.heap.size + 3 ≤ b ∧ b < w.heap.size)) t v
theorem PTr.below {t : Tr} {v : Value} (K : PKp w0 P g cap c p0 p1 p2 A0 A1 A2 n0 c0 n1 c1 n2 c2 ub Ab mb nb w') (h : PTr P w0 w' t v) (hb : Below w'.heap.size w' w2) : PTr P w0 w2 t v :=
  have hz := hb.size
  h.mono fun b hb' => ⟨hb'.imp id (fun h => ⟨h.1, by omega⟩), fun o => hb.cell (p := ⟨b, o, none⟩) (by
    rcases hb' with h | h
    · exact Nat.lt_of_lt_of_le (K.all b h) K.grown.size
    · exact h.2)⟩
theorem ps_call {t : Tm} (x : List UInt8) (IH : PsSaid t) (hok : t.ok) {v : Value} (K : PKp w0 P g cap c p0 p1 p2 A0 A1 A2 n0 c0 n1 c1 n2 c2 ub Ab mb nb w') (ht : TAt w' P (tmTr t) v) :
    Calls Tryz.prog 142 #[v, .string ⟨x.toArray⟩, .agg #[.string ⟨ub.toArray⟩, .slice Ab mb nb]] w' fun e w'' =>
      ∃ (a : List UInt8) (A : Option Addr) (m n : Nat), e = .returned (.agg #[.string ⟨a.toArray⟩, .slice A m n]) ∧ PTr P w0 w'' (tmTr (putT x c t)) (.agg #[.string ⟨a.toArray⟩, .slice A m n]) ∧ PKp w0 P g cap c p0 p1 p2 A0 A1 A2 n0 c0 n1 c1 n2 c2 ub Ab mb nb w'' ∧ Below w'.heap.size w' w'' := by
  have hz := K.res.lt
  refine (IH x c v _ w' P hok ht K.byT (fun q hq => Nat.lt_of_lt_of_le (K.all q hq) K.grown.size)).mono ?_
  rintro e w'' ⟨a, A, m, n, rfl, h1, h2⟩
  exact ⟨a, A, m, n, rfl, h1.mono fun b hb => ⟨hb.imp id (fun h => ⟨by omega, h.2⟩), fun _ => rfl⟩, K.below h2, h2⟩
theorem pl_call (hd : List UInt8) (hhd : hd.length ≤ 8000) {W : World} (K : PKp w0 P g cap c p0 p1 p2 A0 A1 A2 n0 c0 n1 c1 n2 c2 ub Ab mb nb W) {t1 t2 : Tr} {u1 v1 u2 v2 : Value}
    (hT1 : PTr P w0 W t1 (.agg #[u1, v1])) (hT2 : PTr P w0 W t2 (.agg #[u2, v2])) :
    Calls Tryz.prog 30 #[.string ⟨hd.toArray⟩, .slice (some ⟨W.heap.size, 0, none⟩) 2 2] (W.alloc (.cells #[u1, v1, u2, v2] 51)) fun e w'' =>
      ∃ A' m' c', e = .returned (.agg #[.string ⟨#[]⟩, .slice A' m' c']) ∧ PTr P w0 w'' (.mk [] [.mk hd [], t1, t2]) (.agg #[.string ⟨#[]⟩, .slice A' m' c']) ∧ PKp w0 P g cap c p0 p1 p2 A0 A1 A2 n0 c0 n1 c1 n2 c2 ub Ab mb nb w'' := by
  have hz := K.res.lt
  have hP : ∀ b, (P b ∨ (w0.heap.size + 3 ≤ b ∧ b < W.heap.size)) → b < W.heap.size := by
    rintro b (h | h)
    · exact Nat.lt_of_lt_of_le (K.all b h) K.grown.size
    · exact h.2
  have hbk := Blk.new W 51 #[u1, v1, u2, v2]
  have h := l1List_any hd hhd [t1, t2] (by simp) (fun b => P b ∨ (w0.heap.size + 3 ≤ b ∧ b < W.heap.size)) W.heap.size 2 [u1, v1, u2, v2] (W.alloc (.cells #[u1, v1, u2, v2] 51)) (by simp)
    (fun j u hu => by rw [hbk.cell j]; simpa using hu) (VsAt.cons' (hT1.alloc hP _) (VsAt.cons' (hT2.alloc hP _) (by unfold VsAt; rfl))) (fun b hb => by have := hP b hb; simp; omega)
  refine h.mono ?_
  rintro e w'' ⟨A', m', c', rfl, h1, h2⟩
  have hz2 := h2.size
  simp at hz2
  refine ⟨A', m', c', rfl, h1.mono fun b hb => ⟨?_, fun _ => rfl⟩, (K.new _).below h2⟩
  rcases hb with (h | h) | h
  · exact .inl h
  · exact .inr ⟨h.1, by omega⟩
  · have := h.1
    simp at this
    exact .inr ⟨by omega, h.2⟩
theorem ps_done {w5 : World} (K : PKp w0 P g cap c p0 p1 p2 A0 A1 A2 n0 c0 n1 c1 n2 c2 ub Ab mb nb w5) {t : Tr} {u v : Value} (hT : PTr P w0 w5 t (.agg #[u, v])) :
    Blk ((w5.setCell ⟨w0.heap.size + 2, 0, none⟩ u).setCell ⟨w0.heap.size + 2, 1, none⟩ v) (w0.heap.size + 2) 51 #[u, v] ∧
    TNew P w0.heap.size ((w5.setCell ⟨w0.heap.size + 2, 0, none⟩ u).setCell ⟨w0.heap.size + 2, 1, none⟩ v) t (.agg #[u, v]) ∧
    Below w0.heap.size w0 ((w5.setCell ⟨w0.heap.size + 2, 0, none⟩ u).setCell ⟨w0.heap.size + 2, 1, none⟩ v) := by
  refine ⟨res_set K.res _ _, hT.mono fun b hb => ⟨hb.imp id (fun h => ⟨by omega, by simpa [World.setCell] using h.2⟩), fun o => ?_⟩, (K.grown.setCell (p := ⟨w0.heap.size + 2, 0, none⟩) (by simp) _).setCell (p := ⟨w0.heap.size + 2, 1, none⟩) (by simp) _⟩
  have hne : b ≠ w0.heap.size + 2 := by
    rcases hb with h | h
    · have := K.all b h; omega
    · omega
  rw [World.cell?_setCell_other _ _ _ _ (by intro e; injection e with e; omega), World.cell?_setCell_other _ _ _ _ (by intro e; injection e with e; omega)]
end

set_option maxRecDepth 100000 in
set_option maxHeartbeats 1000000 in
theorem l1Put_var (y : List UInt8) : PsSaid (.var y) := by
  rintro x c v vc w P hok ht hc hP
  have hx := isNm_ne y hok
  have hae : (!y.isEmpty) = true := by cases y with
    | nil => exact absurd rfl hx
    | cons => rfl
  obtain ⟨A, m, n, e⟩ := ht.shape
  have e : v = .agg #[.string ⟨y.toArray⟩, .slice A m n] := e
  subst e
  obtain ⟨A2, m2, n2, rfl⟩ := hc.shape
  have HT := Lib.hid ht
  have HC := Lib.hid hc
  have HP := Lib.hid hP
  clear ht hP hc hx hok
  have hq : (y == x) = true ∨ (y == x) = false := by cases (y == x) <;> simp
  rcases hq with hq | hq
  · go_enter Tryz.func142, Tryz.ntmps142
    go_wp2
    have hB : Below w.heap.size w (((w.alloc (.cells #[.string ⟨y.toArray⟩, .slice A m n] 51)).alloc (.cells #[.string ⟨(tmTr c).atom.toArray⟩, .slice A2 m2 n2] 51)).alloc (.cells #[.string ⟨(tmTr c).atom.toArray⟩, .slice A2 m2 n2] 51)) := (((Below.refl _ _).alloc (Nat.le_refl _) _).alloc (by simp) _).alloc (by simp; omega) _
    have hr := Blk.new ((w.alloc (.cells #[.string ⟨y.toArray⟩, .slice A m n] 51)).alloc (.cells #[.string ⟨(tmTr c).atom.toArray⟩, .slice A2 m2 n2] 51)) 51 #[.string ⟨(tmTr c).atom.toArray⟩, .slice A2 m2 n2]
    have e2 : ((w.alloc (.cells #[.string ⟨y.toArray⟩, .slice A m n] 51)).alloc (.cells #[.string ⟨(tmTr c).atom.toArray⟩, .slice A2 m2 n2] 51)).heap.size = w.heap.size + 1 + 1 := by simp
    rw [e2] at hr
    have g0 := hr.cell 0
    have g1 := hr.cell 1
    simp only [List.getElem?_toArray, List.getElem?_cons_zero, List.getElem?_cons_succ] at g0 g1
    refine bodyPost_ret (v := .agg #[.string ⟨(tmTr c).atom.toArray⟩, .slice A2 m2 n2]) (by simp [results, Tryz.results142, go_sem, g0, g1]) rfl ?_
    refine ⟨_, _, _, _, rfl, ?_, hB⟩
    have e : putT x c (.var y) = c := by simp [putT, beq_iff_eq.1 hq]
    rw [e]
    exact (HC.out.below hB HP.out).mono fun b hb => ⟨.inl hb, fun _ => rfl⟩
  · go_enter Tryz.func142, Tryz.ntmps142
    go_wp2
    have hB : Below w.heap.size w (((w.alloc (.cells #[.string ⟨y.toArray⟩, .slice A m n] 51)).alloc (.cells #[.string ⟨(tmTr c).atom.toArray⟩, .slice A2 m2 n2] 51)).alloc (.cells #[.string ⟨y.toArray⟩, .slice A m n] 51)) := (((Below.refl _ _).alloc (Nat.le_refl _) _).alloc (by simp) _).alloc (by simp; omega) _
    have hr := Blk.new ((w.alloc (.cells #[.string ⟨y.toArray⟩, .slice A m n] 51)).alloc (.cells #[.string ⟨(tmTr c).atom.toArray⟩, .slice A2 m2 n2] 51)) 51 #[.string ⟨y.toArray⟩, .slice A m n]
    have e2 : ((w.alloc (.cells #[.string ⟨y.toArray⟩, .slice A m n] 51)).alloc (.cells #[.string ⟨(tmTr c).atom.toArray⟩, .slice A2 m2 n2] 51)).heap.size = w.heap.size + 1 + 1 := by simp
    rw [e2] at hr
    have g0 := hr.cell 0
    have g1 := hr.cell 1
    simp only [List.getElem?_toArray, List.getElem?_cons_zero, List.getElem?_cons_succ] at g0 g1
    refine bodyPost_ret (v := .agg #[.string ⟨y.toArray⟩, .slice A m n]) (by simp [results, Tryz.results142, go_sem, g0, g1]) rfl ?_
    refine ⟨_, _, _, _, rfl, ?_, hB⟩
    have e : putT x c (.var y) = .var y := by simp [putT, beq_eq_false_iff_ne.1 hq]
    rw [e]
    exact (HT.out.below hB HP.out).mono fun b hb => ⟨.inl hb, fun _ => rfl⟩
end Go.Proofs.YtjcdclnaplojcaaGreatDoor

namespace Go.Proofs.YtjcdclnaplojcaaGreatDoor
set_option linter.unusedVariables false
open Go.RowKit

set_option maxRecDepth 100000 in
set_option maxHeartbeats 4000000 in
theorem l1Put_lam (y : List UInt8) (d : Tm) (ih : PsSaid d) : PsSaid (.lam y d) := by
  rintro x c v vc w P hok ht hc hP
  obtain ⟨g, cap, A0, A1, A2, n0, c0, n1, c1, n2, c2, rfl, hcap, h3⟩ := ht.three
  obtain ⟨Ab, mb, nb, e⟩ := hc.shape
  generalize (tmTr c).atom = ub at e
  subst e
  have HP := Lib.hid hP
  have HOK := Lib.hid hok.2
  have HT := Lib.hid ht
  have K0 : Hid (PKp w P g cap c (.mk sLam []) (.mk y []) (tmTr d) A0 A1 A2 n0 c0 n1 c1 n2 c2 ub Ab mb nb _) := Lib.hid (PKp.start h3 hc hP)
  have CP : Hid (∀ w', PKp w P g cap c (.mk sLam []) (.mk y []) (tmTr d) A0 A1 A2 n0 c0 n1 c1 n2 c2 ub Ab mb nb w' → _) := Lib.hid (fun w' k => ps_call x ih hok.2 k k.three.t2)
  clear ih hP ht hok hc h3
  have hq : (y == x) = true ∨ (y == x) = false := by cases (y == x) <;> simp
  rcases hq with hq | hq
  · have HE : Hid (putT x c (.lam y d) = .lam y d) := Lib.hid (by simp [putT, beq_iff_eq.1 hq])
    go_enter Tryz.func142, Tryz.ntmps142
    go_wp2_with fail
    have hz0 := K0.out.grown.size
    refine (l1Head3 _ P g cap (.mk sLam []) (.mk y []) (tmTr d) A0 A1 A2 n0 c0 n1 c1 n2 c2 K0.out.three (fun b hb => Nat.lt_of_lt_of_le (HP.out b hb) hz0)).mono ?_
    rintro e w1 ⟨rfl, hb1⟩
    have hk := K0.out.below hb1
    have hl : (sLam == [108, 97, 109]) = true := rfl
    simp only [Tr.atom]
    have hks := hk.sl
    have r0 := hk.res.cell 0
    have r1 := hk.res.cell 1
    have rf0 := hk.res.frozen 0
    have rf1 := hk.res.frozen 1
    have rl := hk.res.lt
    have t0 := hk.box.cell 0
    have t1 := hk.box.cell 1
    simp only [List.getElem?_toArray, List.getElem?_cons_zero, List.getElem?_cons_succ] at r0 r1 t0 t1
    have HK := Lib.hid hk
    clear hk
    go_wp2_with fail
    have hsh := HT.out.short
    obtain ⟨hd1, hd2, hd3⟩ := ps_done HK.out (t := tmTr (.lam y d)) (u := .string ⟨#[]⟩) (v := .slice (some ⟨g, 0, none⟩) 3 cap) ((HT.out.below HK.out.grown HP.out).mono fun b hb => ⟨.inl hb, fun _ => rfl⟩)
    have y0 := hd1.cell 0
    have y1 := hd1.cell 1
    simp only [List.getElem?_toArray, List.getElem?_cons_zero, List.getElem?_cons_succ] at y0 y1
    refine bodyPost_ret (v := .agg #[.string ⟨#[]⟩, .slice (some ⟨g, 0, none⟩) 3 cap]) (by simp [results, Tryz.results142, go_sem, y0, y1]) rfl ?_
    exact ⟨[], _, _, _, rfl, by rw [HE.out]; exact hd2, hd3⟩
  · have HE : Hid (putT x c (.lam y d) = .lam y (putT x c d)) := Lib.hid (by simp [putT, beq_eq_false_iff_ne.1 hq])
    go_enter Tryz.func142, Tryz.ntmps142
    go_wp2_with fail
    have hz0 := K0.out.grown.size
    refine (l1Head3 _ P g cap (.mk sLam []) (.mk y []) (tmTr d) A0 A1 A2 n0 c0 n1 c1 n2 c2 K0.out.three (fun b hb => Nat.lt_of_lt_of_le (HP.out b hb) hz0)).mono ?_
    rintro e w1 ⟨rfl, hb1⟩
    have hk := K0.out.below hb1
    have hl : (sLam == [108, 97, 109]) = true := rfl
    simp only [Tr.atom]
    have hks := hk.sl
    have hkd := hk.drew
    go_wp2_with fail
    go_region_held3 (fun w' => w'.cell? ⟨w.heap.size, 1, none⟩ = some (.slice (some ⟨g, 0, none⟩) 3 cap) ∧ w'.cell? ⟨g, 2, none⟩ = some (.string ⟨y.toArray⟩) ∧ w'.cell? ⟨g, 3, none⟩ = some (.slice A1 n1 c1) ∧ w'.cell? ⟨g, 4, none⟩ = some (.string ⟨(tmTr d).atom.toArray⟩) ∧ w'.cell? ⟨g, 5, none⟩ = some (.slice A2 n2 c2) ∧ w'.cell? ⟨w.heap.size + 1, 0, none⟩ = some (.string ⟨ub.toArray⟩) ∧ w'.cell? ⟨w.heap.size + 1, 1, none⟩ = some (.slice Ab mb nb))
      (with_reducible first | exact hkd.sl | exact PKp.sl (by assumption) | exact PKp.sl (PKp.new (by assumption) _) | exact PKp.sputl (by assumption))
      (first
        | (go_at_call 142; (with_reducible refine (CP.out _ hkd).mono ?_); rintro e w3 ⟨u, A', m', c', rfl, ht4, hk4, -⟩)
        | (go_at_call 30; refine (pl_call [108, 97, 109] (by simp) hk4 (hk4.three.t1.mono fun b hb => ⟨.inl hb, fun _ => rfl⟩) ht4).mono ?_; rintro e w5 ⟨A5, m5, c5, rfl, ht5, hk5⟩; have s0 := hk5.res.cell 0; have s1 := hk5.res.cell 1; have sf0 := hk5.res.frozen 0; have sf1 := hk5.res.frozen 1; have sl := hk5.res.lt; simp only [List.getElem?_toArray, List.getElem?_cons_zero, List.getElem?_cons_succ] at s0 s1))
    all_goals
      obtain ⟨hd1, hd2, hd3⟩ := ps_done hk5 ht5
      have y0 := hd1.cell 0
      have y1 := hd1.cell 1
      simp only [List.getElem?_toArray, List.getElem?_cons_zero, List.getElem?_cons_succ] at y0 y1
      have HD2 := Lib.hid hd2
      have HD3 := Lib.hid hd3
      clear hd1 hd2 hd3 ht5 hk5
      go_wp2_with fail
      refine bodyPost_ret (v := .agg #[.string ⟨#[]⟩, .slice A5 m5 c5]) (by simp [results, Tryz.results142, go_sem, y0, y1]) rfl ?_
      exact ⟨[], _, _, _, rfl, by rw [HE.out]; exact HD2.out, HD3.out⟩

set_option maxRecDepth 100000 in
set_option maxHeartbeats 4000000 in
theorem l1Put_app (f a : Tm) (ihf : PsSaid f) (iha : PsSaid a) : PsSaid (.app f a) := by
  rintro x c v vc w P hok ht hc hP
  obtain ⟨g, cap, A0, A1, A2, n0, c0, n1, c1, n2, c2, rfl, hcap, h3⟩ := ht.three
  obtain ⟨Ab, mb, nb, e⟩ := hc.shape
  generalize (tmTr c).atom = ub at e
  subst e
  have HP := Lib.hid hP
  have K0 : Hid (PKp w P g cap c (.mk sApp []) (tmTr f) (tmTr a) A0 A1 A2 n0 c0 n1 c1 n2 c2 ub Ab mb nb _) := Lib.hid (PKp.start h3 hc hP)
  have CP : Hid (∀ w', PKp w P g cap c (.mk sApp []) (tmTr f) (tmTr a) A0 A1 A2 n0 c0 n1 c1 n2 c2 ub Ab mb nb w' → _) := Lib.hid (fun w' k => ps_call x ihf hok.1 k k.three.t1)
  have CQ : Hid (∀ w', PKp w P g cap c (.mk sApp []) (tmTr f) (tmTr a) A0 A1 A2 n0 c0 n1 c1 n2 c2 ub Ab mb nb w' → _) := Lib.hid (fun w' k => ps_call x iha hok.2 k k.three.t2)
  have HE : Hid (putT x c (.app f a) = .app (putT x c f) (putT x c a)) := Lib.hid rfl
  clear ihf iha hP ht hok hc h3
  go_enter Tryz.func142, Tryz.ntmps142
  go_wp2_with fail
  have hz0 := K0.out.grown.size
  refine (l1Head3 _ P g cap (.mk sApp []) (tmTr f) (tmTr a) A0 A1 A2 n0 c0 n1 c1 n2 c2 K0.out.three (fun b hb => Nat.lt_of_lt_of_le (HP.out b hb) hz0)).mono ?_
  rintro e w1 ⟨rfl, hb1⟩
  have hk := K0.out.below hb1
  have hl : (sApp == [108, 97, 109]) = false := rfl
  simp only [Tr.atom]
  have hks := hk.s
  have hkd := hk.drew
  go_wp2_with fail
  go_region_held3 (fun w' => w'.cell? ⟨w.heap.size, 1, none⟩ = some (.slice (some ⟨g, 0, none⟩) 3 cap) ∧ w'.cell? ⟨g, 2, none⟩ = some (.string ⟨(tmTr f).atom.toArray⟩) ∧ w'.cell? ⟨g, 3, none⟩ = some (.slice A1 n1 c1) ∧ w'.cell? ⟨g, 4, none⟩ = some (.string ⟨(tmTr a).atom.toArray⟩) ∧ w'.cell? ⟨g, 5, none⟩ = some (.slice A2 n2 c2) ∧ w'.cell? ⟨w.heap.size + 1, 0, none⟩ = some (.string ⟨ub.toArray⟩) ∧ w'.cell? ⟨w.heap.size + 1, 1, none⟩ = some (.slice Ab mb nb))
    (with_reducible first | exact hkd.s | exact PKp.s (by assumption) | exact PKp.s (PKp.new (by assumption) _) | exact PKp.sput (by assumption))
    (first
      | (go_at_call 142; (with_reducible refine (CP.out _ hkd).mono ?_); rintro e w3 ⟨u3, A3, m3, c3, rfl, ht3, hk3, -⟩)
      | (go_at_call 142; (with_reducible refine (CQ.out _ hk3).mono ?_); rintro e w4 ⟨u4, A4, m4, c4, rfl, ht4, hk4, hb4⟩; have ht34 := PTr.below hk3 ht3 hb4; clear hb4)
      | (go_at_call 30; refine (pl_call [97, 112, 112] (by simp) hk4 ht34 ht4).mono ?_; rintro e w5 ⟨A5, m5, c5, rfl, ht5, hk5⟩; have s0 := hk5.res.cell 0; have s1 := hk5.res.cell 1; have sf0 := hk5.res.frozen 0; have sf1 := hk5.res.frozen 1; have sl := hk5.res.lt; simp only [List.getElem?_toArray, List.getElem?_cons_zero, List.getElem?_cons_succ] at s0 s1))
  all_goals
    obtain ⟨hd1, hd2, hd3⟩ := ps_done hk5 ht5
    have y0 := hd1.cell 0
    have y1 := hd1.cell 1
    simp only [List.getElem?_toArray, List.getElem?_cons_zero, List.getElem?_cons_succ] at y0 y1
    have HD2 := Lib.hid hd2
    have HD3 := Lib.hid hd3
    clear hd1 hd2 hd3 ht5 hk5
    go_wp2_with fail
    refine bodyPost_ret (v := .agg #[.string ⟨#[]⟩, .slice A5 m5 c5]) (by simp [results, Tryz.results142, go_sem, y0, y1]) rfl ?_
    exact ⟨[], _, _, _, rfl, by rw [HE.out]; exact HD2.out, HD3.out⟩

theorem l1Put_any (t : Tm) : PsSaid t := by
  induction t with
  | var x => exact l1Put_var x
  | lam x d ih => exact l1Put_lam x d ih
  | app f a ihf iha => exact l1Put_app f a ihf iha
end Go.Proofs.YtjcdclnaplojcaaGreatDoor

namespace Go.Proofs.YtjcdclnaplojcaaGreatDoor
set_option linter.unusedVariables false
open Go.RowKit

theorem VsAt.get {w : World} {P : Nat → Prop} {ts : List Tr} {xs : List Value} (h : VsAt w P ts xs) {i : Nat} {t : Tr} (hi : ts[i]? = some t) : ∃ (a : List UInt8) (A : Option Addr) (m c : Nat), xs[i * 2]? = some (.string ⟨a.toArray⟩) ∧ xs[i * 2 + 1]? = some (.slice A m c) ∧ TAt w P t (.agg #[.string ⟨a.toArray⟩, .slice A m c]) := by
  induction ts generalizing xs i with
  | nil => simp at hi
  | cons t' ts ih =>
    unfold VsAt at h
    obtain ⟨a, b, r, rfl, h1, h2⟩ := h
    cases i with
    | zero =>
      simp at hi
      subst hi
      obtain ⟨A, n, c, e⟩ := h1.shape
      simp at e
      obtain ⟨rfl, rfl⟩ := e
      exact ⟨_, A, n, c, rfl, rfl, h1⟩
    | succ i =>
      obtain ⟨a', A, m, c, e1, e2, e3⟩ := ih h2 (i := i) (by simpa using hi)
      refine ⟨a', A, m, c, ?_, ?_, e3⟩
      · rw [show (i + 1) * 2 = i * 2 + 1 + 1 by omega, List.getElem?_cons_succ, List.getElem?_cons_succ]; exact e1
      · rw [show (i + 1) * 2 + 1 = i * 2 + 1 + 1 + 1 by omega, List.getElem?_cons_succ, List.getElem?_cons_succ]; exact e2

/-- The free names of a term and of some others. -/
def avs (t : Tm) (os : List Tm) : List (List UInt8) := freeS [] t [] ++ (os.map fun o => freeS [] o []).flatten

theorem avs_le (t : Tm) (os : List Tm) (k : Nat) : (avs t (os.take k)).length ≤ (avs t os).length := by
  have h : avs t os = avs t (os.take k) ++ ((os.drop k).map fun o => freeS [] o []).flatten := by
    unfold avs
    rw [List.append_assoc, ← List.flatten_append, ← List.map_append, List.take_append_drop]
  rw [h]
  simp
theorem avs_succ (t : Tm) (os : List Tm) (k : Nat) (o : Tm) (h : os[k]? = some o) : avs t (os.take (k + 1)) = avs t (os.take k) ++ freeS [] o [] := by
  obtain ⟨hk, rfl⟩ := List.getElem?_eq_some_iff.1 h
  unfold avs
  rw [List.take_succ_eq_append_getElem hk, List.map_append, List.flatten_append, List.append_assoc]
  simp only [List.map_cons, List.map_nil, List.flatten_cons, List.flatten_nil, List.append_nil]
theorem own_slice {w : World} {base : Nat} {v : Value} {l : List (List UInt8)} (h : SRow w base v l) {b : Nat} (hb : v.ownBlock = some b) : ∃ g c, v = .slice (some ⟨g, 0, none⟩) l.length c := by
  rcases h.2 with ⟨h, _⟩ | ⟨g, cap, cur, hv, _⟩
  · rw [h] at hb; simp [Value.ownBlock] at hb
  · exact ⟨g, cap, hv⟩

set_option maxRecDepth 100000 in
set_option maxHeartbeats 4000000 in
theorem l1Apart_any (t : Tm) (os : List Tm) (hok : t.ok) (hat : t.atoms ≤ 400) (hos : ∀ o ∈ os, o.ok ∧ o.atoms ≤ 400) (hlo : os.length ≤ 2) (hla : (avs t os).length ≤ 999) (go co : Nat) (xs : List Value) (v : Value) (w : World) (P : Nat → Prop) (ht : TAt w P (tmTr t) v) (hP : ∀ b, P b → b < w.heap.size) (hgo : go < w.heap.size) (hx : ∀ j u, xs[j]? = some u → w.cell? ⟨go, j, none⟩ = some u) (hv : VsAt w P (os.map tmTr) xs) :
    Calls Tryz.prog 54 #[v, .slice (some ⟨go, 0, none⟩) os.length co] w (ApPost P (tmTr (renT (avs t os) t [] [] 0).1) w) := by
  obtain ⟨A, m, c, rfl⟩ := ht.shape
  have HT := Lib.hid ht
  have HP := Lib.hid hP
  have HK := Lib.hid hok
  have HAT := Lib.hid hat
  have HOS := Lib.hid hos
  have HLA := Lib.hid hla
  have HX := Lib.hid hx
  have HV := Lib.hid hv
  clear ht hP hok hat hos hla hx hv
  go_enter Tryz.func54, Tryz.ntmps54
  go_wp2_with fail
  have hbx : Blk ((w.alloc (.cells #[.string ⟨(tmTr t).atom.toArray⟩, .slice A m c] 51)).alloc (.cells #[.string ⟨#[]⟩, .slice none 0 0] 51)) w.heap.size 51 #[.string ⟨(tmTr t).atom.toArray⟩, .slice A m c] := (Blk.new w _ _).alloc _
  have hrs : Blk ((w.alloc (.cells #[.string ⟨(tmTr t).atom.toArray⟩, .slice A m c] 51)).alloc (.cells #[.string ⟨#[]⟩, .slice none 0 0] 51)) (w.heap.size + 1) 51 #[.string ⟨#[]⟩, .slice none 0 0] := by
    have := Blk.new (w.alloc (.cells #[.string ⟨(tmTr t).atom.toArray⟩, .slice A m c] 51)) 51 #[.string ⟨#[]⟩, .slice none 0 0]
    simpa using this
  have ht1 := (HT.out.alloc HP.out (.cells #[.string ⟨(tmTr t).atom.toArray⟩, .slice A m c] 51)).alloc (fun q hq => by have := HP.out q hq; simp; omega) (.cells #[.string ⟨#[]⟩, .slice none 0 0] 51)
  have hB1 : Below w.heap.size w ((w.alloc (.cells #[.string ⟨(tmTr t).atom.toArray⟩, .slice A m c] 51)).alloc (.cells #[.string ⟨#[]⟩, .slice none 0 0] 51)) := ((Below.refl _ _).alloc (Nat.le_refl _) _).alloc (by simp) _
  have hsz : ((w.alloc (.cells #[.string ⟨(tmTr t).atom.toArray⟩, .slice A m c] 51)).alloc (.cells #[.string ⟨#[]⟩, .slice none 0 0] 51)).heap.size = w.heap.size + 2 := by simp
  generalize (w.alloc (.cells #[.string ⟨(tmTr t).atom.toArray⟩, .slice A m c] 51)).alloc (.cells #[.string ⟨#[]⟩, .slice none 0 0] 51) = W at hbx hrs ht1 hB1 hsz ⊢
  have r1 : SRow ((W.alloc (.cells #[] 9)).alloc (.cells #[] 9)) (w.heap.size + 2) (.slice (some ⟨w.heap.size + 1 + 1, 0, none⟩) 0 0) [] := by
    have h := World.ownsRow_made (base := w.heap.size + 2) (e := 9) (size := 1) W #[] 0 (by omega) (Nat.zero_le _) rfl
    have h2 := h.alloc (.cells #[] 9)
    rw [hsz] at h2
    exact h2
  have r2 : SRow ((W.alloc (.cells #[] 9)).alloc (.cells #[] 9)) (w.heap.size + 2) (.slice (some ⟨w.heap.size + 1 + 1 + 1, 0, none⟩) 0 0) [] := by
    have h := World.ownsRow_made (base := w.heap.size + 2) (e := 9) (size := 1) (W.alloc (.cells #[] 9)) #[] 0 (by simp; omega) (Nat.zero_le _) rfl
    have e : (W.alloc (.cells #[] 9)).heap.size = w.heap.size + 1 + 1 + 1 := by simp; omega
    rw [e] at h
    exact h
  have ht2 := (ht1.alloc (fun q hq => by have := HP.out q hq; omega) (.cells #[] 9)).alloc (fun q hq => by have := HP.out q hq; simp; omega) (.cells #[] 9)
  have hat := HAT.out
  refine (l1Free_any t [] [] (w.heap.size + 2) (w.heap.size + 1 + 1) 0 (w.heap.size + 2) _ _ _ P HK.out ht2 (fun q hq => ⟨by have := HP.out q hq; simp; omega, by intro e; simp [Value.ownBlock] at e; have := HP.out q hq; omega⟩) r1 (by simp [Value.ownBlock]) r2 (by simp; omega) (by simp; omega) (by simp; omega)).mono ?_
  rintro e w2 ⟨v2, rfl, gg1, gg2, -⟩
  have hb2 : Below (w.heap.size + 2) W w2 := (((Below.refl (w.heap.size + 2) W).alloc (by omega) _).alloc (by simp; omega) _).grown gg2 (by simp; omega) (fun k e => by simp [Value.ownBlock] at e; omega)
  have hbx2 := hbx.below hb2 (by omega)
  have hrs2 := hrs.below hb2 (by omega)
  have hB2 : Below w.heap.size w w2 := hB1.trans (hb2.mono (by omega))
  have ht3 := ht1.below hb2 (fun q hq => by have := HP.out q hq; omega)
  have hz2 := hb2.size
  obtain ⟨AF, cF, rfl⟩ := own_shape gg1
  have b0 := hbx2.cell 0
  have b1 := hbx2.cell 1
  simp only [List.getElem?_toArray, List.getElem?_cons_zero, List.getElem?_cons_succ] at b0 b1
  have HBX := Lib.hid hbx2
  have HRS := Lib.hid hrs2
  have HB := Lib.hid hB2
  have HT3 := Lib.hid ht3
  have HF := Lib.hid gg1
  have hz2' : w.heap.size + 2 ≤ w2.heap.size := by omega
  clear hbx hrs ht1 hB1 r1 r2 ht2 hat gg1 gg2 hb2 hbx2 hrs2 hB2 ht3 hz2 hsz
  go_wp2_with fail
  have hl0 : 0 ≤ os.length := Nat.zero_le _
  go_loopg [5, 6] os.length (fun q v5 v6 wr => ∃ (k : Nat) (B : Option Addr) (cB : Nat), q + k = os.length ∧ v6 = .int .i64 k ∧ v5 = .slice B (avs t (os.take k)).length cB ∧ Hid (Below (w.heap.size + 2) w2 wr ∧ SRow wr (w.heap.size + 2) (.slice B (avs t (os.take k)).length cB) (avs t (os.take k))))
  case atStart =>
    exact ⟨0, AF, cF, by omega, rfl, by simp [avs], Lib.hid ⟨Below.refl _ _, by simpa [avs] using HF.out⟩⟩
  case round =>
    obtain ⟨k, B, cB, hq, rfl, rfl, HR⟩ := hrel
    have HQ := Lib.hid hq
    clear hq
    by_cases hlt : k < os.length
    · obtain ⟨o, ho⟩ : ∃ o, os[k]? = some o := ⟨_, List.getElem?_eq_getElem hlt⟩
      obtain ⟨s1, A1, m1, c1, hx0, hx1, hto⟩ := HV.out.get (i := k) (t := tmTr o) (by rw [List.getElem?_map, ho]; rfl)
      have hB2 := HR.out.1
      have hzw := hB2.size
      have q0 : wr.cell? ⟨go, k * 2, none⟩ = some (.string ⟨s1.toArray⟩) := (hB2.cell (p := ⟨go, k * 2, none⟩) (by show go < _; omega)).trans ((HB.out.cell (p := ⟨go, k * 2, none⟩) hgo).trans (HX.out _ _ hx0))
      have q1 : wr.cell? ⟨go, k * 2 + 1, none⟩ = some (.slice A1 m1 c1) := (hB2.cell (p := ⟨go, k * 2 + 1, none⟩) (by show go < _; omega)).trans ((HB.out.cell (p := ⟨go, k * 2 + 1, none⟩) hgo).trans (HX.out _ _ hx1))
      have HTO := Lib.hid ((hto.below HB.out HP.out).below hB2 (fun q hq => by have := HP.out q hq; omega))
      have HO := Lib.hid ho
      clear hx0 hx1 hto hB2 ho
      have hoa := HOS.out o (List.mem_of_getElem? HO.out)
      have hfl := freeS_length o [] []
      have hal := avs_le t os k
      have hla := HLA.out
      have hfl' : (freeS [] o []).length ≤ 400 := by simp at hfl; omega
      have hal' : (avs t (os.take k)).length ≤ 999 := by omega
      have C1 := Lib.hid (l1Free_any o [] [] wr.heap.size wr.heap.size 0 wr.heap.size (.agg #[.string ⟨s1.toArray⟩, .slice A1 m1 c1]) (.slice (some ⟨wr.heap.size + 1, 0, none⟩) 0 0) ((wr.alloc (.cells #[] 9)).alloc (.cells #[] 9)) P hoa.1
        ((HTO.out.alloc (fun q hq => by have := HP.out q hq; omega) _).alloc (fun q hq => by have := HP.out q hq; simp; omega) _) (fun q hq => ⟨by have := HP.out q hq; simp; omega, by intro e; simp [Value.ownBlock] at e; have := HP.out q hq; omega⟩)
        ((World.ownsRow_made (base := wr.heap.size) (e := 9) (size := 1) wr #[] 0 (Nat.le_refl _) (Nat.zero_le _) rfl).alloc _) (by simp [Value.ownBlock])
        (by
          have h := World.ownsRow_made (base := wr.heap.size) (e := 9) (size := 1) (wr.alloc (.cells #[] 9)) #[] 0 (by simp) (Nat.zero_le _) rfl
          have e : (wr.alloc (.cells #[] 9)).heap.size = wr.heap.size + 1 := by simp
          rw [e] at h
          exact h) (by simp; omega) (by simp; omega) (by simp; omega))
      clear hoa hfl hal hla
      obtain ⟨i0, hinf, hz0, hzs, hzb⟩ := info_parts Tryz.infoStr
      go_wp2_with fail
      refine C1.out.mono ?_
      rintro e w3 ⟨v3, rfl, gg1, gg2, gg3⟩
      obtain ⟨g3, c3, rfl⟩ : ∃ g c, v3 = .slice (some ⟨g, 0, none⟩) (freeS [] o []).length c := by
        rcases gg3 with h | ⟨b, h, _⟩
        · exact own_slice gg1 (b := wr.heap.size + 1) h
        · exact own_slice gg1 h
      have hb3 : Below wr.heap.size wr w3 := (((Below.refl _ _).alloc (Nat.le_refl _) _).alloc (by simp) _).grown gg2 (by simp; omega) (fun k e => by simp [Value.ownBlock] at e; omega)
      have HR3 := Lib.hid (HR.out.2.below hb3)
      have HB3 := Lib.hid hb3
      have HG3 := Lib.hid gg1
      have hz3 := hb3.size
      clear gg1 gg2 gg3 hb3 C1
      go_wp2_with (first
        | (at_builtin
           refine wpList_append_own_at _ rfl (.tmp 17) (.tmp 24) 55 rfl (w.heap.size + 2) 9 i0 (.string ⟨#[]⟩) 1 16 Tryz.underlying55 hinf hz0 hzs hzb rfl (by decide) (.slice B (avs t (os.take k)).length cB) (avs t (os.take k)).length ((avs t (os.take k)).map strV) rfl HR3.out ⟨g3, 0, none⟩ (freeS [] o []).length c3 ((freeS [] o []).map strV) rfl ?_ ?_ ?_ ?_ ?_ ?_ ?_
           · simp
           · exact HG3.out.cells (g := g3) rfl
           · exact str_one _
           · unfold maxLen; omega
           · omega
           · omega
           intro v4 w4 hown4 hg4 _ hat4
           have HO4 := Lib.hid hown4
           have HG4 := Lib.hid hg4
           clear hown4 hg4 hat4)
        | fail)
      obtain ⟨B4, c4, rfl⟩ := own_shape HO4.out
      go_wp2
      go_roundg (os.length - (k + 1))
      case rel =>
        have ea := avs_succ t os k o HO.out
        refine ⟨k + 1, B4, c4, by have := HQ.out; omega, by go_num, by rw [ea, List.length_append], Lib.hid ⟨?_, ?_⟩⟩
        · exact (HR.out.1.trans (HB3.out.mono (by have := HR.out.1.size; omega))).grown HG4.out (by have := HR.out.1.size; omega) (fun q e => (HR3.out.lt q e).1)
        · rw [ea, List.length_append]
          unfold SRow
          rw [List.length_append, List.map_append]
          exact HO4.out
      case measure => have := HQ.out; omega
    · obtain rfl : k = os.length := by have := HQ.out; omega
      rw [List.take_length] at HR
      rw [List.take_length]
      have hB2 := HR.out.1
      have hzw := hB2.size
      have hbx5 := HBX.out.below hB2 (by omega)
      have b05 := hbx5.cell 0
      have b15 := hbx5.cell 1
      simp only [List.getElem?_toArray, List.getElem?_cons_zero, List.getElem?_cons_succ] at b05 b15
      clear hbx5 hB2
      have hbb := HB.out.trans (HR.out.1.mono (by omega))
      have hB := Lib.hid hbb
      have hHT5 := Lib.hid (HT3.out.below HR.out.1 (fun q hq => by have := HP.out q hq; omega))
      have hHR := Lib.hid (HRS.out.below HR.out.1 (by omega))
      clear hbb
      go_wp2_with fail
      refine (apart_call t HK.out HAT.out (avs t os) HLA.out _ _ _ wr P hHT5.out (fun q hq => by have := HP.out q hq; omega) HR.out.2).mono ?_
      rintro e w3 ⟨u, A', m', c', rfl, h1, h2⟩
      have hz3 := h2.size
      have hrs3 := hHR.out.below h2 (by omega)
      have s0 := hrs3.cell 0
      have s1 := hrs3.cell 1
      have sf0 := hrs3.frozen 0
      have sf1 := hrs3.frozen 1
      have sl := hrs3.lt
      simp only [List.getElem?_toArray, List.getElem?_cons_zero, List.getElem?_cons_succ] at s0 s1
      have hW : Blk ((w3.setCell ⟨w.heap.size + 1, 0, none⟩ (.string ⟨u.toArray⟩)).setCell ⟨w.heap.size + 1, 1, none⟩ (.slice A' m' c')) (w.heap.size + 1) 51 #[.string ⟨u.toArray⟩, .slice A' m' c'] := res_set hrs3 _ _
      have y0 := hW.cell 0
      have y1 := hW.cell 1
      simp only [List.getElem?_toArray, List.getElem?_cons_zero, List.getElem?_cons_succ] at y0 y1
      have HT5 : Hid (TNew P w.heap.size ((w3.setCell ⟨w.heap.size + 1, 0, none⟩ (.string ⟨u.toArray⟩)).setCell ⟨w.heap.size + 1, 1, none⟩ (.slice A' m' c')) (tmTr (renT (avs t os) t [] [] 0).1) (.agg #[.string ⟨u.toArray⟩, .slice A' m' c'])) := Lib.hid (by
        refine h1.mono fun b hb => ⟨hb.imp id (fun h => ⟨by omega, by simpa [World.setCell] using h.2⟩), fun o => ?_⟩
        have hne : b ≠ w.heap.size + 1 := by
          rcases hb with h | h
          · have := HP.out b h; omega
          · omega
        rw [World.cell?_setCell_other _ _ _ _ (by intro e; injection e with e; omega), World.cell?_setCell_other _ _ _ _ (by intro e; injection e with e; omega)])
      have HB5 : Hid (Below w.heap.size w ((w3.setCell ⟨w.heap.size + 1, 0, none⟩ (.string ⟨u.toArray⟩)).setCell ⟨w.heap.size + 1, 1, none⟩ (.slice A' m' c'))) := Lib.hid (((hB.out.trans (h2.mono (by omega))).setCell (p := ⟨w.heap.size + 1, 0, none⟩) (by simp) _).setCell (p := ⟨w.heap.size + 1, 1, none⟩) (by simp) _)
      clear hrs3 hW h1 h2
      go_wp2_with fail
      refine bodyPost_ret (v := .agg #[.string ⟨u.toArray⟩, .slice A' m' c']) (by simp [results, Tryz.results54, go_sem, y0, y1]) rfl ?_
      exact ⟨_, _, _, _, rfl, HT5.out, HB5.out⟩


end Go.Proofs.YtjcdclnaplojcaaGreatDoor

namespace Go.Proofs.YtjcdclnaplojcaaGreatDoor
set_option linter.unusedVariables false
open Go.RowKit

theorem avs_two (t c : Tm) (x : List UInt8) : avs t [c, .var x] = avoid t c x := by simp [avs, avoid, freeS]
theorem apart_ok (t c : Tm) (x : List UInt8) (h : t.ok) (ha : t.atoms ≤ 400) (hca : c.atoms ≤ 400) : (renT (avoid t c x) t [] [] 0).1.ok := by
  have h1 := renT_le (avoid t c x) t [] []
  have h2 := freeS_lams t [] []
  have h3 := freeS_lams c [] []
  simp only [List.length_nil] at h2 h3
  have h4 : (avoid t c x).length = (freeS [] t []).length + (freeS [] c []).length + 1 := by simp [avoid]; omega
  exact renT_ok _ t [] [] 0 h (by simp) rfl (by omega)
theorem avoid_le (t c : Tm) (x : List UInt8) (ha : t.atoms ≤ 400) (hca : c.atoms ≤ 400) : (avoid t c x).length ≤ 999 := by
  have h2 := freeS_lams t [] []
  have h3 := freeS_lams c [] []
  simp only [List.length_nil] at h2 h3
  have h4 : (avoid t c x).length = (freeS [] t []).length + (freeS [] c []).length + 1 := by simp [avoid]; omega
  omega


/-- What is kept while a term is put for a name in another one. -/
structure SKp (w0 : World) (P : Nat → Prop) (t c : Tm) (at_ ac : List UInt8) (A : Option Addr) (m n : Nat) (A2 : Option Addr) (m2 n2 : Nat) (w' : World) : Prop where
  bt : Blk w' w0.heap.size 51 #[.string ⟨at_.toArray⟩, .slice A m n]
  bb : Blk w' (w0.heap.size + 1) 51 #[.string ⟨ac.toArray⟩, .slice A2 m2 n2]
  br : Blk w' (w0.heap.size + 2) 51 #[.string ⟨#[]⟩, .slice none 0 0]
  tT : TAt w' P (tmTr t) (.agg #[.string ⟨at_.toArray⟩, .slice A m n])
  tC : TAt w' P (tmTr c) (.agg #[.string ⟨ac.toArray⟩, .slice A2 m2 n2])
  all : ∀ q, P q → q < w0.heap.size
  grown : Below w0.heap.size w0 w'
section
variable {w0 : World} {P : Nat → Prop} {t c : Tm} {at_ ac : List UInt8} {A : Option Addr} {m n : Nat} {A2 : Option Addr} {m2 n2 : Nat} {w' w2 : World}
theorem SKp.start {w : World} (ht : TAt w P (tmTr t) (.agg #[.string ⟨at_.toArray⟩, .slice A m n])) (hc : TAt w P (tmTr c) (.agg #[.string ⟨ac.toArray⟩, .slice A2 m2 n2])) (hP : ∀ q, P q → q < w.heap.size) :
    SKp w P t c at_ ac A m n A2 m2 n2 (((w.alloc (.cells #[.string ⟨at_.toArray⟩, .slice A m n] 51)).alloc (.cells #[.string ⟨ac.toArray⟩, .slice A2 m2 n2] 51)).alloc (.cells #[.string ⟨#[]⟩, .slice none 0 0] 51)) := by
  have hB : Below w.heap.size w (((w.alloc (.cells #[.string ⟨at_.toArray⟩, .slice A m n] 51)).alloc (.cells #[.string ⟨ac.toArray⟩, .slice A2 m2 n2] 51)).alloc (.cells #[.string ⟨#[]⟩, .slice none 0 0] 51)) := (((Below.refl _ _).alloc (Nat.le_refl _) _).alloc (by simp) _).alloc (by simp; omega) _
  refine ⟨((Blk.new w _ _).alloc _).alloc _, ?_, ?_, ht.below hB hP, hc.below hB hP, hP, hB⟩
  · have := (Blk.new (w.alloc (.cells #[.string ⟨at_.toArray⟩, .slice A m n] 51)) 51 #[.string ⟨ac.toArray⟩, .slice A2 m2 n2]).alloc (.cells #[.string ⟨#[]⟩, .slice none 0 0] 51)
    simpa using this
  · have := Blk.new ((w.alloc (.cells #[.string ⟨at_.toArray⟩, .slice A m n] 51)).alloc (.cells #[.string ⟨ac.toArray⟩, .slice A2 m2 n2] 51)) 51 #[.string ⟨#[]⟩, .slice none 0 0]
    simpa using this
theorem SKp.below (h : SKp w0 P t c at_ ac A m n A2 m2 n2 w') (hb : Below w'.heap.size w' w2) : SKp w0 P t c at_ ac A m n A2 m2 n2 w2 :=
  have hz := h.grown.size
  ⟨h.bt.below hb h.bt.lt, h.bb.below hb h.bb.lt, h.br.below hb h.br.lt, h.tT.below hb (fun q hq => Nat.lt_of_lt_of_le (h.all q hq) hz), h.tC.below hb (fun q hq => Nat.lt_of_lt_of_le (h.all q hq) hz), h.all, h.grown.trans (hb.mono hz)⟩
theorem SKp.drew (h : SKp w0 P t c at_ ac A m n A2 m2 n2 w') : SKp w0 P t c at_ ac A m n A2 m2 n2 w'.drew := h.below (Below.refl _ _).drew
theorem SKp.new (h : SKp w0 P t c at_ ac A m n A2 m2 n2 w') (o : Obj) : SKp w0 P t c at_ ac A m n A2 m2 n2 (w'.alloc o) := h.below ((Below.refl _ _).alloc (Nat.le_refl _) _)
theorem SKp.s (h : SKp w0 P t c at_ ac A m n A2 m2 n2 w') :
    w'.cell? ⟨w0.heap.size, 0, none⟩ = some (.string ⟨at_.toArray⟩) ∧ w'.cell? ⟨w0.heap.size, 1, none⟩ = some (.slice A m n) ∧ w'.cell? ⟨w0.heap.size + 1, 0, none⟩ = some (.string ⟨ac.toArray⟩) ∧ w'.cell? ⟨w0.heap.size + 1, 1, none⟩ = some (.slice A2 m2 n2) := by
  have h0 := h.bt.cell 0
  have h1 := h.bt.cell 1
  have h2 := h.bb.cell 0
  have h3 := h.bb.cell 1
  simp at h0 h1 h2 h3
  exact ⟨h0, h1, h2, h3⟩
theorem SKp.sput (h : SKp w0 P t c at_ ac A m n A2 m2 n2 w') {u v : Value} :
    ((w'.setCell ⟨w0.heap.size + 2, 0, none⟩ u).setCell ⟨w0.heap.size + 2, 1, none⟩ v).cell? ⟨w0.heap.size, 0, none⟩ = some (.string ⟨at_.toArray⟩) ∧ ((w'.setCell ⟨w0.heap.size + 2, 0, none⟩ u).setCell ⟨w0.heap.size + 2, 1, none⟩ v).cell? ⟨w0.heap.size, 1, none⟩ = some (.slice A m n) ∧
    ((w'.setCell ⟨w0.heap.size + 2, 0, none⟩ u).setCell ⟨w0.heap.size + 2, 1, none⟩ v).cell? ⟨w0.heap.size + 1, 0, none⟩ = some (.string ⟨ac.toArray⟩) ∧ ((w'.setCell ⟨w0.heap.size + 2, 0, none⟩ u).setCell ⟨w0.heap.size + 2, 1, none⟩ v).cell? ⟨w0.heap.size + 1, 1, none⟩ = some (.slice A2 m2 n2) := by
  have hs := h.s
  have e : ∀ b i, b ≠ w0.heap.size + 2 → ((w'.setCell ⟨w0.heap.size + 2, 0, none⟩ u).setCell ⟨w0.heap.size + 2, 1, none⟩ v).cell? ⟨b, i, none⟩ = w'.cell? ⟨b, i, none⟩ := by
    intro b i hb
    rw [World.cell?_setCell_other _ _ _ _ (by intro e; injection e with e; omega), World.cell?_setCell_other _ _ _ _ (by intro e; injection e with e; omega)]
  rw [e _ _ (by omega), e _ _ (by omega), e _ _ (by omega), e _ _ (by omega)]
  exact hs
theorem ss_done {w5 : World} (K : SKp w0 P t c at_ ac A m n A2 m2 n2 w5) {r : Tr} {u v : Value} (hT : PTr P w0 w5 r (.agg #[u, v])) :
    Blk ((w5.setCell ⟨w0.heap.size + 2, 0, none⟩ u).setCell ⟨w0.heap.size + 2, 1, none⟩ v) (w0.heap.size + 2) 51 #[u, v] ∧
    TNew P w0.heap.size ((w5.setCell ⟨w0.heap.size + 2, 0, none⟩ u).setCell ⟨w0.heap.size + 2, 1, none⟩ v) r (.agg #[u, v]) ∧
    Below w0.heap.size w0 ((w5.setCell ⟨w0.heap.size + 2, 0, none⟩ u).setCell ⟨w0.heap.size + 2, 1, none⟩ v) := by
  refine ⟨res_set K.br _ _, hT.mono fun b hb => ⟨hb.imp id (fun h => ⟨by omega, by simpa [World.setCell] using h.2⟩), fun o => ?_⟩, (K.grown.setCell (p := ⟨w0.heap.size + 2, 0, none⟩) (by simp) _).setCell (p := ⟨w0.heap.size + 2, 1, none⟩) (by simp) _⟩
  have hne : b ≠ w0.heap.size + 2 := by
    rcases hb with h | h
    · have := K.all b h; omega
    · omega
  rw [World.cell?_setCell_other _ _ _ _ (by intro e; injection e with e; omega), World.cell?_setCell_other _ _ _ _ (by intro e; injection e with e; omega)]
theorem sa_call (x : List UInt8) (hx : x.length ≤ 8000) (hxn : isNm x = true) (hok : t.ok) (hat : t.atoms ≤ 400) (hcok : c.ok) (hcat : c.atoms ≤ 400) {W : World} (K : SKp w0 P t c at_ ac A m n A2 m2 n2 W) (gb : Nat) (hgb : gb = W.heap.size) :
    Calls Tryz.prog 54 #[.agg #[.string ⟨at_.toArray⟩, .slice A m n], .slice (some ⟨gb, 0, none⟩) 2 2] (W.alloc (.cells #[.string ⟨ac.toArray⟩, .slice A2 m2 n2, .string ⟨x.toArray⟩, .slice none 0 0] 51)) fun e w'' =>
      ∃ (a' : List UInt8) (A' : Option Addr) (m' n' : Nat), e = .returned (.agg #[.string ⟨a'.toArray⟩, .slice A' m' n']) ∧ PTr P w0 w'' (tmTr (renT (avoid t c x) t [] [] 0).1) (.agg #[.string ⟨a'.toArray⟩, .slice A' m' n']) ∧ SKp w0 P t c at_ ac A m n A2 m2 n2 w'' := by
  subst hgb
  have hz := K.br.lt
  have hP : ∀ q, P q → q < W.heap.size := fun q hq => Nat.lt_of_lt_of_le (K.all q hq) K.grown.size
  have hbk := Blk.new W 51 #[.string ⟨ac.toArray⟩, .slice A2 m2 n2, .string ⟨x.toArray⟩, .slice none 0 0]
  have h := l1Apart_any t [c, .var x] hok hat (by
      intro o ho
      simp only [List.mem_cons, List.not_mem_nil, or_false] at ho
      rcases ho with rfl | rfl
      · exact ⟨hcok, hcat⟩
      · exact ⟨hxn, by simp [Tm.atoms]⟩) (by simp) (by rw [avs_two]; exact avoid_le t c x hat hcat) W.heap.size 2 [.string ⟨ac.toArray⟩, .slice A2 m2 n2, .string ⟨x.toArray⟩, .slice none 0 0] (.agg #[.string ⟨at_.toArray⟩, .slice A m n]) (W.alloc (.cells #[.string ⟨ac.toArray⟩, .slice A2 m2 n2, .string ⟨x.toArray⟩, .slice none 0 0] 51)) P
    (K.tT.alloc hP _) (fun q hq => by have := hP q hq; simp; omega) (by simp) (fun j u hu => by rw [hbk.cell j]; simpa using hu)
    (VsAt.cons' (K.tC.alloc hP _) (VsAt.cons' (by show TAt _ _ (.mk x []) _; unfold TAt; exact ⟨_, rfl, hx, by simp, .inl ⟨rfl, rfl⟩⟩) (by unfold VsAt; rfl)))
  rw [avs_two] at h
  refine h.mono ?_
  rintro e w'' ⟨a', A', m', n', rfl, h1, h2⟩
  obtain ⟨A'', n'', c'', e⟩ := h1.shape
  simp only [Value.agg.injEq, Array.mk.injEq, List.cons.injEq] at e
  obtain ⟨rfl, -, -⟩ := e
  refine ⟨_, A', m', n', rfl, h1.mono fun b hb => ⟨hb.imp id (fun h => ⟨by have := h.1; simp at this; omega, h.2⟩), fun _ => rfl⟩, (K.new _).below h2⟩
theorem sp_call (x : List UInt8) (hok : t.ok) (hat : t.atoms ≤ 400) (hcat : c.atoms ≤ 400) {W : World} (K : SKp w0 P t c at_ ac A m n A2 m2 n2 W) {v : Value} (hT : PTr P w0 W (tmTr (renT (avoid t c x) t [] [] 0).1) v) :
    Calls Tryz.prog 142 #[v, .string ⟨x.toArray⟩, .agg #[.string ⟨ac.toArray⟩, .slice A2 m2 n2]] W fun e w'' =>
      ∃ (a' : List UInt8) (A' : Option Addr) (m' n' : Nat), e = .returned (.agg #[.string ⟨a'.toArray⟩, .slice A' m' n']) ∧ PTr P w0 w'' (tmTr (subT t x c)) (.agg #[.string ⟨a'.toArray⟩, .slice A' m' n']) ∧ SKp w0 P t c at_ ac A m n A2 m2 n2 w'' := by
  have hz := K.br.lt
  have h := l1Put_any (renT (avoid t c x) t [] [] 0).1 x c v _ W (fun b => P b ∨ (w0.heap.size + 3 ≤ b ∧ b < W.heap.size)) (apart_ok t c x hok hat hcat) hT (K.tC.mono fun b hb => ⟨.inl hb, fun _ => rfl⟩) (by
    rintro b (h | h)
    · exact Nat.lt_of_lt_of_le (K.all b h) K.grown.size
    · exact h.2)
  refine h.mono ?_
  rintro e w'' ⟨a', A', m', n', rfl, h1, h2⟩
  have hz2 := h2.size
  refine ⟨a', A', m', n', rfl, h1.mono fun b hb => ⟨?_, fun _ => rfl⟩, K.below h2⟩
  rcases hb with (h | h) | h
  · exact .inl h
  · exact .inr ⟨h.1, by omega⟩
  · exact .inr ⟨by omega, h.2⟩
end

set_option maxRecDepth 100000 in
set_option maxHeartbeats 2000000 in
theorem l1Sub_any (t c : Tm) (x : List UInt8) (hx : isNm x = true) (hok : t.ok) (hat : t.atoms ≤ 400) (hcok : c.ok) (hcat : c.atoms ≤ 400) (v vc : Value) (w : World) (P : Nat → Prop) (ht : TAt w P (tmTr t) v) (hc : TAt w P (tmTr c) vc) (hP : ∀ b, P b → b < w.heap.size) :
    Calls Tryz.prog 139 #[v, .string ⟨x.toArray⟩, vc] w (PsPost P (tmTr (subT t x c)) w) := by
  obtain ⟨A, m, n, rfl⟩ := ht.shape
  obtain ⟨A2, m2, n2, rfl⟩ := hc.shape
  generalize (tmTr t).atom = at_ at ht
  generalize (tmTr c).atom = ac at hc
  have hx8 : x.length ≤ 8000 := by
    obtain ⟨_, _, _, _, _, h⟩ := isNm_atoms x hx
    omega
  have K0 := Lib.hid (SKp.start ht hc hP)
  have CA : Hid (∀ W, SKp w P t c at_ ac A m n A2 m2 n2 W → ∀ gb, gb = W.heap.size → _) := Lib.hid (fun W K gb hgb => sa_call x hx8 hx hok hat hcok hcat K gb hgb)
  have CB : Hid (∀ W v, SKp w P t c at_ ac A m n A2 m2 n2 W → PTr P w W (tmTr (renT (avoid t c x) t [] [] 0).1) v → _) := Lib.hid (fun W v K hT => sp_call x hok hat hcat K hT)
  clear ht hP hc hx8 hx hok hat hcok hcat
  go_enter Tryz.func139, Tryz.ntmps139
  go_wp2_with fail
  have hk := K0.out
  generalize (((w.alloc (.cells #[.string ⟨at_.toArray⟩, .slice A m n] 51)).alloc (.cells #[.string ⟨ac.toArray⟩, .slice A2 m2 n2] 51)).alloc (.cells #[.string ⟨#[]⟩, .slice none 0 0] 51)) = W at hk ⊢
  have hkd := hk.drew
  go_region_held3 (fun w' => w'.cell? ⟨w.heap.size, 0, none⟩ = some (.string ⟨at_.toArray⟩) ∧ w'.cell? ⟨w.heap.size, 1, none⟩ = some (.slice A m n) ∧ w'.cell? ⟨w.heap.size + 1, 0, none⟩ = some (.string ⟨ac.toArray⟩) ∧ w'.cell? ⟨w.heap.size + 1, 1, none⟩ = some (.slice A2 m2 n2))
    (with_reducible first | exact hkd.s | exact SKp.s (by assumption) | exact SKp.s (SKp.new (by assumption) _) | exact SKp.sput (by assumption))
    (first
      | (go_at_call 54; refine (CA.out _ hkd _ rfl).mono ?_; rintro e w3 ⟨u3, A3, m3, n3, rfl, ht3, hk3⟩)
      | (go_at_call 142; (with_reducible refine (CB.out _ _ hk3 ht3).mono ?_); rintro e w5 ⟨u5, A5, m5, n5, rfl, ht5, hk5⟩; have s0 := hk5.br.cell 0; have s1 := hk5.br.cell 1; have sf0 := hk5.br.frozen 0; have sf1 := hk5.br.frozen 1; have sl := hk5.br.lt; simp only [List.getElem?_toArray, List.getElem?_cons_zero, List.getElem?_cons_succ] at s0 s1))
  all_goals
    obtain ⟨hd1, hd2, hd3⟩ := ss_done hk5 ht5
    have y0 := hd1.cell 0
    have y1 := hd1.cell 1
    simp only [List.getElem?_toArray, List.getElem?_cons_zero, List.getElem?_cons_succ] at y0 y1
    have HD2 := Lib.hid hd2
    have HD3 := Lib.hid hd3
    clear hd1 hd2 hd3 ht5 hk5
    go_wp2_with fail
    refine bodyPost_ret (v := .agg #[.string ⟨u5.toArray⟩, .slice A5 m5 n5]) (by simp [results, Tryz.results139, go_sem, y0, y1]) rfl ?_
    exact ⟨_, _, _, _, rfl, HD2.out, HD3.out⟩
end Go.Proofs.YtjcdclnaplojcaaGreatDoor

