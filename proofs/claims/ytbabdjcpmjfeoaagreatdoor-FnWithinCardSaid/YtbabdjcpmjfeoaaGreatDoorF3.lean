/- The model's free names of a function and of an application. -/
import Derived.Test.YtbabdjcpmjfeoaaGreatDoorF2
namespace Go.Proofs.YtbabdjcpmjfeoaaGreatDoor
set_option linter.unusedVariables false
open Go.RowKit

theorem below_grown {w w' : World} (h : Below w.heap.size w w') (r : Option Nat) : w.grownBy w' r := ⟨h.os, h.tape, h.output, h.size, fun k hk _ => h.block k hk⟩
theorem SRow.below {w w' : World} {base : Nat} {v : Value} {l : List (List UInt8)} (h : SRow w base v l) (hb : Below w.heap.size w w') : SRow w' base v l :=
  h.kept (below_grown hb none) (by cases v.ownBlock <;> simp)
theorem FnPost.under {res : List (List UInt8)} {base : Nat} {lv : Value} {w w1 : World} {e : Ending} {w' : World} (hB : Below w.heap.size w w1) (h : FnPost res base lv w1 e w') : FnPost res base lv w e w' := by
  obtain ⟨v', rfl, h1, h2, h3⟩ := h
  refine ⟨v', rfl, h1, (below_grown hB _).trans h2, ?_⟩
  rcases h3 with h3 | ⟨b, h3, h4⟩
  · exact .inl h3
  · exact .inr ⟨b, h3, by have := hB.size; omega⟩

set_option maxRecDepth 100000 in
theorem l1Free_lam (x : List UInt8) (d : Tm) (ih : FsSaid d) : FsSaid (.lam x d) := by
  intro bound l b1 gb cb base v lv w P hok ht hP hbd hne hl hbase hlen hlen2
  obtain ⟨g, cap, A0, A1, A2, n0, c0, n1, c1, n2, c2, rfl, hcap, h3⟩ := ht.three
  have HP : Hid (∀ q, P q → q < w.heap.size) := Lib.hid (fun q hq => (hP q hq).1)
  have HP2 := Lib.hid hP
  have IH := Lib.hid ih
  have HOK := Lib.hid hok.2
  have HBD := Lib.hid hbd
  have HL := Lib.hid hl
  have HNE := Lib.hid hne
  have HLEN : Hid (l.length + d.atoms ≤ 9000 ∧ (bound ++ [x]).length + d.atoms ≤ 9000 ∧ bound.length ≤ 9000 ∧ base ≤ w.heap.size) := Lib.hid (by
    simp only [Tm.atoms] at hlen hlen2
    simp only [List.length_append, List.length_singleton]
    omega)
  have a3 := h3.alloc HP.out (.cells #[.string ⟨#[]⟩, .slice (some ⟨g, 0, none⟩) 3 cap] 63)
  clear ih hP ht hok hbd hl hne hlen hlen2 hbase
  go_enter Tryz.func55, Tryz.ntmps55
  go_wp2_with fail
  refine (l1Head3 _ P g cap (.mk sLam []) (.mk x []) (tmTr d) A0 A1 A2 n0 c0 n1 c1 n2 c2 a3 (fun b hb => by have := HP.out b hb; simp; omega)).mono ?_
  rintro e w1 ⟨rfl, hb1⟩
  have hB1 : Below w.heap.size w w1 := ((Below.refl _ _).alloc (Nat.le_refl _) _).trans (hb1.mono (by simp))
  have b3 := a3.below hb1 (fun b hb => by have := HP.out b hb; simp; omega)
  have hr := (Blk.new w 63 #[.string ⟨#[]⟩, .slice (some ⟨g, 0, none⟩) 3 cap]).below hb1 (by simp)
  have hlt := hr.lt
  have hk : CKeep P g cap w.heap.size (.mk sLam []) (.mk x []) (tmTr d) A0 A1 A2 n0 c0 n1 c1 n2 c2 w1 := ⟨hr, b3, fun q hq => by have := HP.out q hq; omega⟩
  have hbox : some w.heap.size ≠ lv.ownBlock := by
    intro e
    have := (HL.out.lt _ e.symm).2
    omega
  have C1 : Hid (Calls Tryz.prog 83 #[.slice (some ⟨gb, 0, none⟩) bound.length cb, .string ⟨x.toArray⟩] w1.drew (LwPost (bound ++ [x]) w1.drew)) :=
    Lib.hid (l1With_any bound x b1 gb cb w1.drew (HBD.out.below hB1).drew HLEN.out.2.2.1)
  have C2 : Hid (∀ g' c' w2, SRow w2 w1.heap.size (.slice (some ⟨g', 0, none⟩) (bound ++ [x]).length c') (bound ++ [x]) → Below w1.heap.size w1.drew w2 →
      Calls Tryz.prog 55 #[.agg #[.string ⟨(tmTr d).atom.toArray⟩, .slice A2 n2 c2], .slice (some ⟨g', 0, none⟩) (bound.length + 1) c', lv] w2 fun e w3 => FnPost (freeS bound (.lam x d) l) base lv w e w3 ∧ CKeep P g cap w.heap.size (.mk sLam []) (.mk x []) (tmTr d) A0 A1 A2 n0 c0 n1 c1 n2 c2 w3) :=
    Lib.hid (fun g' c' w2 h1 h2 => by
      have hB2 : Below w.heap.size w w2 := hB1.drew.trans (h2.mono (by omega))
      have hk2 := hk.drew.far (below_grown h2 none) (by simp) (by simp)
      have hs : freeS bound (.lam x d) l = freeS (bound ++ [x]) d l := rfl
      have hle : bound.length + 1 = (bound ++ [x]).length := by simp
      rw [hs, hle]
      refine (IH.out (bound ++ [x]) l w1.heap.size g' c' base _ lv w2 P HOK.out hk2.three.t2 (fun q hq => ⟨hk2.all q hq, (HP2.out q hq).2⟩) h1 ?_ (HL.out.below hB2) (by have := hB2.size; have := HLEN.out.2.2.2; omega) HLEN.out.1 HLEN.out.2.1).mono fun e w3 h => ⟨h.under hB2, by
        obtain ⟨v2, rfl, g1, g2, g3⟩ := h
        exact hk2.far g2 hbox (fun q hq => (HP2.out q hq).2)⟩
      intro e
      have := (HL.out.lt _ e).2
      have := (h1.lt g' rfl).1
      omega)
  have hl : (sLam == [108, 97, 109]) = true := rfl
  simp only [Tr.atom]
  go_wp2_with fail
  go_region_held3 (fun w' => w'.cell? ⟨w.heap.size, 1, none⟩ = some (.slice (some ⟨g, 0, none⟩) 3 cap) ∧ w'.cell? ⟨g, 2, none⟩ = some (.string ⟨x.toArray⟩) ∧ w'.cell? ⟨g, 3, none⟩ = some (.slice A1 n1 c1) ∧
      w'.cell? ⟨g, 4, none⟩ = some (.string ⟨(tmTr d).atom.toArray⟩) ∧ w'.cell? ⟨g, 5, none⟩ = some (.slice A2 n2 c2) ∧ CKeep P g cap w.heap.size (.mk sLam []) (.mk x []) (tmTr d) A0 A1 A2 n0 c0 n1 c1 n2 c2 w')
    (first | exact hk.drew.s | exact CKeep.s (by assumption) | exact (CKeep.drew (by assumption)).s)
    (first
      | (go_at_call 83; (with_reducible refine C1.out.mono ?_); rintro e w2 ⟨g', c', rfl, h1, h2⟩; have hk2 := hk.drew.far (below_grown h2 none) (by simp) (by simp); have HH := Lib.hid (C2.out g' c' w2 h1 h2); clear h1 h2)
      | (go_at_call 55; (with_reducible refine HH.out.mono ?_); rintro e w3 ⟨⟨v2, rfl, g1, g2, g3⟩, hk3⟩; have HE : Hid (FnPost (freeS bound (.lam x d) l) base lv w (.returned v2) w3) := Lib.hid ⟨v2, rfl, g1, g2, g3⟩; clear g1 g2 g3))
  all_goals
    go_wp2
    go_ret
    exact HE.out

set_option maxRecDepth 100000 in
theorem l1Free_app (f a : Tm) (ihf : FsSaid f) (iha : FsSaid a) : FsSaid (.app f a) := by
  intro bound l b1 gb cb base v lv w P hok ht hP hbd hne hl hbase hlen hlen2
  obtain ⟨g, cap, A0, A1, A2, n0, c0, n1, c1, n2, c2, rfl, hcap, h3⟩ := ht.three
  have HP : Hid (∀ q, P q → q < w.heap.size) := Lib.hid (fun q hq => (hP q hq).1)
  have HP2 := Lib.hid hP
  have IHF := Lib.hid ihf
  have IHA := Lib.hid iha
  have HOK := Lib.hid hok
  have HBD := Lib.hid hbd
  have HL := Lib.hid hl
  have HNE := Lib.hid hne
  have HLEN : Hid (l.length + f.atoms ≤ 9000 ∧ bound.length + f.atoms ≤ 9000 ∧ (freeS bound f l).length + a.atoms ≤ 9000 ∧ bound.length + a.atoms ≤ 9000 ∧ base ≤ w.heap.size) := Lib.hid (by
    have := freeS_length f bound l
    simp only [Tm.atoms] at hlen hlen2
    omega)
  have a3 := h3.alloc HP.out (.cells #[.string ⟨#[]⟩, .slice (some ⟨g, 0, none⟩) 3 cap] 63)
  clear ihf iha hP ht hok hbd hl hne hlen hlen2 hbase
  go_enter Tryz.func55, Tryz.ntmps55
  go_wp2_with fail
  refine (l1Head3 _ P g cap (.mk sApp []) (tmTr f) (tmTr a) A0 A1 A2 n0 c0 n1 c1 n2 c2 a3 (fun b hb => by have := HP.out b hb; simp; omega)).mono ?_
  rintro e w1 ⟨rfl, hb1⟩
  have hB1 : Below w.heap.size w w1 := ((Below.refl _ _).alloc (Nat.le_refl _) _).trans (hb1.mono (by simp))
  have b3 := a3.below hb1 (fun b hb => by have := HP.out b hb; simp; omega)
  have hr := (Blk.new w 63 #[.string ⟨#[]⟩, .slice (some ⟨g, 0, none⟩) 3 cap]).below hb1 (by simp)
  have hlt := hr.lt
  have hk : CKeep P g cap w.heap.size (.mk sApp []) (tmTr f) (tmTr a) A0 A1 A2 n0 c0 n1 c1 n2 c2 w1 := ⟨hr, b3, fun q hq => by have := HP.out q hq; omega⟩
  have hbox : some w.heap.size ≠ lv.ownBlock := by
    intro e
    have := (HL.out.lt _ e.symm).2
    omega
  have C1 : Hid (Calls Tryz.prog 55 #[.agg #[.string ⟨(tmTr f).atom.toArray⟩, .slice A1 n1 c1], .slice (some ⟨gb, 0, none⟩) bound.length cb, lv] w1.drew (FnPost (freeS bound f l) base lv w1.drew)) :=
    Lib.hid (IHF.out bound l b1 gb cb base _ lv w1.drew P HOK.out.1 hk.drew.three.t1 (fun q hq => ⟨hk.drew.all q hq, (HP2.out q hq).2⟩) (HBD.out.below hB1).drew HNE.out (HL.out.below hB1).drew (by have := hB1.size; have := HLEN.out.2.2.2.2; simp; omega) HLEN.out.1 HLEN.out.2.1)
  have C2 : Hid (∀ v' w2, SRow w2 base v' (freeS bound f l) → w1.drew.grownBy w2 lv.ownBlock → (v'.ownBlock = lv.ownBlock ∨ ∃ b, v'.ownBlock = some b ∧ w1.drew.heap.size ≤ b) →
      Calls Tryz.prog 55 #[.agg #[.string ⟨(tmTr a).atom.toArray⟩, .slice A2 n2 c2], .slice (some ⟨gb, 0, none⟩) bound.length cb, v'] w2 fun e w3 => FnPost (freeS bound (.app f a) l) base lv w e w3 ∧ CKeep P g cap w.heap.size (.mk sApp []) (tmTr f) (tmTr a) A0 A1 A2 n0 c0 n1 c1 n2 c2 w3) :=
    Lib.hid (fun v' w2 h1 h2 h3 => by
      have hk2 := hk.drew.far h2 hbox (fun q hq => (HP2.out q hq).2)
      have hz2 : w1.heap.size ≤ w2.heap.size := h2.size
      have hzb := (HBD.out.lt gb rfl).2
      have hG2 : w.grownBy w2 lv.ownBlock := (below_grown hB1.drew _).trans h2
      have hbd2 : SRow w2 b1 (.slice (some ⟨gb, 0, none⟩) bound.length cb) bound := (HBD.out.below hB1).drew.kept h2 (.inr fun e => HNE.out e.symm)
      have h3' : v'.ownBlock = lv.ownBlock ∨ ∃ b, v'.ownBlock = some b ∧ w.heap.size ≤ b := by
        rcases h3 with h3 | ⟨b, h3, h4⟩
        · exact .inl h3
        · exact .inr ⟨b, h3, by have h4' : w1.heap.size ≤ b := h4; omega⟩
      refine (IHA.out bound (freeS bound f l) b1 gb cb base _ v' w2 P HOK.out.2 hk2.three.t2 ?_ hbd2 ?_ h1 (by have := hB1.size; have := HLEN.out.2.2.2.2; omega) HLEN.out.2.2.1 HLEN.out.2.2.2.1).mono fun e w3 hh => ?_
      · intro q hq
        refine ⟨hk2.all q hq, ?_⟩
        rcases h3' with h3 | ⟨q', h3, h4⟩
        · rw [h3]; exact (HP2.out q hq).2
        · rw [h3]; intro e; injection e with e; have := HP.out q hq; omega
      · rcases h3' with h3 | ⟨q', h3, h4⟩
        · rw [h3]; exact HNE.out
        · rw [h3]; intro e; injection e with e; omega
      · obtain ⟨v2, rfl, g1, g2, g3⟩ := hh
        have hk3 := hk2.far g2 (by
          rcases h3 with h3 | ⟨b, h3, h4⟩
          · rw [h3]; exact hbox
          · rw [h3]; have h4' : w1.heap.size ≤ b := h4; intro e; injection e with e; omega) (fun q hq => by
          rcases h3' with h3 | ⟨q', h3, h4⟩
          · rw [h3]; exact (HP2.out q hq).2
          · rw [h3]; intro e; injection e with e; have := HP.out q hq; omega)
        refine ⟨⟨v2, rfl, g1, grown_two hG2 g2 h3', ?_⟩, hk3⟩
        rcases g3 with g3 | ⟨q, g3, g4⟩
        · rw [g3]; exact h3'
        · exact .inr ⟨q, g3, by omega⟩)
  have hl : (sApp == [108, 97, 109]) = false := rfl
  simp only [Tr.atom]
  go_wp2_with fail
  go_region_held3 (fun w' => w'.cell? ⟨w.heap.size, 1, none⟩ = some (.slice (some ⟨g, 0, none⟩) 3 cap) ∧ w'.cell? ⟨g, 2, none⟩ = some (.string ⟨(tmTr f).atom.toArray⟩) ∧ w'.cell? ⟨g, 3, none⟩ = some (.slice A1 n1 c1) ∧
      w'.cell? ⟨g, 4, none⟩ = some (.string ⟨(tmTr a).atom.toArray⟩) ∧ w'.cell? ⟨g, 5, none⟩ = some (.slice A2 n2 c2) ∧ CKeep P g cap w.heap.size (.mk sApp []) (tmTr f) (tmTr a) A0 A1 A2 n0 c0 n1 c1 n2 c2 w')
    (first | exact hk.drew.s | exact CKeep.s (by assumption) | exact (CKeep.drew (by assumption)).s)
    (first
      | (go_at_call 55; (with_reducible refine C1.out.mono ?_); rintro e w2 ⟨v', rfl, h1, h2, h3⟩; have hk2 := hk.drew.far h2 hbox (fun q hq => (HP2.out q hq).2); have HH := Lib.hid (C2.out v' w2 h1 h2 h3); clear h1 h2 h3)
      | (go_at_call 55; (with_reducible refine HH.out.mono ?_); rintro e w3 ⟨⟨v2, rfl, g1, g2, g3⟩, hk3⟩; have HE : Hid (FnPost (freeS bound (.app f a) l) base lv w (.returned v2) w3) := Lib.hid ⟨v2, rfl, g1, g2, g3⟩; clear g1 g2 g3))
  all_goals
    go_wp2
    go_ret
    exact HE.out

theorem l1Free_any (t : Tm) : FsSaid t := by
  induction t with
  | var x => exact l1Free_var x
  | lam x d ih => exact l1Free_lam x d ih
  | app f a ihf iha => exact l1Free_app f a ihf iha
end Go.Proofs.YtbabdjcpmjfeoaaGreatDoor
