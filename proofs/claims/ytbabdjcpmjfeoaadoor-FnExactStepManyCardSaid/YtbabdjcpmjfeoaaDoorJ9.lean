/- The program counts the atoms of a term. The program's canonical term. The program's canonical term, and its text. TermAlike of the model and of the program. What putting answers. The program puts a term for a name. TermPut of the model and of the program. -/
import Derived.Test.YtbabdjcpmjfeoaaDoorC3
import Derived.Test.YtbabdjcpmjfeoaaDoorL
import Derived.Test.YtbabdjcpmjfeoaaDoorT0
import Derived.Test.YtbabdjcpmjfeoaaDoorJ8
import Derived.Test.YtbabdjcpmjfeoaaDoorJ5
import Derived.Test.YtbabdjcpmjfeoaaDoorQ
import Derived.Test.YtbabdjcpmjfeoaaDoorWC
import Derived.Test.YtbabdjcpmjfeoaaDoorC2
namespace Go.Proofs.YtbabdjcpmjfeoaaDoor
set_option linter.unusedVariables false
open Go.RowKit

theorem dbAtoms_any : ∀ (t : DB) (v : Value) (w : World) (P : Nat → Prop), DAt w P t v → t.atoms ≤ 100000000 →
    Calls Tryd.prog 47 #[v] w fun e w' => e = .returned (.int .i64 t.atoms) ∧ ∃ n, w' = w.drewN n := by
  intro t
  induction t with
  | free x =>
    rintro v w P ⟨b, rfl, hP, hl, hb⟩ hsz
    have k0 := hb.cell 0
    simp at k0
    clear hb
    go_enter Tryd.func47, Tryd.ntmps47
    go_wp2
    go_ret
    exact ⟨rfl, 0, rfl⟩
  | bnd i =>
    rintro v w P ⟨b, rfl, hP, hb⟩ hsz
    have k0 := hb.cell 0
    simp at k0
    clear hb
    go_enter Tryd.func47, Tryd.ntmps47
    go_wp2
    go_ret
    exact ⟨rfl, 0, rfl⟩
  | lam x d ih =>
    rintro v w P ⟨b, c, rfl, hP, hl, hb, hd⟩ hsz
    have k0 := hb.cell 0
    have k3 := hb.cell 3
    simp at k0 k3
    have HD := Lib.hid hd
    have IH := Lib.hid ih
    have hsz' : d.atoms + 2 ≤ 100000000 := by simp only [DB.atoms] at hsz; omega
    clear hb hd ih hsz
    go_enter Tryd.func47, Tryd.ntmps47
    go_wp2_with fail
    refine (IH.out _ _ P HD.out (by omega)).mono ?_
    rintro e w1 ⟨rfl, n, rfl⟩
    go_wp2_with fail
    go_ret
    exact ⟨ret_int (by simp only [DB.atoms]; omega), n, rfl⟩
  | app f a ihf iha =>
    rintro v w P ⟨b, c, d, rfl, hP, hb, hf, ha⟩ hsz
    have k0 := hb.cell 0
    have k3 := hb.cell 3
    have k4 := hb.cell 4
    simp at k0 k3 k4
    have IHF : Hid (∀ n, Calls Tryd.prog 47 #[.pointer (some ⟨c, 0, none⟩)] (w.drewN n) fun e w' => e = .returned (.int .i64 f.atoms) ∧ ∃ m, w' = w.drewN m) :=
      Lib.hid (fun n => (ihf _ (w.drewN n) P (hf.drewN n) (by simp only [DB.atoms] at hsz; omega)).mono fun _ _ ⟨he, m, hm⟩ => ⟨he, n + m, by rw [hm, World.drewN_drewN]⟩)
    have IHA : Hid (∀ n, Calls Tryd.prog 47 #[.pointer (some ⟨d, 0, none⟩)] (w.drewN n) fun e w' => e = .returned (.int .i64 a.atoms) ∧ ∃ m, w' = w.drewN m) :=
      Lib.hid (fun n => (iha _ (w.drewN n) P (ha.drewN n) (by simp only [DB.atoms] at hsz; omega)).mono fun _ _ ⟨he, m, hm⟩ => ⟨he, n + m, by rw [hm, World.drewN_drewN]⟩)
    have hsz' : f.atoms + a.atoms + 1 ≤ 100000000 := by simp only [DB.atoms] at hsz; omega
    clear hb hf ha ihf iha hsz
    go_enter Tryd.func47, Tryd.ntmps47
    go_wp2
    go_quiet ((first
      | (go_at_call 47; with_reducible exact IHF.out _)
      | (go_at_call 47; with_reducible exact IHA.out _)))
    go_wp2
    go_ret
    refine ⟨ret_int ?_, _, rfl⟩
    simp only [DB.atoms]
    omega

theorem dsize_atoms (d : DB) : d.size ≤ d.atoms := by
  induction d with
  | free x => simp [DB.size, DB.atoms]
  | bnd i => simp [DB.size, DB.atoms]
  | lam x b ih => simp only [DB.size, DB.atoms]; omega
  | app f a ihf iha => simp only [DB.size, DB.atoms]; omega
theorem freeD_length (d : DB) : ∀ l : List (List UInt8), (freeD d l).length ≤ l.length + d.atoms := by
  induction d with
  | free x => intro l; simp only [freeD, DB.atoms]; split <;> simp
  | bnd i => intro l; simp [freeD, DB.atoms]
  | lam x b ih => intro l; have := ih l; simp only [freeD, DB.atoms]; omega
  | app f a ihf iha => intro l; have h1 := ihf l; have h2 := iha (freeD f l); simp only [freeD, DB.atoms]; omega

end Go.Proofs.YtbabdjcpmjfeoaaDoor

namespace Go.Proofs.YtbabdjcpmjfeoaaDoor
set_option linter.unusedVariables false
open Go.RowKit

/-- The canonical term. -/
theorem canonical_any (d : DB) (v : Value) (w : World) (hd : DTm w d v) (ht : Tab w) (hat : d.atoms ≤ 400) :
    Calls Tryd.prog 48 #[v] w fun e w' => ∃ b, e = .returned (.pointer (some ⟨b, 0, none⟩)) ∧ DTm w' (canD d) (.pointer (some ⟨b, 0, none⟩)) ∧ Below w.heap.size w w' := by
  obtain ⟨b0, rfl, _⟩ := hd.shape
  have hfl := freeD_length d []
  have hsa := dsize_atoms d
  have HD := Lib.hid hd
  have HT := Lib.hid ht
  simp at hfl
  have htl := ht.lt
  clear hd ht
  go_enter Tryd.func48, Tryd.ntmps48
  go_wp2_with fail
  refine (freeNames_any d [] w.heap.size _ (.slice none 0 0) _ _ HD.out.low (fun q hq => ⟨hq, by simp [Value.ownBlock]⟩) (World.ownsRow_nil _ _ _ _) (Nat.le_refl _) (by omega) (by simp)).mono ?_
  rintro e w1 ⟨fv, rfl, h1, h2, h3⟩
  obtain ⟨A, c, rfl⟩ := own_shape h1
  have HF := Lib.hid (h1.alloc (.cells #[.slice A (freeD d []).length c, .int .i64 0] 107))
  have hb1 : Below w.heap.size w w1 := (Below.refl _ _).grown h2 (Nat.le_refl _) (fun k e => by simp [Value.ownBlock] at e)
  have HB1 := Lib.hid hb1
  have hz1 := hb1.size
  have HD1 := Lib.hid (HD.out.keep fun q cs hk => (hk.below hb1 hk.lt).alloc (.cells #[.slice A (freeD d []).length c, .int .i64 0] 107))
  have HT1 := Lib.hid ((HT.out.below hb1).below ((Below.refl _ _).alloc (Nat.le_refl _) (.cells #[.slice A (freeD d []).length c, .int .i64 0] 107)))
  have HN1 := Lib.hid (Blk.new w1 107 #[.slice A (freeD d []).length c, .int .i64 0])
  clear h1 h2 h3 hb1
  go_wp2_with fail
  refine (rename_any d _ (freeD d []) 0 w1.heap.size w.heap.size _ _ HD1.out HN1.out HF.out HT1.out (by omega) (by omega) (by omega)).mono ?_
  rintro e w2 ⟨b2, rfl, hd2, hg2, hn2⟩
  have HD2 := Lib.hid hd2
  have HG2 := Lib.hid hg2
  clear hd2 hg2 hn2
  go_wp2_with fail
  go_ret
  exact ⟨b2, rfl, HD2.out, (HB1.out.alloc hz1 _).grown HG2.out (by simp; omega) (fun k e => by injection e with e; omega)⟩
/-- The text of a term that bears no names but free ones. -/
theorem textNil_any (t : Tm) (hok : t.ok) (hat : t.atoms ≤ 400) (d : DB) (hd : d = toDB [] t) (v : Value) (w : World) (h : DTm w d v) :
    Calls Tryd.prog 34 #[v, .slice none 0 0] w fun e w' => e = .returned (.string ⟨(wrTm t).toArray⟩) ∧ Below w.heap.size w w' := by
  subst hd
  have hs := size_atoms t
  have hl := wrTm_short t hok
  have hh := text_any (toDB [] t) v w _ (.slice none 0 0) [] h (World.ownsRow_nil _ _ _ _) (toDB_cl t []) (by rw [toDB_size]; simp; omega) (by rw [wrD_toDB]; omega)
  rw [wrD_toDB] at hh
  exact hh.mono fun e w' ⟨h1, h2, _, _⟩ => ⟨h1, (Below.refl _ _).grown h2 (Nat.le_refl _) (fun k e => by simp [Value.ownBlock] at e)⟩

end Go.Proofs.YtbabdjcpmjfeoaaDoor

namespace Go.Proofs.YtbabdjcpmjfeoaaDoor
set_option linter.unusedVariables false
open Go.RowKit

theorem canonText_any (d : DB) (t : Tm) (hbare : d.bare = (toDB [] t).bare) (hok : t.atoms ≤ 400 → t.ok) (hat : t.atoms ≤ 1000000) (v : Value) (w : World) (hd : DTm w d v) (ht : Tab w) :
    Calls Tryd.prog 25 #[v] w (CtPost (canO t) w) := by
  obtain ⟨b0, rfl, _⟩ := hd.shape
  have hda : d.atoms = t.atoms := by rw [atoms_congr hbare, atoms_toDB]
  have HDA := Lib.hid hda
  have HD := Lib.hid hd
  have HT := Lib.hid ht
  have hz0 : d.atoms ≤ 100000000 := by omega
  clear hd ht hda
  go_enter Tryd.func25, Tryd.ntmps25
  go_wp2_with fail
  refine (dbAtoms_any d _ _ _ HD.out hz0).mono ?_
  rintro e w1 ⟨rfl, n, rfl⟩
  by_cases h4 : d.atoms ≤ 400
  · have h4t : t.atoms ≤ 400 := by rw [← HDA.out]; exact h4
    have hcan : canD d = toDB [] (canT t) := by rw [toDB_canT]; exact canD_congr hbare
    have HCN := Lib.hid hcan
    have HCO := Lib.hid (show canO t = some (canT t) by unfold canO; rw [if_pos h4t])
    have HOK := Lib.hid (canT_ok t (hok h4t) h4t)
    have HAT := Lib.hid (show (canT t).atoms ≤ 400 by rw [canT_atoms]; exact h4t)
    clear hcan
    go_wp2_with fail
    refine (canonical_any d _ _ (HD.out.drewN n) (HT.out.kept rfl) h4).mono ?_
    rintro e w2 ⟨b2, rfl, hd2, hb2⟩
    have HD2 := Lib.hid hd2
    have HB2 : Hid (Below w.heap.size w w2) := Lib.hid ((below_drewN' (Below.refl _ w) n).trans hb2)
    have hz2 := hb2.size
    clear hd2 hb2
    go_wp2_with fail
    refine (textNil_any (canT t) HOK.out HAT.out _ HCN.out _ _ HD2.out).mono ?_
    rintro e w3 ⟨rfl, hb3⟩
    have HB3 := Lib.hid hb3
    clear hb3
    go_wp2_with fail
    go_ret2
    refine ⟨by rw [HCO.out]; rfl, HB2.out.trans (HB3.out.mono ?_)⟩
    exact hz2
  · have HCO := Lib.hid (show canO t = none by unfold canO; rw [if_neg (by rw [← HDA.out]; exact h4)])
    go_wp2
    go_ret2
    exact ⟨by rw [HCO.out]; rfl, below_drewN' (Below.refl _ w) n⟩

theorem implTermCanon_any (s : ByteArray) (w : World) (hm : s.size ≤ maxLen) (ht : Tab w) :
    Calls Tryd.prog 10 #[.string s] w (CtPost (cnO (rdTerm s.data.toList)) w) := by
  have HT := Lib.hid ht
  clear ht
  go_enter Tryd.func10, Tryd.ntmps10
  go_wp2_with fail
  refine (readTerm_any s _ hm).mono ?_
  rintro e w1 ⟨hb1, ⟨t, v, hrd, rfl, hd⟩ | ⟨hrd, rfl⟩⟩
  · obtain ⟨d, rfl, _⟩ := hd.shape
    obtain ⟨hok, hat⟩ := rdTerm_good _ _ hrd
    have HR := Lib.hid hrd
    have HD := Lib.hid hd.tm
    have HK := Lib.hid hok
    have HB1 := Lib.hid hb1
    have HT1 := Lib.hid (HT.out.below hb1)
    have hz1 := hb1.size
    have HCO := Lib.hid (show canO t = some (canT t) by unfold canO; rw [if_pos hat])
    clear hrd hd hok hb1
    go_wp2_with fail
    refine (canonText_any (toDB [] t) t rfl (fun _ => HK.out) (by omega) _ _ HD.out HT1.out).mono ?_
    rintro e w2 ⟨rfl, hb2⟩
    have HB2 := Lib.hid hb2
    clear hb2
    rw [HCO.out]
    go_wp2_with fail
    go_ret2
    exact ⟨by rw [HR.out]; rfl, HB1.out.trans (HB2.out.mono hz1)⟩
  · have HR := Lib.hid hrd
    clear hrd
    go_wp2
    go_ret2
    exact ⟨by rw [HR.out]; rfl, hb1⟩
end Go.Proofs.YtbabdjcpmjfeoaaDoor

namespace Go.Proofs.YtbabdjcpmjfeoaaDoor
set_option linter.unusedVariables false
open Go.RowKit

/-- Both were read, and have one canonical text. -/
def alk (o1 o2 : Option Tm) : Bool := o1.isSome && o2.isSome && (ctS o1 == ctS o2)

theorem specTermAlike_any (s1 s2 : ByteArray) (w : World) (hm1 : s1.size ≤ maxLen) (hm2 : s2.size ≤ maxLen) :
    Calls Tryd.prog 11 #[.string s1, .string s2] w fun e w' => e = .returned (.bool (alk (cnO (rdTerm s1.data.toList)) (cnO (rdTerm s2.data.toList)))) ∧ Below w.heap.size w w' := by
  have C1 := Lib.hid (fun w => specTermCanon_any s1 w hm1)
  have C2 := Lib.hid (fun w => specTermCanon_any s2 w hm2)
  skip
  skip
  unfold CtPost at C1 C2
  unfold alk
  generalize ctS (cnO (rdTerm s1.data.toList)) = n1 at C1 ⊢
  generalize ctS (cnO (rdTerm s2.data.toList)) = n2 at C2 ⊢
  generalize (cnO (rdTerm s1.data.toList)).isSome = o1 at C1 ⊢
  generalize (cnO (rdTerm s2.data.toList)).isSome = o2 at C2 ⊢
  have hc : (n1 == n2) = true ∨ (n1 == n2) = false := by cases (n1 == n2) <;> simp
  cases o1 <;> cases o2 <;> rcases hc with hc | hc
  all_goals
    go_enter Tryd.func11, Tryd.ntmps11
    go_wp2_with fail
    refine (C1.out _).mono ?_
    rintro e w1 ⟨rfl, hb1⟩
    go_wp2_with fail
    refine (C2.out _).mono ?_
    rintro e w2 ⟨rfl, hb2⟩
    have hz1 := hb1.size
    have HB := Lib.hid (hb1.trans (hb2.mono hz1))
    clear hb1 hb2
    go_wp2_with fail
    go_ret
    exact ⟨by simp [hc], HB.out⟩

theorem implTermAlike_any (s1 s2 : ByteArray) (w : World) (hm1 : s1.size ≤ maxLen) (hm2 : s2.size ≤ maxLen) (ht : Tab w) :
    Calls Tryd.prog 12 #[.string s1, .string s2] w fun e w' => e = .returned (.bool (alk (cnO (rdTerm s1.data.toList)) (cnO (rdTerm s2.data.toList)))) ∧ Below w.heap.size w w' := by
  have C1 := Lib.hid (fun w (ht : Tab w) => implTermCanon_any s1 w hm1 ht)
  have C2 := Lib.hid (fun w (ht : Tab w) => implTermCanon_any s2 w hm2 ht)
  have HT := Lib.hid ht
  clear ht
  unfold CtPost at C1 C2
  unfold alk
  generalize ctS (cnO (rdTerm s1.data.toList)) = n1 at C1 ⊢
  generalize ctS (cnO (rdTerm s2.data.toList)) = n2 at C2 ⊢
  generalize (cnO (rdTerm s1.data.toList)).isSome = o1 at C1 ⊢
  generalize (cnO (rdTerm s2.data.toList)).isSome = o2 at C2 ⊢
  have hc : (n1 == n2) = true ∨ (n1 == n2) = false := by cases (n1 == n2) <;> simp
  cases o1 <;> cases o2 <;> rcases hc with hc | hc
  all_goals
    go_enter Tryd.func12, Tryd.ntmps12
    go_wp2_with fail
    refine (C1.out _ HT.out).mono ?_
    rintro e w1 ⟨rfl, hb1⟩
    go_wp2_with fail
    refine (C2.out _ (HT.out.below hb1)).mono ?_
    rintro e w2 ⟨rfl, hb2⟩
    have hz1 := hb1.size
    have HB := Lib.hid (hb1.trans (hb2.mono hz1))
    clear hb1 hb2
    go_wp2_with fail
    go_ret
    exact ⟨by simp [hc], HB.out⟩
end Go.Proofs.YtbabdjcpmjfeoaaDoor

namespace Go.Proofs.YtbabdjcpmjfeoaaDoor
set_option linter.unusedVariables false
open Go.RowKit

def PutPost (d : DB) (w : World) (e : Ending) (w' : World) : Prop :=
  ∃ b, e = .returned (.pointer (some ⟨b, 0, none⟩)) ∧ DTm w' d (.pointer (some ⟨b, 0, none⟩)) ∧ Below w.heap.size w w'
theorem lamS {w : World} {b q : Nat} {y : List UInt8} (h : Blk w b 75 #[.int .i64 2, .string ⟨y.toArray⟩, .int .i64 0, .pointer (some ⟨q, 0, none⟩), .pointer none]) :
    w.cell? ⟨b, 1, none⟩ = some (.string ⟨y.toArray⟩) ∧ w.cell? ⟨b, 3, none⟩ = some (.pointer (some ⟨q, 0, none⟩)) := by
  have h1 := h.cell 1
  have h3 := h.cell 3
  simp at h1 h3
  exact ⟨h1, h3⟩
theorem appS {w : World} {b q r : Nat} (h : Blk w b 75 #[.int .i64 3, .string ⟨#[]⟩, .int .i64 0, .pointer (some ⟨q, 0, none⟩), .pointer (some ⟨r, 0, none⟩)]) :
    w.cell? ⟨b, 3, none⟩ = some (.pointer (some ⟨q, 0, none⟩)) ∧ w.cell? ⟨b, 4, none⟩ = some (.pointer (some ⟨r, 0, none⟩)) := by
  have h1 := h.cell 3
  have h3 := h.cell 4
  simp at h1 h3
  exact ⟨h1, h3⟩

theorem below_undrew {B : Nat} {w w' : World} (h : Below B w.drew w') : Below B w w' := (Below.refl B w).drew.trans h
end Go.Proofs.YtbabdjcpmjfeoaaDoor

namespace Go.Proofs.YtbabdjcpmjfeoaaDoor
set_option linter.unusedVariables false
open Go.RowKit

def PutSaid (d : DB) : Prop := ∀ (x : List UInt8) (c : DB) (v vc : Value) (w : World), DTm w d v → DTm w c vc →
  Calls Tryd.prog 29 #[v, .string ⟨x.toArray⟩, vc] w (PutPost (putD x c d) w)

theorem put_free (y : List UInt8) : PutSaid (.free y) := by
  rintro x c v vc w hd hc
  obtain ⟨b, rfl, _, hx, hb⟩ := id hd
  obtain ⟨b2, rfl, _⟩ := hc.shape
  have k0 := hb.cell 0
  have k1 := hb.cell 1
  simp at k0 k1
  have HD := Lib.hid hd
  have HC := Lib.hid hc
  clear hd hc hb
  have hq : (y == x) = true ∨ (y == x) = false := by cases (y == x) <;> simp
  rcases hq with hq | hq
  · have HE : Hid (putD x c (.free y) = c) := Lib.hid (by simp [putD, beq_iff_eq.1 hq])
    go_enter Tryd.func29, Tryd.ntmps29
    go_wp2
    go_ret
    exact ⟨_, rfl, by rw [HE.out]; exact HC.out, Below.refl _ _⟩
  · have HE : Hid (putD x c (.free y) = .free y) := Lib.hid (by simp [putD, beq_eq_false_iff_ne.1 hq])
    go_enter Tryd.func29, Tryd.ntmps29
    go_wp2
    go_ret
    exact ⟨_, rfl, by rw [HE.out]; exact HD.out, Below.refl _ _⟩
theorem put_bnd (i : Nat) : PutSaid (.bnd i) := by
  rintro x c v vc w hd hc
  obtain ⟨b, rfl, _, hb⟩ := id hd
  have k0 := hb.cell 0
  simp at k0
  have HD := Lib.hid hd
  clear hd hc hb
  go_enter Tryd.func29, Tryd.ntmps29
  go_wp2
  go_ret
  exact ⟨_, rfl, HD.out, Below.refl _ _⟩

set_option maxRecDepth 100000 in
set_option maxHeartbeats 1000000 in
theorem put_lam (y : List UInt8) (d : DB) (ih : PutSaid d) : PutSaid (.lam y d) := by
  rintro x c v vc w hd hc
  obtain ⟨b, q, rfl, _, hx, hb, he⟩ := id hd
  have k0 := hb.cell 0
  simp at k0
  have C1 := Lib.hid (ih x c _ vc w.drew (he.drewN 1) (hc.drewN 1))
  have HX := Lib.hid hx
  have hbd := hb.drew
  clear hd hc hb he ih hx
  go_enter Tryd.func29, Tryd.ntmps29
  go_wp2
  go_region_held3 (fun w' => w'.cell? ⟨b, 1, none⟩ = some (.string ⟨y.toArray⟩) ∧ w'.cell? ⟨b, 3, none⟩ = some (.pointer (some ⟨q, 0, none⟩)))
    (with_reducible first | exact lamS hbd | exact lamS (by assumption) | exact lamS (Blk.alloc (by assumption) _))
    (first
      | (go_at_call 29; (with_reducible refine C1.out.mono ?_); rintro e w1 ⟨b1, rfl, hd1, hb1⟩; have hk1 := hbd.below hb1 hbd.lt; have HD1 := Lib.hid hd1; have HB1 := Lib.hid hb1; clear hd1 hb1)
      | (go_at_call 52; (with_reducible refine (newLam_any y b1 _).mono ?_); rintro e w2 ⟨rfl, rfl⟩))
  all_goals
    go_wp2
    go_ret
    exact ⟨w1.heap.size, rfl, ⟨w1.heap.size, b1, rfl, trivial, HX.out, Blk.new _ _ _, HD1.out.keep fun q cs hk => hk.alloc _⟩, (below_undrew HB1.out).alloc HB1.out.size _⟩

set_option maxRecDepth 100000 in
set_option maxHeartbeats 1000000 in
theorem put_app (f a : DB) (ihf : PutSaid f) (iha : PutSaid a) : PutSaid (.app f a) := by
  rintro x c v vc w hd hc
  obtain ⟨b, q, r, rfl, _, hb, hdf, hda⟩ := id hd
  have k0 := hb.cell 0
  simp at k0
  have C1 := Lib.hid (ihf x c _ vc w.drew (hdf.drewN 1) (hc.drewN 1))
  have C2 : Hid (∀ w', Below w.heap.size w w' → Calls Tryd.prog 29 #[.pointer (some ⟨r, 0, none⟩), .string ⟨x.toArray⟩, vc] w' (PutPost (putD x c a) w')) := Lib.hid (fun w' h => iha x c _ vc w' (hda.below2 h) (hc.below2 h))
  have hbd := hb.drew
  clear hd hc hb hdf hda ihf iha
  go_enter Tryd.func29, Tryd.ntmps29
  go_wp2
  go_region_held3 (fun w' => w'.cell? ⟨b, 3, none⟩ = some (.pointer (some ⟨q, 0, none⟩)) ∧ w'.cell? ⟨b, 4, none⟩ = some (.pointer (some ⟨r, 0, none⟩)))
    (with_reducible first | exact appS hbd | exact appS (by assumption) | exact appS (Blk.alloc (by assumption) _))
    (first
      | (go_at_call 29; (with_reducible refine C1.out.mono ?_); rintro e w1 ⟨b1, rfl, hd1, hb1⟩; have hk1 := hbd.below hb1 hbd.lt; have HD1 := Lib.hid hd1; have HB1 := Lib.hid (below_undrew hb1); have C3 := Lib.hid (C2.out w1 HB1.out); clear hd1 hb1)
      | (go_at_call 29; (with_reducible refine C3.out.mono ?_); rintro e w2 ⟨b2, rfl, hd2, hb2⟩; have hk2 := hk1.below hb2 hk1.lt; have HD2 := Lib.hid hd2; have HD12 := Lib.hid (HD1.out.below2 hb2); have HB2 := Lib.hid (HB1.out.trans (hb2.mono HB1.out.size)); clear hd2 hb2)
      | (go_at_call 53; (with_reducible refine (newApp_any b1 b2 _).mono ?_); rintro e w3 ⟨rfl, rfl⟩))
  all_goals
    go_wp2
    go_ret
    exact ⟨w2.heap.size, rfl, ⟨w2.heap.size, b1, b2, rfl, trivial, Blk.new _ _ _, HD12.out.keep fun q cs hk => hk.alloc _, HD2.out.keep fun q cs hk => hk.alloc _⟩, HB2.out.alloc HB2.out.size _⟩

theorem put_any (d : DB) : PutSaid d := by
  induction d with
  | free x => exact put_free x
  | bnd i => exact put_bnd i
  | lam x d ih => exact put_lam x d ih
  | app f a ihf iha => exact put_app f a ihf iha
end Go.Proofs.YtbabdjcpmjfeoaaDoor

namespace Go.Proofs.YtbabdjcpmjfeoaaDoor
set_option linter.unusedVariables false
open Go.RowKit

theorem uses_half (x : List UInt8) (t : Tm) : 2 * t.uses x ≤ t.atoms + 1 := by
  induction t with
  | var y => simp only [Tm.uses, Tm.atoms]; split <;> omega
  | lam y b ih => simp only [Tm.uses, Tm.atoms]; split <;> omega
  | app f a ihf iha => simp only [Tm.uses, Tm.atoms]; omega
theorem subT_le (t c : Tm) (x : List UInt8) (ha : t.atoms ≤ 400) (hca : c.atoms ≤ 400) : (subT t x c).atoms ≤ 80400 := by
  have h1 := atoms_subT t c x
  have h2 := uses_half x t
  have h3 : t.uses x * c.atoms ≤ 200 * 400 := Nat.mul_le_mul (by omega) hca
  omega
theorem cnO_wr (t : Tm) (h : t.ok) : cnO (rdTerm (wrTm t)) = canO t := by
  rw [rdTerm_wr t h]
  unfold cnO canO
  split <;> rfl

/-- What is put, if both were read and the name is one. -/
def ptO (x : List UInt8) : Option Tm → Option Tm → Option Tm
  | some t, some c => if isNm x = true then canO (subT t x c) else none
  | _, _ => none

set_option maxRecDepth 100000 in
theorem specTermPut_any (s by_ : ByteArray) (x : List UInt8) (w : World) (hm : s.size ≤ maxLen) (hm2 : by_.size ≤ maxLen) (hx : x.length ≤ maxLen) :
    Calls Tryd.prog 13 #[.string s, .string ⟨x.toArray⟩, .string by_] w (CtPost (ptO x (rdTerm s.data.toList) (rdTerm by_.data.toList)) w) := by
  go_enter Tryd.func13, Tryd.ntmps13
  go_wp2_with fail
  refine (l1Term_any s _ hm).mono ?_
  rintro e w1 ⟨hb1, ⟨t, v, hrd, rfl, htr⟩ | ⟨hrd, b, A, n, c, rfl⟩⟩
  · obtain ⟨A, n, c, rfl⟩ := htr.shape
    obtain ⟨hok, hat⟩ := rdTerm_good _ _ hrd
    have HR := Lib.hid hrd
    have HAT := Lib.hid hat
    have HT := Lib.hid (htr.alloc (fun q hq => hq.2) (.cells #[.string ⟨(tmTr t).atom.toArray⟩, .slice A n c] 35))
    have HK := Lib.hid hok
    have HB := Lib.hid (hb1.alloc hb1.size (.cells #[.string ⟨(tmTr t).atom.toArray⟩, .slice A n c] 35))
    have hz := hb1.size
    have hbx := Blk.new w1 35 #[.string ⟨(tmTr t).atom.toArray⟩, .slice A n c]
    have HBX := Lib.hid hbx
    clear hrd htr hok hat hb1 hbx
    go_wp2_with fail
    refine (l1Term_any by_ _ hm2).mono ?_
    rintro e w2 ⟨hb2, ⟨t2, v2, hrd2, rfl, htr2⟩ | ⟨hrd2, b2, A2, n2, c2, rfl⟩⟩
    · obtain ⟨A2, n2, c2, rfl⟩ := htr2.shape
      obtain ⟨hok2, hat2⟩ := rdTerm_good _ _ hrd2
      have hz2 := hb2.size
      simp at hz2
      have hbx2 := HBX.out.below hb2 (by simp)
      have bx0 := hbx2.cell 0
      have bx1 := hbx2.cell 1
      have bxl := hbx2.lt
      simp only [List.getElem?_toArray, List.getElem?_cons_zero, List.getElem?_cons_succ] at bx0 bx1
      have HR2 := Lib.hid hrd2
      have HAT2 := Lib.hid hat2
      have HK2 := Lib.hid hok2
      have HT2 := Lib.hid (((htr2.mono (Q := fun q => w.heap.size ≤ q ∧ q < w2.heap.size) fun q hq => ⟨⟨by have := hq.1; simp at this; omega, hq.2⟩, fun _ => rfl⟩).alloc (fun q hq => hq.2) (.cells #[.string ⟨(tmTr t2).atom.toArray⟩, .slice A2 n2 c2] 35)))
      have HT1 := Lib.hid (((HT.out.below hb2 (fun q hq => by have := hq.2; simp; omega)).mono (Q := fun q => w.heap.size ≤ q ∧ q < w2.heap.size) fun q hq => ⟨⟨hq.1, by have := hq.2; omega⟩, fun _ => rfl⟩).alloc (fun q hq => hq.2) (.cells #[.string ⟨(tmTr t2).atom.toArray⟩, .slice A2 n2 c2] 35))
      have HB2 := Lib.hid ((HB.out.trans (hb2.mono (by simp; omega))).alloc (by omega) (.cells #[.string ⟨(tmTr t2).atom.toArray⟩, .slice A2 n2 c2] 35))
      clear hrd2 htr2 hok2 hat2 hb2 hbx2
      go_wp2_with fail
      refine (l1Name_any _ _ (by simpa [ByteArray.size] using hx)).mono ?_
      rintro e w3 ⟨rfl, rfl⟩
      rw [toNil]
      cases hn : isNm x with
      | true =>
        have HN := Lib.hid hn
        clear hn
        go_wp2_with fail
        refine (l1Sub_any t t2 x HN.out HK.out HAT.out HK2.out HAT2.out _ _ _ _ HT1.out HT2.out (fun q hq => by have := hq.2; simp; omega)).mono ?_
        rintro e w4 ⟨u, A', m', n', rfl, h1, h2⟩
        have hz4 := h2.size
        simp at hz4
        have hle := subT_le t t2 x HAT.out HAT2.out
        have hsok := subT_ok t t2 x HK.out HK2.out HAT.out HAT2.out
        have hsh := wrTm_short (subT t x t2) hsok
        have htx := l1Text_any (tmTr (subT t x t2)) _ w4 _ h1 (fun b hb => by
          rcases hb with hb | hb
          · have := hb.2; omega
          · exact hb.2) (by rw [wrTr_tm _ hsok]; omega)
        rw [wrTr_tm _ hsok] at htx
        have HTX := Lib.hid htx
        have HB4 := Lib.hid (HB2.out.trans (h2.mono (by simp; omega)))
        have HSOK := Lib.hid hsok
        have hlen : (wrTm (subT t x t2)).length ≤ 1000000 := by omega
        clear htx h1 h2 hle hsok hsh
        go_wp2_with fail
        refine HTX.out.mono ?_
        rintro e w5 ⟨rfl, hb5⟩
        have HB5 := Lib.hid (HB4.out.trans (hb5.mono (by omega)))
        clear hb5
        go_wp2_with fail
        have hcn := specTermCanon_any ⟨(wrTm (subT t x t2)).toArray⟩ w5 (by simp only [ByteArray.size, List.size_toArray]; unfold maxLen; omega)
        have ecn : cnO (rdTerm (ByteArray.mk (wrTm (subT t x t2)).toArray).data.toList) = ptO x (rdTerm s.data.toList) (rdTerm by_.data.toList) := by
          rw [HR.out, HR2.out]
          show cnO (rdTerm (wrTm (subT t x t2))) = if isNm x = true then _ else _
          rw [if_pos HN.out, cnO_wr _ HSOK.out]
        rw [ecn] at hcn
        refine hcn.mono ?_
        rintro e w6 ⟨rfl, hb6⟩
        have HB6 := Lib.hid (HB5.out.trans (hb6.mono (by have := HB5.out.size; omega)))
        clear hb6 hcn ecn
        go_wp2_with fail
        go_ret2
        exact ⟨rfl, HB6.out⟩
      | false =>
        have HN := Lib.hid hn
        clear hn
        go_wp2_with fail
        go_ret2
        exact ⟨by rw [HR.out, HR2.out]; simp only [ptO, HN.out]; rfl, HB2.out⟩
    · have HR2 := Lib.hid hrd2
      have hz2 := hb2.size
      have hbx2 := HBX.out.below hb2 (by simp)
      have bxl := hbx2.lt
      simp at hz2
      have HB2 := Lib.hid ((HB.out.trans (hb2.mono (by simp; omega))).alloc (by omega) (.cells #[.string b2, .slice A2 n2 c2] 35))
      clear hrd2 hb2 hbx2
      go_wp2
      go_ret2
      exact ⟨by rw [HR.out, HR2.out]; rfl, HB2.out⟩
  · have HR := Lib.hid hrd
    have hz := hb1.size
    have HB := Lib.hid (hb1.alloc hb1.size (.cells #[.string b, .slice A n c] 35))
    clear hrd hb1
    go_wp2_with fail
    refine (l1Term_any by_ _ hm2).mono ?_
    rintro e w2 ⟨hb2, ⟨t2, v2, hrd2, rfl, htr2⟩ | ⟨hrd2, b2, A2, n2, c2, rfl⟩⟩
    · obtain ⟨A2, n2, c2, rfl⟩ := htr2.shape
      have hz2 := hb2.size
      simp at hz2
      have HB2 := Lib.hid ((HB.out.trans (hb2.mono (by simp; omega))).alloc (by omega) (.cells #[.string ⟨(tmTr t2).atom.toArray⟩, .slice A2 n2 c2] 35))
      clear hrd2 htr2 hb2
      go_wp2
      go_ret2
      exact ⟨by rw [HR.out]; rfl, HB2.out⟩
    · have hz2 := hb2.size
      simp at hz2
      have HB2 := Lib.hid ((HB.out.trans (hb2.mono (by simp; omega))).alloc (by omega) (.cells #[.string b2, .slice A2 n2 c2] 35))
      clear hrd2 hb2
      go_wp2
      go_ret2
      exact ⟨by rw [HR.out]; rfl, HB2.out⟩

set_option maxRecDepth 100000 in
theorem implTermPut_any (s by_ : ByteArray) (x : List UInt8) (w : World) (hm : s.size ≤ maxLen) (hm2 : by_.size ≤ maxLen) (hx : x.length ≤ maxLen) (ht : Tab w) :
    Calls Tryd.prog 14 #[.string s, .string ⟨x.toArray⟩, .string by_] w (CtPost (ptO x (rdTerm s.data.toList) (rdTerm by_.data.toList)) w) := by
  have HTB := Lib.hid ht
  clear ht
  go_enter Tryd.func14, Tryd.ntmps14
  go_wp2_with fail
  refine (readTerm_any s _ hm).mono ?_
  rintro e w1 ⟨hb1, ⟨t, v, hrd, rfl, hd⟩ | ⟨hrd, rfl⟩⟩
  · obtain ⟨d, rfl, _⟩ := hd.shape
    obtain ⟨hok, hat⟩ := rdTerm_good _ _ hrd
    have HR := Lib.hid hrd
    have HD := Lib.hid hd.tm
    have HK := Lib.hid hok
    have HAT := Lib.hid hat
    have HB1 := Lib.hid hb1
    have HT1 := Lib.hid (HTB.out.below hb1)
    have hz1 := hb1.size
    clear hrd hd hok hat hb1
    go_wp2_with fail
    refine (isName_any _ _ (by simpa [ByteArray.size] using hx)).mono ?_
    rintro e w2 ⟨rfl, rfl⟩
    rw [toNil]
    cases hn : isNm x with
    | false =>
      have HN := Lib.hid hn
      clear hn
      go_wp2_with fail
      go_ret2
      refine ⟨?_, HB1.out⟩
      rw [HR.out]
      cases rdTerm by_.data.toList with
      | none => rfl
      | some c => simp only [ptO, HN.out]; rfl
    | true =>
      have HN := Lib.hid hn
      clear hn
      go_wp2_with fail
      refine (readTerm_any by_ _ hm2).mono ?_
      rintro e w2 ⟨hb2, ⟨t2, v2, hrd2, rfl, hd2⟩ | ⟨hrd2, rfl⟩⟩
      · obtain ⟨d2, rfl, _⟩ := hd2.shape
        obtain ⟨hok2, hat2⟩ := rdTerm_good _ _ hrd2
        have HR2 := Lib.hid hrd2
        have HD2 := Lib.hid hd2.tm
        have HD1 := Lib.hid (HD.out.below2 hb2)
        have HK2 := Lib.hid hok2
        have HAT2 := Lib.hid hat2
        have HB2 := Lib.hid (HB1.out.trans (hb2.mono hz1))
        have HT2 := Lib.hid (HT1.out.below hb2)
        clear hrd2 hd2 hok2 hat2 hb2
        go_wp2_with fail
        refine (put_any (toDB [] t) x (toDB [] t2) _ _ _ HD1.out HD2.out).mono ?_
        rintro e w3 ⟨b3, rfl, hd3, hb3⟩
        have HD3 := Lib.hid hd3
        have HT3 := Lib.hid (HT2.out.below hb3)
        have HB3 := Lib.hid (HB2.out.trans (hb3.mono HB2.out.size))
        clear hd3 hb3
        go_wp2_with fail
        have hct := canonText_any (putD x (toDB [] t2) (toDB [] t)) (subT t x t2) (toDB_subT t t2 x).symm (fun _ => subT_ok t t2 x HK.out HK2.out HAT.out HAT2.out) (by have := subT_le t t2 x HAT.out HAT2.out; omega) _ w3 HD3.out HT3.out
        have ect : canO (subT t x t2) = ptO x (rdTerm s.data.toList) (rdTerm by_.data.toList) := by
          rw [HR.out, HR2.out]
          show _ = if isNm x = true then _ else _
          rw [if_pos HN.out]
        rw [ect] at hct
        refine hct.mono ?_
        rintro e w4 ⟨rfl, hb4⟩
        have HB4 := Lib.hid (HB3.out.trans (hb4.mono HB3.out.size))
        clear hb4 hct ect
        go_wp2_with fail
        go_ret2
        exact ⟨rfl, HB4.out⟩
      · have HR2 := Lib.hid hrd2
        have HB2 := Lib.hid (HB1.out.trans (hb2.mono hz1))
        clear hrd2 hb2
        go_wp2
        go_ret2
        exact ⟨by rw [HR.out, HR2.out]; rfl, HB2.out⟩
  · have HR := Lib.hid hrd
    clear hrd
    go_wp2
    go_ret2
    exact ⟨by rw [HR.out]; rfl, hb1⟩
end Go.Proofs.YtbabdjcpmjfeoaaDoor

