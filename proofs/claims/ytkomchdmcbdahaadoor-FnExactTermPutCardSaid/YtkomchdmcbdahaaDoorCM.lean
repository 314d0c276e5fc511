/- The program's canonical term, and its text. -/
import Derived.Test.YtkomchdmcbdahaaDoorCN
import Derived.Test.YtkomchdmcbdahaaDoorQ
import Derived.Test.YtkomchdmcbdahaaDoorC3
namespace Go.Proofs.YtkomchdmcbdahaaDoor
set_option linter.unusedVariables false
open Go.RowKit

theorem dbAtoms_any : ∀ (t : DB) (v : Value) (w : World) (P : Nat → Prop), DAt w P t v → t.atoms ≤ 100000000 →
    Calls Tryd.prog 51 #[v] w fun e w' => e = .returned (.int .i64 t.atoms) ∧ ∃ n, w' = w.drewN n := by
  intro t
  induction t with
  | free x =>
    rintro v w P ⟨b, rfl, hP, hl, hb⟩ hsz
    have k0 := hb.cell 0
    simp at k0
    clear hb
    go_enter Tryd.func51, Tryd.ntmps51
    go_wp2
    go_ret
    exact ⟨rfl, 0, rfl⟩
  | bnd i =>
    rintro v w P ⟨b, rfl, hP, hb⟩ hsz
    have k0 := hb.cell 0
    simp at k0
    clear hb
    go_enter Tryd.func51, Tryd.ntmps51
    go_wp2
    go_ret
    exact ⟨rfl, 0, rfl⟩
  | lam x d ih =>
    rintro v w P ⟨b, c, rfl, hP, hl, hb, hd⟩ hsz
    have k0 := hb.cell 0
    have k3 := hb.cell 3
    simp at k0 k3
    have HD := Lib.hid hd
    have IH := Lib.hid ih
    have hsz' : d.atoms + 2 ≤ 100000000 := by simp only [DB.atoms] at hsz; omega
    clear hb hd ih hsz
    go_enter Tryd.func51, Tryd.ntmps51
    go_wp2_with fail
    refine (IH.out _ _ P HD.out (by omega)).mono ?_
    rintro e w1 ⟨rfl, n, rfl⟩
    go_wp2_with fail
    go_ret
    exact ⟨ret_int (by simp only [DB.atoms]; omega), n, rfl⟩
  | app f a ihf iha =>
    rintro v w P ⟨b, c, d, rfl, hP, hb, hf, ha⟩ hsz
    have k0 := hb.cell 0
    have k3 := hb.cell 3
    have k4 := hb.cell 4
    simp at k0 k3 k4
    have IHF : Hid (∀ n, Calls Tryd.prog 51 #[.pointer (some ⟨c, 0, none⟩)] (w.drewN n) fun e w' => e = .returned (.int .i64 f.atoms) ∧ ∃ m, w' = w.drewN m) :=
      Lib.hid (fun n => (ihf _ (w.drewN n) P (hf.drewN n) (by simp only [DB.atoms] at hsz; omega)).mono fun _ _ ⟨he, m, hm⟩ => ⟨he, n + m, by rw [hm, World.drewN_drewN]⟩)
    have IHA : Hid (∀ n, Calls Tryd.prog 51 #[.pointer (some ⟨d, 0, none⟩)] (w.drewN n) fun e w' => e = .returned (.int .i64 a.atoms) ∧ ∃ m, w' = w.drewN m) :=
      Lib.hid (fun n => (iha _ (w.drewN n) P (ha.drewN n) (by simp only [DB.atoms] at hsz; omega)).mono fun _ _ ⟨he, m, hm⟩ => ⟨he, n + m, by rw [hm, World.drewN_drewN]⟩)
    have hsz' : f.atoms + a.atoms + 1 ≤ 100000000 := by simp only [DB.atoms] at hsz; omega
    clear hb hf ha ihf iha hsz
    go_enter Tryd.func51, Tryd.ntmps51
    go_wp2
    go_quiet ((first
      | (go_at_call 51; with_reducible exact IHF.out _)
      | (go_at_call 51; with_reducible exact IHA.out _)))
    go_wp2
    go_ret
    refine ⟨ret_int ?_, _, rfl⟩
    simp only [DB.atoms]
    omega

theorem dsize_atoms (d : DB) : d.size ≤ d.atoms := by
  induction d with
  | free x => simp [DB.size, DB.atoms]
  | bnd i => simp [DB.size, DB.atoms]
  | lam x b ih => simp only [DB.size, DB.atoms]; omega
  | app f a ihf iha => simp only [DB.size, DB.atoms]; omega
theorem freeD_length (d : DB) : ∀ l : List (List UInt8), (freeD d l).length ≤ l.length + d.atoms := by
  induction d with
  | free x => intro l; simp only [freeD, DB.atoms]; split <;> simp
  | bnd i => intro l; simp [freeD, DB.atoms]
  | lam x b ih => intro l; have := ih l; simp only [freeD, DB.atoms]; omega
  | app f a ihf iha => intro l; have h1 := ihf l; have h2 := iha (freeD f l); simp only [freeD, DB.atoms]; omega

/-- The canonical term. -/
theorem canonical_any (d : DB) (v : Value) (w : World) (hd : DTm w d v) (ht : Tab w) (hat : d.atoms ≤ 400) :
    Calls Tryd.prog 52 #[v] w fun e w' => ∃ b, e = .returned (.pointer (some ⟨b, 0, none⟩)) ∧ DTm w' (canD d) (.pointer (some ⟨b, 0, none⟩)) ∧ Below w.heap.size w w' := by
  obtain ⟨b0, rfl, _⟩ := hd.shape
  have hfl := freeD_length d []
  have hsa := dsize_atoms d
  have HD := Lib.hid hd
  have HT := Lib.hid ht
  simp at hfl
  have htl := ht.lt
  clear hd ht
  go_enter Tryd.func52, Tryd.ntmps52
  go_wp2_with fail
  refine (freeNames_any d [] w.heap.size _ (.slice none 0 0) _ _ HD.out.low (fun q hq => ⟨hq, by simp [Value.ownBlock]⟩) (World.ownsRow_nil _ _ _ _) (Nat.le_refl _) (by omega) (by simp)).mono ?_
  rintro e w1 ⟨fv, rfl, h1, h2, h3⟩
  obtain ⟨A, c, rfl⟩ := own_shape h1
  have HF := Lib.hid (h1.alloc (.cells #[.slice A (freeD d []).length c, .int .i64 0] 110))
  have hb1 : Below w.heap.size w w1 := (Below.refl _ _).grown h2 (Nat.le_refl _) (fun k e => by simp [Value.ownBlock] at e)
  have HB1 := Lib.hid hb1
  have hz1 := hb1.size
  have HD1 := Lib.hid (HD.out.keep fun q cs hk => (hk.below hb1 hk.lt).alloc (.cells #[.slice A (freeD d []).length c, .int .i64 0] 110))
  have HT1 := Lib.hid ((HT.out.below hb1).below ((Below.refl _ _).alloc (Nat.le_refl _) (.cells #[.slice A (freeD d []).length c, .int .i64 0] 110)))
  have HN1 := Lib.hid (Blk.new w1 110 #[.slice A (freeD d []).length c, .int .i64 0])
  clear h1 h2 h3 hb1
  go_wp2_with fail
  refine (rename_any d _ (freeD d []) 0 w1.heap.size w.heap.size _ _ HD1.out HN1.out HF.out HT1.out (by omega) (by omega) (by omega)).mono ?_
  rintro e w2 ⟨b2, rfl, hd2, hg2, hn2⟩
  have HD2 := Lib.hid hd2
  have HG2 := Lib.hid hg2
  clear hd2 hg2 hn2
  go_wp2_with fail
  go_ret
  exact ⟨b2, rfl, HD2.out, (HB1.out.alloc hz1 _).grown HG2.out (by simp; omega) (fun k e => by injection e with e; omega)⟩
/-- The text of a term, if there is one. -/
def ctS : Option Tm → List UInt8
  | some t => wrTm t
  | none => []
def canO (t : Tm) : Option Tm := if t.atoms ≤ 400 then some (canT t) else none
def CtPost (o : Option Tm) (w : World) (e : Ending) (w' : World) : Prop :=
  e = .returned (.tuple #[.string ⟨(ctS o).toArray⟩, .bool o.isSome]) ∧ Below w.heap.size w w'

/-- The text of a term that bears no names but free ones. -/
theorem textNil_any (t : Tm) (hok : t.ok) (hat : t.atoms ≤ 400) (d : DB) (hd : d = toDB [] t) (v : Value) (w : World) (h : DTm w d v) :
    Calls Tryd.prog 37 #[v, .slice none 0 0] w fun e w' => e = .returned (.string ⟨(wrTm t).toArray⟩) ∧ Below w.heap.size w w' := by
  subst hd
  have hs := size_atoms t
  have hl := wrTm_short t hok
  have hh := text_any (toDB [] t) v w _ (.slice none 0 0) [] h (World.ownsRow_nil _ _ _ _) (toDB_cl t []) (by rw [toDB_size]; simp; omega) (by rw [wrD_toDB]; omega)
  rw [wrD_toDB] at hh
  exact hh.mono fun e w' ⟨h1, h2, _, _⟩ => ⟨h1, (Below.refl _ _).grown h2 (Nat.le_refl _) (fun k e => by simp [Value.ownBlock] at e)⟩

theorem canonText_any (d : DB) (t : Tm) (hbare : d.bare = (toDB [] t).bare) (hok : t.atoms ≤ 400 → t.ok) (hat : t.atoms ≤ 1000000) (v : Value) (w : World) (hd : DTm w d v) (ht : Tab w) :
    Calls Tryd.prog 28 #[v] w (CtPost (canO t) w) := by
  obtain ⟨b0, rfl, _⟩ := hd.shape
  have hda : d.atoms = t.atoms := by rw [atoms_congr hbare, atoms_toDB]
  have HDA := Lib.hid hda
  have HD := Lib.hid hd
  have HT := Lib.hid ht
  have hz0 : d.atoms ≤ 100000000 := by omega
  clear hd ht hda
  go_enter Tryd.func28, Tryd.ntmps28
  go_wp2_with fail
  refine (dbAtoms_any d _ _ _ HD.out hz0).mono ?_
  rintro e w1 ⟨rfl, n, rfl⟩
  by_cases h4 : d.atoms ≤ 400
  · have h4t : t.atoms ≤ 400 := by rw [← HDA.out]; exact h4
    have hcan : canD d = toDB [] (canT t) := by rw [toDB_canT]; exact canD_congr hbare
    have HCN := Lib.hid hcan
    have HCO := Lib.hid (show canO t = some (canT t) by unfold canO; rw [if_pos h4t])
    have HOK := Lib.hid (canT_ok t (hok h4t) h4t)
    have HAT := Lib.hid (show (canT t).atoms ≤ 400 by rw [canT_atoms]; exact h4t)
    clear hcan
    go_wp2_with fail
    refine (canonical_any d _ _ (HD.out.drewN n) (HT.out.kept rfl) h4).mono ?_
    rintro e w2 ⟨b2, rfl, hd2, hb2⟩
    have HD2 := Lib.hid hd2
    have HB2 : Hid (Below w.heap.size w w2) := Lib.hid ((below_drewN' (Below.refl _ w) n).trans hb2)
    have hz2 := hb2.size
    clear hd2 hb2
    go_wp2_with fail
    refine (textNil_any (canT t) HOK.out HAT.out _ HCN.out _ _ HD2.out).mono ?_
    rintro e w3 ⟨rfl, hb3⟩
    have HB3 := Lib.hid hb3
    clear hb3
    go_wp2_with fail
    go_ret2
    refine ⟨by rw [HCO.out]; rfl, HB2.out.trans (HB3.out.mono ?_)⟩
    exact hz2
  · have HCO := Lib.hid (show canO t = none by unfold canO; rw [if_neg (by rw [← HDA.out]; exact h4)])
    go_wp2
    go_ret2
    exact ⟨by rw [HCO.out]; rfl, below_drewN' (Below.refl _ w) n⟩

def cnO (o : Option Tm) : Option Tm := o.map canT
theorem implTermCanon_any (s : ByteArray) (w : World) (hm : s.size ≤ maxLen) (ht : Tab w) :
    Calls Tryd.prog 11 #[.string s] w (CtPost (cnO (rdTerm s.data.toList)) w) := by
  have HT := Lib.hid ht
  clear ht
  go_enter Tryd.func11, Tryd.ntmps11
  go_wp2_with fail
  refine (readTerm_any s _ hm).mono ?_
  rintro e w1 ⟨hb1, ⟨t, v, hrd, rfl, hd⟩ | ⟨hrd, rfl⟩⟩
  · obtain ⟨d, rfl, _⟩ := hd.shape
    obtain ⟨hok, hat⟩ := rdTerm_good _ _ hrd
    have HR := Lib.hid hrd
    have HD := Lib.hid hd.tm
    have HK := Lib.hid hok
    have HB1 := Lib.hid hb1
    have HT1 := Lib.hid (HT.out.below hb1)
    have hz1 := hb1.size
    have HCO := Lib.hid (show canO t = some (canT t) by unfold canO; rw [if_pos hat])
    clear hrd hd hok hb1
    go_wp2_with fail
    refine (canonText_any (toDB [] t) t rfl (fun _ => HK.out) (by omega) _ _ HD.out HT1.out).mono ?_
    rintro e w2 ⟨rfl, hb2⟩
    have HB2 := Lib.hid hb2
    clear hb2
    rw [HCO.out]
    go_wp2_with fail
    go_ret2
    exact ⟨by rw [HR.out]; rfl, HB1.out.trans (HB2.out.mono hz1)⟩
  · have HR := Lib.hid hrd
    clear hrd
    go_wp2
    go_ret2
    exact ⟨by rw [HR.out]; rfl, hb1⟩
end Go.Proofs.YtkomchdmcbdahaaDoor
