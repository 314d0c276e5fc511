/- TermParts of the model and of the program. -/
import Derived.Test.YtgceephloklpbacSP
import Derived.Test.YtgceephloklpbacTB
import Derived.Test.YtgceephloklpbacWR
import Derived.Test.YtgceephloklpbacQ
import Derived.Test.YtgceephloklpbacC3
namespace Go.Proofs.Ytgceephloklpbac
set_option linter.unusedVariables false
open Go.RowKit

/-- The parts of a term that is read. -/
def paN : Option Tm → Nat
  | some t => (lamsOf t).length
  | none => 0
def paB : Option Tm → List UInt8
  | some t => wrTm (bodyOf t)
  | none => []
def paF : Option Tm → List UInt8
  | some t => wrTm (firstOf (bodyOf t))
  | none => []
def paA : Option Tm → Nat
  | some t => (argsOf (bodyOf t)).length
  | none => 0
def TpPost (o : Option Tm) (w : World) (e : Ending) (w' : World) : Prop :=
  e = .returned (.tuple #[.int .i64 (paN o), .string ⟨(paB o).toArray⟩, .string ⟨(paF o).toArray⟩, .int .i64 (paA o), .bool o.isSome]) ∧ Below w.heap.size w w'

theorem bodyOf_size (t : Tm) : (bodyOf t).size ≤ t.size := by
  induction t with
  | var x => exact Nat.le_refl _
  | lam x b ih => simp only [bodyOf, Tm.size]; omega
  | app f a _ _ => exact Nat.le_refl _
theorem bodyOf_atoms (t : Tm) : (bodyOf t).atoms ≤ t.atoms := by
  induction t with
  | var x => exact Nat.le_refl _
  | lam x b ih => simp only [bodyOf, Tm.atoms]; omega
  | app f a _ _ => exact Nat.le_refl _
theorem firstOf_atoms (t : Tm) : (firstOf t).atoms ≤ t.atoms := by
  induction t with
  | var x => exact Nat.le_refl _
  | lam x b _ => exact Nat.le_refl _
  | app f a ihf _ => simp only [firstOf, Tm.atoms]; omega

/-- Two boxed trees are kept while texts are made. -/
structure PKeep (B : Nat) (w : World) (P : Nat → Prop) (b1 b2 : Nat) (t1 t2 : Tm) (A1 A2 : Option Addr) (n1 c1 n2 c2 : Nat) (w' : World) : Prop where
  box1 : Blk w' b1 35 #[.string ⟨(tmTr t1).atom.toArray⟩, .slice A1 n1 c1]
  box2 : Blk w' b2 35 #[.string ⟨(tmTr t2).atom.toArray⟩, .slice A2 n2 c2]
  tr1 : TAt w' P (tmTr t1) (.agg #[.string ⟨(tmTr t1).atom.toArray⟩, .slice A1 n1 c1])
  tr2 : TAt w' P (tmTr t2) (.agg #[.string ⟨(tmTr t2).atom.toArray⟩, .slice A2 n2 c2])
  all : ∀ q, P q → q < w'.heap.size
  below : Below B w w'
  le : B ≤ w'.heap.size
section
variable {B : Nat} {w w' w2 : World} {P : Nat → Prop} {b1 b2 : Nat} {t1 t2 : Tm} {A1 A2 : Option Addr} {n1 c1 n2 c2 : Nat}
theorem PKeep.drew (h : PKeep B w P b1 b2 t1 t2 A1 A2 n1 c1 n2 c2 w') : PKeep B w P b1 b2 t1 t2 A1 A2 n1 c1 n2 c2 w'.drew :=
  ⟨h.box1, h.box2, h.tr1.mono fun _ hb => ⟨hb, fun _ => rfl⟩, h.tr2.mono fun _ hb => ⟨hb, fun _ => rfl⟩, h.all, h.below.drew, h.le⟩
theorem PKeep.more (h : PKeep B w P b1 b2 t1 t2 A1 A2 n1 c1 n2 c2 w') (hb : Below w'.heap.size w' w2) : PKeep B w P b1 b2 t1 t2 A1 A2 n1 c1 n2 c2 w2 :=
  ⟨h.box1.below hb h.box1.lt, h.box2.below hb h.box2.lt, h.tr1.below hb h.all, h.tr2.below hb h.all, fun q hq => Nat.lt_of_lt_of_le (h.all q hq) hb.size, h.below.trans (hb.mono h.le), Nat.le_trans h.le hb.size⟩
theorem PKeep.s (h : PKeep B w P b1 b2 t1 t2 A1 A2 n1 c1 n2 c2 w') :
    w'.cell? ⟨b1, 0, none⟩ = some (.string ⟨(tmTr t1).atom.toArray⟩) ∧ w'.cell? ⟨b1, 1, none⟩ = some (.slice A1 n1 c1) ∧ w'.cell? ⟨b2, 0, none⟩ = some (.string ⟨(tmTr t2).atom.toArray⟩) ∧ w'.cell? ⟨b2, 1, none⟩ = some (.slice A2 n2 c2) ∧ PKeep B w P b1 b2 t1 t2 A1 A2 n1 c1 n2 c2 w' := by
  have h0 := h.box1.cell 0
  have h1 := h.box1.cell 1
  have h2 := h.box2.cell 0
  have h3 := h.box2.cell 1
  simp at h0 h1 h2 h3
  exact ⟨h0, h1, h2, h3, h⟩
end

theorem l1Text_tm (t : Tm) (hok : t.ok) (hat : t.atoms ≤ 400) (v : Value) (w : World) (P : Nat → Prop) (ht : TAt w P (tmTr t) v) (hP : ∀ b, P b → b < w.heap.size) :
    Calls Try.prog 37 #[v] w fun e w' => e = .returned (.string ⟨(wrTm t).toArray⟩) ∧ Below w.heap.size w w' := by
  have h := l1Text_any (tmTr t) v w P ht hP (by rw [wrTr_tm t hok]; have := wrTm_short t hok; omega)
  rw [wrTr_tm t hok] at h
  exact h

set_option maxRecDepth 100000 in
set_option maxHeartbeats 2000000 in
theorem specTermParts_any (s : ByteArray) (w : World) (hm : s.size ≤ maxLen) :
    Calls Try.prog 20 #[.string s] w (TpPost (rdTerm s.data.toList) w) := by
  go_enter Try.func20, Try.ntmps20
  go_wp2_with fail
  refine (l1Term_any s _ hm).mono ?_
  rintro e w1 ⟨hb1, ⟨t, v, hrd, rfl, htr⟩ | ⟨hrd, b, A, n, c, rfl⟩⟩
  · obtain ⟨A, n, c, rfl⟩ := htr.shape
    obtain ⟨hok, hat⟩ := rdTerm_good _ _ hrd
    have hsa := size_atoms t
    have hz := hb1.size
    have HR := Lib.hid hrd
    have HT := Lib.hid (htr.alloc (fun q hq => hq.2) (.cells #[.string ⟨(tmTr t).atom.toArray⟩, .slice A n c] 35))
    have HK := Lib.hid hok
    have HB1 := Lib.hid (hb1.alloc hz (.cells #[.string ⟨(tmTr t).atom.toArray⟩, .slice A n c] 35))
    have HAT := Lib.hid hat
    clear hrd htr hok hb1
    go_wp2_with fail
    refine (l1Body_any t HK.out _ _ _ HT.out (fun q hq => by simp; omega) (by omega)).mono ?_
    rintro e w2 ⟨vb, rfl, htb, hb2⟩
    obtain ⟨A1, n1, c1, rfl⟩ := htb.two
    have hz2 := hb2.size
    simp at hz2
    have hall2 : ∀ q, (w.heap.size ≤ q ∧ q < w1.heap.size) → q < w2.heap.size := fun q hq => by omega
    have HTB := Lib.hid (htb.alloc hall2 (.cells #[.string ⟨(tmTr (bodyOf t)).atom.toArray⟩, .slice A1 n1 c1] 35))
    have HB2 := Lib.hid ((HB1.out.trans (hb2.mono (by simp; omega))).alloc (by omega) (.cells #[.string ⟨(tmTr (bodyOf t)).atom.toArray⟩, .slice A1 n1 c1] 35))
    have hbs := bodyOf_size t
    have HAL := Lib.hid hall2
    clear htb hb2 hall2
    go_wp2_with fail
    refine (l1Spine_any (bodyOf t) (bodyOf_ok t HK.out) _ _ _ HTB.out (fun q hq => by have := HAL.out q hq; simp; omega) (by omega)).mono ?_
    rintro e w3 ⟨vf, ga, ca, xs, rfl, htf, hown, hvs, hb3⟩
    obtain ⟨A2, n2, c2, rfl⟩ := htf.two
    have hz3 := hb3.size
    simp at hz3
    have hall3 : ∀ q, (w.heap.size ≤ q ∧ q < w1.heap.size) → q < w3.heap.size := fun q hq => by omega
    have hk : PKeep w.heap.size w (fun q => w.heap.size ≤ q ∧ q < w1.heap.size) w2.heap.size w3.heap.size (bodyOf t) (firstOf (bodyOf t)) A1 A2 n1 c1 n2 c2 (w3.alloc (.cells #[.string ⟨(tmTr (firstOf (bodyOf t))).atom.toArray⟩, .slice A2 n2 c2] 35)) :=
      ⟨((Blk.new _ _ _).below hb3 (by simp)).alloc _, Blk.new _ _ _, (HTB.out.below hb3 (fun q hq => by have := HAL.out q hq; simp; omega)).alloc hall3 _, htf.alloc hall3 _, fun q hq => by have := hall3 q hq; simp; omega,
        ((HB2.out.trans (hb3.mono (by simp; omega))).alloc (by omega) _), by simp; omega⟩
    have HKP := Lib.hid hk
    have hba := bodyOf_atoms t
    have hfa := firstOf_atoms (bodyOf t)
    have C1 : Hid (∀ w', PKeep w.heap.size w (fun q => w.heap.size ≤ q ∧ q < w1.heap.size) w2.heap.size w3.heap.size (bodyOf t) (firstOf (bodyOf t)) A1 A2 n1 c1 n2 c2 w' → Calls Try.prog 37 #[.agg #[.string ⟨(tmTr (bodyOf t)).atom.toArray⟩, .slice A1 n1 c1]] w' fun e w4 => e = .returned (.string ⟨(wrTm (bodyOf t)).toArray⟩) ∧ PKeep w.heap.size w (fun q => w.heap.size ≤ q ∧ q < w1.heap.size) w2.heap.size w3.heap.size (bodyOf t) (firstOf (bodyOf t)) A1 A2 n1 c1 n2 c2 w4) :=
      Lib.hid (fun w' h => (l1Text_tm (bodyOf t) (bodyOf_ok t HK.out) (by omega) _ _ _ h.tr1 h.all).mono fun _ _ ⟨he, hb⟩ => ⟨he, h.more hb⟩)
    have C2 : Hid (∀ w', PKeep w.heap.size w (fun q => w.heap.size ≤ q ∧ q < w1.heap.size) w2.heap.size w3.heap.size (bodyOf t) (firstOf (bodyOf t)) A1 A2 n1 c1 n2 c2 w' → Calls Try.prog 37 #[.agg #[.string ⟨(tmTr (firstOf (bodyOf t))).atom.toArray⟩, .slice A2 n2 c2]] w' fun e w4 => e = .returned (.string ⟨(wrTm (firstOf (bodyOf t))).toArray⟩) ∧ PKeep w.heap.size w (fun q => w.heap.size ≤ q ∧ q < w1.heap.size) w2.heap.size w3.heap.size (bodyOf t) (firstOf (bodyOf t)) A1 A2 n1 c1 n2 c2 w4) :=
      Lib.hid (fun w' h => (l1Text_tm (firstOf (bodyOf t)) (firstOf_ok _ (bodyOf_ok t HK.out)) (by omega) _ _ _ h.tr2 h.all).mono fun _ _ ⟨he, hb⟩ => ⟨he, h.more hb⟩)
    clear htf hown hvs hb3 hall3 hk
    go_wp2_with fail
    go_region_held3 (fun w' => w'.cell? ⟨w2.heap.size, 0, none⟩ = some (.string ⟨(tmTr (bodyOf t)).atom.toArray⟩) ∧ w'.cell? ⟨w2.heap.size, 1, none⟩ = some (.slice A1 n1 c1) ∧ w'.cell? ⟨w3.heap.size, 0, none⟩ = some (.string ⟨(tmTr (firstOf (bodyOf t))).atom.toArray⟩) ∧ w'.cell? ⟨w3.heap.size, 1, none⟩ = some (.slice A2 n2 c2) ∧ PKeep w.heap.size w (fun q => w.heap.size ≤ q ∧ q < w1.heap.size) w2.heap.size w3.heap.size (bodyOf t) (firstOf (bodyOf t)) A1 A2 n1 c1 n2 c2 w')
      (first | exact HKP.out.drew.s | exact PKeep.s (by assumption) | exact (PKeep.drew (by assumption)).s)
      (first
        | (go_at_call 37; (with_reducible refine (C1.out _ ?_).mono ?_); (first | assumption | exact HKP.out.drew); rintro e w4 ⟨rfl, hk4⟩)
        | (go_at_call 37; (with_reducible refine (C2.out _ ?_).mono ?_); (first | assumption | exact HKP.out.drew); rintro e w5 ⟨rfl, hk5⟩))
    all_goals
      go_wp2
      refine bodyPost_ret (v := .tuple #[.int .i64 (lamsOf t).length, .string ⟨(wrTm (bodyOf t)).toArray⟩, .string ⟨(wrTm (firstOf (bodyOf t))).toArray⟩, .int .i64 (argsOf (bodyOf t)).length, .bool true]) (by simp [results, Try.results20, go_sem]) rfl ?_
      exact ⟨by rw [HR.out]; rfl, hk5.below⟩
  · have HR := Lib.hid hrd
    have hz := hb1.size
    clear hrd
    go_wp2
    refine bodyPost_ret (v := .tuple #[.int .i64 0, .string ⟨#[]⟩, .string ⟨#[]⟩, .int .i64 0, .bool false]) (by simp [results, Try.results20, go_sem]) rfl ?_
    exact ⟨by rw [HR.out]; rfl, hb1.alloc hz _⟩

/-- What the taking apart of a term that was read gives. -/
theorem parts_of (t : Tm) : dLams (toDB [] t) = lamsOf t ∧ dBody (toDB [] t) = toDB (lamsOf t).reverse (bodyOf t) ∧ dFirst (dBody (toDB [] t)) = toDB (lamsOf t).reverse (firstOf (bodyOf t)) ∧ dArgs (dBody (toDB [] t)) = (argsOf (bodyOf t)).map (toDB (lamsOf t).reverse) := by
  have h := dBody_toDB t []
  rw [List.append_nil] at h
  exact ⟨dLams_toDB t [], h, by rw [h, dFirst_toDB], by rw [h, dArgs_toDB]⟩
theorem SRow.scope {w : World} {b : Nat} {v : Value} {l : List (List UInt8)} (h : SRow w b v l) : Scope w v l.reverse := by
  have h1 := own_base h (Nat.zero_le _)
  unfold Scope
  rw [List.length_reverse, List.reverse_reverse]
  exact h1

/-- The text of a term within lams that were taken off. -/
theorem text_part (t : Tm) (hok : t.ok) (hat : t.atoms ≤ 400) (rs : List (List UInt8)) (hrs : rs.length ≤ 400) (v : Value) (w : World) (P : Nat → Prop) (sc : Value) (hd : DAt w P (toDB rs t) v) (hsc : Scope w sc rs) :
    Calls Try.prog 39 #[v, sc] w fun e w' => e = .returned (.string ⟨(wrTm t).toArray⟩) ∧ w.grownBy w' sc.ownBlock ∧ Scope w' sc rs ∧ (∀ q cs, Blk w q 66 cs → Blk w' q 66 cs) := by
  have hs := size_atoms t
  have hl := wrTm_short t hok
  have h := text_any (toDB rs t) v w P sc rs hd hsc (toDB_cl t rs) (by rw [toDB_size]; omega) (by rw [wrD_toDB]; omega)
  rw [wrD_toDB] at h
  exact h

set_option maxRecDepth 100000 in
set_option maxHeartbeats 2000000 in
theorem implTermParts_any (s : ByteArray) (w : World) (hm : s.size ≤ maxLen) :
    Calls Try.prog 21 #[.string s] w (TpPost (rdTerm s.data.toList) w) := by
  go_enter Try.func21, Try.ntmps21
  go_wp2_with fail
  refine (readTerm_any s _ hm).mono ?_
  rintro e w1 ⟨hb1, ⟨t, v, hrd, rfl, hd⟩ | ⟨hrd, rfl⟩⟩
  · obtain ⟨d, rfl, _⟩ := hd.shape
    obtain ⟨hok, hat⟩ := rdTerm_good _ _ hrd
    have hsa := size_atoms t
    obtain ⟨p1, p2, p3, p4⟩ := parts_of t
    have HR := Lib.hid hrd
    have HD := Lib.hid hd
    have HK := Lib.hid hok
    have HB1 := Lib.hid hb1
    have hz1 := hb1.size
    have HP1 := Lib.hid p1
    have HP2 := Lib.hid p2
    have HP3 := Lib.hid p3
    have HP4 := Lib.hid p4
    have hba := bodyOf_atoms t
    have hfa := firstOf_atoms (bodyOf t)
    have hls := lamsOf_size t
    have has := dArgs_size (dBody (toDB [] t))
    have hbs := dBody_size (toDB [] t)
    have hts : (toDB [] t).size ≤ 1000 := by rw [toDB_size]; omega
    clear hrd hd hok p1 p2 p3 p4 hb1
    go_wp2_with fail
    refine (takeApart_any _ _ _ _ HD.out (fun q hq => hq.2) hts).mono ?_
    rintro e w2 ⟨lv, bb, fb, av, xs, rfl, hb2, hlv, hbd, hfd, hav, hds⟩
    rw [HP1.out] at hlv
    rw [HP2.out] at hbd
    rw [HP3.out] at hfd
    rw [HP4.out] at hds
    obtain ⟨AL, cl, hlve⟩ := own_shape hlv
    obtain ⟨AA, ca, have_⟩ := own_shape hav
    subst hlve have_
    have hxl : xs.length = (argsOf (bodyOf t)).length := by have := hds.1; rw [List.length_map] at this; exact this.symm
    have hsc := hlv.scope
    have hz2 := hb2.size
    have hspn := Blk.new w2 54 #[.slice AL (lamsOf t).length cl, .pointer (some ⟨bb, 0, none⟩), .pointer (some ⟨fb, 0, none⟩), .slice AA xs.length ca]
    have HSPN := Lib.hid hspn
    have HSC := Lib.hid (hsc.alloc (.cells #[.slice AL (lamsOf t).length cl, .pointer (some ⟨bb, 0, none⟩), .pointer (some ⟨fb, 0, none⟩), .slice AA xs.length ca] 54))
    have HBD := Lib.hid (hbd.keep (w' := w2.alloc (.cells #[.slice AL (lamsOf t).length cl, .pointer (some ⟨bb, 0, none⟩), .pointer (some ⟨fb, 0, none⟩), .slice AA xs.length ca] 54)) (fun q cs hk => hk.alloc _))
    have HFD := Lib.hid (hfd.keep (w' := w2.alloc (.cells #[.slice AL (lamsOf t).length cl, .pointer (some ⟨bb, 0, none⟩), .pointer (some ⟨fb, 0, none⟩), .slice AA xs.length ca] 54)) (fun q cs hk => hk.alloc _))
    have HB2 := Lib.hid (HB1.out.trans (hb2.mono hz1))
    have HLV := Lib.hid hlv
    have HXL := Lib.hid hxl
    have hlr : (lamsOf t).reverse.length ≤ 400 := by rw [List.length_reverse]; omega
    clear hspn hsc hbd hfd hb2 hlv hav hds hxl
    go_wp2_with fail
    refine (text_part (bodyOf t) (bodyOf_ok t HK.out) (by omega) (lamsOf t).reverse hlr _ _ _ _ HBD.out HSC.out).mono ?_
    rintro e w3 ⟨rfl, hg3, hs3, hk3⟩
    have hz3 := hg3.size
    simp at hz3
    have hsp3 := HSPN.out.grown hg3 (row_not HSPN.out HSC.out (by decide))
    have c1 := hsp3.cell 1
    have c0 := hsp3.cell 0
    have c2 := hsp3.cell 2
    have cl3 := hsp3.lt
    simp at c0 c1 c2
    have HFD3 := Lib.hid (HFD.out.keep hk3)
    have HSP3 := Lib.hid hsp3
    have HS3 := Lib.hid hs3
    have HG3 := Lib.hid hg3
    clear hg3 hs3 hk3 hsp3
    go_wp2_with fail
    refine (text_part (firstOf (bodyOf t)) (firstOf_ok _ (bodyOf_ok t HK.out)) (by omega) (lamsOf t).reverse hlr _ _ _ _ HFD3.out HS3.out).mono ?_
    rintro e w4 ⟨rfl, hg4, hs4, hk4⟩
    have hz4 := hg4.size
    have hsp4 := HSP3.out.grown hg4 (row_not HSP3.out HS3.out (by decide))
    have d0 := hsp4.cell 0
    have d3 := hsp4.cell 3
    have dl := hsp4.lt
    simp at d0 d3
    have HG4 := Lib.hid hg4
    clear hg4 hs4 hk4 hsp4 c0 c1 c2
    go_wp2_with fail
    go_quiet (fail)
    go_wp2
    refine bodyPost_ret (v := .tuple #[.int .i64 (lamsOf t).length, .string ⟨(wrTm (bodyOf t)).toArray⟩, .string ⟨(wrTm (firstOf (bodyOf t))).toArray⟩, .int .i64 xs.length, .bool true]) (by simp [results, Try.results21, go_sem]) rfl ?_
    refine ⟨by rw [HR.out, HXL.out]; rfl, below_drewN' ?_ _⟩
    have hrow : ∀ k, (Value.slice AL (lamsOf t).length cl).ownBlock = some k → w.heap.size ≤ k := fun k e => by have := (HLV.out.lt k e).1; omega
    exact ((HB2.out.alloc (by omega) _).grown HG3.out (by simp; omega) hrow).grown HG4.out (by omega) hrow
  · have HR := Lib.hid hrd
    clear hrd
    go_wp2
    refine bodyPost_ret (v := .tuple #[.int .i64 0, .string ⟨#[]⟩, .string ⟨#[]⟩, .int .i64 0, .bool false]) (by simp [results, Try.results21, go_sem]) rfl ?_
    exact ⟨by rw [HR.out]; rfl, hb1⟩
end Go.Proofs.Ytgceephloklpbac
