/- The program counts the atoms of parts, and makes terms with depths of them. -/
import Derived.Test.YtjcdclnaplojcaaGreatDoorL
import Derived.Test.YtjcdclnaplojcaaGreatDoorPC
namespace Go.Proofs.YtjcdclnaplojcaaGreatDoor
set_option linter.unusedVariables false
open Go.RowKit

/-- What the making of a term with depths answers. -/
def ToPost (t : Option Tm) (rs : List (List UInt8)) (sc : Value) (w : World) (e : Ending) (w' : World) : Prop :=
  w.grownBy w' sc.ownBlock ∧ Scope w' sc rs ∧
  ((∃ tm v, t = some tm ∧ e = .returned (.tuple #[v, .bool true]) ∧ DAt w' (fun b => w.heap.size ≤ b ∧ b < w'.heap.size) (toDB rs tm) v) ∨
   (t = none ∧ e = .returned (.tuple #[.pointer none, .bool false])))

theorem to_drew {t : Option Tm} {rs : List (List UInt8)} {sc : Value} {w : World} {e : Ending} {w' : World} (h : ToPost t rs sc w.drew e w') : Hid (ToPost t rs sc w e w') :=
  Lib.hid ⟨⟨h.1.os, h.1.tape, h.1.output, h.1.size, h.1.block⟩, h.2.1, h.2.2⟩
theorem ToPost.shape {t : Option Tm} {rs : List (List UInt8)} {sc : Value} {w : World} {e : Ending} {w' : World} (h : ToPost t rs sc w e w') : ∃ v q, e = .returned (.tuple #[v, .bool q]) := by
  obtain ⟨_, _, ⟨_, v, _, rfl, _⟩ | ⟨_, rfl⟩⟩ := h
  · exact ⟨_, _, rfl⟩
  · exact ⟨_, _, rfl⟩

/-- The contract of termOf at a tree. -/
def ToSaid (t : Tr) : Prop := ∀ (v : Value) (rs : List (List UInt8)) (sc : Value) (w : World) (P : Nat → Prop), PAt w P t v → (∀ b, P b → b < w.heap.size ∧ some b ≠ sc.ownBlock) → Scope w sc rs → trAtoms t + rs.length ≤ 10000 →
  Calls Tryz.prog 69 #[v, sc] w (ToPost (trTm t) rs sc w)

theorem Tryz.infoStr : (Tryz.prog.info? 9).map (fun i => (i.zero, i.size, i.bytes)) = some (some (.string ⟨#[]⟩), 1, 16) := by kernel_rfl

theorem scope_snoc (x : List UInt8) (rs : List (List UInt8)) : (x :: rs).reverse.map strV = rs.reverse.map strV ++ [.string ⟨x.toArray⟩] := by simp [strV]

/-- What the scope is behind the making of what stands within a lam. -/
theorem scope_back {w w2 w3 : World} {sc sc2 : Value} {x : List UInt8} {rs : List (List UInt8)} {o : Obj} (hsc : Scope w sc rs) (hold2 : Scope w2 sc rs) (hg2 : (w.alloc o).grownBy w2 sc.ownBlock)
    (hat2 : (∃ g cap, sc = .slice (some ⟨g, 0, none⟩) rs.length cap ∧ sc2 = .slice (some ⟨g, 0, none⟩) (rs.length + 1) cap) ∨ (sc2.ownBlock = some (w.alloc o).heap.size ∧ (w.alloc o).grownBy w2 none))
    (hg3 : w2.grownBy w3 sc2.ownBlock) (hsc3 : Scope w3 sc2 (x :: rs)) : w.grownBy w3 sc.ownBlock ∧ Scope w3 sc rs := by
  have hlt := hsc.lt
  have hz2 := hg2.size
  simp only [World.size_alloc] at hz2
  have hg02 : w.grownBy w2 sc.ownBlock := (World.grownBy_alloc w o _).trans hg2
  rcases hat2 with ⟨g, cap, rfl, rfl⟩ | ⟨h1, h2⟩
  · refine ⟨hg02.trans hg3, ?_⟩
    have h := hsc3
    unfold Scope at h ⊢
    rw [scope_snoc] at h
    exact own_shorter h
  · rw [h1] at hg3
    simp only [World.size_alloc] at hg3
    refine ⟨⟨hg3.os.trans hg02.os, hg3.tape.trans hg02.tape, hg3.output.trans hg02.output, by have := hg3.size; omega, fun k hk hne => ?_⟩, ?_⟩
    · rw [hg3.block k (by omega) (by intro e; injection e with e; omega)]
      exact hg02.block k hk hne
    · refine World.ownsRow.kept hold2 hg3 ?_
      cases hv : sc.ownBlock with
      | none => exact .inl rfl
      | some q => right; intro e; have := hlt q hv; injection e with e; omega

theorem PAt.scoped {w w2 : World} {P : Nat → Prop} {t : Tr} {v sc : Value} {o : Obj} (h : PAt w P t v) (hP : ∀ b, P b → b < w.heap.size ∧ some b ≠ sc.ownBlock) (hg : (w.alloc o).grownBy w2 sc.ownBlock) : PAt w2 P t v :=
  h.mono fun b hb => ⟨hb, fun o' => by
    rw [World.cell?_of_block (w := w.alloc o) (hg.block b (by simp; have := (hP b hb).1; omega) (hP b hb).2), World.cell?_alloc_lt _ _ _ (hP b hb).1]⟩
theorem PAt.grown {w w2 : World} {P : Nat → Prop} {t : Tr} {v sc : Value} (h : PAt w P t v) (hP : ∀ b, P b → b < w.heap.size ∧ some b ≠ sc.ownBlock) (hg : w.grownBy w2 sc.ownBlock) : PAt w2 P t v :=
  h.mono fun b hb => ⟨hb, fun o' => World.cell?_of_block (w := w) (hg.block b (hP b hb).1 (hP b hb).2)⟩

set_option maxRecDepth 100000 in
theorem lamOf_any (x : List UInt8) (hx : x.length ≤ 8000) (t : Tr) (iht : ToSaid t) (v : Value) (rs : List (List UInt8)) (sc : Value) (w : World) (P : Nat → Prop) (ht : PAt w P t v) (hP : ∀ b, P b → b < w.heap.size ∧ some b ≠ sc.ownBlock) (hsc : Scope w sc rs) (hat : trAtoms t + rs.length + 1 ≤ 10000) :
    Calls Tryz.prog 101 #[.string ⟨x.toArray⟩, v, sc] w (ToPost (if isNm x = true then (trTm t).map (.lam x) else none) rs sc w) := by
  obtain ⟨A, c, rfl⟩ := own_shape hsc
  obtain ⟨b, rfl, hPb⟩ := ht.shape
  have HS := Lib.hid hsc
  have HT := Lib.hid ht
  have HP := Lib.hid hP
  have IH := Lib.hid iht
  clear hsc ht hP iht
  cases hn : isNm x with
  | false =>
    go_enter Tryz.func101, Tryz.ntmps101
    go_wp2_with fail
    refine (isName_any _ _ (by simp [ByteArray.size, maxLen]; omega)).mono ?_
    rintro e w2 ⟨rfl, rfl⟩
    rw [toNil]
    go_wp2_with fail
    go_ret2
    exact ⟨grown_refl _ _, HS.out, .inr ⟨rfl, rfl⟩⟩
  | true =>
    obtain ⟨i0, hinf, hz0, hzs, hzb⟩ := info_parts Tryz.infoStr
    go_enter Tryz.func101, Tryz.ntmps101
    go_wp2_with fail
    refine (isName_any _ _ (by simp [ByteArray.size, maxLen]; omega)).mono ?_
    rintro e w2 ⟨rfl, rfl⟩
    rw [toNil]
    go_wp2_with (first
      | (at_builtin
         refine wpList_append_two rfl (.tmp 15) (.tmp 17) 55 rfl 9 i0 (.string ⟨#[]⟩) 16 Tryz.underlying55 hinf hz0 hzs hzb rfl (.slice A rs.length c) rs.length (rs.reverse.map strV) rfl (HS.out.alloc _) ⟨w.heap.size, 0, none⟩ 1 (.string ⟨x.toArray⟩) rfl ?_ rfl ?_ ?_ ?_
         · simp
         · unfold maxLen; omega
         · omega
         intro sc2 w2 hown2 hold2 hg2 hat2)
      | fail)
    have hsc2 : Scope w2 sc2 (x :: rs) := by
      unfold Scope
      rw [scope_snoc]
      exact hown2
    have ht2 := HT.out.scoped HP.out hg2
    have hz2 := hg2.size
    simp only [World.size_alloc] at hz2
    refine (IH.out _ (x :: rs) _ _ P ht2 (fun q hq => ⟨by have := (HP.out q hq).1; omega, ?_⟩) hsc2 (by simp; omega)).mono ?_
    · rcases hat2 with ⟨g, cap, h1, rfl⟩ | ⟨h1, _⟩
      · rw [h1] at HP; exact (HP.out q hq).2
      · rw [h1]; intro e; have := (HP.out q hq).1; simp at e; omega
    rintro e w3 ⟨hg3, hsc3, ⟨tm, v, htm, rfl, hd⟩ | ⟨htm, rfl⟩⟩
    · obtain ⟨d, rfl, hdP⟩ := hd.shape
      have hbk := scope_back HS.out hold2 hg2 hat2 hg3 hsc3
      have HB := Lib.hid hbk
      have HM := Lib.hid htm
      have HD := Lib.hid hd
      clear htm hd hsc3 hbk hat2 hold2 hown2 hsc2 ht2
      go_wp2_with fail
      refine (newLam_any x d _).mono ?_
      rintro e w4 ⟨rfl, rfl⟩
      go_wp2_with fail
      go_ret2
      refine ⟨HB.out.1.trans (World.grownBy_alloc _ _ _), HB.out.2.alloc _, .inl ⟨.lam x tm, _, by rw [HM.out]; rfl, rfl, ?_⟩⟩
      have hz3 := hg3.size
      exact ⟨w3.heap.size, d, rfl, ⟨by omega, by simp⟩, hx, Blk.new _ _ _, HD.out.mono fun q hq => ⟨⟨by omega, by simp; omega⟩, Below.heap_alloc _ _ _ hq.2⟩⟩
    · have hbk := scope_back HS.out hold2 hg2 hat2 hg3 hsc3
      have HB := Lib.hid hbk
      have HM := Lib.hid htm
      clear htm hsc3 hbk hat2 hold2 hown2 hsc2 ht2
      go_wp2_with fail
      go_ret2
      exact ⟨HB.out.1, HB.out.2, .inr ⟨by rw [HM.out]; rfl, rfl⟩⟩

set_option maxRecDepth 100000 in
theorem appOf_any (t1 t2 : Tr) (ih1 : ToSaid t1) (ih2 : ToSaid t2) (v1 v2 : Value) (rs : List (List UInt8)) (sc : Value) (w : World) (P : Nat → Prop) (ht1 : PAt w P t1 v1) (ht2 : PAt w P t2 v2) (hP : ∀ b, P b → b < w.heap.size ∧ some b ≠ sc.ownBlock) (hsc : Scope w sc rs) (hat : trAtoms t1 + trAtoms t2 + rs.length ≤ 10000) :
    Calls Tryz.prog 102 #[v1, v2, sc] w (ToPost (appO (trTm t1) (trTm t2)) rs sc w) := by
  obtain ⟨A, c, rfl⟩ := own_shape hsc
  obtain ⟨b1, rfl, hPb1⟩ := ht1.shape
  obtain ⟨b2, rfl, hPb2⟩ := ht2.shape
  have HS := Lib.hid hsc
  have HT1 := Lib.hid ht1
  have HT2 := Lib.hid ht2
  have HP := Lib.hid hP
  have IH1 := Lib.hid ih1
  have IH2 := Lib.hid ih2
  have hlt := hsc.lt
  have HLT := Lib.hid hlt
  clear hsc ht1 ht2 hP ih1 ih2 hlt
  go_enter Tryz.func102, Tryz.ntmps102
  go_wp2_with fail
  refine (IH1.out _ rs _ _ P HT1.out HP.out HS.out (by omega)).mono ?_
  rintro e w1 ⟨hg1, hsc1, ⟨tm1, v, htm, rfl, hd⟩ | ⟨htm, rfl⟩⟩
  · obtain ⟨d1, rfl, hdP⟩ := hd.shape
    have HM1 := Lib.hid htm
    have HD1 := Lib.hid hd
    have HS1 := Lib.hid hsc1
    have hz1 := hg1.size
    clear htm hd hsc1
    go_wp2_with fail
    refine (IH2.out _ rs _ _ P (HT2.out.grown HP.out hg1) (fun q hq => ⟨by have := (HP.out q hq).1; omega, (HP.out q hq).2⟩) HS1.out (by omega)).mono ?_
    rintro e w2 ⟨hg2, hsc2, ⟨tm2, v, htm, rfl, hd⟩ | ⟨htm, rfl⟩⟩
    · obtain ⟨d2, rfl, hdP2⟩ := hd.shape
      have HM2 := Lib.hid htm
      have HD2 := Lib.hid hd
      have HS2 := Lib.hid hsc2
      have hz2 := hg2.size
      clear htm hd hsc2
      go_wp2_with fail
      refine (newApp_any d1 d2 _).mono ?_
      rintro e w4 ⟨rfl, rfl⟩
      go_wp2_with fail
      go_ret2
      refine ⟨(hg1.trans hg2).trans (World.grownBy_alloc _ _ _), HS2.out.alloc _, .inl ⟨.app tm1 tm2, _, by rw [HM1.out, HM2.out]; rfl, rfl, ?_⟩⟩
      refine ⟨w2.heap.size, d1, d2, rfl, ⟨by omega, by simp⟩, Blk.new _ _ _, HD1.out.mono fun q hq => ⟨⟨hq.1, by simp; omega⟩, ?_⟩, HD2.out.mono fun q hq => ⟨⟨by omega, by simp; omega⟩, Below.heap_alloc _ _ _ hq.2⟩⟩
      rw [Below.heap_alloc _ _ _ (by omega)]
      exact hg2.block q hq.2 (fun e => by have := HLT.out q e.symm; omega)
    · have HM2 := Lib.hid htm
      have HS2 := Lib.hid hsc2
      clear htm hsc2
      go_wp2_with fail
      go_ret2
      exact ⟨hg1.trans hg2, HS2.out, .inr ⟨by rw [HM1.out, HM2.out]; rfl, rfl⟩⟩
  · have HM1 := Lib.hid htm
    have HS1 := Lib.hid hsc1
    clear htm hsc1
    go_wp2_with fail
    go_ret2
    exact ⟨hg1, HS1.out, .inr ⟨by rw [HM1.out]; rfl, rfl⟩⟩

section
variable {a0 a1 : List UInt8} {q1 : List Tr} {p2 : Tr} {rs : List (List UInt8)} {A : Option Addr} {c b g cap b0 b1 b2 : Nat} {w : World} {P : Nat → Prop}
set_option maxRecDepth 100000 in
set_option maxHeartbeats 4000000 in
theorem termOf_lam (k0 : w.cell? ⟨b, 0, none⟩ = some (.string ⟨#[]⟩)) (k1 : w.cell? ⟨b, 1, none⟩ = some (.slice (some ⟨g, 0, none⟩) 3 cap)) (c0 : w.cell? ⟨g, 0, none⟩ = some (.pointer (some ⟨b0, 0, none⟩))) (c1 : w.cell? ⟨g, 1, none⟩ = some (.pointer (some ⟨b1, 0, none⟩))) (c2 : w.cell? ⟨g, 2, none⟩ = some (.pointer (some ⟨b2, 0, none⟩)))
    (d0 : w.cell? ⟨b0, 0, none⟩ = some (.string ⟨a0.toArray⟩)) (d1 : w.cell? ⟨b1, 0, none⟩ = some (.string ⟨a1.toArray⟩)) (hl1 : a1.length ≤ 8000) (ih2 : ToSaid p2) (t2 : PAt w P p2 (.pointer (some ⟨b2, 0, none⟩)))
    (hP : ∀ q, P q → q < w.heap.size ∧ some q ≠ (Value.slice A rs.length c).ownBlock) (hS : Scope w (.slice A rs.length c) rs) (hb : trAtoms p2 + rs.length + 1 ≤ 10000) (hLb : (a0 == [108, 97, 109]) = true) :
    Calls Tryz.prog 69 #[.pointer (some ⟨b, 0, none⟩), .slice A rs.length c] w (ToPost (if isNm a1 = true then (trTm p2).map (.lam a1) else none) rs (.slice A rs.length c) w) := by
  have IH2 := Lib.hid ih2
  have T2 := Lib.hid t2
  have HP := Lib.hid hP
  have HS := Lib.hid hS
  have HBD := Lib.hid hb
  generalize hR : (if isNm a1 = true then (trTm p2).map (Tm.lam a1) else none) = R
  have HR := Lib.hid hR
  clear ih2 t2 hP hS hb hR
  go_enter Tryz.func69, Tryz.ntmps69
  go_wp2_with fail
  go_region_with (first
    | (go_at_call 101; refine (lamOf_any a1 hl1 p2 IH2.out _ rs _ _ P (by exact T2.out.mono fun q hq => ⟨hq, fun _ => rfl⟩) (by exact HP.out) (by exact HS.out) HBD.out).mono ?_; rw [HR.out]; intro e w2 hp; have HPO := to_drew hp; clear hp; rcases HPO.out.shape with ⟨v, q, rfl⟩))
  all_goals
    go_wp2
    go_ret2
    exact HPO.out

set_option maxRecDepth 100000 in
set_option maxHeartbeats 4000000 in
theorem termOf_app (k0 : w.cell? ⟨b, 0, none⟩ = some (.string ⟨#[]⟩)) (k1 : w.cell? ⟨b, 1, none⟩ = some (.slice (some ⟨g, 0, none⟩) 3 cap)) (c0 : w.cell? ⟨g, 0, none⟩ = some (.pointer (some ⟨b0, 0, none⟩))) (c1 : w.cell? ⟨g, 1, none⟩ = some (.pointer (some ⟨b1, 0, none⟩))) (c2 : w.cell? ⟨g, 2, none⟩ = some (.pointer (some ⟨b2, 0, none⟩)))
    (d0 : w.cell? ⟨b0, 0, none⟩ = some (.string ⟨a0.toArray⟩)) (ih1 : ToSaid (.mk a1 q1)) (ih2 : ToSaid p2) (t1 : PAt w P (.mk a1 q1) (.pointer (some ⟨b1, 0, none⟩))) (t2 : PAt w P p2 (.pointer (some ⟨b2, 0, none⟩)))
    (hP : ∀ q, P q → q < w.heap.size ∧ some q ≠ (Value.slice A rs.length c).ownBlock) (hS : Scope w (.slice A rs.length c) rs) (hb : trAtoms (.mk a1 q1) + trAtoms p2 + rs.length ≤ 10000) (hLb : (a0 == [108, 97, 109]) = false) (hAb : (a0 == [97, 112, 112]) = true) :
    Calls Tryz.prog 69 #[.pointer (some ⟨b, 0, none⟩), .slice A rs.length c] w (ToPost (appO (trTm (.mk a1 q1)) (trTm p2)) rs (.slice A rs.length c) w) := by
  have IH1 := Lib.hid ih1
  have IH2 := Lib.hid ih2
  have T1 := Lib.hid t1
  have T2 := Lib.hid t2
  have HP := Lib.hid hP
  have HS := Lib.hid hS
  have HBD := Lib.hid hb
  generalize hR : appO (trTm (.mk a1 q1)) (trTm p2) = R
  have HR := Lib.hid hR
  clear ih1 ih2 t1 t2 hP hS hb hR
  go_enter Tryz.func69, Tryz.ntmps69
  go_wp2_with fail
  go_region_with (first
    | (go_at_call 102; refine (appOf_any (.mk a1 q1) p2 IH1.out IH2.out _ _ rs _ _ P (by exact T1.out.mono fun q hq => ⟨hq, fun _ => rfl⟩) (by exact T2.out.mono fun q hq => ⟨hq, fun _ => rfl⟩) (by exact HP.out) (by exact HS.out) HBD.out).mono ?_; rw [HR.out]; intro e w2 hp; have HPO := to_drew hp; clear hp; rcases HPO.out.shape with ⟨v, q, rfl⟩))
  all_goals
    go_wp2
    go_ret2
    exact HPO.out
end

set_option maxRecDepth 100000 in
set_option maxHeartbeats 2000000 in
theorem termOf_any : ∀ (t : Tr), ToSaid t := by
  intro t
  refine Tr.all (p := ToSaid) ?_ t
  intro a ps ih v rs sc w P ht hP hsc hat
  obtain ⟨b, vp, rfl, hPb, k0, k1, hle, hle2, hv⟩ := ht.form
  obtain ⟨A, c, rfl⟩ := own_shape hsc
  have HS := Lib.hid hsc
  have HP := Lib.hid hP
  have hrs : rs.length ≤ 10000 := by omega
  by_cases ha : a = []
  · subst ha
    by_cases h3 : ps.length = 3
    · match ps, h3 with
      | [p0, p1, p2], _ =>
      rcases hv with ⟨h, _⟩ | ⟨_, g, cap, xs, rfl, hcap, hPg, hc, hvs⟩
      · cases h
      obtain ⟨x0, h0, t0⟩ := hvs.at_ 0 p0 rfl
      obtain ⟨x1, h1, t1⟩ := hvs.at_ 1 p1 rfl
      obtain ⟨x2, h2, t2⟩ := hvs.at_ 2 p2 rfl
      have c0 := hc _ _ h0
      have c1 := hc _ _ h1
      have c2 := hc _ _ h2
      obtain ⟨a0, q0⟩ := p0
      obtain ⟨a1, q1⟩ := p1
      obtain ⟨b0, rfl, hb0⟩ := t0.shape
      obtain ⟨b1, rfl, hb1⟩ := t1.shape
      obtain ⟨b2, rfl, hb2⟩ := t2.shape
      obtain ⟨_, _, _, d0, _, _, _, _, _⟩ := t0.cells
      obtain ⟨_, _, _, d1, _, _, _, hl1, _⟩ := t1.cells
      have IH1 := Lib.hid (ih (.mk a1 q1) (by simp))
      have IH2 := Lib.hid (ih p2 (by simp))
      have T1 := Lib.hid t1
      have T2 := Lib.hid t2
      have hsum : trAtoms (.mk a0 q0) + trAtoms (.mk a1 q1) + trAtoms p2 + rs.length ≤ 10000 := by
        have e : trAtoms (.mk [] [.mk a0 q0, .mk a1 q1, p2]) = trAtoms (.mk a0 q0) + (trAtoms (.mk a1 q1) + (trAtoms p2 + 0)) := by
          rw [trAtoms, if_pos rfl]; rfl
        rw [e] at hat
        omega
      have HSUM := Lib.hid hsum
      clear ih ht hsc hP hc hvs t0 t1 t2 h0 h1 h2 hsum hat
      by_cases hL : a0 = sLam
      · have hb : trAtoms p2 + rs.length + 1 ≤ 10000 := by
          have := HSUM.out
          have h1 : trAtoms (.mk a0 q0) = 1 := by rw [trAtoms, if_neg (by rw [hL]; decide)]
          omega
        rw [trTm_lam (.mk a0 q0) (.mk a1 q1) p2 hL]
        exact termOf_lam k0 k1 c0 c1 c2 d0 d1 hl1 IH2.out T2.out HP.out HS.out hb (by rw [hL]; rfl)
      · have hLb : (a0 == [108, 97, 109]) = false := beq_eq_false_iff_ne.2 hL
        by_cases hA : a0 = sApp
        · rw [trTm_app (.mk a0 q0) (.mk a1 q1) p2 hL hA]
          exact termOf_app k0 k1 c0 c1 c2 d0 IH1.out IH2.out T1.out T2.out HP.out HS.out (by have := HSUM.out; omega) hLb (by rw [hA]; rfl)
        · have hAb : (a0 == [97, 112, 112]) = false := beq_eq_false_iff_ne.2 hA
          have HX := Lib.hid (trTm_none (.mk a0 q0) (.mk a1 q1) p2 hL hA)
          clear hL hA
          go_enter Tryz.func69, Tryz.ntmps69
          go_wp2
          go_ret2
          exact ⟨grown_refl _ _, HS.out, .inr ⟨HX.out, rfl⟩⟩
    · have hl : ((ps.length : Int) != 3) = true := by rw [bne_iff_ne]; omega
      have HX := Lib.hid (trTm_few ps h3)
      rcases hv with ⟨rfl, rfl⟩ | ⟨hne, g, cap, xs, rfl, hcap, hPg, hc, hvs⟩
      · clear ih hl h3 ht
        go_enter Tryz.func69, Tryz.ntmps69
        go_wp2
        go_ret2
        exact ⟨grown_refl _ _, HS.out, .inr ⟨HX.out, rfl⟩⟩
      · clear ih hc hvs h3 ht
        go_enter Tryz.func69, Tryz.ntmps69
        go_wp2
        go_ret2
        exact ⟨grown_refl _ _, HS.out, .inr ⟨HX.out, rfl⟩⟩
  · have hae : (!a.isEmpty) = true := by cases a with
      | nil => exact absurd rfl ha
      | cons => rfl
    have HX := Lib.hid (trTm_atom a ps ha)
    clear ih hv ht hsc hP
    go_enter Tryz.func69, Tryz.ntmps69
    go_wp2_with fail
    refine (nameOf_any a hle rs _ _ HS.out hrs).mono ?_
    rintro e w1 (⟨hn, rfl, rfl⟩ | ⟨hn, hb, v, rfl, hd⟩)
    · have HN := Lib.hid hn
      clear hn
      go_wp2_with fail
      go_ret2
      exact ⟨grown_refl _ _, HS.out, .inr ⟨by rw [HX.out, HN.out]; rfl, rfl⟩⟩
    · have HN := Lib.hid hn
      have HD := Lib.hid hd
      clear hn hd
      go_wp2_with fail
      go_ret2
      have hgb := grown_of_below hb (Value.slice A rs.length c).ownBlock
      exact ⟨hgb, HS.out.kept (grown_of_below hb none) (by cases hv : (Value.slice A rs.length c).ownBlock <;> simp), .inl ⟨_, _, by rw [HX.out, if_pos HN.out], rfl, HD.out⟩⟩
end Go.Proofs.YtjcdclnaplojcaaGreatDoor
