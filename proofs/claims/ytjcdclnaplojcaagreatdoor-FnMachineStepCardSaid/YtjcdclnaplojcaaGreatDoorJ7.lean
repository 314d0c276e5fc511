/- What putting answers. The program moves a term within more lams, and puts a term for a bound name. The program counts the atoms of a term. The program's canonical term. The program makes the whole term with another part; what a redex becomes; a step. The program's step. The program goes many steps; normal terms. The program's NormalOf. -/
import Derived.Test.YtjcdclnaplojcaaGreatDoorJ4
import Derived.Test.YtjcdclnaplojcaaGreatDoorJ0
import Derived.Test.YtjcdclnaplojcaaGreatDoorL
import Derived.Test.YtjcdclnaplojcaaGreatDoorT0
import Derived.Test.YtjcdclnaplojcaaGreatDoorJ6
import Derived.Test.YtjcdclnaplojcaaGreatDoorJ3
import Derived.Deep.LoopGhost
import Derived.Test.YtjcdclnaplojcaaGreatDoorJ8
namespace Go.Proofs.YtjcdclnaplojcaaGreatDoor
set_option linter.unusedVariables false
open Go.RowKit

def PutPost (d : DB) (w : World) (e : Ending) (w' : World) : Prop :=
  ∃ b, e = .returned (.pointer (some ⟨b, 0, none⟩)) ∧ DTm w' d (.pointer (some ⟨b, 0, none⟩)) ∧ Below w.heap.size w w'
theorem lamS {w : World} {b q : Nat} {y : List UInt8} (h : Blk w b 132 #[.int .i64 2, .string ⟨y.toArray⟩, .int .i64 0, .pointer (some ⟨q, 0, none⟩), .pointer none]) :
    w.cell? ⟨b, 1, none⟩ = some (.string ⟨y.toArray⟩) ∧ w.cell? ⟨b, 3, none⟩ = some (.pointer (some ⟨q, 0, none⟩)) := by
  have h1 := h.cell 1
  have h3 := h.cell 3
  simp at h1 h3
  exact ⟨h1, h3⟩
theorem appS {w : World} {b q r : Nat} (h : Blk w b 132 #[.int .i64 3, .string ⟨#[]⟩, .int .i64 0, .pointer (some ⟨q, 0, none⟩), .pointer (some ⟨r, 0, none⟩)]) :
    w.cell? ⟨b, 3, none⟩ = some (.pointer (some ⟨q, 0, none⟩)) ∧ w.cell? ⟨b, 4, none⟩ = some (.pointer (some ⟨r, 0, none⟩)) := by
  have h1 := h.cell 3
  have h3 := h.cell 4
  simp at h1 h3
  exact ⟨h1, h3⟩

theorem below_undrew {B : Nat} {w w' : World} (h : Below B w.drew w') : Below B w w' := (Below.refl B w).drew.trans h
end Go.Proofs.YtjcdclnaplojcaaGreatDoor

namespace Go.Proofs.YtjcdclnaplojcaaGreatDoor
set_option linter.unusedVariables false
open Go.RowKit

def MvSaid (d : DB) : Prop := ∀ (more own n : Nat) (v : Value) (w : World), DTm w d v → d.cl n → n + d.size ≤ 100000 → own + d.size ≤ 100000 → more ≤ 100000 →
  Calls Tryz.prog 124 #[v, .int .i64 more, .int .i64 own] w (PutPost (moveD more own d) w)

theorem move_free (y : List UInt8) : MvSaid (.free y) := by
  rintro more own n v w hd hcl hsz ho hm
  obtain ⟨b, rfl, _, hx, hb⟩ := id hd
  have k0 := hb.cell 0
  simp at k0
  have HD := Lib.hid hd
  clear hd hb hcl
  go_enter Tryz.func124, Tryz.ntmps124
  go_wp2
  go_ret
  exact ⟨_, rfl, HD.out, Below.refl _ _⟩
theorem move_bnd (i : Nat) : MvSaid (.bnd i) := by
  rintro more own n v w hd hcl hsz ho hm
  obtain ⟨b, rfl, _, hb⟩ := id hd
  have k0 := hb.cell 0
  have k2 := hb.cell 2
  simp at k0 k2
  have hi : i < n := hcl
  simp only [DB.size] at hsz ho
  have HD := Lib.hid hd
  clear hd hb hcl
  by_cases hlt : own ≤ i
  · have HE : Hid (moveD more own (.bnd i) = .bnd (i + more)) := Lib.hid (by simp [moveD, hlt])
    have e0 : IntKind.i64.wrap ((i : Int) + (more : Int)) = ((i + more : Nat) : Int) := by rw [IntWalk.i64_in _ (by omega)]; omega
    go_enter Tryz.func124, Tryz.ntmps124
    go_wp2
    go_ret
    refine ⟨w.heap.size, rfl, ?_, (Below.refl _ _).alloc (Nat.le_refl _) _⟩
    rw [HE.out]
    have e1 : ((i + more : Nat) : Int) = (i : Int) + (more : Int) := by omega
    refine ⟨w.heap.size, rfl, trivial, ?_⟩
    rw [e1]
    exact Blk.new _ _ _
  · have HE : Hid (moveD more own (.bnd i) = .bnd i) := Lib.hid (by simp [moveD, hlt])
    go_enter Tryz.func124, Tryz.ntmps124
    go_wp2
    go_ret
    exact ⟨_, rfl, by rw [HE.out]; exact HD.out, Below.refl _ _⟩

set_option maxRecDepth 100000 in
set_option maxHeartbeats 1000000 in
theorem move_lam (y : List UInt8) (d : DB) (ih : MvSaid d) : MvSaid (.lam y d) := by
  rintro more own n v w hd hcl hsz ho hm
  obtain ⟨b, q, rfl, _, hx, hb, he⟩ := id hd
  have k0 := hb.cell 0
  simp at k0
  simp only [DB.size] at hsz ho
  have C1 := Lib.hid (ih more (own + 1) (n + 1) _ w.drew (he.drewN 1) hcl (by omega) (by omega) hm)
  have e0 : IntKind.i64.wrap ((own : Int) + 1) = ((own + 1 : Nat) : Int) := by rw [IntWalk.i64_in _ (by omega)]; omega
  have HX := Lib.hid hx
  have hbd := hb.drew
  clear hd hb he ih hx hcl
  go_enter Tryz.func124, Tryz.ntmps124
  go_wp2
  go_region_held3 (fun w' => w'.cell? ⟨b, 1, none⟩ = some (.string ⟨y.toArray⟩) ∧ w'.cell? ⟨b, 3, none⟩ = some (.pointer (some ⟨q, 0, none⟩)))
    (with_reducible first | exact lamS hbd | exact lamS (by assumption) | exact lamS (Blk.alloc (by assumption) _))
    (first
      | (go_at_call 124; (refine C1.out.mono ?_); rintro e w1 ⟨b1, rfl, hd1, hb1⟩; have hk1 := hbd.below hb1 hbd.lt; have HD1 := Lib.hid hd1; have HB1 := Lib.hid hb1; clear hd1 hb1)
      | (go_at_call 52; (with_reducible refine (newLam_any y b1 _).mono ?_); rintro e w2 ⟨rfl, rfl⟩))
  all_goals
    go_wp2
    go_ret
    exact ⟨w1.heap.size, rfl, ⟨w1.heap.size, b1, rfl, trivial, HX.out, Blk.new _ _ _, HD1.out.keep fun q cs hk => hk.alloc _⟩, (below_undrew HB1.out).alloc HB1.out.size _⟩

set_option maxRecDepth 100000 in
set_option maxHeartbeats 1000000 in
theorem move_app (f a : DB) (ihf : MvSaid f) (iha : MvSaid a) : MvSaid (.app f a) := by
  rintro more own n v w hd hcl hsz ho hm
  obtain ⟨b, q, r, rfl, _, hb, hdf, hda⟩ := id hd
  have k0 := hb.cell 0
  simp at k0
  simp only [DB.size] at hsz ho
  have C1 := Lib.hid (ihf more own n _ w.drew (hdf.drewN 1) hcl.1 (by omega) (by omega) hm)
  have C2 : Hid (∀ w', Below w.heap.size w w' → Calls Tryz.prog 124 #[.pointer (some ⟨r, 0, none⟩), .int .i64 more, .int .i64 own] w' (PutPost (moveD more own a) w')) := Lib.hid (fun w' h => iha more own n _ w' (hda.below2 h) hcl.2 (by omega) (by omega) hm)
  have hbd := hb.drew
  clear hd hb hdf hda ihf iha hcl
  go_enter Tryz.func124, Tryz.ntmps124
  go_wp2
  go_region_held3 (fun w' => w'.cell? ⟨b, 3, none⟩ = some (.pointer (some ⟨q, 0, none⟩)) ∧ w'.cell? ⟨b, 4, none⟩ = some (.pointer (some ⟨r, 0, none⟩)))
    (with_reducible first | exact appS hbd | exact appS (by assumption) | exact appS (Blk.alloc (by assumption) _))
    (first
      | (go_at_call 124; (with_reducible refine C1.out.mono ?_); rintro e w1 ⟨b1, rfl, hd1, hb1⟩; have hk1 := hbd.below hb1 hbd.lt; have HD1 := Lib.hid hd1; have HB1 := Lib.hid (below_undrew hb1); have C3 := Lib.hid (C2.out w1 HB1.out); clear hd1 hb1)
      | (go_at_call 124; (with_reducible refine C3.out.mono ?_); rintro e w2 ⟨b2, rfl, hd2, hb2⟩; have hk2 := hk1.below hb2 hk1.lt; have HD2 := Lib.hid hd2; have HD12 := Lib.hid (HD1.out.below2 hb2); have HB2 := Lib.hid (HB1.out.trans (hb2.mono HB1.out.size)); clear hd2 hb2)
      | (go_at_call 51; (with_reducible refine (newApp_any b1 b2 _).mono ?_); rintro e w3 ⟨rfl, rfl⟩))
  all_goals
    go_wp2
    go_ret
    exact ⟨w2.heap.size, rfl, ⟨w2.heap.size, b1, b2, rfl, trivial, Blk.new _ _ _, HD12.out.keep fun q cs hk => hk.alloc _, HD2.out.keep fun q cs hk => hk.alloc _⟩, HB2.out.alloc HB2.out.size _⟩

theorem move_any (d : DB) : MvSaid d := by
  induction d with
  | free x => exact move_free x
  | bnd i => exact move_bnd i
  | lam x d ih => exact move_lam x d ih
  | app f a ihf iha => exact move_app f a ihf iha

def PbSaid (d : DB) : Prop := ∀ (c : DB) (own n nc : Nat) (v vc : Value) (w : World), DTm w d v → DTm w c vc → d.cl n → c.cl nc → n + d.size ≤ 100000 → own + d.size ≤ 100000 → nc + c.size ≤ 100000 →
  Calls Tryz.prog 111 #[v, .int .i64 own, vc] w (PutPost (putB c own d) w)

theorem putB_free (y : List UInt8) : PbSaid (.free y) := by
  rintro c own n nc v vc w hd hc hcl hcc hsz ho hm
  obtain ⟨b, rfl, _, hx, hb⟩ := id hd
  have k0 := hb.cell 0
  simp at k0
  have HD := Lib.hid hd
  clear hd hb hcl hc hcc
  go_enter Tryz.func111, Tryz.ntmps111
  go_wp2
  go_ret
  exact ⟨_, rfl, HD.out, Below.refl _ _⟩
theorem putB_bnd (i : Nat) : PbSaid (.bnd i) := by
  rintro c own n nc v vc w hd hc hcl hcc hsz ho hm
  obtain ⟨b, rfl, _, hb⟩ := id hd
  obtain ⟨b2, rfl, _⟩ := hc.shape
  have k0 := hb.cell 0
  have k2 := hb.cell 2
  simp at k0 k2
  have hi : i < n := hcl
  simp only [DB.size] at hsz ho
  have HD := Lib.hid hd
  have C1 := Lib.hid (move_any c own 0 nc _ w hc hcc hm (by omega) (by omega))
  clear hd hb hcl hc hcc
  rcases Nat.lt_trichotomy i own with hlt | heq | hlt
  · have HE : Hid (putB c own (.bnd i) = .bnd i) := Lib.hid (by simp [putB, Nat.ne_of_lt hlt, Nat.lt_asymm hlt])
    have hne : ((i : Int) == (own : Int)) = false := beq_eq_false_iff_ne.2 (by omega)
    go_enter Tryz.func111, Tryz.ntmps111
    go_wp2
    go_ret
    exact ⟨_, rfl, by rw [HE.out]; exact HD.out, Below.refl _ _⟩
  · have HE : Hid (putB c own (.bnd i) = moveD own 0 c) := Lib.hid (by simp [putB, heq])
    have hne : ((i : Int) == (own : Int)) = true := beq_iff_eq.2 (by omega)
    clear heq
    go_enter Tryz.func111, Tryz.ntmps111
    go_wp2_with fail
    refine C1.out.mono ?_
    rintro e w1 ⟨b1, rfl, hd1, hb1⟩
    have HD1 := Lib.hid hd1
    have HB1 := Lib.hid hb1
    clear hd1 hb1
    go_wp2_with fail
    go_ret
    exact ⟨_, rfl, by rw [HE.out]; exact HD1.out, HB1.out⟩
  · have HE : Hid (putB c own (.bnd i) = .bnd (i - 1)) := Lib.hid (by simp [putB, Nat.ne_of_gt hlt, hlt])
    have hne : ((i : Int) == (own : Int)) = false := beq_eq_false_iff_ne.2 (by omega)
    have e0 : IntKind.i64.wrap ((i : Int) - 1) = (i : Int) - 1 := IntWalk.i64_in _ (by omega)
    go_enter Tryz.func111, Tryz.ntmps111
    go_wp2
    go_ret
    refine ⟨w.heap.size, rfl, ?_, (Below.refl _ _).alloc (Nat.le_refl _) _⟩
    rw [HE.out]
    have e1 : ((i - 1 : Nat) : Int) = (i : Int) - 1 := by omega
    refine ⟨w.heap.size, rfl, trivial, ?_⟩
    rw [e1]
    exact Blk.new _ _ _

set_option maxRecDepth 100000 in
set_option maxHeartbeats 1000000 in
theorem putB_lam (y : List UInt8) (d : DB) (ih : PbSaid d) : PbSaid (.lam y d) := by
  rintro c own n nc v vc w hd hc hcl hcc hsz ho hm
  obtain ⟨b, q, rfl, _, hx, hb, he⟩ := id hd
  have k0 := hb.cell 0
  simp at k0
  simp only [DB.size] at hsz ho
  have C1 := Lib.hid (ih c (own + 1) (n + 1) nc _ vc w.drew (he.drewN 1) (hc.drewN 1) hcl hcc (by omega) (by omega) hm)
  have e0 : IntKind.i64.wrap ((own : Int) + 1) = ((own + 1 : Nat) : Int) := by rw [IntWalk.i64_in _ (by omega)]; omega
  have HX := Lib.hid hx
  have hbd := hb.drew
  clear hd hb he ih hx hcl hc hcc
  go_enter Tryz.func111, Tryz.ntmps111
  go_wp2
  go_region_held3 (fun w' => w'.cell? ⟨b, 1, none⟩ = some (.string ⟨y.toArray⟩) ∧ w'.cell? ⟨b, 3, none⟩ = some (.pointer (some ⟨q, 0, none⟩)))
    (with_reducible first | exact lamS hbd | exact lamS (by assumption) | exact lamS (Blk.alloc (by assumption) _))
    (first
      | (go_at_call 111; (refine C1.out.mono ?_); rintro e w1 ⟨b1, rfl, hd1, hb1⟩; have hk1 := hbd.below hb1 hbd.lt; have HD1 := Lib.hid hd1; have HB1 := Lib.hid hb1; clear hd1 hb1)
      | (go_at_call 52; (with_reducible refine (newLam_any y b1 _).mono ?_); rintro e w2 ⟨rfl, rfl⟩))
  all_goals
    go_wp2
    go_ret
    exact ⟨w1.heap.size, rfl, ⟨w1.heap.size, b1, rfl, trivial, HX.out, Blk.new _ _ _, HD1.out.keep fun q cs hk => hk.alloc _⟩, (below_undrew HB1.out).alloc HB1.out.size _⟩

set_option maxRecDepth 100000 in
set_option maxHeartbeats 1000000 in
theorem putB_app (f a : DB) (ihf : PbSaid f) (iha : PbSaid a) : PbSaid (.app f a) := by
  rintro c own n nc v vc w hd hc hcl hcc hsz ho hm
  obtain ⟨b, q, r, rfl, _, hb, hdf, hda⟩ := id hd
  have k0 := hb.cell 0
  simp at k0
  simp only [DB.size] at hsz ho
  have C1 := Lib.hid (ihf c own n nc _ vc w.drew (hdf.drewN 1) (hc.drewN 1) hcl.1 hcc (by omega) (by omega) hm)
  have C2 : Hid (∀ w', Below w.heap.size w w' → Calls Tryz.prog 111 #[.pointer (some ⟨r, 0, none⟩), .int .i64 own, vc] w' (PutPost (putB c own a) w')) := Lib.hid (fun w' h => iha c own n nc _ vc w' (hda.below2 h) (hc.below2 h) hcl.2 hcc (by omega) (by omega) hm)
  have hbd := hb.drew
  clear hd hb hdf hda ihf iha hcl hc hcc
  go_enter Tryz.func111, Tryz.ntmps111
  go_wp2
  go_region_held3 (fun w' => w'.cell? ⟨b, 3, none⟩ = some (.pointer (some ⟨q, 0, none⟩)) ∧ w'.cell? ⟨b, 4, none⟩ = some (.pointer (some ⟨r, 0, none⟩)))
    (with_reducible first | exact appS hbd | exact appS (by assumption) | exact appS (Blk.alloc (by assumption) _))
    (first
      | (go_at_call 111; (with_reducible refine C1.out.mono ?_); rintro e w1 ⟨b1, rfl, hd1, hb1⟩; have hk1 := hbd.below hb1 hbd.lt; have HD1 := Lib.hid hd1; have HB1 := Lib.hid (below_undrew hb1); have C3 := Lib.hid (C2.out w1 HB1.out); clear hd1 hb1)
      | (go_at_call 111; (with_reducible refine C3.out.mono ?_); rintro e w2 ⟨b2, rfl, hd2, hb2⟩; have hk2 := hk1.below hb2 hk1.lt; have HD2 := Lib.hid hd2; have HD12 := Lib.hid (HD1.out.below2 hb2); have HB2 := Lib.hid (HB1.out.trans (hb2.mono HB1.out.size)); clear hd2 hb2)
      | (go_at_call 51; (with_reducible refine (newApp_any b1 b2 _).mono ?_); rintro e w3 ⟨rfl, rfl⟩))
  all_goals
    go_wp2
    go_ret
    exact ⟨w2.heap.size, rfl, ⟨w2.heap.size, b1, b2, rfl, trivial, Blk.new _ _ _, HD12.out.keep fun q cs hk => hk.alloc _, HD2.out.keep fun q cs hk => hk.alloc _⟩, HB2.out.alloc HB2.out.size _⟩

theorem putB_any (d : DB) : PbSaid d := by
  induction d with
  | free x => exact putB_free x
  | bnd i => exact putB_bnd i
  | lam x d ih => exact putB_lam x d ih
  | app f a ihf iha => exact putB_app f a ihf iha
end Go.Proofs.YtjcdclnaplojcaaGreatDoor

namespace Go.Proofs.YtjcdclnaplojcaaGreatDoor
set_option linter.unusedVariables false
open Go.RowKit

theorem dbAtoms_any : ∀ (t : DB) (v : Value) (w : World) (P : Nat → Prop), DAt w P t v → t.atoms ≤ 100000000 →
    Calls Tryz.prog 77 #[v] w fun e w' => e = .returned (.int .i64 t.atoms) ∧ ∃ n, w' = w.drewN n := by
  intro t
  induction t with
  | free x =>
    rintro v w P ⟨b, rfl, hP, hl, hb⟩ hsz
    have k0 := hb.cell 0
    simp at k0
    clear hb
    go_enter Tryz.func77, Tryz.ntmps77
    go_wp2
    go_ret
    exact ⟨rfl, 0, rfl⟩
  | bnd i =>
    rintro v w P ⟨b, rfl, hP, hb⟩ hsz
    have k0 := hb.cell 0
    simp at k0
    clear hb
    go_enter Tryz.func77, Tryz.ntmps77
    go_wp2
    go_ret
    exact ⟨rfl, 0, rfl⟩
  | lam x d ih =>
    rintro v w P ⟨b, c, rfl, hP, hl, hb, hd⟩ hsz
    have k0 := hb.cell 0
    have k3 := hb.cell 3
    simp at k0 k3
    have HD := Lib.hid hd
    have IH := Lib.hid ih
    have hsz' : d.atoms + 2 ≤ 100000000 := by simp only [DB.atoms] at hsz; omega
    clear hb hd ih hsz
    go_enter Tryz.func77, Tryz.ntmps77
    go_wp2_with fail
    refine (IH.out _ _ P HD.out (by omega)).mono ?_
    rintro e w1 ⟨rfl, n, rfl⟩
    go_wp2_with fail
    go_ret
    exact ⟨ret_int (by simp only [DB.atoms]; omega), n, rfl⟩
  | app f a ihf iha =>
    rintro v w P ⟨b, c, d, rfl, hP, hb, hf, ha⟩ hsz
    have k0 := hb.cell 0
    have k3 := hb.cell 3
    have k4 := hb.cell 4
    simp at k0 k3 k4
    have IHF : Hid (∀ n, Calls Tryz.prog 77 #[.pointer (some ⟨c, 0, none⟩)] (w.drewN n) fun e w' => e = .returned (.int .i64 f.atoms) ∧ ∃ m, w' = w.drewN m) :=
      Lib.hid (fun n => (ihf _ (w.drewN n) P (hf.drewN n) (by simp only [DB.atoms] at hsz; omega)).mono fun _ _ ⟨he, m, hm⟩ => ⟨he, n + m, by rw [hm, World.drewN_drewN]⟩)
    have IHA : Hid (∀ n, Calls Tryz.prog 77 #[.pointer (some ⟨d, 0, none⟩)] (w.drewN n) fun e w' => e = .returned (.int .i64 a.atoms) ∧ ∃ m, w' = w.drewN m) :=
      Lib.hid (fun n => (iha _ (w.drewN n) P (ha.drewN n) (by simp only [DB.atoms] at hsz; omega)).mono fun _ _ ⟨he, m, hm⟩ => ⟨he, n + m, by rw [hm, World.drewN_drewN]⟩)
    have hsz' : f.atoms + a.atoms + 1 ≤ 100000000 := by simp only [DB.atoms] at hsz; omega
    clear hb hf ha ihf iha hsz
    go_enter Tryz.func77, Tryz.ntmps77
    go_wp2
    go_quiet ((first
      | (go_at_call 77; with_reducible exact IHF.out _)
      | (go_at_call 77; with_reducible exact IHA.out _)))
    go_wp2
    go_ret
    refine ⟨ret_int ?_, _, rfl⟩
    simp only [DB.atoms]
    omega

theorem dsize_atoms (d : DB) : d.size ≤ d.atoms := by
  induction d with
  | free x => simp [DB.size, DB.atoms]
  | bnd i => simp [DB.size, DB.atoms]
  | lam x b ih => simp only [DB.size, DB.atoms]; omega
  | app f a ihf iha => simp only [DB.size, DB.atoms]; omega
theorem freeD_length (d : DB) : ∀ l : List (List UInt8), (freeD d l).length ≤ l.length + d.atoms := by
  induction d with
  | free x => intro l; simp only [freeD, DB.atoms]; split <;> simp
  | bnd i => intro l; simp [freeD, DB.atoms]
  | lam x b ih => intro l; have := ih l; simp only [freeD, DB.atoms]; omega
  | app f a ihf iha => intro l; have h1 := ihf l; have h2 := iha (freeD f l); simp only [freeD, DB.atoms]; omega

end Go.Proofs.YtjcdclnaplojcaaGreatDoor

namespace Go.Proofs.YtjcdclnaplojcaaGreatDoor
set_option linter.unusedVariables false
open Go.RowKit

/-- The canonical term. -/
theorem canonical_any (d : DB) (v : Value) (w : World) (hd : DTm w d v) (ht : Tab w) (hat : d.atoms ≤ 400) :
    Calls Tryz.prog 65 #[v] w fun e w' => ∃ b, e = .returned (.pointer (some ⟨b, 0, none⟩)) ∧ DTm w' (canD d) (.pointer (some ⟨b, 0, none⟩)) ∧ Below w.heap.size w w' := by
  obtain ⟨b0, rfl, _⟩ := hd.shape
  have hfl := freeD_length d []
  have hsa := dsize_atoms d
  have HD := Lib.hid hd
  have HT := Lib.hid ht
  simp at hfl
  have htl := ht.lt
  clear hd ht
  go_enter Tryz.func65, Tryz.ntmps65
  go_wp2_with fail
  refine (freeNames_any d [] w.heap.size _ (.slice none 0 0) _ _ HD.out.low (fun q hq => ⟨hq, by simp [Value.ownBlock]⟩) (World.ownsRow_nil _ _ _ _) (Nat.le_refl _) (by omega) (by simp)).mono ?_
  rintro e w1 ⟨fv, rfl, h1, h2, h3⟩
  obtain ⟨A, c, rfl⟩ := own_shape h1
  have HF := Lib.hid (h1.alloc (.cells #[.slice A (freeD d []).length c, .int .i64 0] 165))
  have hb1 : Below w.heap.size w w1 := (Below.refl _ _).grown h2 (Nat.le_refl _) (fun k e => by simp [Value.ownBlock] at e)
  have HB1 := Lib.hid hb1
  have hz1 := hb1.size
  have HD1 := Lib.hid (HD.out.keep fun q cs hk => (hk.below hb1 hk.lt).alloc (.cells #[.slice A (freeD d []).length c, .int .i64 0] 165))
  have HT1 := Lib.hid ((HT.out.below hb1).below ((Below.refl _ _).alloc (Nat.le_refl _) (.cells #[.slice A (freeD d []).length c, .int .i64 0] 165)))
  have HN1 := Lib.hid (Blk.new w1 165 #[.slice A (freeD d []).length c, .int .i64 0])
  clear h1 h2 h3 hb1
  go_wp2_with fail
  refine (rename_any d _ (freeD d []) 0 w1.heap.size w.heap.size _ _ HD1.out HN1.out HF.out HT1.out (by omega) (by omega) (by omega)).mono ?_
  rintro e w2 ⟨b2, rfl, hd2, hg2, hn2⟩
  have HD2 := Lib.hid hd2
  have HG2 := Lib.hid hg2
  clear hd2 hg2 hn2
  go_wp2_with fail
  go_ret
  exact ⟨b2, rfl, HD2.out, (HB1.out.alloc hz1 _).grown HG2.out (by simp; omega) (fun k e => by injection e with e; omega)⟩
/-- The text of a term that bears no names but free ones. -/
theorem textNil_any (t : Tm) (hok : t.ok) (hat : t.atoms ≤ 400) (d : DB) (hd : d = toDB [] t) (v : Value) (w : World) (h : DTm w d v) :
    Calls Tryz.prog 36 #[v, .slice none 0 0] w fun e w' => e = .returned (.string ⟨(wrTm t).toArray⟩) ∧ Below w.heap.size w w' := by
  subst hd
  have hs := size_atoms t
  have hl := wrTm_short t hok
  have hh := text_any (toDB [] t) v w _ (.slice none 0 0) [] h (World.ownsRow_nil _ _ _ _) (toDB_cl t []) (by rw [toDB_size]; simp; omega) (by rw [wrD_toDB]; omega)
  rw [wrD_toDB] at hh
  exact hh.mono fun e w' ⟨h1, h2, _, _⟩ => ⟨h1, (Below.refl _ _).grown h2 (Nat.le_refl _) (fun k e => by simp [Value.ownBlock] at e)⟩

end Go.Proofs.YtjcdclnaplojcaaGreatDoor

namespace Go.Proofs.YtjcdclnaplojcaaGreatDoor
set_option linter.unusedVariables false
open Go.RowKit

/-- What is around parts is made of lam and app. -/
def CxOk : Cx → Prop
  | [] => True
  | (f, s) :: c => ((∃ x b, f = .lam x b ∧ s = false) ∨ ∃ g a, f = .app g a) ∧ CxOk c
theorem parts_ok (d : DB) : ∀ c : Cx, CxOk c → ∀ p ∈ parts c d, CxOk p.1 := by
  induction d with
  | free x => intro c h p hp; simp [parts] at hp; subst hp; exact h
  | bnd i => intro c h p hp; simp [parts] at hp; subst hp; exact h
  | lam x b ih =>
    intro c h p hp
    simp only [parts, List.mem_cons] at hp
    rcases hp with rfl | hp
    · exact h
    · exact ih ((.lam x b, false) :: c) ⟨.inl ⟨x, b, rfl, rfl⟩, h⟩ p hp
  | app f a ihf iha =>
    intro c h p hp
    simp only [parts, List.mem_cons, List.mem_append] at hp
    rcases hp with rfl | hp | hp
    · exact h
    · exact ihf ((.app f a, false) :: c) ⟨.inr ⟨f, a, rfl⟩, h⟩ p hp
    · exact iha ((.app f a, true) :: c) ⟨.inr ⟨f, a, rfl⟩, h⟩ p hp
/-- A context in memory, wherever. -/
abbrev CTm (w : World) (c : Cx) (v : Value) : Prop := CxAt w (fun _ => True) 0 c v
theorem CxAt.tm {w : World} {P : Nat → Prop} {n₁ : Nat} : ∀ {c : Cx} {v : Value}, CxAt w P n₁ c v → CTm w c v := by
  intro c
  induction c with
  | nil => intro v h; exact h
  | cons p c ih =>
    obtain ⟨f, s⟩ := p
    rintro v ⟨q, u, t, rfl, hq, hb, hd, hc⟩
    exact ⟨q, u, t, rfl, Nat.zero_le _, hb, hd.tm, ih hc⟩
theorem CTm.below {w w' : World} (hb : Below w.heap.size w w') : ∀ {c : Cx} {v : Value}, CTm w c v → CTm w' c v := by
  intro c
  induction c with
  | nil => intro v h; exact h
  | cons p c ih =>
    obtain ⟨f, s⟩ := p
    rintro v ⟨q, u, t, rfl, hq, hk, hd, hc⟩
    exact ⟨q, u, t, rfl, hq, hk.below hb hk.lt, hd.below2 hb, ih hc⟩

/-- On the way out of a context. -/
structure FlR (w : World) (c : Cx) (e : DB) (c' : Cx) (e' : DB) (cv pv : Value) (wr : World) : Prop where
  below : Below w.heap.size w wr
  ctx : CTm wr c' cv
  part : DTm wr e' pv
  same : plug c' e' = plug c e
  ok : CxOk c'

set_option maxRecDepth 100000 in
set_option maxHeartbeats 4000000 in
theorem fill_any (c : Cx) (e : DB) (cv pv : Value) (w : World) (hc : CTm w c cv) (he : DTm w e pv) (hok : CxOk c) :
    Calls Tryz.prog 75 #[cv, pv] w (PutPost (plug c e) w) := by
  obtain ⟨o, rfl⟩ := hc.shape
  obtain ⟨b, rfl, _⟩ := he.shape
  have K0 : Hid (FlR w c e c e (.pointer o) (.pointer (some ⟨b, 0, none⟩)) w) := Lib.hid ⟨Below.refl _ _, hc, he, rfl, hok⟩
  clear hc he hok
  go_enter Tryz.func75, Tryz.ntmps75
  go_wp2
  go_loopg [0, 1] c.length (fun q cv pv wr => ∃ c' e' o b, q = c'.length ∧ cv = .pointer o ∧ pv = .pointer (some ⟨b, 0, none⟩) ∧ Hid (FlR w c e c' e' (.pointer o) (.pointer (some ⟨b, 0, none⟩)) wr))
  case atStart => exact ⟨c, e, o, b, rfl, rfl, rfl, K0⟩
  case round =>
    obtain ⟨c', e', o, b, hq, rfl, rfl, HR⟩ := hrel
    have HQ := Lib.hid hq
    clear hq K0
    cases c' with
    | nil =>
      have ho : o = none := by have := HR.out.ctx; simpa [CTm, CxAt] using this
      subst ho
      go_wp2_with fail
      go_ret
      exact ⟨b, rfl, by rw [← HR.out.same]; exact HR.out.part, HR.out.below⟩
    | cons p c2 =>
      obtain ⟨f, s⟩ := p
      obtain ⟨q, u, t, ho, _, hk, hd, hc2⟩ := HR.out.ctx
      injection ho with ho
      subst ho
      obtain ⟨o2, rfl⟩ := hc2.shape
      obtain ⟨hf, hok2⟩ := HR.out.ok
      have q0 := hk.cell 0
      have q1 := hk.cell 1
      have q2 := hk.cell 2
      have ql := hk.lt
      simp only [List.getElem?_toArray, List.getElem?_cons_zero, List.getElem?_cons_succ] at q0 q1 q2
      have HC2 := Lib.hid hc2
      have HK := Lib.hid hk
      have hz := HR.out.below.size
      clear hc2 hk
      rcases hf with ⟨x, d, rfl, rfl⟩ | ⟨g, a, rfl⟩
      · obtain ⟨tb, tc, rfl, _, hx, ht, _⟩ := hd
        have t0 := ht.cell 0
        have t1 := ht.cell 1
        simp at t0 t1
        clear ht
        go_wp2_with fail
        refine (newLam_any x b _).mono ?_
        rintro en w2 ⟨rfl, rfl⟩
        have hbel : Below wr.heap.size wr (wr.alloc (.cells #[.int .i64 2, .string ⟨x.toArray⟩, .int .i64 0, .pointer (some ⟨b, 0, none⟩), .pointer none] 132)) := (Below.refl _ _).alloc (Nat.le_refl _) _
        have z0 := (HK.out.below hbel ql).cell 0
        simp only [List.getElem?_toArray, List.getElem?_cons_zero] at z0
        have HN : Hid (FlR w c e c2 (.lam x e') (.pointer o2) (.pointer (some ⟨wr.heap.size, 0, none⟩)) (wr.alloc (.cells #[.int .i64 2, .string ⟨x.toArray⟩, .int .i64 0, .pointer (some ⟨b, 0, none⟩), .pointer none] 132))) :=
          Lib.hid ⟨HR.out.below.trans (hbel.mono hz), CTm.below hbel HC2.out, ⟨wr.heap.size, b, rfl, trivial, hx, Blk.new _ _ _, HR.out.part.below2 hbel⟩, HR.out.same, hok2⟩
        clear hbel
        go_wp2_with fail
        go_roundg c2.length
        case rel => exact ⟨c2, _, _, _, rfl, rfl, rfl, HN⟩
        case measure => have := HQ.out; simp only [List.length_cons] at this; omega
      · obtain ⟨tb, tc, td, rfl, _, ht, hdg, hda⟩ := hd
        have t0 := ht.cell 0
        have t3 := ht.cell 3
        have t4 := ht.cell 4
        simp at t0 t3 t4
        clear ht
        cases s
        · go_wp2_with fail
          refine (newApp_any b td _).mono ?_
          rintro en w2 ⟨rfl, rfl⟩
          have hbel : Below wr.heap.size wr (wr.alloc (.cells #[.int .i64 3, .string ⟨#[]⟩, .int .i64 0, .pointer (some ⟨b, 0, none⟩), .pointer (some ⟨td, 0, none⟩)] 132)) := (Below.refl _ _).alloc (Nat.le_refl _) _
          have z0 := (HK.out.below hbel ql).cell 0
          simp only [List.getElem?_toArray, List.getElem?_cons_zero] at z0
          have HN : Hid (FlR w c e c2 (.app e' a) (.pointer o2) (.pointer (some ⟨wr.heap.size, 0, none⟩)) (wr.alloc (.cells #[.int .i64 3, .string ⟨#[]⟩, .int .i64 0, .pointer (some ⟨b, 0, none⟩), .pointer (some ⟨td, 0, none⟩)] 132))) :=
            Lib.hid ⟨HR.out.below.trans (hbel.mono hz), CTm.below hbel HC2.out, ⟨wr.heap.size, b, td, rfl, trivial, Blk.new _ _ _, HR.out.part.below2 hbel, hda.below2 hbel⟩, HR.out.same, hok2⟩
          clear hbel
          go_wp2_with fail
          go_roundg c2.length
          case rel => exact ⟨c2, _, _, _, rfl, rfl, rfl, HN⟩
          case measure => have := HQ.out; simp only [List.length_cons] at this; omega
        · go_wp2_with fail
          refine (newApp_any tc b _).mono ?_
          rintro en w2 ⟨rfl, rfl⟩
          have hbel : Below wr.heap.size wr (wr.alloc (.cells #[.int .i64 3, .string ⟨#[]⟩, .int .i64 0, .pointer (some ⟨tc, 0, none⟩), .pointer (some ⟨b, 0, none⟩)] 132)) := (Below.refl _ _).alloc (Nat.le_refl _) _
          have z0 := (HK.out.below hbel ql).cell 0
          simp only [List.getElem?_toArray, List.getElem?_cons_zero] at z0
          have HN : Hid (FlR w c e c2 (.app g e') (.pointer o2) (.pointer (some ⟨wr.heap.size, 0, none⟩)) (wr.alloc (.cells #[.int .i64 3, .string ⟨#[]⟩, .int .i64 0, .pointer (some ⟨tc, 0, none⟩), .pointer (some ⟨b, 0, none⟩)] 132))) :=
            Lib.hid ⟨HR.out.below.trans (hbel.mono hz), CTm.below hbel HC2.out, ⟨wr.heap.size, tc, b, rfl, trivial, Blk.new _ _ _, hdg.below2 hbel, HR.out.part.below2 hbel⟩, HR.out.same, hok2⟩
          clear hbel
          go_wp2_with fail
          go_roundg c2.length
          case rel => exact ⟨c2, _, _, _, rfl, rfl, rfl, HN⟩
          case measure => have := HQ.out; simp only [List.length_cons] at this; omega
end Go.Proofs.YtjcdclnaplojcaaGreatDoor

namespace Go.Proofs.YtjcdclnaplojcaaGreatDoor
set_option linter.unusedVariables false
open Go.RowKit

theorem redexS {w : World} {b q r s : Nat} {x : List UInt8} (h : Blk w b 132 #[.int .i64 3, .string ⟨#[]⟩, .int .i64 0, .pointer (some ⟨q, 0, none⟩), .pointer (some ⟨r, 0, none⟩)])
    (h2 : Blk w q 132 #[.int .i64 2, .string ⟨x.toArray⟩, .int .i64 0, .pointer (some ⟨s, 0, none⟩), .pointer none]) :
    w.cell? ⟨b, 3, none⟩ = some (.pointer (some ⟨q, 0, none⟩)) ∧ w.cell? ⟨b, 4, none⟩ = some (.pointer (some ⟨r, 0, none⟩)) ∧ w.cell? ⟨q, 3, none⟩ = some (.pointer (some ⟨s, 0, none⟩)) := by
  have k3 := h.cell 3
  have k4 := h.cell 4
  have k5 := h2.cell 3
  simp at k3 k4 k5
  exact ⟨k3, k4, k5⟩
set_option maxRecDepth 100000 in
set_option maxHeartbeats 1000000 in
theorem contract_any (x : List UInt8) (d a : DB) (m : Nat) (v : Value) (w : World) (hd : DTm w (.app (.lam x d) a) v) (hcl : (DB.app (.lam x d) a).cl m) (hm : m + (DB.app (.lam x d) a).size ≤ 100000) :
    Calls Tryz.prog 76 #[v] w (PutPost (putB a 0 d) w) := by
  obtain ⟨b, q, r, rfl, _, hb, hl, ha⟩ := hd
  obtain ⟨q', s, hq, _, hx, hq3, hs⟩ := hl
  injection hq with hq
  injection hq with hq
  injection hq with hq _ _
  subst hq
  have hbd := hb.drew
  have hqd := hq3.drew
  have S := redexS hbd hqd
  simp only [DB.size] at hm
  have C : Calls Tryz.prog 111 #[.pointer (some ⟨s, 0, none⟩), .int .i64 0, .pointer (some ⟨r, 0, none⟩)] w.drew (PutPost (putB a 0 d) w.drew) :=
    putB_any d a 0 (m + 1) m _ _ w.drew (hs.drewN 1) (ha.drewN 1) hcl.1 hcl.2 (by omega) (by omega) (by omega)
  have HC := Lib.hid C
  clear C hb hq3 hs ha hcl
  go_enter Tryz.func76, Tryz.ntmps76
  go_wp2
  go_region_held3 (fun w' => w'.cell? ⟨b, 3, none⟩ = some (.pointer (some ⟨q, 0, none⟩)) ∧ w'.cell? ⟨b, 4, none⟩ = some (.pointer (some ⟨r, 0, none⟩)) ∧ w'.cell? ⟨q, 3, none⟩ = some (.pointer (some ⟨s, 0, none⟩)))
    (with_reducible first | exact S | assumption)
    (first
      | (go_at_call 111; (refine HC.out.mono ?_); rintro e w1 ⟨b1, rfl, hd1, hb1⟩; have S1 := redexS (hbd.below hb1 hbd.lt) (hqd.below hb1 hqd.lt); have HD1 := Lib.hid hd1; have HB1 := Lib.hid hb1; clear hd1 hb1))
  all_goals
    go_wp2
    go_ret
    exact ⟨b1, rfl, HD1.out, below_undrew HB1.out⟩
/-- What a step of a kind answers. -/
def StpPost (k : Bool) (t : Tm) (w : World) (e : Ending) (w' : World) : Prop :=
  Below w.heap.size w w' ∧ ((∃ o b, nextT k t = some o ∧ e = .returned (.tuple #[.pointer (some ⟨b, 0, none⟩), .bool true]) ∧ DTm w' (toDB [] o) (.pointer (some ⟨b, 0, none⟩))) ∨
    (nextT k t = none ∧ e = .returned (.tuple #[.pointer none, .bool false])))
set_option maxRecDepth 100000 in
set_option maxHeartbeats 2000000 in
theorem step_any (k : Bool) (t : Tm) (hok : t.ok) (hat : t.atoms ≤ 400) (v : Value) (w : World) (hd : DTm w (toDB [] t) v) (ht : Tab w) :
    Calls Tryz.prog 42 #[v, .string ⟨(kindS k).toArray⟩] w (StpPost k t w) := by
  obtain ⟨b0, rfl, _⟩ := hd.shape
  have hne := next_eq k t hok hat
  have hat' : (toDB [] t).atoms ≤ 400 := by rw [atoms_toDB]; exact hat
  have hcl := toDB_cl t []
  have hsz := dbSize_lt (toDB [] t)
  have C1 := Lib.hid (findRedex_any k (toDB [] t) _ w _ hd.low (fun q hq => hq))
  have HT := Lib.hid ht
  clear hd ht
  go_enter Tryz.func42, Tryz.ntmps42
  go_wp2_with fail
  refine C1.out.mono ?_
  rintro e w1 ⟨hb1, ⟨h1, rfl⟩ | ⟨c, r, cv, q, h1, rfl, hcx, hdr⟩⟩
  · have hn : nextT k t = none := by
      have h2 := find_step k (toDB [] t)
      rw [h1] at h2
      unfold nextD at hne
      rw [h2] at hne
      simpa using hne.symm
    have HN := Lib.hid hn
    clear hne h1 hn
    go_wp2_with fail
    go_ret2
    exact ⟨hb1, .inr ⟨HN.out, rfl⟩⟩
  · obtain ⟨hmem, hrx⟩ := find_mem k _ _ h1
    have hcok := Lib.hid (parts_ok _ [] trivial _ hmem)
    obtain ⟨m, hm1, hm2⟩ := parts_cl (toDB [] t) [] 0 hcl _ hmem
    obtain ⟨hb5, hb6⟩ := parts_bound (toDB [] t) [] 0 (fun e => Nat.le_refl _) _ hmem
    have hbig := find_bound k _ c r hat' h1
    have hst : stepD k (toDB [] t) = some (plug c (conD r)) := by rw [find_step, h1]; rfl
    cases r with
    | free y => cases hrx
    | bnd i => cases hrx
    | lam y b => cases hrx
    | app f a =>
      obtain ⟨y, d, rfl⟩ := DB.lam_of hrx
      have hsr := dbSize_lt (DB.app (.lam y d) a)
      have C2 := Lib.hid (contract_any y d a m _ w1 hdr.tm hm2 (by simp only at hb5; omega))
      have HCX := Lib.hid hcx.tm
      have hT1 := Lib.hid (HT.out.below hb1)
      have hz1 := hb1.size
      have HB1 := Lib.hid hb1
      have HS := Lib.hid hst
      have HNE := Lib.hid hne
      clear hcx hdr hmem hrx hm2 hb5 hb6 h1 hb1 hst hne
      go_wp2_with fail
      refine C2.out.mono ?_
      rintro e w2 ⟨b2, rfl, hd2, hb2⟩
      have HCX2 := Lib.hid (CTm.below hb2 HCX.out)
      have HT2 := Lib.hid (hT1.out.below hb2)
      have HB2 := Lib.hid (HB1.out.trans (hb2.mono hz1))
      have hz2 := HB2.out.size
      have HD2 := Lib.hid hd2
      clear hd2 hb2
      go_wp2_with fail
      refine (fill_any c (putB a 0 d) _ _ w2 HCX2.out HD2.out hcok.out).mono ?_
      rintro e w3 ⟨b3, rfl, hd3, hb3⟩
      have HT3 := Lib.hid (HT2.out.below hb3)
      have HB3 := Lib.hid (HB2.out.trans (hb3.mono hz2))
      have hz3 := HB3.out.size
      have HD3 := Lib.hid hd3
      have hcon : plug c (conD (.app (.lam y d) a)) = plug c (putB a 0 d) := rfl
      rw [hcon] at HS hbig
      clear hd3 hb3 hcon
      generalize plug c (putB a 0 d) = E at HS hbig HD3
      go_wp2_with fail
      refine (dbAtoms_any E _ w3 _ HD3.out (by omega)).mono ?_
      rintro e w4 ⟨rfl, nn, rfl⟩
      by_cases h4 : E.atoms ≤ 400
      · have hn : ∃ o, nextT k t = some o ∧ canD E = toDB [] o := by
          have h5 := HNE.out
          unfold nextD at h5
          rw [HS.out] at h5
          simp only [h4, if_true] at h5
          cases hq : nextT k t with
          | none => rw [hq] at h5; cases h5
          | some o => rw [hq] at h5; simp only [Option.map_some, Option.some.injEq] at h5; exact ⟨o, rfl, h5⟩
        obtain ⟨o, hn1, hn2⟩ := hn
        have HN1 := Lib.hid hn1
        have HN2 := Lib.hid hn2
        clear hn1 hn2
        go_wp2_with fail
        refine (canonical_any E _ _ (HD3.out.drewN nn) (HT3.out.kept rfl) h4).mono ?_
        rintro e w5 ⟨b5, rfl, hd5, hb5⟩
        have HD5 := Lib.hid hd5
        have HB5 := Lib.hid ((below_drewN' HB3.out nn).trans (hb5.mono hz3))
        clear hd5 hb5
        go_wp2_with fail
        go_ret2
        exact ⟨HB5.out, .inl ⟨o, b5, HN1.out, rfl, by rw [← HN2.out]; exact HD5.out⟩⟩
      · have hn : nextT k t = none := by
          have h5 := HNE.out
          unfold nextD at h5
          rw [HS.out] at h5
          simp only [h4, if_false] at h5
          simpa using h5.symm
        have HN := Lib.hid hn
        clear hn
        go_wp2_with fail
        go_ret2
        exact ⟨below_drewN' HB3.out nn, .inr ⟨HN.out, rfl⟩⟩
end Go.Proofs.YtjcdclnaplojcaaGreatDoor

namespace Go.Proofs.YtjcdclnaplojcaaGreatDoor
set_option linter.unusedVariables false
open Go.RowKit

/-- On the way of many steps. -/
structure SmR (k : Bool) (n : Nat) (t : Tm) (w : World) (i : Nat) (u : Tm) (v : Value) (wr : World) : Prop where
  below : Below w.heap.size w wr
  dat : DTm wr (toDB [] u) v
  walk : Walk k n t i u
  ok : u.ok
  at_ : u.atoms ≤ 400
  tab : Tab wr
def SmPost (k : Bool) (n : Nat) (t : Tm) (w : World) (e : Ending) (w' : World) : Prop :=
  Below w.heap.size w w' ∧ ∃ b, e = .returned (.tuple #[.pointer (some ⟨b, 0, none⟩), .int .i64 (manyT k n t).2]) ∧ DTm w' (toDB [] (manyT k n t).1) (.pointer (some ⟨b, 0, none⟩))

set_option maxRecDepth 100000 in
set_option maxHeartbeats 2000000 in
theorem steps_any (k : Bool) (n : Nat) (hn : n ≤ 200) (t : Tm) (hok : t.ok) (hat : t.atoms ≤ 400) (v : Value) (w : World) (hd : DTm w (toDB [] t) v) (ht : Tab w) :
    Calls Tryz.prog 64 #[v, .string ⟨(kindS k).toArray⟩, .int .i64 n] w (SmPost k n t w) := by
  obtain ⟨b0, rfl, _⟩ := hd.shape
  have K0 : Hid (SmR k n t w 0 t (.pointer (some ⟨b0, 0, none⟩)) w) := Lib.hid ⟨Below.refl _ _, hd, Walk.start k n t, hok, hat, ht⟩
  clear hd ht hok hat
  go_enter Tryz.func64, Tryz.ntmps64
  go_wp2
  go_loopg [0, 12] n (fun q tv iv wr => ∃ i u b, q = n - i ∧ tv = .pointer (some ⟨b, 0, none⟩) ∧ iv = .int .i64 ((i : Nat) : Int) ∧ i ≤ n ∧ Hid (SmR k n t w i u (.pointer (some ⟨b, 0, none⟩)) wr))
  case atStart => exact ⟨0, t, b0, rfl, rfl, rfl, Nat.zero_le _, K0⟩
  case round =>
    obtain ⟨i, u, b, hq, rfl, rfl, hi, HR⟩ := hrel
    have HQ := Lib.hid hq
    clear hq K0
    by_cases hlt : i < n
    · have hc : decide ((i : Int) < (n : Int)) = true := decide_eq_true (by omega)
      have hlt' : (i : Int) < (n : Int) := by omega
      have C := Lib.hid (step_any k u HR.out.ok HR.out.at_ _ wr HR.out.dat HR.out.tab)
      go_wp2_with fail
      refine C.out.mono ?_
      rintro e w1 ⟨hb1, ⟨o, b1, hn1, rfl, hd1⟩ | ⟨hn1, rfl⟩⟩
      · obtain ⟨g1, g2⟩ := next_good k u HR.out.ok HR.out.at_ o hn1
        have HN : Hid (SmR k n t w (i + 1) o (.pointer (some ⟨b1, 0, none⟩)) w1) := Lib.hid ⟨HR.out.below.trans (hb1.mono HR.out.below.size), hd1, HR.out.walk.next hlt hn1, g1, g2, HR.out.tab.below hb1⟩
        have e1 : IntKind.i64.wrap ((i : Int) + 1) = ((i + 1 : Nat) : Int) := by rw [IntWalk.i64_in _ (by omega)]; omega
        clear hd1 hb1 hn1 g1 g2
        go_wp2_with fail
        go_roundg (n - (i + 1))
        case rel => exact ⟨i + 1, o, b1, rfl, rfl, by go_num, by omega, HN⟩
        case measure => have := HQ.out; omega
      · have HW := Lib.hid (HR.out.walk.stop hn1)
        have HB := Lib.hid (HR.out.below.trans (hb1.mono HR.out.below.size))
        have HD := Lib.hid (HR.out.dat.below2 hb1)
        clear hb1 hn1
        go_wp2_with fail
        go_ret2
        exact ⟨HB.out, b, by rw [HW.out]; rfl, by rw [HW.out]; exact HD.out⟩
    · have hi2 : i = n := by omega
      subst hi2
      have hc : decide ((i : Int) < (i : Int)) = false := decide_eq_false (by omega)
      have HW := Lib.hid HR.out.walk.full
      go_wp2_with fail
      go_ret2
      exact ⟨HR.out.below, b, by rw [HW.out]; rfl, by rw [HW.out]; exact HR.out.dat⟩

def NoPost (k : Bool) (t : Tm) (w : World) (e : Ending) (w' : World) : Prop :=
  Below w.heap.size w w' ∧ ((∃ o n b, noT k t = some (o, n) ∧ e = .returned (.tuple #[.pointer (some ⟨b, 0, none⟩), .int .i64 n, .bool true]) ∧ DTm w' (toDB [] o) (.pointer (some ⟨b, 0, none⟩))) ∨
    (noT k t = none ∧ e = .returned (.tuple #[.pointer none, .int .i64 0, .bool false])))
set_option maxRecDepth 100000 in
set_option maxHeartbeats 2000000 in
theorem normalOf_any (k : Bool) (t : Tm) (hok : t.ok) (hat : t.atoms ≤ 400) (v : Value) (w : World) (hd : DTm w (toDB [] t) v) (ht : Tab w) :
    Calls Tryz.prog 35 #[v, .string ⟨(kindS k).toArray⟩] w (NoPost k t w) := by
  obtain ⟨b0, rfl, _⟩ := hd.shape
  obtain ⟨g1, g2⟩ := many_good k 200 t hok hat
  have C : Calls Tryz.prog 64 #[.pointer (some ⟨b0, 0, none⟩), .string ⟨(kindS k).toArray⟩, .int .i64 200] w (SmPost k 200 t w) := steps_any k 200 (Nat.le_refl _) t hok hat _ w hd ht
  have C1 := Lib.hid C
  have HT := Lib.hid ht
  have HE : Hid (noT k t = if (stepR k (manyT k 200 t).1).2 = 0 then some (canT (manyT k 200 t).1, (manyT k 200 t).2) else none) := Lib.hid rfl
  unfold SmPost at C1
  generalize manyT k 200 t = mm at C1 g1 g2 HE
  obtain ⟨u, n⟩ := mm
  simp only at g1 g2
  clear hd ht C hok hat
  go_enter Tryz.func35, Tryz.ntmps35
  go_wp2_with fail
  refine C1.out.mono ?_
  rintro e w1 ⟨hb1, b, rfl, hd1⟩
  have C2 := Lib.hid (isNormal_any k (toDB [] u) _ w1 _ hd1.low (fun q hq => hq))
  rw [normal_eq k u g1 g2] at C2
  have HD1 := Lib.hid hd1
  have HT1 := Lib.hid (HT.out.below hb1)
  have HB1 := Lib.hid hb1
  have hnm : nmO (some k) (some u) = decide ((stepR k u).2 = 0) := rfl
  rw [hnm] at C2
  clear hd1 hb1 hnm
  by_cases h0 : (stepR k u).2 = 0
  · simp only [h0, if_true] at HE
    rw [decide_eq_true h0] at C2
    clear h0
    go_wp2_with fail
    refine C2.out.mono ?_
    rintro e w2 ⟨rfl, hb2⟩
    have HD2 := Lib.hid (HD1.out.below2 hb2)
    have HT2 := Lib.hid (HT1.out.below hb2)
    have HB2 := Lib.hid (HB1.out.trans (hb2.mono HB1.out.size))
    clear hb2
    go_wp2_with fail
    refine (canonical_any (toDB [] u) _ w2 HD2.out HT2.out (by rw [atoms_toDB]; exact g2)).mono ?_
    rintro e w3 ⟨b3, rfl, hd3, hb3⟩
    have hd3' : DTm w3 (toDB [] (canT u)) (.pointer (some ⟨b3, 0, none⟩)) := by rw [toDB_canT]; exact hd3
    have HD3 := Lib.hid hd3'
    have HB3 := Lib.hid (HB2.out.trans (hb3.mono HB2.out.size))
    clear hd3 hb3 hd3'
    go_wp2_with fail
    refine bodyPost_ret (v := .tuple #[.pointer (some ⟨b3, 0, none⟩), .int .i64 n, .bool true]) (by simp [results, Tryz.results35, go_sem]) rfl ?_
    exact ⟨HB3.out, .inl ⟨canT u, n, b3, HE.out, rfl, HD3.out⟩⟩
  · simp only [h0, if_false] at HE
    rw [decide_eq_false h0] at C2
    clear h0
    go_wp2_with fail
    refine C2.out.mono ?_
    rintro e w2 ⟨rfl, hb2⟩
    have HB2 := Lib.hid (HB1.out.trans (hb2.mono HB1.out.size))
    clear hb2
    go_wp2_with fail
    refine bodyPost_ret (v := .tuple #[.pointer none, .int .i64 0, .bool false]) (by simp [results, Tryz.results35, go_sem]) rfl ?_
    exact ⟨HB2.out, .inr ⟨HE.out, rfl⟩⟩
end Go.Proofs.YtjcdclnaplojcaaGreatDoor

namespace Go.Proofs.YtjcdclnaplojcaaGreatDoor
set_option linter.unusedVariables false
open Go.RowKit

set_option maxRecDepth 100000 in
set_option maxHeartbeats 1000000 in
theorem implNormalOf_any (x : List UInt8) (s : ByteArray) (w : World) (hm : s.size ≤ maxLen) (ht : Tab w) :
    Calls Tryz.prog 10 #[.string ⟨x.toArray⟩, .string s] w (TnPost (noO (rdKind x) (rdTerm s.data.toList)) w) := by
  have HT := Lib.hid ht
  clear ht
  go_enter Tryz.func10, Tryz.ntmps10
  go_wp2_with fail
  refine (readKindAndTerm_any x s _ hm).mono ?_
  rintro e w1 ⟨hb1, ⟨k, t, b, hk, hrd, rfl, htr⟩ | ⟨hno, u, rfl⟩⟩
  · obtain ⟨hok, hat⟩ := rdTerm_good _ _ hrd
    have HE : Hid (noO (rdKind x) (rdTerm s.data.toList) = (noT k t).map fun p => (wrTm p.1, p.2)) := Lib.hid (by rw [hk, hrd]; rfl)
    have C := Lib.hid (normalOf_any k t hok hat _ w1 htr.tm (HT.out.below hb1))
    have HG := Lib.hid (noT_good k t hok hat)
    clear hk hrd htr hok hat
    go_wp2_with fail
    refine C.out.mono ?_
    rintro e w2 ⟨hb2, ⟨o, n, b2, hn, rfl, hd2⟩ | ⟨hn, rfl⟩⟩
    · obtain ⟨g1, g2⟩ := HG.out o n hn
      have CT := Lib.hid (textNil_any o g1 g2 _ rfl _ w2 hd2)
      have HN := Lib.hid hn
      have HB := Lib.hid (hb1.trans (hb2.mono hb1.size))
      clear hn hd2 hb1 hb2
      go_wp2_with fail
      refine CT.out.mono ?_
      rintro e w3 ⟨rfl, hb3⟩
      have HB3 := Lib.hid (HB.out.trans (hb3.mono HB.out.size))
      clear hb3
      go_wp2_with fail
      refine bodyPost_ret (v := .tuple #[.string ⟨(wrTm o).toArray⟩, .int .i64 n, .bool true]) (by simp [results, Tryz.results10, go_sem]) rfl ?_
      exact ⟨by rw [HE.out, HN.out]; rfl, HB3.out⟩
    · have HN := Lib.hid hn
      have HB := Lib.hid (hb1.trans (hb2.mono hb1.size))
      clear hn hb1 hb2
      go_wp2_with fail
      refine bodyPost_ret (v := .tuple #[.string ⟨#[]⟩, .int .i64 0, .bool false]) (by simp [results, Tryz.results10, go_sem]) rfl ?_
      exact ⟨by rw [HE.out, HN.out]; rfl, HB.out⟩
  · have HE := Lib.hid (noO_no _ _ hno)
    clear hno
    go_wp2_with fail
    refine bodyPost_ret (v := .tuple #[.string ⟨#[]⟩, .int .i64 0, .bool false]) (by simp [results, Tryz.results10, go_sem]) rfl ?_
    exact ⟨by rw [HE.out]; rfl, hb1⟩
end Go.Proofs.YtjcdclnaplojcaaGreatDoor

