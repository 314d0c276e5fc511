/- The program puts a term for a name. -/
import Derived.Test.YtkomchdmcbdahaaDoorCN
import Derived.Test.YtkomchdmcbdahaaDoorC2
namespace Go.Proofs.YtkomchdmcbdahaaDoor
set_option linter.unusedVariables false
open Go.RowKit

def PutPost (d : DB) (w : World) (e : Ending) (w' : World) : Prop :=
  ∃ b, e = .returned (.pointer (some ⟨b, 0, none⟩)) ∧ DTm w' d (.pointer (some ⟨b, 0, none⟩)) ∧ Below w.heap.size w w'
def PutSaid (d : DB) : Prop := ∀ (x : List UInt8) (c : DB) (v vc : Value) (w : World), DTm w d v → DTm w c vc →
  Calls Tryd.prog 32 #[v, .string ⟨x.toArray⟩, vc] w (PutPost (putD x c d) w)

theorem below_undrew {B : Nat} {w w' : World} (h : Below B w.drew w') : Below B w w' := (Below.refl B w).drew.trans h
theorem put_free (y : List UInt8) : PutSaid (.free y) := by
  rintro x c v vc w hd hc
  obtain ⟨b, rfl, _, hx, hb⟩ := id hd
  obtain ⟨b2, rfl, _⟩ := hc.shape
  have k0 := hb.cell 0
  have k1 := hb.cell 1
  simp at k0 k1
  have HD := Lib.hid hd
  have HC := Lib.hid hc
  clear hd hc hb
  have hq : (y == x) = true ∨ (y == x) = false := by cases (y == x) <;> simp
  rcases hq with hq | hq
  · have HE : Hid (putD x c (.free y) = c) := Lib.hid (by simp [putD, beq_iff_eq.1 hq])
    go_enter Tryd.func32, Tryd.ntmps32
    go_wp2
    go_ret
    exact ⟨_, rfl, by rw [HE.out]; exact HC.out, Below.refl _ _⟩
  · have HE : Hid (putD x c (.free y) = .free y) := Lib.hid (by simp [putD, beq_eq_false_iff_ne.1 hq])
    go_enter Tryd.func32, Tryd.ntmps32
    go_wp2
    go_ret
    exact ⟨_, rfl, by rw [HE.out]; exact HD.out, Below.refl _ _⟩
theorem put_bnd (i : Nat) : PutSaid (.bnd i) := by
  rintro x c v vc w hd hc
  obtain ⟨b, rfl, _, hb⟩ := id hd
  have k0 := hb.cell 0
  simp at k0
  have HD := Lib.hid hd
  clear hd hc hb
  go_enter Tryd.func32, Tryd.ntmps32
  go_wp2
  go_ret
  exact ⟨_, rfl, HD.out, Below.refl _ _⟩

theorem lamS {w : World} {b q : Nat} {y : List UInt8} (h : Blk w b 75 #[.int .i64 2, .string ⟨y.toArray⟩, .int .i64 0, .pointer (some ⟨q, 0, none⟩), .pointer none]) :
    w.cell? ⟨b, 1, none⟩ = some (.string ⟨y.toArray⟩) ∧ w.cell? ⟨b, 3, none⟩ = some (.pointer (some ⟨q, 0, none⟩)) := by
  have h1 := h.cell 1
  have h3 := h.cell 3
  simp at h1 h3
  exact ⟨h1, h3⟩
theorem appS {w : World} {b q r : Nat} (h : Blk w b 75 #[.int .i64 3, .string ⟨#[]⟩, .int .i64 0, .pointer (some ⟨q, 0, none⟩), .pointer (some ⟨r, 0, none⟩)]) :
    w.cell? ⟨b, 3, none⟩ = some (.pointer (some ⟨q, 0, none⟩)) ∧ w.cell? ⟨b, 4, none⟩ = some (.pointer (some ⟨r, 0, none⟩)) := by
  have h1 := h.cell 3
  have h3 := h.cell 4
  simp at h1 h3
  exact ⟨h1, h3⟩

set_option maxRecDepth 100000 in
set_option maxHeartbeats 1000000 in
theorem put_lam (y : List UInt8) (d : DB) (ih : PutSaid d) : PutSaid (.lam y d) := by
  rintro x c v vc w hd hc
  obtain ⟨b, q, rfl, _, hx, hb, he⟩ := id hd
  have k0 := hb.cell 0
  simp at k0
  have C1 := Lib.hid (ih x c _ vc w.drew (he.drewN 1) (hc.drewN 1))
  have HX := Lib.hid hx
  have hbd := hb.drew
  clear hd hc hb he ih hx
  go_enter Tryd.func32, Tryd.ntmps32
  go_wp2
  go_region_held3 (fun w' => w'.cell? ⟨b, 1, none⟩ = some (.string ⟨y.toArray⟩) ∧ w'.cell? ⟨b, 3, none⟩ = some (.pointer (some ⟨q, 0, none⟩)))
    (with_reducible first | exact lamS hbd | exact lamS (by assumption) | exact lamS (Blk.alloc (by assumption) _))
    (first
      | (go_at_call 32; (with_reducible refine C1.out.mono ?_); rintro e w1 ⟨b1, rfl, hd1, hb1⟩; have hk1 := hbd.below hb1 hbd.lt; have HD1 := Lib.hid hd1; have HB1 := Lib.hid hb1; clear hd1 hb1)
      | (go_at_call 56; (with_reducible refine (newLam_any y b1 _).mono ?_); rintro e w2 ⟨rfl, rfl⟩))
  all_goals
    go_wp2
    go_ret
    exact ⟨w1.heap.size, rfl, ⟨w1.heap.size, b1, rfl, trivial, HX.out, Blk.new _ _ _, HD1.out.keep fun q cs hk => hk.alloc _⟩, (below_undrew HB1.out).alloc HB1.out.size _⟩

set_option maxRecDepth 100000 in
set_option maxHeartbeats 1000000 in
theorem put_app (f a : DB) (ihf : PutSaid f) (iha : PutSaid a) : PutSaid (.app f a) := by
  rintro x c v vc w hd hc
  obtain ⟨b, q, r, rfl, _, hb, hdf, hda⟩ := id hd
  have k0 := hb.cell 0
  simp at k0
  have C1 := Lib.hid (ihf x c _ vc w.drew (hdf.drewN 1) (hc.drewN 1))
  have C2 : Hid (∀ w', Below w.heap.size w w' → Calls Tryd.prog 32 #[.pointer (some ⟨r, 0, none⟩), .string ⟨x.toArray⟩, vc] w' (PutPost (putD x c a) w')) := Lib.hid (fun w' h => iha x c _ vc w' (hda.below2 h) (hc.below2 h))
  have hbd := hb.drew
  clear hd hc hb hdf hda ihf iha
  go_enter Tryd.func32, Tryd.ntmps32
  go_wp2
  go_region_held3 (fun w' => w'.cell? ⟨b, 3, none⟩ = some (.pointer (some ⟨q, 0, none⟩)) ∧ w'.cell? ⟨b, 4, none⟩ = some (.pointer (some ⟨r, 0, none⟩)))
    (with_reducible first | exact appS hbd | exact appS (by assumption) | exact appS (Blk.alloc (by assumption) _))
    (first
      | (go_at_call 32; (with_reducible refine C1.out.mono ?_); rintro e w1 ⟨b1, rfl, hd1, hb1⟩; have hk1 := hbd.below hb1 hbd.lt; have HD1 := Lib.hid hd1; have HB1 := Lib.hid (below_undrew hb1); have C3 := Lib.hid (C2.out w1 HB1.out); clear hd1 hb1)
      | (go_at_call 32; (with_reducible refine C3.out.mono ?_); rintro e w2 ⟨b2, rfl, hd2, hb2⟩; have hk2 := hk1.below hb2 hk1.lt; have HD2 := Lib.hid hd2; have HD12 := Lib.hid (HD1.out.below2 hb2); have HB2 := Lib.hid (HB1.out.trans (hb2.mono HB1.out.size)); clear hd2 hb2)
      | (go_at_call 57; (with_reducible refine (newApp_any b1 b2 _).mono ?_); rintro e w3 ⟨rfl, rfl⟩))
  all_goals
    go_wp2
    go_ret
    exact ⟨w2.heap.size, rfl, ⟨w2.heap.size, b1, b2, rfl, trivial, Blk.new _ _ _, HD12.out.keep fun q cs hk => hk.alloc _, HD2.out.keep fun q cs hk => hk.alloc _⟩, HB2.out.alloc HB2.out.size _⟩

theorem put_any (d : DB) : PutSaid d := by
  induction d with
  | free x => exact put_free x
  | bnd i => exact put_bnd i
  | lam x d ih => exact put_lam x d ih
  | app f a ihf iha => exact put_app f a ihf iha
end Go.Proofs.YtkomchdmcbdahaaDoor
