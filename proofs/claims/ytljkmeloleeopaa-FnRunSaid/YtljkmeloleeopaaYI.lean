/- The program's machine: what a name has, its text, what is within a lam. -/
import Derived.Test.YtljkmeloleeopaaYH
namespace Go.Proofs.Ytljkmeloleeopaa
set_option linter.unusedVariables false
set_option linter.unusedSimpArgs false
open Go.RowKit

/-- No closure is found. -/
def Env.noClo : Env → Prop
  | .clo _ _ _ _ => False
  | _ => True
def VlPost (P : Nat → Prop) (x : List UInt8) (e : Env) (w : World) (q : Ending) (w' : World) : Prop :=
  w' = w ∧ ((∃ y t e' r p, e.look x = .clo y t e' r ∧ q = .returned (.pointer (some p)) ∧ CAt w P t e' (.pointer (some p))) ∨ ((e.look x).noClo ∧ q = .returned (.pointer none)))

set_option maxRecDepth 100000 in
theorem value_var (x : List UInt8) (e : Env) (v : Value) (w : World) (P : Nat → Prop) (h : CAt w P (.var x) e v) (hl : e.names.length ≤ 10000) :
    Calls Try.prog 63 #[v] w (VlPost P x e w) := by
  obtain ⟨b, tb, ev, rfl, hb, ht, he⟩ := h
  have k0 := hb.cell 0
  have kl := hb.lt
  simp only [List.getElem?_toArray, List.getElem?_cons_zero] at k0
  cases hk : lk e.names x with
  | none =>
    simp only [toDB, hk] at ht
    obtain ⟨tb', e1, hP, hx, ht'⟩ := ht
    injection e1 with e1
    injection e1 with e1
    injection e1 with e1
    subst e1
    have t0 := ht'.cell 0
    have tl := ht'.lt
    simp only [List.getElem?_toArray, List.getElem?_cons_zero] at t0
    have HN : Hid ((e.look x).noClo) := Lib.hid (by rw [look_none x e hk]; trivial)
    clear hb ht' he hk
    go_enter Try.func63, Try.ntmps63
    go_wp2_with fail
    go_ret
    exact ⟨rfl, .inr ⟨HN.out, rfl⟩⟩
  | some d =>
    simp only [toDB, hk] at ht
    obtain ⟨h1, h2, h3⟩ := look_some x e d hk
    have HT := Lib.hid ht
    obtain ⟨tb', e1, hP, ht'⟩ := ht
    injection e1 with e1
    injection e1 with e1
    injection e1 with e1
    subst e1
    have t0 := ht'.cell 0
    have tl := ht'.lt
    simp only [List.getElem?_toArray, List.getElem?_cons_zero] at t0
    have HB := Lib.hid hb
    have HE := Lib.hid he
    have H1 := Lib.hid h1
    have H2 := Lib.hid h2
    clear hb ht' he hk h1 h2
    go_enter Try.func63, Try.ntmps63
    go_wp2_with fail
    refine (place_any e d b tb ev w P HB.out HT.out HE.out h3 (by omega)).mono ?_
    rintro q w1 ⟨⟨v1, rfl, hv⟩, rfl⟩
    rw [← H1.out] at hv
    have H2' := H2.out
    cases hc : e.look x with
    | nil => exact absurd hc H2'
    | clo y t e' r =>
      rw [hc] at hv
      obtain ⟨b1, cb, tb1, ev1, rv, rfl, hy, q1, q2, q3, q4, q5⟩ := hv
      have n1 := q1.cell 1
      have nl := q1.lt
      simp only [List.getElem?_toArray, List.getElem?_cons_zero, List.getElem?_cons_succ] at n1
      have HC : Hid (∃ y t e' r p, e.look x = .clo y t e' r ∧ (Ending.returned (.pointer (some ⟨cb, 0, none⟩)) = .returned (.pointer (some p))) ∧ CAt w1 P t e' (.pointer (some p))) := Lib.hid ⟨y, t, e', r, _, hc, rfl, ⟨cb, tb1, ev1, rfl, q2, q3, q4⟩⟩
      clear q1 q2 q3 q4 q5 hc H2'
      go_wp2_with fail
      go_ret
      exact ⟨rfl, .inl HC.out⟩
    | opn y k r =>
      rw [hc] at hv
      obtain ⟨b1, rv, rfl, hy, q1, q2⟩ := hv
      have n1 := q1.cell 1
      have nl := q1.lt
      simp only [List.getElem?_toArray, List.getElem?_cons_zero, List.getElem?_cons_succ] at n1
      have HN : Hid ((e.look x).noClo) := Lib.hid (by rw [hc]; trivial)
      clear q1 q2 hc H2'
      go_wp2_with fail
      go_ret
      exact ⟨rfl, .inr ⟨HN.out, rfl⟩⟩

set_option maxRecDepth 100000 in
theorem name_any (x : List UInt8) (e : Env) (v : Value) (w : World) (P : Nat → Prop) (h : CAt w P (.var x) e v) (hl : e.names.length ≤ 10000) :
    Calls Try.prog 32 #[v] w fun q w' => q = .returned (.string ⟨x.toArray⟩) ∧ w' = w := by
  obtain ⟨b, tb, ev, rfl, hb, ht, he⟩ := h
  have k0 := hb.cell 0
  have kl := hb.lt
  simp only [List.getElem?_toArray, List.getElem?_cons_zero] at k0
  cases hk : lk e.names x with
  | none =>
    simp only [toDB, hk] at ht
    obtain ⟨tb', e1, hP, hx, ht'⟩ := ht
    injection e1 with e1
    injection e1 with e1
    injection e1 with e1
    subst e1
    have t0 := ht'.cell 0
    have t1 := ht'.cell 1
    have tl := ht'.lt
    simp only [List.getElem?_toArray, List.getElem?_cons_zero, List.getElem?_cons_succ] at t0 t1
    clear hb ht' he hk
    go_enter Try.func32, Try.ntmps32
    go_wp2_with fail
    go_ret
    exact ⟨rfl, rfl⟩
  | some d =>
    simp only [toDB, hk] at ht
    obtain ⟨h1, h2, h3⟩ := look_some x e d hk
    have HT := Lib.hid ht
    obtain ⟨tb', e1, hP, ht'⟩ := ht
    injection e1 with e1
    injection e1 with e1
    injection e1 with e1
    subst e1
    have t0 := ht'.cell 0
    have tl := ht'.lt
    simp only [List.getElem?_toArray, List.getElem?_cons_zero] at t0
    have HB := Lib.hid hb
    have HE := Lib.hid he
    have H1 := Lib.hid h1
    have H2 := Lib.hid h2
    clear hb ht' he hk h1 h2
    go_enter Try.func32, Try.ntmps32
    go_wp2_with fail
    refine (place_any e d b tb ev w P HB.out HT.out HE.out h3 (by omega)).mono ?_
    rintro q w1 ⟨⟨v1, rfl, hv⟩, rfl⟩
    rw [← H1.out] at hv
    have H2' := H2.out
    cases hc : e.look x with
    | nil => exact absurd hc H2'
    | clo y t e' r =>
      rw [hc] at hv
      obtain ⟨b1, cb, tb1, ev1, rv, rfl, hy, q1, q2, q3, q4, q5⟩ := hv
      have n0 := q1.cell 0
      have nl := q1.lt
      simp only [List.getElem?_toArray, List.getElem?_cons_zero, List.getElem?_cons_succ] at n0
      obtain rfl := look_clo e hc
      clear q1 q2 q3 q4 q5 hc H2'
      go_wp2_with fail
      go_ret
      exact ⟨rfl, rfl⟩
    | opn y k r =>
      rw [hc] at hv
      obtain ⟨b1, rv, rfl, hy, q1, q2⟩ := hv
      have n0 := q1.cell 0
      have nl := q1.lt
      simp only [List.getElem?_toArray, List.getElem?_cons_zero, List.getElem?_cons_succ] at n0
      obtain rfl := look_opn e hc
      clear q1 q2 hc H2'
      go_wp2_with fail
      go_ret
      exact ⟨rfl, rfl⟩

def WiPost (P : Nat → Prop) (x : List UInt8) (b : Tm) (e : Env) (cv : Value) (k : Nat) (w : World) (q : Ending) (w' : World) : Prop :=
  q = .returned (.pointer (some ⟨w.heap.size + 1, 0, none⟩)) ∧ Below w.heap.size w w' ∧ Stands w w' P ∧
  (∀ t' e', CAt w P t' e' cv → k = 0 → CAt w' P b (.clo x t' e' e) (.pointer (some ⟨w.heap.size + 1, 0, none⟩))) ∧ (cv = .pointer none → CAt w' P b (.opn x k e) (.pointer (some ⟨w.heap.size + 1, 0, none⟩)))

set_option maxRecDepth 100000 in
theorem within_any (x : List UInt8) (t : Tm) (e : Env) (v : Value) (cp : Option Addr) (k : Nat) (w : World) (P : Nat → Prop) (h : CAt w P (.lam x t) e v) (hP : ∀ b, P b → b < w.heap.size) :
    Calls Try.prog 62 #[v, .pointer cp, .int .i64 (k : Nat)] w (WiPost P x t e (.pointer cp) k w) := by
  obtain ⟨b, tb, ev, rfl, hb, ht, he⟩ := h
  obtain ⟨tb', tc, e1, hPb, hx, ht', hd⟩ := ht
  injection e1 with e1
  injection e1 with e1
  injection e1 with e1
  subst e1
  have k0 := hb.cell 0
  have k1 := hb.cell 1
  have kl := hb.lt
  have t1 := ht'.cell 1
  have t3 := ht'.cell 3
  have tl := ht'.lt
  simp only [List.getElem?_toArray, List.getElem?_cons_zero, List.getElem?_cons_succ] at k0 k1 t1 t3
  have HW : Hid (WiPost P x t e (.pointer cp) k w (.returned (.pointer (some ⟨w.heap.size + 1, 0, none⟩))) (((w.alloc (.cells #[.string ⟨x.toArray⟩, .pointer cp, .int .i64 k, ev] 100)).alloc (.cells #[.pointer (some ⟨tc, 0, none⟩), .pointer (some ⟨w.heap.size, 0, none⟩)] 94)).drew)) := Lib.hid (by
    have hS : Stands w (((w.alloc (.cells #[.string ⟨x.toArray⟩, .pointer cp, .int .i64 k, ev] 100)).alloc (.cells #[.pointer (some ⟨tc, 0, none⟩), .pointer (some ⟨w.heap.size, 0, none⟩)] 94)).drew) P :=
      (((Stands.refl w P).alloc hP _).alloc (fun b hb => by have := hP b hb; simp; omega) _).drew
    have n1 := ((Blk.new w 100 #[.string ⟨x.toArray⟩, .pointer cp, .int .i64 k, ev]).alloc (.cells #[.pointer (some ⟨tc, 0, none⟩), .pointer (some ⟨w.heap.size, 0, none⟩)] 94)).drew
    have n2 := (Blk.new (w.alloc (.cells #[.string ⟨x.toArray⟩, .pointer cp, .int .i64 k, ev] 100)) 94 #[.pointer (some ⟨tc, 0, none⟩), .pointer (some ⟨w.heap.size, 0, none⟩)]).drew
    rw [show (w.alloc (.cells #[.string ⟨x.toArray⟩, .pointer cp, .int .i64 k, ev] 100)).heap.size = w.heap.size + 1 from by simp] at n2
    refine ⟨rfl, (((Below.refl _ _).alloc (Nat.le_refl _) _).alloc (by simp) _).drew, hS, ?_, ?_⟩
    · intro t' e' hc hk
      subst hk
      obtain ⟨cb, ctb, cev, hcp, c1, c2, c3⟩ := hc
      injection hcp with hcp
      subst hcp
      refine ⟨_, tc, _, rfl, n2, DAt.mono (fun q hq => ⟨hq, hS.tm q hq⟩) hd, ⟨_, cb, ctb, cev, ev, rfl, hx, n1, hS.cl _ _ c1, DAt.mono (fun q hq => ⟨hq, hS.tm q hq⟩) c2, c3.stands hS, he.stands hS⟩⟩
    · intro hcp
      injection hcp with hcp
      subst hcp
      exact ⟨_, tc, _, rfl, n2, DAt.mono (fun q hq => ⟨hq, hS.tm q hq⟩) hd, ⟨_, ev, rfl, hx, n1, he.stands hS⟩⟩)
  obtain ⟨ep, rfl⟩ := he.pt
  clear hb ht' hd he hP
  go_enter Try.func62, Try.ntmps62
  go_wp2_with fail
  go_region
  all_goals
    go_wp2_with fail
    go_ret
    exact HW.out
end Go.Proofs.Ytljkmeloleeopaa
