/- The program's machine in memory: closures and environments; a name's place, its closure, its text; what is within a lam. -/
import Derived.Test.YtljkmeloleeopaaQ
import Derived.Test.YtljkmeloleeopaaYA
import Derived.Test.YtljkmeloleeopaaT0
import Derived.Test.YtljkmeloleeopaaYC
import Derived.Deep.LoopGhost
import Derived.BigRegion
import Derived.BigQuiet
namespace Go.Proofs.Ytljkmeloleeopaa
set_option linter.unusedVariables false
set_option linter.unusedSimpArgs false
open Go.RowKit

/-- An environment of the program. -/
def EAt (w : World) (P : Nat → Prop) : Env → Value → Prop
  | .nil, v => v = .pointer none
  | .clo x t e r, v => ∃ b cb tb ev rv, v = .pointer (some ⟨b, 0, none⟩) ∧ x.length ≤ 8000 ∧ Blk w b 100 #[.string ⟨x.toArray⟩, .pointer (some ⟨cb, 0, none⟩), .int .i64 0, rv] ∧
      Blk w cb 94 #[.pointer (some ⟨tb, 0, none⟩), ev] ∧ DAt w P (toDB e.names t) (.pointer (some ⟨tb, 0, none⟩)) ∧ EAt w P e ev ∧ EAt w P r rv
  | .opn x k r, v => ∃ b rv, v = .pointer (some ⟨b, 0, none⟩) ∧ x.length ≤ 8000 ∧ Blk w b 100 #[.string ⟨x.toArray⟩, .pointer none, .int .i64 k, rv] ∧ EAt w P r rv
/-- A closure of the program. -/
def CAt (w : World) (P : Nat → Prop) (t : Tm) (e : Env) (v : Value) : Prop :=
  ∃ b tb ev, v = .pointer (some ⟨b, 0, none⟩) ∧ Blk w b 94 #[.pointer (some ⟨tb, 0, none⟩), ev] ∧ DAt w P (toDB e.names t) (.pointer (some ⟨tb, 0, none⟩)) ∧ EAt w P e ev
/-- The terms, closures and environments stand. -/
structure Stands (w w' : World) (P : Nat → Prop) : Prop where
  tm : ∀ b, P b → w'.heap[b]? = w.heap[b]?
  cl : ∀ b cs, Blk w b 94 cs → Blk w' b 94 cs
  en : ∀ b cs, Blk w b 100 cs → Blk w' b 100 cs
theorem Stands.trans {w w1 w2 : World} {P : Nat → Prop} (h : Stands w w1 P) (k : Stands w1 w2 P) : Stands w w2 P :=
  ⟨fun b hb => (k.tm b hb).trans (h.tm b hb), fun b cs q => k.cl b cs (h.cl b cs q), fun b cs q => k.en b cs (h.en b cs q)⟩
theorem Stands.refl (w : World) (P : Nat → Prop) : Stands w w P := ⟨fun _ _ => rfl, fun _ _ q => q, fun _ _ q => q⟩
theorem Stands.drewN {w w1 : World} {P : Nat → Prop} (h : Stands w w1 P) (n : Nat) : Stands w (w1.drewN n) P := h.trans ⟨fun _ _ => rfl, fun _ _ q => q, fun _ _ q => q⟩
theorem Stands.drew {w w1 : World} {P : Nat → Prop} (h : Stands w w1 P) : Stands w w1.drew P := h.trans ⟨fun _ _ => rfl, fun _ _ q => q, fun _ _ q => q⟩
theorem Stands.alloc {w w1 : World} {P : Nat → Prop} (h : Stands w w1 P) (hP : ∀ b, P b → b < w1.heap.size) (o : Obj) : Stands w (w1.alloc o) P :=
  h.trans ⟨fun b hb => Below.heap_alloc _ _ _ (hP b hb), fun _ _ q => q.alloc o, fun _ _ q => q.alloc o⟩
/-- A box of another type is written to. -/
theorem Stands.set_ {w w1 : World} {P : Nat → Prop} (h : Stands w w1 P) {g t : Nat} {cs : Array Value} (hg : Blk w1 g t cs) (hgP : ¬ P g) (h1 : t ≠ 94) (h2 : t ≠ 100) (o : Nat) (u : Value) : Stands w (w1.setCell ⟨g, o, none⟩ u) P := by
  have hd : ∀ (b : Nat) (e : Nat) (c2 : Array Value), Blk w1 b e c2 → t ≠ e → b ≠ g := by
    intro b e c2 hb hte he
    subst he
    have := (show w1.heap[b]? = _ from hb).symm.trans (show w1.heap[b]? = _ from hg)
    simp at this
    exact hte this.2.symm
  exact h.trans ⟨fun b hb => Below.heap_setCell _ _ _ b (fun e => hgP ((show b = g from e) ▸ hb)), fun b c2 q => q.far (hd b _ c2 q h1) u, fun b c2 q => q.far (hd b _ c2 q h2) u⟩
/-- A row of another type grows. -/
theorem Stands.grown {w w1 w2 : World} {P : Nat → Prop} (h : Stands w w1 P) {base e size n : Nat} {v : Value} {xs : List Value} (hr : w1.ownsRow base e size v n xs) (hg : w1.grownBy w2 v.ownBlock) (hP : ∀ b, P b → b < w1.heap.size ∧ b < base)
    (h1 : e ≠ 94) (h2 : e ≠ 100) : Stands w w2 P :=
  h.trans ⟨fun b hb => hg.block b (hP b hb).1 (fun q => by have := (hr.lt b q.symm).1; have := (hP b hb).2; omega), fun b cs q => q.grown hg (q.apart (Ne.symm h1) hr), fun b cs q => q.grown hg (q.apart (Ne.symm h2) hr)⟩
theorem EAt.stands {w w' : World} {P : Nat → Prop} (h : Stands w w' P) : ∀ {e : Env} {v : Value}, EAt w P e v → EAt w' P e v := by
  intro e
  induction e with
  | nil => intro v q; exact q
  | clo x t e r ihe ihr =>
    rintro v ⟨b, cb, tb, ev, rv, rfl, hl, h1, h2, h3, h4, h5⟩
    exact ⟨b, cb, tb, ev, rv, rfl, hl, h.en b _ h1, h.cl cb _ h2, DAt.mono (fun q hq => ⟨hq, h.tm q hq⟩) h3, ihe h4, ihr h5⟩
  | opn x k r ih =>
    rintro v ⟨b, rv, rfl, hl, h1, h2⟩
    exact ⟨b, rv, rfl, hl, h.en b _ h1, ih h2⟩
theorem CAt.stands {w w' : World} {P : Nat → Prop} (h : Stands w w' P) {t : Tm} {e : Env} {v : Value} (q : CAt w P t e v) : CAt w' P t e v := by
  obtain ⟨b, tb, ev, rfl, h1, h2, h3⟩ := q
  exact ⟨b, tb, ev, rfl, h.cl b _ h1, DAt.mono (fun q hq => ⟨hq, h.tm q hq⟩) h2, h3.stands h⟩

theorem EAt.out_ {w : World} {P : Nat → Prop} {e : Env} {v : Value} (h : EAt w P e v) (hne : e ≠ .nil) : ∃ (b : Nat) (x : List UInt8) (u k rv : Value), v = .pointer (some ⟨b, 0, none⟩) ∧ Blk w b 100 #[.string ⟨x.toArray⟩, u, k, rv] ∧ EAt w P e.out rv := by
  cases e with
  | nil => exact absurd rfl hne
  | clo x t e r => obtain ⟨b, cb, tb, ev, rv, rfl, hl, h1, h2, h3, h4, h5⟩ := h; exact ⟨b, x, _, _, rv, rfl, h1, h5⟩
  | opn x k r => obtain ⟨b, rv, rfl, hl, h1, h2⟩ := h; exact ⟨b, x, _, _, rv, rfl, h1, h2⟩
theorem EAt.pt {w : World} {P : Nat → Prop} {e : Env} {v : Value} (h : EAt w P e v) : ∃ p, v = .pointer p := by
  cases e with
  | nil => exact ⟨_, h⟩
  | clo x t e r => obtain ⟨b, cb, tb, ev, rv, rfl, _⟩ := h; exact ⟨_, rfl⟩
  | opn x k r => obtain ⟨b, rv, rfl, _⟩ := h; exact ⟨_, rfl⟩
theorem Env.at_succ (e : Env) (d : Nat) : e.at (d + 1) = (e.at d).out := by
  induction d generalizing e with
  | zero => rfl
  | succ d ih => rw [show e.at (d + 1 + 1) = e.out.at (d + 1) from rfl, ih]; rfl
theorem Env.at_ne (d : Nat) : ∀ (e : Env), d < e.names.length → e.at d ≠ .nil := by
  induction d with
  | zero => intro e h; cases e with
    | nil => simp [Env.names] at h
    | clo => simp [Env.at]
    | opn => simp [Env.at]
  | succ d ih => intro e h; cases e with
    | nil => simp [Env.names] at h
    | clo x t f r => simp [Env.names] at h; exact ih r h
    | opn x k r => simp [Env.names] at h; exact ih r h

set_option maxRecDepth 100000 in
theorem place_any (e : Env) (d b tb : Nat) (ev : Value) (w : World) (P : Nat → Prop) (hb : Blk w b 94 #[.pointer (some ⟨tb, 0, none⟩), ev]) (ht : DAt w P (.bnd d) (.pointer (some ⟨tb, 0, none⟩))) (he : EAt w P e ev) (hd : d < e.names.length) (hd2 : d ≤ 100000) :
    Calls Try.prog 47 #[.pointer (some ⟨b, 0, none⟩)] w fun q w' => (∃ v, q = .returned v ∧ EAt w P (e.at d) v) ∧ w' = w := by
  obtain ⟨tb', e1, hP, ht'⟩ := ht
  injection e1 with e1
  injection e1 with e1
  injection e1 with e1
  subst e1
  have k0 := hb.cell 0
  have k1 := hb.cell 1
  have kl := hb.lt
  have t2 := ht'.cell 2
  have tl := ht'.lt
  simp only [List.getElem?_toArray, List.getElem?_cons_zero, List.getElem?_cons_succ] at k0 k1 t2
  have HE := Lib.hid he
  obtain ⟨pv, rfl⟩ := he.pt
  clear hb ht' he
  go_enter Try.func47, Try.ntmps47
  go_wp2_with fail
  go_loopg [3, 15] d (fun q v u wr => ∃ (k : Nat) (p : Option Addr), q = d - k ∧ k ≤ d ∧ v = .pointer p ∧ u = .int .i64 (k : Nat) ∧ wr = w ∧ Hid (EAt w P (e.at k) (.pointer p)))
  case atStart => exact ⟨0, pv, by omega, by omega, rfl, rfl, rfl, HE⟩
  case round =>
    obtain ⟨k, p, hq, hk, rfl, rfl, rfl, HT⟩ := hrel
    have HQ := Lib.hid hq
    clear hq
    by_cases hlt : k < d
    · obtain ⟨b', x', u', k', rv, e2, hb', ho⟩ := HT.out.out_ (Env.at_ne k e (by omega))
      injection e2 with e2
      subst e2
      obtain ⟨rp, rfl⟩ := ho.pt
      have q3 := hb'.cell 3
      have ql := hb'.lt
      simp only [List.getElem?_toArray, List.getElem?_cons_zero, List.getElem?_cons_succ] at q3
      have HO := Lib.hid ho
      clear hb' ho
      go_wp2
      go_roundg (d - (k + 1))
      case rel => exact ⟨k + 1, rp, rfl, by omega, rfl, by go_num, rfl, Lib.hid (by rw [Env.at_succ]; exact HO.out)⟩
      case measure => have := HQ.out; omega
    · have hkd : k = d := by omega
      have HK := Lib.hid hkd
      clear hkd
      go_wp2
      go_ret
      exact ⟨⟨_, rfl, HK.out ▸ HT.out⟩, rfl⟩
end Go.Proofs.Ytljkmeloleeopaa
