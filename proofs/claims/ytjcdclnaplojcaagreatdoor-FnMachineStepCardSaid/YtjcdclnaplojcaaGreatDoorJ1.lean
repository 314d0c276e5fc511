/- The program reads a text that has not too many atoms. The program's reading of a term. The program's machine in memory: closures and environments; a name's place, its closure, its text; what is within a lam. The program's machine: what a name has, its text, what is within a lam. The program's machine: its four moves, and which one is next. The program's machine: a push; which move is next. The program's machine runs. The program's run of a text. -/
import Derived.Test.YtjcdclnaplojcaaGreatDoorPC
import Derived.Test.YtjcdclnaplojcaaGreatDoorP
import Derived.Test.YtjcdclnaplojcaaGreatDoorYA
import Derived.Test.YtjcdclnaplojcaaGreatDoorT0
import Derived.Test.YtjcdclnaplojcaaGreatDoorYC
import Derived.Deep.LoopGhost
import Derived.BigRegion
import Derived.BigQuiet
import Derived.Deep.RegionLaw
import Derived.Deep.AppendLies
import Derived.Deep.DrawnRows
import Derived.WalkSmall
import Derived.Laws.EntriesVeiled
namespace Go.Proofs.YtjcdclnaplojcaaGreatDoor
set_option linter.unusedVariables false
open Go.RowKit

/-- What is answered: the parts of a text with at most n atoms, or none. -/
def RaPost (n : Nat) (s : ByteArray) (w : World) (e : Ending) (w' : World) : Prop :=
  Below w.heap.size w w' ∧ ((∃ t v, rdText s.data.toList = some t ∧ trAtoms t ≤ n ∧ e = .returned (.tuple #[v, .bool true]) ∧ PAt w' (fun b => w.heap.size ≤ b ∧ b < w'.heap.size) t v) ∨
    ((∀ t, rdText s.data.toList = some t → n < trAtoms t) ∧ e = .returned (.tuple #[.pointer none, .bool false])))
set_option maxRecDepth 100000 in
theorem readAtMost_any (n : Nat) (hn : n ≤ 1000) (s : ByteArray) (w : World) (hm : s.size ≤ maxLen) :
    Calls Tryz.prog 68 #[.string s, .int .i64 n] w (RaPost n s w) := by
  go_enter Tryz.func68, Tryz.ntmps68
  go_wp2_with fail
  refine (readText_any s _ hm).mono ?_
  rintro e w1 ⟨hb1, ⟨t, v, hrd, rfl, hpt⟩ | ⟨hrd, rfl⟩⟩
  · obtain ⟨b, rfl, _⟩ := hpt.shape
    have hok := rdText_ok _ _ hrd
    have ha : trAtoms t ≤ 10000 := by omega
    have HC := Lib.hid (countAtoms_any t _ w1 _ hpt ha)
    have HR := Lib.hid hrd
    have HP := Lib.hid hpt
    have HB := Lib.hid hb1
    clear hrd hpt hok hb1
    by_cases hle : trAtoms t ≤ n
    · have hd : decide ((n : Int) < (trAtoms t : Int)) = false := by simp; omega
      have hd2 : ¬ ((n : Int) < (trAtoms t : Int)) := by omega
      go_wp2_with fail
      refine HC.out.mono ?_
      rintro e w2 ⟨rfl, rfl⟩
      go_wp2_with fail
      go_ret2
      exact ⟨HB.out, .inl ⟨t, _, HR.out, hle, rfl, HP.out⟩⟩
    · have hd : decide ((n : Int) < (trAtoms t : Int)) = true := by simp; omega
      have hd2 : ((n : Int) < (trAtoms t : Int)) := by omega
      go_wp2_with fail
      refine HC.out.mono ?_
      rintro e w2 ⟨rfl, rfl⟩
      go_wp2_with fail
      go_ret2
      refine ⟨HB.out, .inr ⟨fun u hu => ?_, rfl⟩⟩
      rw [HR.out] at hu
      injection hu with hu
      subst hu
      omega
  · have HR := Lib.hid hrd
    clear hrd
    go_wp2_with fail
    go_ret2
    refine ⟨hb1, .inr ⟨fun u hu => ?_, rfl⟩⟩
    rw [HR.out] at hu
    cases hu
end Go.Proofs.YtjcdclnaplojcaaGreatDoor

namespace Go.Proofs.YtjcdclnaplojcaaGreatDoor
set_option linter.unusedVariables false
open Go.RowKit

/-- What the program's reading of a term answers. -/
def RtPost (s : ByteArray) (w : World) (e : Ending) (w' : World) : Prop :=
  Below w.heap.size w w' ∧
  ((∃ tm v, rdTerm s.data.toList = some tm ∧ e = .returned (.tuple #[v, .bool true]) ∧ DAt w' (fun b => w.heap.size ≤ b ∧ b < w'.heap.size) (toDB [] tm) v) ∨
   (rdTerm s.data.toList = none ∧ e = .returned (.tuple #[.pointer none, .bool false])))

theorem rdTerm_few (s : ByteArray) (h : ∀ t, rdText s.data.toList = some t → 400 < trAtoms t) : rdTerm s.data.toList = none := by
  unfold rdTerm
  cases hr : rdText s.data.toList with
  | none => rfl
  | some t =>
    have := h t hr
    simp only
    rw [if_neg (by omega)]
theorem readTerm_any (s : ByteArray) (w : World) (hm : s.size ≤ maxLen) :
    Calls Tryz.prog 37 #[.string s] w (RtPost s w) := by
  go_enter Tryz.func37, Tryz.ntmps37
  go_wp2_with fail
  refine (readAtMost_any 400 (by omega) s _ hm).mono ?_
  rintro e w1 ⟨hb1, ⟨t, v, hrd, hat, rfl, htr⟩ | ⟨hrd, rfl⟩⟩
  · obtain ⟨b, rfl, hbP⟩ := htr.shape
    obtain ⟨hwf, hta, _⟩ := rdText_ok _ _ hrd
    have ha : trAtoms t ≤ 10000 := by omega
    have HT := Lib.hid htr
    have hrt : rdTerm s.data.toList = trTm t := by unfold rdTerm; rw [hrd]; simp only [hat, if_true]
    have HRT := Lib.hid hrt
    clear htr hrd hwf hta hrt
    go_wp2_with fail
    refine (termOf_any t _ [] (.slice none 0 0) _ _ HT.out (fun q hq => ⟨hq.2, by simp [Value.ownBlock]⟩) (World.ownsRow_nil _ _ _ _) (by simpa using ha)).mono ?_
    rintro e w3 ⟨hg3, _, ⟨tm, v, htm, rfl, hd⟩ | ⟨htm, rfl⟩⟩
    · have HM := Lib.hid htm
      have HD := Lib.hid hd
      clear htm hd
      go_wp2_with fail
      go_ret2
      have hz1 := hb1.size
      exact ⟨hb1.grown hg3 hz1 (by simp [Value.ownBlock]), .inl ⟨tm, v, by rw [HRT.out, HM.out], rfl, HD.out.mono fun q hq => ⟨⟨by omega, hq.2⟩, rfl⟩⟩⟩
    · have HM := Lib.hid htm
      clear htm
      go_wp2_with fail
      go_ret2
      have hz1 := hb1.size
      exact ⟨hb1.grown hg3 hz1 (by simp [Value.ownBlock]), .inr ⟨by rw [HRT.out, HM.out], rfl⟩⟩
  · have HN := Lib.hid (rdTerm_few s hrd)
    clear hrd
    go_wp2
    go_ret2
    exact ⟨hb1, .inr ⟨HN.out, rfl⟩⟩

end Go.Proofs.YtjcdclnaplojcaaGreatDoor

namespace Go.Proofs.YtjcdclnaplojcaaGreatDoor
set_option linter.unusedVariables false
set_option linter.unusedSimpArgs false
open Go.RowKit

/-- An environment of the program. -/
def EAt (w : World) (P : Nat → Prop) : Env → Value → Prop
  | .nil, v => v = .pointer none
  | .clo x t e r, v => ∃ b cb tb ev rv, v = .pointer (some ⟨b, 0, none⟩) ∧ x.length ≤ 8000 ∧ Blk w b 148 #[.string ⟨x.toArray⟩, .pointer (some ⟨cb, 0, none⟩), .int .i64 0, rv] ∧
      Blk w cb 145 #[.pointer (some ⟨tb, 0, none⟩), ev] ∧ DAt w P (toDB e.names t) (.pointer (some ⟨tb, 0, none⟩)) ∧ EAt w P e ev ∧ EAt w P r rv
  | .opn x k r, v => ∃ b rv, v = .pointer (some ⟨b, 0, none⟩) ∧ x.length ≤ 8000 ∧ Blk w b 148 #[.string ⟨x.toArray⟩, .pointer none, .int .i64 k, rv] ∧ EAt w P r rv
/-- A closure of the program. -/
def CAt (w : World) (P : Nat → Prop) (t : Tm) (e : Env) (v : Value) : Prop :=
  ∃ b tb ev, v = .pointer (some ⟨b, 0, none⟩) ∧ Blk w b 145 #[.pointer (some ⟨tb, 0, none⟩), ev] ∧ DAt w P (toDB e.names t) (.pointer (some ⟨tb, 0, none⟩)) ∧ EAt w P e ev
/-- The terms, closures and environments stand. -/
structure Stands (w w' : World) (P : Nat → Prop) : Prop where
  tm : ∀ b, P b → w'.heap[b]? = w.heap[b]?
  cl : ∀ b cs, Blk w b 145 cs → Blk w' b 145 cs
  en : ∀ b cs, Blk w b 148 cs → Blk w' b 148 cs
theorem Stands.trans {w w1 w2 : World} {P : Nat → Prop} (h : Stands w w1 P) (k : Stands w1 w2 P) : Stands w w2 P :=
  ⟨fun b hb => (k.tm b hb).trans (h.tm b hb), fun b cs q => k.cl b cs (h.cl b cs q), fun b cs q => k.en b cs (h.en b cs q)⟩
theorem Stands.refl (w : World) (P : Nat → Prop) : Stands w w P := ⟨fun _ _ => rfl, fun _ _ q => q, fun _ _ q => q⟩
theorem Stands.drewN {w w1 : World} {P : Nat → Prop} (h : Stands w w1 P) (n : Nat) : Stands w (w1.drewN n) P := h.trans ⟨fun _ _ => rfl, fun _ _ q => q, fun _ _ q => q⟩
theorem Stands.drew {w w1 : World} {P : Nat → Prop} (h : Stands w w1 P) : Stands w w1.drew P := h.trans ⟨fun _ _ => rfl, fun _ _ q => q, fun _ _ q => q⟩
theorem Stands.alloc {w w1 : World} {P : Nat → Prop} (h : Stands w w1 P) (hP : ∀ b, P b → b < w1.heap.size) (o : Obj) : Stands w (w1.alloc o) P :=
  h.trans ⟨fun b hb => Below.heap_alloc _ _ _ (hP b hb), fun _ _ q => q.alloc o, fun _ _ q => q.alloc o⟩
/-- A box of another type is written to. -/
theorem Stands.set_ {w w1 : World} {P : Nat → Prop} (h : Stands w w1 P) {g t : Nat} {cs : Array Value} (hg : Blk w1 g t cs) (hgP : ¬ P g) (h1 : t ≠ 145) (h2 : t ≠ 148) (o : Nat) (u : Value) : Stands w (w1.setCell ⟨g, o, none⟩ u) P := by
  have hd : ∀ (b : Nat) (e : Nat) (c2 : Array Value), Blk w1 b e c2 → t ≠ e → b ≠ g := by
    intro b e c2 hb hte he
    subst he
    have := (show w1.heap[b]? = _ from hb).symm.trans (show w1.heap[b]? = _ from hg)
    simp at this
    exact hte this.2.symm
  exact h.trans ⟨fun b hb => Below.heap_setCell _ _ _ b (fun e => hgP ((show b = g from e) ▸ hb)), fun b c2 q => q.far (hd b _ c2 q h1) u, fun b c2 q => q.far (hd b _ c2 q h2) u⟩
/-- A row of another type grows. -/
theorem Stands.grown {w w1 w2 : World} {P : Nat → Prop} (h : Stands w w1 P) {base e size n : Nat} {v : Value} {xs : List Value} (hr : w1.ownsRow base e size v n xs) (hg : w1.grownBy w2 v.ownBlock) (hP : ∀ b, P b → b < w1.heap.size ∧ b < base)
    (h1 : e ≠ 145) (h2 : e ≠ 148) : Stands w w2 P :=
  h.trans ⟨fun b hb => hg.block b (hP b hb).1 (fun q => by have := (hr.lt b q.symm).1; have := (hP b hb).2; omega), fun b cs q => q.grown hg (q.apart (Ne.symm h1) hr), fun b cs q => q.grown hg (q.apart (Ne.symm h2) hr)⟩
theorem EAt.stands {w w' : World} {P : Nat → Prop} (h : Stands w w' P) : ∀ {e : Env} {v : Value}, EAt w P e v → EAt w' P e v := by
  intro e
  induction e with
  | nil => intro v q; exact q
  | clo x t e r ihe ihr =>
    rintro v ⟨b, cb, tb, ev, rv, rfl, hl, h1, h2, h3, h4, h5⟩
    exact ⟨b, cb, tb, ev, rv, rfl, hl, h.en b _ h1, h.cl cb _ h2, DAt.mono (fun q hq => ⟨hq, h.tm q hq⟩) h3, ihe h4, ihr h5⟩
  | opn x k r ih =>
    rintro v ⟨b, rv, rfl, hl, h1, h2⟩
    exact ⟨b, rv, rfl, hl, h.en b _ h1, ih h2⟩
theorem CAt.stands {w w' : World} {P : Nat → Prop} (h : Stands w w' P) {t : Tm} {e : Env} {v : Value} (q : CAt w P t e v) : CAt w' P t e v := by
  obtain ⟨b, tb, ev, rfl, h1, h2, h3⟩ := q
  exact ⟨b, tb, ev, rfl, h.cl b _ h1, DAt.mono (fun q hq => ⟨hq, h.tm q hq⟩) h2, h3.stands h⟩

theorem EAt.out_ {w : World} {P : Nat → Prop} {e : Env} {v : Value} (h : EAt w P e v) (hne : e ≠ .nil) : ∃ (b : Nat) (x : List UInt8) (u k rv : Value), v = .pointer (some ⟨b, 0, none⟩) ∧ Blk w b 148 #[.string ⟨x.toArray⟩, u, k, rv] ∧ EAt w P e.out rv := by
  cases e with
  | nil => exact absurd rfl hne
  | clo x t e r => obtain ⟨b, cb, tb, ev, rv, rfl, hl, h1, h2, h3, h4, h5⟩ := h; exact ⟨b, x, _, _, rv, rfl, h1, h5⟩
  | opn x k r => obtain ⟨b, rv, rfl, hl, h1, h2⟩ := h; exact ⟨b, x, _, _, rv, rfl, h1, h2⟩
theorem EAt.pt {w : World} {P : Nat → Prop} {e : Env} {v : Value} (h : EAt w P e v) : ∃ p, v = .pointer p := by
  cases e with
  | nil => exact ⟨_, h⟩
  | clo x t e r => obtain ⟨b, cb, tb, ev, rv, rfl, _⟩ := h; exact ⟨_, rfl⟩
  | opn x k r => obtain ⟨b, rv, rfl, _⟩ := h; exact ⟨_, rfl⟩
theorem Env.at_succ (e : Env) (d : Nat) : e.at (d + 1) = (e.at d).out := by
  induction d generalizing e with
  | zero => rfl
  | succ d ih => rw [show e.at (d + 1 + 1) = e.out.at (d + 1) from rfl, ih]; rfl
theorem Env.at_ne (d : Nat) : ∀ (e : Env), d < e.names.length → e.at d ≠ .nil := by
  induction d with
  | zero => intro e h; cases e with
    | nil => simp [Env.names] at h
    | clo => simp [Env.at]
    | opn => simp [Env.at]
  | succ d ih => intro e h; cases e with
    | nil => simp [Env.names] at h
    | clo x t f r => simp [Env.names] at h; exact ih r h
    | opn x k r => simp [Env.names] at h; exact ih r h

set_option maxRecDepth 100000 in
theorem place_any (e : Env) (d b tb : Nat) (ev : Value) (w : World) (P : Nat → Prop) (hb : Blk w b 145 #[.pointer (some ⟨tb, 0, none⟩), ev]) (ht : DAt w P (.bnd d) (.pointer (some ⟨tb, 0, none⟩))) (he : EAt w P e ev) (hd : d < e.names.length) (hd2 : d ≤ 100000) :
    Calls Tryz.prog 85 #[.pointer (some ⟨b, 0, none⟩)] w fun q w' => (∃ v, q = .returned v ∧ EAt w P (e.at d) v) ∧ w' = w := by
  obtain ⟨tb', e1, hP, ht'⟩ := ht
  injection e1 with e1
  injection e1 with e1
  injection e1 with e1
  subst e1
  have k0 := hb.cell 0
  have k1 := hb.cell 1
  have kl := hb.lt
  have t2 := ht'.cell 2
  have tl := ht'.lt
  simp only [List.getElem?_toArray, List.getElem?_cons_zero, List.getElem?_cons_succ] at k0 k1 t2
  have HE := Lib.hid he
  obtain ⟨pv, rfl⟩ := he.pt
  clear hb ht' he
  go_enter Tryz.func85, Tryz.ntmps85
  go_wp2_with fail
  go_loopg [3, 15] d (fun q v u wr => ∃ (k : Nat) (p : Option Addr), q = d - k ∧ k ≤ d ∧ v = .pointer p ∧ u = .int .i64 (k : Nat) ∧ wr = w ∧ Hid (EAt w P (e.at k) (.pointer p)))
  case atStart => exact ⟨0, pv, by omega, by omega, rfl, rfl, rfl, HE⟩
  case round =>
    obtain ⟨k, p, hq, hk, rfl, rfl, rfl, HT⟩ := hrel
    have HQ := Lib.hid hq
    clear hq
    by_cases hlt : k < d
    · obtain ⟨b', x', u', k', rv, e2, hb', ho⟩ := HT.out.out_ (Env.at_ne k e (by omega))
      injection e2 with e2
      subst e2
      obtain ⟨rp, rfl⟩ := ho.pt
      have q3 := hb'.cell 3
      have ql := hb'.lt
      simp only [List.getElem?_toArray, List.getElem?_cons_zero, List.getElem?_cons_succ] at q3
      have HO := Lib.hid ho
      clear hb' ho
      go_wp2
      go_roundg (d - (k + 1))
      case rel => exact ⟨k + 1, rp, rfl, by omega, rfl, by go_num, rfl, Lib.hid (by rw [Env.at_succ]; exact HO.out)⟩
      case measure => have := HQ.out; omega
    · have hkd : k = d := by omega
      have HK := Lib.hid hkd
      clear hkd
      go_wp2
      go_ret
      exact ⟨⟨_, rfl, HK.out ▸ HT.out⟩, rfl⟩
end Go.Proofs.YtjcdclnaplojcaaGreatDoor

namespace Go.Proofs.YtjcdclnaplojcaaGreatDoor
set_option linter.unusedVariables false
set_option linter.unusedSimpArgs false
open Go.RowKit

/-- No closure is found. -/
def Env.noClo : Env → Prop
  | .clo _ _ _ _ => False
  | _ => True
def VlPost (P : Nat → Prop) (x : List UInt8) (e : Env) (w : World) (q : Ending) (w' : World) : Prop :=
  w' = w ∧ ((∃ y t e' r p, e.look x = .clo y t e' r ∧ q = .returned (.pointer (some p)) ∧ CAt w P t e' (.pointer (some p))) ∨ ((e.look x).noClo ∧ q = .returned (.pointer none)))

set_option maxRecDepth 100000 in
theorem value_var (x : List UInt8) (e : Env) (v : Value) (w : World) (P : Nat → Prop) (h : CAt w P (.var x) e v) (hl : e.names.length ≤ 10000) :
    Calls Tryz.prog 89 #[v] w (VlPost P x e w) := by
  obtain ⟨b, tb, ev, rfl, hb, ht, he⟩ := h
  have k0 := hb.cell 0
  have kl := hb.lt
  simp only [List.getElem?_toArray, List.getElem?_cons_zero] at k0
  cases hk : lk e.names x with
  | none =>
    simp only [toDB, hk] at ht
    obtain ⟨tb', e1, hP, hx, ht'⟩ := ht
    injection e1 with e1
    injection e1 with e1
    injection e1 with e1
    subst e1
    have t0 := ht'.cell 0
    have tl := ht'.lt
    simp only [List.getElem?_toArray, List.getElem?_cons_zero] at t0
    have HN : Hid ((e.look x).noClo) := Lib.hid (by rw [look_none x e hk]; trivial)
    clear hb ht' he hk
    go_enter Tryz.func89, Tryz.ntmps89
    go_wp2_with fail
    go_ret
    exact ⟨rfl, .inr ⟨HN.out, rfl⟩⟩
  | some d =>
    simp only [toDB, hk] at ht
    obtain ⟨h1, h2, h3⟩ := look_some x e d hk
    have HT := Lib.hid ht
    obtain ⟨tb', e1, hP, ht'⟩ := ht
    injection e1 with e1
    injection e1 with e1
    injection e1 with e1
    subst e1
    have t0 := ht'.cell 0
    have tl := ht'.lt
    simp only [List.getElem?_toArray, List.getElem?_cons_zero] at t0
    have HB := Lib.hid hb
    have HE := Lib.hid he
    have H1 := Lib.hid h1
    have H2 := Lib.hid h2
    clear hb ht' he hk h1 h2
    go_enter Tryz.func89, Tryz.ntmps89
    go_wp2_with fail
    refine (place_any e d b tb ev w P HB.out HT.out HE.out h3 (by omega)).mono ?_
    rintro q w1 ⟨⟨v1, rfl, hv⟩, rfl⟩
    rw [← H1.out] at hv
    have H2' := H2.out
    cases hc : e.look x with
    | nil => exact absurd hc H2'
    | clo y t e' r =>
      rw [hc] at hv
      obtain ⟨b1, cb, tb1, ev1, rv, rfl, hy, q1, q2, q3, q4, q5⟩ := hv
      have n1 := q1.cell 1
      have nl := q1.lt
      simp only [List.getElem?_toArray, List.getElem?_cons_zero, List.getElem?_cons_succ] at n1
      have HC : Hid (∃ y t e' r p, e.look x = .clo y t e' r ∧ (Ending.returned (.pointer (some ⟨cb, 0, none⟩)) = .returned (.pointer (some p))) ∧ CAt w1 P t e' (.pointer (some p))) := Lib.hid ⟨y, t, e', r, _, hc, rfl, ⟨cb, tb1, ev1, rfl, q2, q3, q4⟩⟩
      clear q1 q2 q3 q4 q5 hc H2'
      go_wp2_with fail
      go_ret
      exact ⟨rfl, .inl HC.out⟩
    | opn y k r =>
      rw [hc] at hv
      obtain ⟨b1, rv, rfl, hy, q1, q2⟩ := hv
      have n1 := q1.cell 1
      have nl := q1.lt
      simp only [List.getElem?_toArray, List.getElem?_cons_zero, List.getElem?_cons_succ] at n1
      have HN : Hid ((e.look x).noClo) := Lib.hid (by rw [hc]; trivial)
      clear q1 q2 hc H2'
      go_wp2_with fail
      go_ret
      exact ⟨rfl, .inr ⟨HN.out, rfl⟩⟩

set_option maxRecDepth 100000 in
theorem name_any (x : List UInt8) (e : Env) (v : Value) (w : World) (P : Nat → Prop) (h : CAt w P (.var x) e v) (hl : e.names.length ≤ 10000) :
    Calls Tryz.prog 71 #[v] w fun q w' => q = .returned (.string ⟨x.toArray⟩) ∧ w' = w := by
  obtain ⟨b, tb, ev, rfl, hb, ht, he⟩ := h
  have k0 := hb.cell 0
  have kl := hb.lt
  simp only [List.getElem?_toArray, List.getElem?_cons_zero] at k0
  cases hk : lk e.names x with
  | none =>
    simp only [toDB, hk] at ht
    obtain ⟨tb', e1, hP, hx, ht'⟩ := ht
    injection e1 with e1
    injection e1 with e1
    injection e1 with e1
    subst e1
    have t0 := ht'.cell 0
    have t1 := ht'.cell 1
    have tl := ht'.lt
    simp only [List.getElem?_toArray, List.getElem?_cons_zero, List.getElem?_cons_succ] at t0 t1
    clear hb ht' he hk
    go_enter Tryz.func71, Tryz.ntmps71
    go_wp2_with fail
    go_ret
    exact ⟨rfl, rfl⟩
  | some d =>
    simp only [toDB, hk] at ht
    obtain ⟨h1, h2, h3⟩ := look_some x e d hk
    have HT := Lib.hid ht
    obtain ⟨tb', e1, hP, ht'⟩ := ht
    injection e1 with e1
    injection e1 with e1
    injection e1 with e1
    subst e1
    have t0 := ht'.cell 0
    have tl := ht'.lt
    simp only [List.getElem?_toArray, List.getElem?_cons_zero] at t0
    have HB := Lib.hid hb
    have HE := Lib.hid he
    have H1 := Lib.hid h1
    have H2 := Lib.hid h2
    clear hb ht' he hk h1 h2
    go_enter Tryz.func71, Tryz.ntmps71
    go_wp2_with fail
    refine (place_any e d b tb ev w P HB.out HT.out HE.out h3 (by omega)).mono ?_
    rintro q w1 ⟨⟨v1, rfl, hv⟩, rfl⟩
    rw [← H1.out] at hv
    have H2' := H2.out
    cases hc : e.look x with
    | nil => exact absurd hc H2'
    | clo y t e' r =>
      rw [hc] at hv
      obtain ⟨b1, cb, tb1, ev1, rv, rfl, hy, q1, q2, q3, q4, q5⟩ := hv
      have n0 := q1.cell 0
      have nl := q1.lt
      simp only [List.getElem?_toArray, List.getElem?_cons_zero, List.getElem?_cons_succ] at n0
      obtain rfl := look_clo e hc
      clear q1 q2 q3 q4 q5 hc H2'
      go_wp2_with fail
      go_ret
      exact ⟨rfl, rfl⟩
    | opn y k r =>
      rw [hc] at hv
      obtain ⟨b1, rv, rfl, hy, q1, q2⟩ := hv
      have n0 := q1.cell 0
      have nl := q1.lt
      simp only [List.getElem?_toArray, List.getElem?_cons_zero, List.getElem?_cons_succ] at n0
      obtain rfl := look_opn e hc
      clear q1 q2 hc H2'
      go_wp2_with fail
      go_ret
      exact ⟨rfl, rfl⟩

def WiPost (P : Nat → Prop) (x : List UInt8) (b : Tm) (e : Env) (cv : Value) (k : Nat) (w : World) (q : Ending) (w' : World) : Prop :=
  q = .returned (.pointer (some ⟨w.heap.size + 1, 0, none⟩)) ∧ Below w.heap.size w w' ∧ Stands w w' P ∧
  (∀ t' e', CAt w P t' e' cv → k = 0 → CAt w' P b (.clo x t' e' e) (.pointer (some ⟨w.heap.size + 1, 0, none⟩))) ∧ (cv = .pointer none → CAt w' P b (.opn x k e) (.pointer (some ⟨w.heap.size + 1, 0, none⟩)))

set_option maxRecDepth 100000 in
theorem within_any (x : List UInt8) (t : Tm) (e : Env) (v : Value) (cp : Option Addr) (k : Nat) (w : World) (P : Nat → Prop) (h : CAt w P (.lam x t) e v) (hP : ∀ b, P b → b < w.heap.size) :
    Calls Tryz.prog 87 #[v, .pointer cp, .int .i64 (k : Nat)] w (WiPost P x t e (.pointer cp) k w) := by
  obtain ⟨b, tb, ev, rfl, hb, ht, he⟩ := h
  obtain ⟨tb', tc, e1, hPb, hx, ht', hd⟩ := ht
  injection e1 with e1
  injection e1 with e1
  injection e1 with e1
  subst e1
  have k0 := hb.cell 0
  have k1 := hb.cell 1
  have kl := hb.lt
  have t1 := ht'.cell 1
  have t3 := ht'.cell 3
  have tl := ht'.lt
  simp only [List.getElem?_toArray, List.getElem?_cons_zero, List.getElem?_cons_succ] at k0 k1 t1 t3
  have HW : Hid (WiPost P x t e (.pointer cp) k w (.returned (.pointer (some ⟨w.heap.size + 1, 0, none⟩))) (((w.alloc (.cells #[.string ⟨x.toArray⟩, .pointer cp, .int .i64 k, ev] 148)).alloc (.cells #[.pointer (some ⟨tc, 0, none⟩), .pointer (some ⟨w.heap.size, 0, none⟩)] 145)).drew)) := Lib.hid (by
    have hS : Stands w (((w.alloc (.cells #[.string ⟨x.toArray⟩, .pointer cp, .int .i64 k, ev] 148)).alloc (.cells #[.pointer (some ⟨tc, 0, none⟩), .pointer (some ⟨w.heap.size, 0, none⟩)] 145)).drew) P :=
      (((Stands.refl w P).alloc hP _).alloc (fun b hb => by have := hP b hb; simp; omega) _).drew
    have n1 := ((Blk.new w 148 #[.string ⟨x.toArray⟩, .pointer cp, .int .i64 k, ev]).alloc (.cells #[.pointer (some ⟨tc, 0, none⟩), .pointer (some ⟨w.heap.size, 0, none⟩)] 145)).drew
    have n2 := (Blk.new (w.alloc (.cells #[.string ⟨x.toArray⟩, .pointer cp, .int .i64 k, ev] 148)) 145 #[.pointer (some ⟨tc, 0, none⟩), .pointer (some ⟨w.heap.size, 0, none⟩)]).drew
    rw [show (w.alloc (.cells #[.string ⟨x.toArray⟩, .pointer cp, .int .i64 k, ev] 148)).heap.size = w.heap.size + 1 from by simp] at n2
    refine ⟨rfl, (((Below.refl _ _).alloc (Nat.le_refl _) _).alloc (by simp) _).drew, hS, ?_, ?_⟩
    · intro t' e' hc hk
      subst hk
      obtain ⟨cb, ctb, cev, hcp, c1, c2, c3⟩ := hc
      injection hcp with hcp
      subst hcp
      refine ⟨_, tc, _, rfl, n2, DAt.mono (fun q hq => ⟨hq, hS.tm q hq⟩) hd, ⟨_, cb, ctb, cev, ev, rfl, hx, n1, hS.cl _ _ c1, DAt.mono (fun q hq => ⟨hq, hS.tm q hq⟩) c2, c3.stands hS, he.stands hS⟩⟩
    · intro hcp
      injection hcp with hcp
      subst hcp
      exact ⟨_, tc, _, rfl, n2, DAt.mono (fun q hq => ⟨hq, hS.tm q hq⟩) hd, ⟨_, ev, rfl, hx, n1, he.stands hS⟩⟩)
  obtain ⟨ep, rfl⟩ := he.pt
  clear hb ht' hd he hP
  go_enter Tryz.func87, Tryz.ntmps87
  go_wp2_with fail
  go_region
  all_goals
    go_wp2_with fail
    go_ret
    exact HW.out
end Go.Proofs.YtjcdclnaplojcaaGreatDoor

namespace Go.Proofs.YtjcdclnaplojcaaGreatDoor
set_option linter.unusedVariables false
set_option linter.unusedSimpArgs false
open Go.RowKit

/-- The stack of the program, its top first. -/
def SAt (w : World) (P : Nat → Prop) : List (Tm × Env) → List Value → Prop
  | [], l => l = []
  | (t, e) :: st, l => ∃ v r, l = v :: r ∧ CAt w P t e v ∧ SAt w P st r
theorem SAt.len {w : World} {P : Nat → Prop} : ∀ {st : List (Tm × Env)} {l : List Value}, SAt w P st l → l.length = st.length := by
  intro st
  induction st with
  | nil => intro l h; cases h; rfl
  | cons p st ih => intro l h; obtain ⟨v, r, rfl, _, h4⟩ := h; simp [ih h4]
theorem SAt.stands {w w' : World} {P : Nat → Prop} (h : Stands w w' P) : ∀ {st : List (Tm × Env)} {l : List Value}, SAt w P st l → SAt w' P st l := by
  intro st
  induction st with
  | nil => intro l q; exact q
  | cons p st ih => intro l q; obtain ⟨v, r, h1, h2, h4⟩ := q; exact ⟨v, r, h1, h2.stands h, ih h4⟩
theorem CAt.pt {w : World} {P : Nat → Prop} {t : Tm} {e : Env} {v : Value} (h : CAt w P t e v) : ∃ b, v = .pointer (some ⟨b, 0, none⟩) := by
  obtain ⟨b, tb, ev, rfl, _⟩ := h; exact ⟨b, rfl⟩

def fnV (f : Nat) (mb : Nat) : Value := .func (.func f) #[.pointer (some ⟨mb, 0, none⟩)] #[]
def mvVals (m : List Mv) : List Value := m.map fun k => .int .i64 (k.code : Nat)
/-- The program's machine in memory. -/
structure MI (w : World) (P : Nat → Prop) (lo mb : Nat) (S : St) (m : List Mv) (nb : Nat) (sv mv : Value) (vs : List Value) : Prop where
  box : Blk w mb 96 #[.pointer (some ⟨nb, 0, none⟩), sv, mv, .int .i64 (S.op : Nat), fnV 80 mb, fnV 81 mb, fnV 82 mb, fnV 83 mb]
  now : CAt w P S.t S.e (.pointer (some ⟨nb, 0, none⟩))
  stk : w.ownsRow lo 91 1 sv vs.length vs.reverse
  sat : SAt w P S.st vs
  made : w.ownsRow lo 135 1 mv m.length (mvVals m)
  lw : ∀ b, P b → b < lo
  bs : lo ≤ mb
/-- What a move of the program's machine comes to; the moves made are not told yet. -/
def MpPost (P : Nat → Prop) (lo mb : Nat) (S' : St) (m : List Mv) (mv : Value) (w : World) (q : Ending) (w' : World) : Prop :=
  q = .returned (.tuple #[]) ∧ (∃ nb sv vs, MI w' P lo mb S' m nb sv mv vs) ∧ Below lo w w'

theorem within_d (x : List UInt8) (t : Tm) (e : Env) (v : Value) (cp : Option Addr) (k : Nat) (w : World) (P : Nat → Prop) (h : CAt w P (.lam x t) e v) (hP : ∀ b, P b → b < w.heap.size) :
    Calls Tryz.prog 87 #[v, .pointer cp, .int .i64 (k : Nat)] w.drew (WiPost P x t e (.pointer cp) k w) :=
  (within_any x t e v cp k w.drew P (h.stands (Stands.refl w P).drew) hP).mono fun _ _ ⟨h1, h2, h3, h4, h5⟩ => ⟨h1, ⟨h2.os, h2.tape, h2.output, h2.size, h2.block⟩, ⟨h3.tm, h3.cl, h3.en⟩, fun t' e' hc hk => h4 t' e' (hc.stands (Stands.refl w P).drew) hk, h5⟩
theorem infoPtr1 : (Tryz.prog.info? 91).map (fun i => (i.zero, i.size, i.bytes)) = some (some (.pointer none), 1, 8) := by kernel_rfl

theorem own_more {w w' : World} {base e size n : Nat} {v : Value} {xs : List Value} (h : w.ownsRow base e size v n xs) (hb : Below w.heap.size w w') : w'.ownsRow base e size v n xs :=
  h.kept (grown_of_below hb none) (by cases hv : v.ownBlock with | none => exact .inl rfl | some k => exact .inr (by simp))
section
variable {w w2 : World} {P : Nat → Prop} {lo mb : Nat} {S : St} {m : List Mv} {nb : Nat} {sv mv : Value} {vs : List Value}
theorem MI.notP (h : MI w P lo mb S m nb sv mv vs) : ¬ P mb := fun hp => by have := h.lw mb hp; have := h.bs; omega
theorem MI.allP (h : MI w P lo mb S m nb sv mv vs) : ∀ b, P b → b < w.heap.size := fun b hp => by have := h.lw b hp; have := h.bs; have := h.box.lt; omega
theorem MI.more (h : MI w P lo mb S m nb sv mv vs) (hs : Stands w w2 P) (hb : Below w.heap.size w w2) : MI w2 P lo mb S m nb sv mv vs :=
  ⟨h.box.below hb h.box.lt, h.now.stands hs, own_more h.stk hb, h.sat.stands hs, own_more h.made hb, h.lw, h.bs⟩
end

set_option maxRecDepth 100000 in
set_option maxHeartbeats 4000000 in
theorem open_any (w : World) (P : Nat → Prop) (lo mb : Nat) (x : List UInt8) (b : Tm) (e : Env) (op : Nat) (m : List Mv) (nb : Nat) (sv mv : Value) (vs : List Value)
    (h : MI w P lo mb ⟨.lam x b, e, [], op⟩ m nb sv mv vs) (hop : op ≤ 10000) :
    Calls Tryz.prog 82 #[.pointer (some ⟨mb, 0, none⟩)] w (MpPost P lo mb ⟨b, .opn x op e, [], op + 1⟩ m mv w) := by
  have bl := h.box.lt
  have b0 := h.box.cell 0
  have b3 := h.box.cell 3
  have bf := h.box.frozen
  simp only [List.getElem?_toArray, List.getElem?_cons_zero, List.getElem?_cons_succ] at b0 b3
  have hbs := h.bs
  have H := Lib.hid h
  have HC := Lib.hid h.now
  have hPw : Hid (∀ b, P b → b < w.heap.size) := Lib.hid h.allP
  have HFIN : Hid (∀ w2, Below w.heap.size w w2 → Stands w w2 P → CAt w2 P b (.opn x op e) (.pointer (some ⟨w.heap.size + 1, 0, none⟩)) →
      MpPost P lo mb ⟨b, .opn x op e, [], op + 1⟩ m mv w (.returned (.tuple #[])) ((w2.setCell ⟨mb, 0, none⟩ (.pointer (some ⟨w.heap.size + 1, 0, none⟩))).setCell ⟨mb, 3, none⟩ (.int .i64 (↑op + 1)))) := Lib.hid (fun w2 hb hs hc => by
    have h2 := H.out.more hs hb
    have q1 := h2.box.set_ 0 (.pointer (some ⟨w.heap.size + 1, 0, none⟩))
    have q2 := q1.set_ 3 (.int .i64 (↑op + 1))
    have hS := ((Stands.refl w2 P).set_ h2.box h2.notP (by decide) (by decide) 0 (.pointer (some ⟨w.heap.size + 1, 0, none⟩))).set_ q1 h2.notP (by decide) (by decide) 3 (.int .i64 (↑op + 1))
    have k1 := ownsRow_set (ownsRow_set h2.stk h2.box (by decide) 0 (.pointer (some ⟨w.heap.size + 1, 0, none⟩))) q1 (by decide) 3 (.int .i64 (↑op + 1))
    have m1 := ownsRow_set (ownsRow_set h2.made h2.box (by decide) 0 (.pointer (some ⟨w.heap.size + 1, 0, none⟩))) q1 (by decide) 3 (.int .i64 (↑op + 1))
    exact ⟨rfl, ⟨w.heap.size + 1, sv, vs, ⟨by simpa using q2, hc.stands hS, k1, h2.sat.stands hS, m1, h2.lw, h2.bs⟩⟩, (((hb.mono (by omega)).setCell hbs _).setCell hbs _)⟩)
  clear h
  go_enter Tryz.func82, Tryz.ntmps82
  go_wp2_with fail
  go_region_with (go_at_call 87; refine (within_d x b e _ none op w P HC.out hPw.out).mono ?_; rintro q w2 ⟨rfl, hq1, hq2, hq3, hq4⟩; have HQ3 := Lib.hid hq3; have HQ4 := Lib.hid hq4; clear hq3 hq4; have g0 : w2.cell? ⟨mb, 0, none⟩ = some (.pointer (some ⟨nb, 0, none⟩)) := (hq1.cell (p := ⟨mb, 0, none⟩) bl).trans b0; have g3 : w2.cell? ⟨mb, 3, none⟩ = some (.int .i64 op) := (hq1.cell (p := ⟨mb, 3, none⟩) bl).trans b3; have gf := (H.out.box.below hq1 bl).frozen; have gl : mb < w2.heap.size := by have := hq1.size; omega)
  all_goals
    go_wp2_with fail
    go_end0
    exact HFIN.out w2 hq1 hq2 (by first | exact HQ4.out rfl | exact HQ4.out trivial)

set_option maxRecDepth 100000 in
set_option maxHeartbeats 4000000 in
theorem take_any (w : World) (P : Nat → Prop) (lo mb : Nat) (x : List UInt8) (b : Tm) (e : Env) (a : Tm) (ea : Env) (st : List (Tm × Env)) (op : Nat) (m : List Mv) (nb : Nat) (sv mv : Value) (vs : List Value)
    (h : MI w P lo mb ⟨.lam x b, e, (a, ea) :: st, op⟩ m nb sv mv vs) (hst : st.length ≤ 10000) :
    Calls Tryz.prog 81 #[.pointer (some ⟨mb, 0, none⟩)] w (MpPost P lo mb ⟨b, .clo x a ea e, st, op⟩ m mv w) := by
  obtain ⟨v, r, rfl, hv, hr⟩ := h.sat
  obtain ⟨vb, rfl⟩ := hv.pt
  obtain ⟨gs, cs, rfl, hgs0, hgs, hcs⟩ := own_pos h.stk (by simp)
  have bl := h.box.lt
  have b0 := h.box.cell 0
  have b1 := h.box.cell 1
  have bf := h.box.frozen
  simp only [List.getElem?_toArray, List.getElem?_cons_zero, List.getElem?_cons_succ, List.length_cons] at b0 b1 hcs
  have hrl := hr.len
  have hRL : r.length ≤ 10000 := by omega
  have k0 := own_cell h.stk (j := r.length) (u := .pointer (some ⟨vb, 0, none⟩)) (by rw [List.reverse_cons, List.getElem?_append_right (by simp)]; simp)
  have hbs := h.bs
  have H := Lib.hid h
  have HC := Lib.hid h.now
  have hPw : Hid (∀ b, P b → b < w.heap.size) := Lib.hid h.allP
  have HV := Lib.hid hv
  have HR := Lib.hid hr
  have hs0 : w.ownsRow lo 91 1 (.slice (some ⟨gs, 0, none⟩) r.length cs) r.length r.reverse := by
    have := h.stk
    rw [List.length_cons, List.reverse_cons] at this
    exact ownsRow_pop (by simp) this
  have HS0 := Lib.hid hs0
  have HT1 : Hid (Stands w (w.setCell ⟨mb, 1, none⟩ (.slice (some ⟨gs, 0, none⟩) r.length cs)) P) := Lib.hid ((Stands.refl w P).set_ h.box h.notP (by decide) (by decide) 1 _)
  have hz : (w.setCell ⟨mb, 1, none⟩ (.slice (some ⟨gs, 0, none⟩) r.length cs)).heap.size = w.heap.size := by simp [World.setCell]
  have HWC : Hid (Calls Tryz.prog 87 #[.pointer (some ⟨nb, 0, none⟩), .pointer (some ⟨vb, 0, none⟩), .int .i64 0] (w.setCell ⟨mb, 1, none⟩ (.slice (some ⟨gs, 0, none⟩) r.length cs)) (WiPost P x b e (.pointer (some ⟨vb, 0, none⟩)) 0 (w.setCell ⟨mb, 1, none⟩ (.slice (some ⟨gs, 0, none⟩) r.length cs)))) :=
    Lib.hid (within_any x b e _ _ 0 _ P (HC.out.stands HT1.out) (by rw [hz]; exact hPw.out))
  have HFIN : Hid (∀ w2, Below (w.setCell ⟨mb, 1, none⟩ (.slice (some ⟨gs, 0, none⟩) r.length cs)).heap.size (w.setCell ⟨mb, 1, none⟩ (.slice (some ⟨gs, 0, none⟩) r.length cs)) w2 → Stands (w.setCell ⟨mb, 1, none⟩ (.slice (some ⟨gs, 0, none⟩) r.length cs)) w2 P → ∀ nc, CAt w2 P b (.clo x a ea e) (.pointer (some ⟨nc, 0, none⟩)) →
      (w2.cell? ⟨mb, 0, none⟩ = some (.pointer (some ⟨nb, 0, none⟩)) ∧ (∀ i, w2.frozen? ⟨mb, i, none⟩ = false) ∧ mb < w2.heap.size) ∧ MpPost P lo mb ⟨b, .clo x a ea e, st, op⟩ m mv w (.returned (.tuple #[])) (w2.setCell ⟨mb, 0, none⟩ (.pointer (some ⟨nc, 0, none⟩)))) := Lib.hid (fun w2 hb hs nc hc => by
    have q1 := H.out.box.set_ 1 (.slice (some ⟨gs, 0, none⟩) r.length cs)
    have q2 := q1.below hb q1.lt
    have s2 := own_more (ownsRow_set HS0.out H.out.box (by decide) 1 (.slice (some ⟨gs, 0, none⟩) r.length cs)) hb
    have m2 := own_more (ownsRow_set H.out.made H.out.box (by decide) 1 (.slice (some ⟨gs, 0, none⟩) r.length cs)) hb
    have q3 := q2.set_ 0 (.pointer (some ⟨nc, 0, none⟩))
    have hS := (Stands.refl w2 P).set_ q2 H.out.notP (by decide) (by decide) 0 (.pointer (some ⟨nc, 0, none⟩))
    have c0 := q2.cell 0
    simp at c0
    have hB : Below lo w w2 := ((Below.refl lo w).setCell hbs _).trans (hb.mono (by rw [hz]; omega))
    exact ⟨⟨c0, q2.frozen, q2.lt⟩, rfl, ⟨nc, _, r, ⟨by simpa using q3, hc.stands hS, ownsRow_set s2 q2 (by decide) 0 _, ((HR.out.stands HT1.out).stands hs).stands hS, ownsRow_set m2 q2 (by decide) 0 _, H.out.lw, H.out.bs⟩⟩, hB.setCell hbs _⟩)
  have hc1 : (w.setCell ⟨mb, 1, none⟩ (.slice (some ⟨gs, 0, none⟩) r.length cs)).cell? ⟨mb, 0, none⟩ = some (.pointer (some ⟨nb, 0, none⟩)) := by
    have := (h.box.set_ 1 (.slice (some ⟨gs, 0, none⟩) r.length cs)).cell 0
    simpa using this
  clear h hv hr hs0 hrl
  go_enter Tryz.func81, Tryz.ntmps81
  go_wp2_with fail
  refine HWC.out.mono ?_
  rintro q w2 ⟨rfl, hq1, hq2, hq3, hq4⟩
  obtain ⟨⟨g0, gf, gl⟩, hfin⟩ := HFIN.out w2 hq1 hq2 _ (hq3 a ea (HV.out.stands HT1.out) rfl)
  rw [hz] at hfin
  have HF := Lib.hid hfin
  clear hq1 hq2 hq3 hq4 hfin
  go_wp2_with fail
  go_end0
  exact HF.out

set_option maxRecDepth 100000 in
theorem lookup_any (w : World) (P : Nat → Prop) (lo mb : Nat) (x : List UInt8) (e : Env) (y : List UInt8) (a : Tm) (ea r : Env) (st : List (Tm × Env)) (op : Nat) (m : List Mv) (nb : Nat) (sv mv : Value) (vs : List Value)
    (h : MI w P lo mb ⟨.var x, e, st, op⟩ m nb sv mv vs) (hlk : e.look x = .clo y a ea r) (hel : e.names.length ≤ 10000) :
    Calls Tryz.prog 83 #[.pointer (some ⟨mb, 0, none⟩)] w (MpPost P lo mb ⟨a, ea, st, op⟩ m mv w) := by
  have bl := h.box.lt
  have b0 := h.box.cell 0
  have bf := h.box.frozen
  simp only [List.getElem?_toArray, List.getElem?_cons_zero, List.getElem?_cons_succ, List.length_cons] at b0
  have hbs := h.bs
  have H := Lib.hid h
  have HC := Lib.hid h.now
  have HL := Lib.hid hlk
  have HFIN : Hid (∀ nc, CAt w P a ea (.pointer (some ⟨nc, 0, none⟩)) → MpPost P lo mb ⟨a, ea, st, op⟩ m mv w (.returned (.tuple #[])) (w.setCell ⟨mb, 0, none⟩ (.pointer (some ⟨nc, 0, none⟩)))) := Lib.hid (fun nc hc => by
    have q3 := H.out.box.set_ 0 (.pointer (some ⟨nc, 0, none⟩))
    have hS := (Stands.refl w P).set_ H.out.box H.out.notP (by decide) (by decide) 0 (.pointer (some ⟨nc, 0, none⟩))
    exact ⟨rfl, ⟨nc, _, vs, ⟨by simpa using q3, hc.stands hS, ownsRow_set H.out.stk H.out.box (by decide) 0 _, H.out.sat.stands hS, ownsRow_set H.out.made H.out.box (by decide) 0 _, H.out.lw, H.out.bs⟩⟩, (Below.refl lo w).setCell hbs _⟩)
  clear h hlk
  go_enter Tryz.func83, Tryz.ntmps83
  go_wp2_with fail
  refine (value_var x e _ w P HC.out hel).mono ?_
  rintro q w2 ⟨rfl, ⟨y', a', ea', r', p, h1, rfl, hc⟩ | ⟨h1, rfl⟩⟩
  · rw [HL.out] at h1
    injection h1 with h1 h2 h3 h4
    subst h2 h3
    obtain ⟨nc, hnc⟩ := hc.pt
    injection hnc with hnc
    injection hnc with hnc
    subst hnc
    have HF := Lib.hid (HFIN.out nc hc)
    clear hc h1 h4
    go_wp2_with fail
    go_end0
    exact HF.out
  · rw [HL.out] at h1
    exact absurd h1 (by simp [Env.noClo])
end Go.Proofs.YtjcdclnaplojcaaGreatDoor

namespace Go.Proofs.YtjcdclnaplojcaaGreatDoor
set_option linter.unusedVariables false
set_option linter.unusedSimpArgs false
open Go.RowKit

theorem below_drewNn {B : Nat} {a w : World} (h : Below B a w) (n : Nat) : Below B a (w.drewN n) := ⟨h.os, h.tape, h.output, h.size, h.block⟩

set_option maxRecDepth 100000 in
set_option maxHeartbeats 8000000 in
theorem push_any (w : World) (P : Nat → Prop) (lo mb : Nat) (f a : Tm) (e : Env) (st : List (Tm × Env)) (op : Nat) (m : List Mv) (nb : Nat) (sv mv : Value) (vs : List Value)
    (h : MI w P lo mb ⟨.app f a, e, st, op⟩ m nb sv mv vs) (hst : st.length ≤ 10000) :
    Calls Tryz.prog 80 #[.pointer (some ⟨mb, 0, none⟩)] w (MpPost P lo mb ⟨f, e, (a, e) :: st, op⟩ m mv w) := by
  obtain ⟨nb', tb, ev, e1, hnb, ht, he⟩ := h.now
  injection e1 with e1
  injection e1 with e1
  injection e1 with e1
  subst e1
  obtain ⟨tb', tc, td, e1, hPb, ht', hf, ha⟩ := ht
  injection e1 with e1
  injection e1 with e1
  injection e1 with e1
  subst e1
  obtain ⟨ep, rfl⟩ := he.pt
  obtain ⟨gs, cs, rfl⟩ := own_shape h.stk
  have bl := h.box.lt
  have nl := hnb.lt
  have tl := ht'.lt
  have b0 := h.box.cell 0
  have b1 := h.box.cell 1
  have bf := h.box.frozen
  have n0 := hnb.cell 0
  have n1 := hnb.cell 1
  have t3 := ht'.cell 3
  have t4 := ht'.cell 4
  simp only [List.getElem?_toArray, List.getElem?_cons_zero, List.getElem?_cons_succ] at b0 b1 n0 n1 t3 t4
  have hvl := h.sat.len
  have hVL : vs.length ≤ 10000 := by simp only at hvl; omega
  have hbs := h.bs
  have H := Lib.hid h
  have HNB := Lib.hid hnb
  have HT := Lib.hid ht'
  have HFF := Lib.hid hf
  have HAA := Lib.hid ha
  have HE := Lib.hid he
  obtain ⟨i0, hinf, hz0, hzs, hzb⟩ := info_parts infoPtr1
  clear h hnb ht' hf ha he hvl
  go_enter Tryz.func80, Tryz.ntmps80
  go_wp2_with fail
  go_quiet (fail)
  have H1 := H.out.more ((Stands.refl w P).drewN nq) (below_drewNn (Below.refl _ _) nq)
  have c0 : (w.drewN nq).cell? ⟨mb, 0, none⟩ = some (.pointer (some ⟨nb, 0, none⟩)) := b0
  have c1 : (w.drewN nq).cell? ⟨mb, 1, none⟩ = some (.slice gs vs.length cs) := b1
  have cf : ∀ i, (w.drewN nq).frozen? ⟨mb, i, none⟩ = false := bf
  have d3 : (w.drewN nq).cell? ⟨tb, 3, none⟩ = some (.pointer (some ⟨tc, 0, none⟩)) := t3
  have d4 : (w.drewN nq).cell? ⟨tb, 4, none⟩ = some (.pointer (some ⟨td, 0, none⟩)) := t4
  have HT1 : DAt (w.drewN nq) P (toDB e.names a) (.pointer (some ⟨td, 0, none⟩)) := HAA.out.drewN nq
  have HT2 : DAt (w.drewN nq) P (toDB e.names f) (.pointer (some ⟨tc, 0, none⟩)) := HFF.out.drewN nq
  have HTB : Blk (w.drewN nq) tb _ _ := HT.out
  have HE1 : EAt (w.drewN nq) P e (.pointer ep) := HE.out.stands ((Stands.refl w P).drewN nq)
  have hz0' : (w.drewN nq).heap.size = w.heap.size := rfl
  have HB0 : Below lo w (w.drewN nq) := below_drewNn (Below.refl _ _) nq
  generalize w.drewN nq = w0 at *
  clear b0 b1 bf n0 n1 t3 t4
  rw [← hz0'] at bl nl tl
  have HZ0 := Lib.hid hz0'
  clear hz0'
  have HH := Lib.hid H1
  have HTA := Lib.hid HT1
  have HTF := Lib.hid HT2
  have HTBB := Lib.hid HTB
  have HEE := Lib.hid HE1
  have HB := Lib.hid HB0
  clear H1 HT1 HT2 HTB HE1 HB0
  have hne1 : some mb ≠ (Value.slice gs vs.length cs).ownBlock := HH.out.box.apart (by decide) HH.out.stk
  have hne2 : mv.ownBlock = none ∨ mv.ownBlock ≠ (Value.slice gs vs.length cs).ownBlock := rows_apart HH.out.made HH.out.stk (by decide)
  have hne3 : some w0.heap.size ≠ (Value.slice gs vs.length cs).ownBlock := fun q => by have := (HH.out.stk.lt _ q.symm).2; omega
  have HF : Hid (∀ w2, (((w0.alloc (.cells #[.pointer (some ⟨td, 0, none⟩), .pointer ep] 145)).alloc (.cells #[.pointer (some ⟨w0.heap.size, 0, none⟩)] 91)).drew).grownBy w2 (Value.slice gs vs.length cs).ownBlock →
      (w2.cell? ⟨mb, 0, none⟩ = some (.pointer (some ⟨nb, 0, none⟩)) ∧ w2.cell? ⟨mb, 1, none⟩ = some (.slice gs vs.length cs) ∧ w2.cell? ⟨tb, 3, none⟩ = some (.pointer (some ⟨tc, 0, none⟩)) ∧ (∀ i, w2.frozen? ⟨mb, i, none⟩ = false) ∧ mb < w2.heap.size ∧ tb < w2.heap.size) ∧
      Blk w2 mb 96 #[.pointer (some ⟨nb, 0, none⟩), .slice gs vs.length cs, mv, .int .i64 (op : Nat), fnV 80 mb, fnV 81 mb, fnV 82 mb, fnV 83 mb] ∧
      Blk w2 w0.heap.size 145 #[.pointer (some ⟨td, 0, none⟩), .pointer ep] ∧ w2.ownsRow lo 135 1 mv m.length (mvVals m) ∧ Stands w0 w2 P ∧ Below lo w w2) := Lib.hid (fun w2 hg => by
    have hs := (((Stands.refl w0 P).alloc HH.out.allP (.cells #[.pointer (some ⟨td, 0, none⟩), .pointer ep] 145)).alloc (fun b hb => by have := HH.out.allP b hb; simp; omega) (.cells #[.pointer (some ⟨w0.heap.size, 0, none⟩)] 91)).drew
    have hk := ((HH.out.stk.alloc (.cells #[.pointer (some ⟨td, 0, none⟩), .pointer ep] 145)).alloc (.cells #[.pointer (some ⟨w0.heap.size, 0, none⟩)] 91)).drew
    have hs2 := hs.grown hk hg (fun b hb => ⟨by have := HH.out.allP b hb; simp; omega, HH.out.lw b hb⟩) (by decide) (by decide)
    have q := ((HH.out.box.alloc (.cells #[.pointer (some ⟨td, 0, none⟩), .pointer ep] 145)).alloc (.cells #[.pointer (some ⟨w0.heap.size, 0, none⟩)] 91)).drew.grown hg hne1
    have qc := ((Blk.new w0 145 #[.pointer (some ⟨td, 0, none⟩), .pointer ep]).alloc (.cells #[.pointer (some ⟨w0.heap.size, 0, none⟩)] 91)).drew.grown hg hne3
    have qm := ((HH.out.made.alloc (.cells #[.pointer (some ⟨td, 0, none⟩), .pointer ep] 145)).alloc (.cells #[.pointer (some ⟨w0.heap.size, 0, none⟩)] 91)).drew.kept hg hne2
    have qb : Below lo w w2 := (((HB.out.alloc (by omega) (.cells #[.pointer (some ⟨td, 0, none⟩), .pointer ep] 145)).alloc (by simp; omega) (.cells #[.pointer (some ⟨w0.heap.size, 0, none⟩)] 91)).drew).grown hg (by simp; omega) (fun k hk' => (HH.out.stk.lt k hk').1)
    have qt := DAt.mono (fun q hq => ⟨hq, hs2.tm q hq⟩) HTA.out
    have q3 : w2.cell? ⟨tb, 3, none⟩ = some (.pointer (some ⟨tc, 0, none⟩)) := by
      have := (show Blk w2 tb _ _ from (hs2.tm tb hPb).trans HTBB.out).cell 3
      simpa using this
    exact ⟨⟨q.cell 0, q.cell 1, q3, q.frozen, q.lt, by have := (show Blk w2 tb _ _ from (hs2.tm tb hPb).trans HTBB.out).lt; omega⟩, q, qc, qm, hs2, qb⟩)
  clear hne1 hne2 hne3
  have HFIN : Hid (∀ w2 g2 c2', w2.ownsRow lo 91 1 (.slice (some ⟨g2, 0, none⟩) (vs.length + 1) c2') (vs.length + 1) (vs.reverse ++ (#[.pointer (some ⟨w0.heap.size, 0, none⟩)] : Array Value).toList) → (((w0.alloc (.cells #[.pointer (some ⟨td, 0, none⟩), .pointer ep] 145)).alloc (.cells #[.pointer (some ⟨w0.heap.size, 0, none⟩)] 91)).drew).grownBy w2 (Value.slice gs vs.length cs).ownBlock →
      MpPost P lo mb ⟨f, e, (a, e) :: st, op⟩ m mv w (.returned (.tuple #[])) (((w2.setCell ⟨mb, 1, none⟩ (.slice (some ⟨g2, 0, none⟩) (vs.length + 1) c2')).setCell ⟨mb, 0, none⟩ (.pointer (some ⟨w2.heap.size, 0, none⟩))).alloc (.cells #[.pointer (some ⟨tc, 0, none⟩), .pointer ep] 145))) := Lib.hid (fun w2 g2 c2' ho hg => by
    obtain ⟨_, q, qc, qm, hs, qb⟩ := HF.out w2 hg
    have hsz : ((w2.setCell ⟨mb, 1, none⟩ (.slice (some ⟨g2, 0, none⟩) (vs.length + 1) c2')).setCell ⟨mb, 0, none⟩ (.pointer (some ⟨w2.heap.size, 0, none⟩))).heap.size = w2.heap.size := by simp [World.setCell]
    have hle : w0.heap.size ≤ w2.heap.size := by have := qc.lt; omega
    have q1 := q.set_ 1 (.slice (some ⟨g2, 0, none⟩) (vs.length + 1) c2')
    have q2 := q1.set_ 0 (.pointer (some ⟨w2.heap.size, 0, none⟩))
    have q3 := q2.alloc (.cells #[.pointer (some ⟨tc, 0, none⟩), .pointer ep] 145)
    have hS := (((Stands.refl w2 P).set_ q HH.out.notP (by decide) (by decide) 1 (.slice (some ⟨g2, 0, none⟩) (vs.length + 1) c2')).set_ q1 HH.out.notP (by decide) (by decide) 0 (.pointer (some ⟨w2.heap.size, 0, none⟩))).alloc (fun b hb => by rw [hsz]; have := HH.out.allP b hb; omega) (.cells #[.pointer (some ⟨tc, 0, none⟩), .pointer ep] 145)
    have n1 := Blk.new ((w2.setCell ⟨mb, 1, none⟩ (.slice (some ⟨g2, 0, none⟩) (vs.length + 1) c2')).setCell ⟨mb, 0, none⟩ (.pointer (some ⟨w2.heap.size, 0, none⟩))) 145 #[.pointer (some ⟨tc, 0, none⟩), .pointer ep]
    rw [hsz] at n1
    have k1 := (ownsRow_set (ownsRow_set ho q (by decide) 1 (.slice (some ⟨g2, 0, none⟩) (vs.length + 1) c2')) q1 (by decide) 0 (.pointer (some ⟨w2.heap.size, 0, none⟩))).alloc (.cells #[.pointer (some ⟨tc, 0, none⟩), .pointer ep] 145)
    have m1 := (ownsRow_set (ownsRow_set qm q (by decide) 1 (.slice (some ⟨g2, 0, none⟩) (vs.length + 1) c2')) q1 (by decide) 0 (.pointer (some ⟨w2.heap.size, 0, none⟩))).alloc (.cells #[.pointer (some ⟨tc, 0, none⟩), .pointer ep] 145)
    have hST := hs.trans hS
    refine ⟨rfl, ⟨w2.heap.size, .slice (some ⟨g2, 0, none⟩) (vs.length + 1) c2', .pointer (some ⟨w0.heap.size, 0, none⟩) :: vs, ⟨?_, ⟨_, tc, _, rfl, n1, DAt.mono (fun q hq => ⟨hq, hST.tm q hq⟩) HTF.out, HEE.out.stands hST⟩, ?_, ⟨_, vs, rfl, ⟨_, td, _, rfl, hS.cl _ _ qc, DAt.mono (fun q hq => ⟨hq, hST.tm q hq⟩) HTA.out, HEE.out.stands hST⟩, HH.out.sat.stands hST⟩, m1, HH.out.lw, HH.out.bs⟩⟩, ?_⟩
    · simpa using q3
    · simpa using k1
    · exact ((qb.setCell hbs _).setCell hbs _).alloc (by rw [hsz]; have := qb.size; omega) _)
  have HZ : Hid ((((w0.alloc (.cells #[.pointer (some ⟨td, 0, none⟩), .pointer ep] 145)).alloc (.cells #[.pointer (some ⟨w0.heap.size, 0, none⟩)] 91)).drew).heap.size = w0.heap.size + 2) := Lib.hid (by simp)
  have HN : Hid (∀ j u, (#[.pointer (some ⟨w0.heap.size, 0, none⟩)] : Array Value).toList[j]? = some u → (((w0.alloc (.cells #[.pointer (some ⟨td, 0, none⟩), .pointer ep] 145)).alloc (.cells #[.pointer (some ⟨w0.heap.size, 0, none⟩)] 91)).drew).cell? ((⟨w0.heap.size + 1, 0, none⟩ : Addr).add j) = some u) := Lib.hid (World.news_of_block (t := 91) (fr := (0, 0)) (by
    have h := heap_alloc_new (w0.alloc (.cells #[.pointer (some ⟨td, 0, none⟩), .pointer ep] 145)) (.cells #[.pointer (some ⟨w0.heap.size, 0, none⟩)] 91)
    rw [show (w0.alloc (.cells #[.pointer (some ⟨td, 0, none⟩), .pointer ep] 145)).heap.size = w0.heap.size + 1 from by simp] at h
    exact h))
  have HO : Hid (∀ u ∈ (#[.pointer (some ⟨w0.heap.size, 0, none⟩)] : Array Value).toList, u.oneCell' = true) := Lib.hid (by simp [Value.oneCell'])
  have HBS : Hid (lo ≤ (((w0.alloc (.cells #[.pointer (some ⟨td, 0, none⟩), .pointer ep] 145)).alloc (.cells #[.pointer (some ⟨w0.heap.size, 0, none⟩)] 91)).drew).heap.size) := Lib.hid (by simp; omega)
  have bl1 : mb < w0.heap.size + 1 := by omega
  have bl2 : mb < w0.heap.size + 2 := by omega
  have bl3 : mb < w0.heap.size + 1 + 1 := by omega
  have tl1 : tb < w0.heap.size + 1 := by omega
  have tl2 : tb < w0.heap.size + 2 := by omega
  go_wp2_with fail
  go_region_law ((refine step_append_lies _ (by rfl) _ _ _ (by rfl) lo 91 i0 (.pointer none) 1 8 Tryz.underlying92 hinf hz0 hzs hzb rfl (by omega) (.slice gs vs.length cs) vs.length vs.reverse (by rfl) ((HH.out.stk.alloc _).alloc _).drew ⟨w0.heap.size + 1, 0, none⟩ 1 1 (#[.pointer (some ⟨w0.heap.size, 0, none⟩)] : Array Value).toList (by rfl) (by rfl) HN.out HO.out (by omega) (by unfold maxLen; omega) (by omega) HBS.out (w0.heap.size + 2) HZ.out ?_; intro g2 c2' w2 hown1 hgrow hat2 hlt2; have hF := (HF.out _ hgrow).1; obtain ⟨f1, f2, f3, f4, f5, f6⟩ := hF))
  all_goals
    have hgr := Lib.hid hgrow
    have how := Lib.hid hown1
    clear hgrow hown1
    go_wp2_with fail
    go_end0
    exact HFIN.out _ _ _ how.out hgr.out
/-- The number of the next move; 4 is the end. -/
def nxC (S : St) : Nat := match mstep S with
  | some (k, _) => k.code
  | none => 4
set_option maxRecDepth 100000 in
theorem next_any (w : World) (P : Nat → Prop) (lo mb : Nat) (S : St) (m : List Mv) (nb : Nat) (sv mv : Value) (vs : List Value)
    (h : MI w P lo mb S m nb sv mv vs) (hst : S.st.length ≤ 10000) (hel : S.e.names.length ≤ 10000) :
    Calls Tryz.prog 84 #[.pointer (some ⟨mb, 0, none⟩)] w fun q w' => q = .returned (.int .i64 (nxC S : Nat)) ∧ w' = w := by
  have HC := Lib.hid h.now
  obtain ⟨nb', tb, ev, e1, hnb, ht, he⟩ := h.now
  injection e1 with e1
  injection e1 with e1
  injection e1 with e1
  subst e1
  obtain ⟨gs, cs, rfl⟩ := own_shape h.stk
  have bl := h.box.lt
  have nl := hnb.lt
  have b0 := h.box.cell 0
  have b1 := h.box.cell 1
  have n0 := hnb.cell 0
  simp only [List.getElem?_toArray, List.getElem?_cons_zero, List.getElem?_cons_succ] at b0 b1 n0
  have hvl := h.sat.len
  obtain ⟨t, e, st, op⟩ := S
  simp only at ht hvl hst hel HC
  have hVL : vs.length ≤ 10000 := by omega
  have HVL := Lib.hid hvl
  cases t with
  | app f a =>
    obtain ⟨tb', tc, td, e1, hPb, ht', hf, ha⟩ := ht
    injection e1 with e1
    injection e1 with e1
    injection e1 with e1
    subst e1
    have tl := ht'.lt
    have t0 := ht'.cell 0
    simp only [List.getElem?_toArray, List.getElem?_cons_zero] at t0
    have HN : Hid (nxC ⟨.app f a, e, st, op⟩ = 0) := Lib.hid rfl
    clear hnb ht' hf ha he hvl h
    go_enter Tryz.func84, Tryz.ntmps84
    go_wp2_with fail
    go_ret
    exact ⟨ret_int (by rw [HN.out]; rfl), rfl⟩
  | lam x b =>
    obtain ⟨tb', tc, e1, hPb, hx, ht', hd⟩ := ht
    injection e1 with e1
    injection e1 with e1
    injection e1 with e1
    subst e1
    have tl := ht'.lt
    have t0 := ht'.cell 0
    simp only [List.getElem?_toArray, List.getElem?_cons_zero] at t0
    cases st with
    | nil =>
      have hv0 : vs.length = 0 := by rw [hvl]; rfl
      rw [hv0] at b1
      have HN : Hid (nxC ⟨.lam x b, e, [], op⟩ = 2) := Lib.hid rfl
      clear hnb ht' hd he hvl h hv0 hVL
      go_enter Tryz.func84, Tryz.ntmps84
      go_wp2_with fail
      go_ret
      exact ⟨ret_int (by rw [HN.out]; rfl), rfl⟩
    | cons p st =>
      have hv0 : 0 < vs.length := by rw [hvl]; simp
      have HN : Hid (nxC ⟨.lam x b, e, p :: st, op⟩ = 1) := Lib.hid rfl
      clear hnb ht' hd he hvl h
      go_enter Tryz.func84, Tryz.ntmps84
      go_wp2_with fail
      go_ret
      exact ⟨ret_int (by rw [HN.out]; rfl), rfl⟩
  | var x =>
    have HVC := Lib.hid (value_var x e (.pointer (some ⟨nb, 0, none⟩)) w P HC.out hel)
    have htc : ∃ c : Int, w.cell? ⟨tb, 0, none⟩ = some (.int .i64 c) ∧ (c = 0 ∨ c = 1) ∧ tb < w.heap.size := by
      unfold toDB at ht
      split at ht
      · obtain ⟨tb', e1, hPb, ht'⟩ := ht
        injection e1 with e1
        injection e1 with e1
        injection e1 with e1
        subst e1
        have t0 := ht'.cell 0
        simp only [List.getElem?_toArray, List.getElem?_cons_zero] at t0
        exact ⟨1, t0, .inr rfl, ht'.lt⟩
      · obtain ⟨tb', e1, hPb, hx, ht'⟩ := ht
        injection e1 with e1
        injection e1 with e1
        injection e1 with e1
        subst e1
        have t0 := ht'.cell 0
        simp only [List.getElem?_toArray, List.getElem?_cons_zero] at t0
        exact ⟨0, t0, .inl rfl, ht'.lt⟩
    obtain ⟨c, t0, hc, tl⟩ := htc
    have hc2 : (c == 2) = false := by rcases hc with rfl | rfl <;> rfl
    have hc3 : (c == 3) = false := by rcases hc with rfl | rfl <;> rfl
    clear hnb ht he hvl h hc
    go_enter Tryz.func84, Tryz.ntmps84
    go_wp2_with fail
    refine HVC.out.mono ?_
    rintro q w2 ⟨rfl, ⟨y, a', ea', r', p, h1, rfl, hcc⟩ | ⟨h1, rfl⟩⟩
    · have HN : Hid (nxC ⟨.var x, e, st, op⟩ = 3) := Lib.hid (by simp only [nxC, mstep, h1, Mv.code])
      clear h1 hcc
      go_wp2_with fail
      go_ret
      exact ⟨ret_int (by rw [HN.out]; rfl), rfl⟩
    · have HN : Hid (nxC ⟨.var x, e, st, op⟩ = 4) := Lib.hid (by
        unfold nxC mstep
        simp only
        cases hq : e.look x with
        | clo y t e' r => rw [hq] at h1; exact absurd h1 (by simp [Env.noClo])
        | nil => rfl
        | opn y j r => rfl)
      clear h1
      go_wp2_with fail
      go_ret
      exact ⟨ret_int (by rw [HN.out]; rfl), rfl⟩
end Go.Proofs.YtjcdclnaplojcaaGreatDoor

namespace Go.Proofs.YtjcdclnaplojcaaGreatDoor
set_option linter.unusedVariables false
set_option linter.unusedSimpArgs false
open Go.RowKit

/-- No environment has more names than so many. -/
def Env.bd (n : Nat) : Env → Prop
  | .nil => True
  | .clo _ _ e r => r.names.length < n ∧ e.bd n ∧ r.bd n
  | .opn _ _ r => r.names.length < n ∧ r.bd n
theorem Env.bd_le {n k : Nat} (h : n ≤ k) : ∀ {e : Env}, e.bd n → e.bd k := by
  intro e
  induction e with
  | nil => intro _; trivial
  | clo x t e r ihe ihr => intro q; exact ⟨by have := q.1; omega, ihe q.2.1, ihr q.2.2⟩
  | opn x j r ih => intro q; exact ⟨by have := q.1; omega, ih q.2⟩
theorem Env.bd_len {n : Nat} {e : Env} (h : e.bd n) : e.names.length ≤ n := by
  cases e with
  | nil => simp [Env.names]
  | clo x t e r => have := h.1; simp [Env.names]; omega
  | opn x j r => have := h.1; simp [Env.names]; omega
theorem Env.bd_look {n : Nat} (x : List UInt8) : ∀ {e : Env}, e.bd n → (e.look x).bd n := by
  intro e
  induction e with
  | nil => intro _; trivial
  | clo y t e r ihe ihr => intro q; simp only [Env.look]; split; · exact q
                           · exact ihr q.2.2
  | opn y j r ih => intro q; simp only [Env.look]; split; · exact q
                    · exact ih q.2
structure StBd (n : Nat) (S : St) : Prop where
  e : S.e.bd n
  st : ∀ p, p ∈ S.st → p.2.bd n
theorem StBd.step {n : Nat} {S S' : St} {k : Mv} (h : StBd n S) (hs : mstep S = some (k, S')) : StBd (n + 1) S' := by
  have hl : ∀ {e : Env}, e.bd n → e.bd (n + 1) := fun q => Env.bd_le (by omega) q
  unfold mstep at hs
  split at hs
  · injection hs with hs; injection hs with ha hb; subst ha hb
    refine ⟨hl h.e, fun p hp => ?_⟩
    rcases List.mem_cons.1 hp with rfl | hp
    · exact hl h.e
    · exact hl (h.st p hp)
  · split at hs
    · rename_i hq
      injection hs with hs; injection hs with ha hb; subst ha hb
      have hst := h.st
      rw [hq] at hst
      exact ⟨⟨by have := Env.bd_len h.e; omega, hl (hst _ (List.mem_cons_self ..)), hl h.e⟩, fun p hp => hl (hst p (List.mem_cons_of_mem _ hp))⟩
    · rename_i hq
      injection hs with hs; injection hs with ha hb; subst ha hb
      exact ⟨⟨by have := Env.bd_len h.e; omega, hl h.e⟩, fun p hp => by cases hp⟩
  · rename_i x hx
    split at hs
    · rename_i y t e' r hq
      injection hs with hs; injection hs with ha hb; subst ha hb
      have := Env.bd_look x h.e
      rw [hq] at this
      exact ⟨hl this.2.1, fun p hp => hl (h.st p hp)⟩
    · cases hs

def Mv.fn : Mv → Nat
  | .p => 80
  | .t => 81
  | .o => 82
  | .l => 83
theorem mcMove_any (w : World) (P : Nat → Prop) (lo mb : Nat) (S S' : St) (k : Mv) (m : List Mv) (nb : Nat) (sv mv : Value) (vs : List Value) (h : MI w P lo mb S m nb sv mv vs) (hs : mstep S = some (k, S')) (hok : StOk S m) (hbd : StBd m.length S) (hm : m.length ≤ 4000) :
    Calls Tryz.prog k.fn #[.pointer (some ⟨mb, 0, none⟩)] w (MpPost P lo mb S' m mv w) := by
  have hsum := mvN_sum m
  have h1 := hok.op
  have h2 := hok.st
  have hel := Env.bd_len hbd.e
  obtain ⟨t, e, st, op⟩ := S
  simp only at h1 h2 hel
  unfold mstep at hs
  simp only at hs
  cases t with
  | app f a => injection hs with hs; injection hs with ha hb; subst ha hb; exact push_any w P lo mb f a e st op m nb sv mv vs h (by omega)
  | lam x b => cases st with
    | nil => injection hs with hs; injection hs with ha hb; subst ha hb; exact open_any w P lo mb x b e op m nb sv mv vs h (by omega)
    | cons p st => injection hs with hs; injection hs with ha hb; subst ha hb; exact take_any w P lo mb x b e p.1 p.2 st op m nb sv mv vs h (by simp only [List.length_cons] at h2; omega)
  | var x =>
    simp only at hs
    split at hs
    · rename_i y a' ea r hq
      injection hs with hs; injection hs with ha hb; subst ha hb
      exact lookup_any w P lo mb x e y a' ea r st op m nb sv mv vs h hq (by omega)
    · cases hs

theorem infoMv1 : (Tryz.prog.info? 135).map (fun i => (i.zero, i.size, i.bytes)) = some (some (.int .i64 0), 1, 8) := by kernel_rfl

/-- A move that was made is told. -/
theorem MI.told {w w2 : World} {P : Nat → Prop} {lo mb : Nat} {S : St} {m : List Mv} {nb : Nat} {sv mv : Value} {vs : List Value} (h : MI w P lo mb S m nb sv mv vs) (k : Mv) {o : Obj} {g c : Nat}
    (hown : w2.ownsRow lo 135 1 (.slice (some ⟨g, 0, none⟩) (m.length + 1) c) (m.length + 1) (mvVals m ++ [.int .i64 (k.code : Nat)])) (hg : (w.alloc o).grownBy w2 mv.ownBlock) :
    (w2.cell? ⟨mb, 2, none⟩ = some mv ∧ (∀ i, w2.frozen? ⟨mb, i, none⟩ = false) ∧ mb < w2.heap.size) ∧ MI (w2.setCell ⟨mb, 2, none⟩ (.slice (some ⟨g, 0, none⟩) (m.length + 1) c)) P lo mb S (m ++ [k]) nb sv (.slice (some ⟨g, 0, none⟩) (m.length + 1) c) vs ∧ Below lo w (w2.setCell ⟨mb, 2, none⟩ (.slice (some ⟨g, 0, none⟩) (m.length + 1) c)) := by
  have hbs := h.bs
  have hbl := h.box.lt
  have q := (h.box.alloc o).grown hg ((h.box.alloc o).apart (by decide) (h.made.alloc o))
  have hs := ((Stands.refl w P).alloc h.allP o).grown (h.made.alloc o) hg (fun b hb => ⟨by have := h.allP b hb; simp; omega, h.lw b hb⟩) (by decide) (by decide)
  have hk := (h.stk.alloc o).kept hg (rows_apart (h.stk.alloc o) (h.made.alloc o) (by decide))
  have q1 := q.set_ 2 (.slice (some ⟨g, 0, none⟩) (m.length + 1) c)
  have hS := hs.set_ q h.notP (by decide) (by decide) 2 (.slice (some ⟨g, 0, none⟩) (m.length + 1) c)
  have m1 := ownsRow_set hown q (by decide) 2 (.slice (some ⟨g, 0, none⟩) (m.length + 1) c)
  have k1 := ownsRow_set hk q (by decide) 2 (.slice (some ⟨g, 0, none⟩) (m.length + 1) c)
  have hb : Below lo w w2 := ((Below.refl lo w).alloc (by omega) o).grown hg (by simp; omega) (fun k hk' => (h.made.lt k hk').1)
  refine ⟨⟨q.cell 2, q.frozen, q.lt⟩, ⟨by simpa using q1, h.now.stands hS, k1, h.sat.stands hS, ?_, h.lw, h.bs⟩, hb.setCell hbs _⟩
  rw [List.length_append, List.length_singleton]
  have : mvVals (m ++ [k]) = mvVals m ++ [.int .i64 (k.code : Nat)] := by simp [mvVals]
  rw [this]
  exact m1

/-- What the program's run answers. -/
def RrPost (P : Nat → Prop) (lo mb : Nat) (R : Option (St × List Mv)) (w : World) (q : Ending) (w' : World) : Prop :=
  Below lo w w' ∧ ((∃ S m nb sv mv vs, R = some (S, m) ∧ q = .returned (.bool true) ∧ MI w' P lo mb S m nb sv mv vs ∧ StBd m.length S) ∨ (R = none ∧ q = .returned (.bool false)))

set_option maxRecDepth 100000 in
set_option maxHeartbeats 8000000 in
theorem run_any (w : World) (P : Nat → Prop) (lo mb : Nat) (S0 : St) (nb0 : Nat) (sv0 mv0 : Value) (vs0 : List Value) (h : MI w P lo mb S0 [] nb0 sv0 mv0 vs0) (hok0 : StOk S0 []) (hbd0 : StBd 0 S0) :
    Calls Tryz.prog 47 #[.pointer (some ⟨mb, 0, none⟩)] w (RrPost P lo mb (mrun 3000 S0 []) w) := by
  have H0 := Lib.hid h
  have HO0 := Lib.hid hok0
  have HB0 := Lib.hid hbd0
  obtain ⟨i0, hinf, hz0, hzs, hzb⟩ := info_parts infoMv1
  have hbs := h.bs
  have hN0 := next_any w P lo mb S0 [] nb0 sv0 mv0 vs0 h (by have : S0.st.length + 0 = 0 := hok0.st; omega) (by have := Env.bd_len hbd0.e; omega)
  have HN0 := Lib.hid hN0
  clear h hok0 hbd0 hN0
  go_enter Tryz.func47, Tryz.ntmps47
  go_wp2_with fail
  refine HN0.out.mono ?_
  rintro q w1 ⟨rfl, rfl⟩
  go_wp2_with fail
  go_loopg [3] 3001 (fun q v wr => ∃ S m nb sv mv vs, q = 3001 - m.length ∧ m.length ≤ 3000 ∧ v = .int .i64 (nxC S : Nat) ∧ Hid (MI wr P lo mb S m nb sv mv vs) ∧ Hid (StOk S m) ∧ Hid (StBd m.length S) ∧ Hid (Below lo w1 wr) ∧ Hid (mrun 3000 S0 [] = mrun (3000 - m.length) S m))
  case atStart => exact ⟨S0, [], nb0, sv0, mv0, vs0, rfl, by simp, rfl, H0, HO0, HB0, Lib.hid (Below.refl _ _), Lib.hid rfl⟩
  case round =>
    obtain ⟨S, m, nb, sv, mv, vs, hq, hml, rfl, HM, HOK, HBD, HB, HR⟩ := hrel
    have HQ := Lib.hid hq
    clear hq
    cases hst : mstep S with
    | none =>
      have hn4 : nxC S = 4 := by unfold nxC; rw [hst]
      have HRES : Hid (mrun 3000 S0 [] = some (S, m)) := Lib.hid (by rw [HR.out, mrun_end hst])
      rw [hn4]
      clear hn4 hst
      go_wp2_with fail
      go_ret
      exact ⟨HB.out, .inl ⟨S, m, nb, sv, mv, vs, HRES.out, rfl, HM.out, HBD.out⟩⟩
    | some kS =>
      obtain ⟨k, S'⟩ := kS
      have hnk : nxC S = k.code := by unfold nxC; rw [hst]
      have HST := Lib.hid hst
      have HNK := Lib.hid hnk
      clear hnk hst
      obtain ⟨gm, cm, hmv⟩ := own_shape HM.out.made
      subst hmv
      have b2 := HM.out.box.cell 2
      have bf := HM.out.box.frozen
      have bl := HM.out.box.lt
      have b4 := HM.out.box.cell 4
      have b5 := HM.out.box.cell 5
      have b6 := HM.out.box.cell 6
      have b7 := HM.out.box.cell 7
      simp only [List.getElem?_toArray, List.getElem?_cons_zero, List.getElem?_cons_succ, fnV] at b2 b4 b5 b6 b7
      by_cases hfull : m.length = 3000
      · have HRES : Hid (mrun 3000 S0 [] = none) := Lib.hid (by rw [HR.out, show 3000 - m.length = 0 from by omega, mrun_stop HST.out])
        rw [hfull] at b2
        have hf2 := Lib.hid hfull
        clear hfull hml
        cases k with
        | p =>
          rw [show nxC S = 0 from HNK.out]
          go_wp2_with fail
          go_ret
          exact ⟨HB.out, .inr ⟨HRES.out, rfl⟩⟩
        | t =>
          rw [show nxC S = 1 from HNK.out]
          go_wp2_with fail
          go_ret
          exact ⟨HB.out, .inr ⟨HRES.out, rfl⟩⟩
        | o =>
          rw [show nxC S = 2 from HNK.out]
          go_wp2_with fail
          go_ret
          exact ⟨HB.out, .inr ⟨HRES.out, rfl⟩⟩
        | l =>
          rw [show nxC S = 3 from HNK.out]
          go_wp2_with fail
          go_ret
          exact ⟨HB.out, .inr ⟨HRES.out, rfl⟩⟩
      · have hlt : m.length < 3000 := by omega
        have hne : ((m.length : Int) == 3000) = false := beq_eq_false_iff_ne.2 (by omega)
        have HMV := Lib.hid (mcMove_any wr P lo mb S S' k m nb sv _ vs HM.out HST.out HOK.out HBD.out (by omega))
        clear hfull hml
        have HN2 : Hid (∀ w2 nb sv mv vs, MI w2 P lo mb S' (m ++ [k]) nb sv mv vs → Calls Tryz.prog 84 #[.pointer (some ⟨mb, 0, none⟩)] w2 fun q w' => q = .returned (.int .i64 (nxC S' : Nat)) ∧ w' = w2) := Lib.hid (fun w2 nb sv mv vs h2 => by
          have o2 := HOK.out.step HST.out
          have d2 := HBD.out.step HST.out
          have s2 := mvN_sum (m ++ [k])
          have := o2.st
          simp only [List.length_append, List.length_singleton] at s2
          exact next_any w2 P lo mb S' _ nb sv mv vs h2 (by omega) (by have := Env.bd_len d2.e; omega))
        cases k with
        | p =>
          rw [show nxC S = 0 from HNK.out]
          go_wp2_with fail
          refine (show Calls Tryz.prog 80 #[.pointer (some ⟨mb, 0, none⟩)] wr _ from HMV.out).mono ?_
          rintro q w2 ⟨rfl, ⟨nb2, sv2, vs2, hm2⟩, hb2⟩
          have d2 := hm2.box.cell 2
          have df := hm2.box.frozen
          have dl := hm2.box.lt
          simp only [List.getElem?_toArray, List.getElem?_cons_zero, List.getElem?_cons_succ] at d2
          have hown2 := hm2.made
          have HM2 := Lib.hid hm2
          have HB2 := Lib.hid (HB.out.trans hb2)
          have hw2 := Lib.hid hown2
          clear hm2 hb2 hown2
          go_wp2_with (first
            | (at_builtin
               refine wpList_append_own_at _ rfl (.tmp 27) (.tmp 29) 93 rfl lo 135 i0 (.int .i64 0) 1 8 Tryz.underlying93 hinf hz0 hzs hzb rfl (by decide) (.slice gm m.length cm) m.length (mvVals m) rfl (hw2.out.alloc _) ⟨w2.heap.size, 0, none⟩ 1 1 [.int .i64 0] rfl rfl (cell_one_new _ _ _) ?_ ?_ ?_ ?_ ?_
               · intro u hu
                 simp at hu
                 subst hu
                 rfl
               · unfold maxLen; omega
               · omega
               · simp; omega
               intro v3 w3 hown3 hg3 hlt3 hat3
               obtain ⟨g3, c3, hv3, _, _, _⟩ := own_pos hown3 (by omega)
               subst hv3
               have htold := HM2.out.told .p hown3 hg3
               have e2 := htold.1.1
               have ef := htold.1.2.1
               have el := htold.1.2.2
               have HM3 := Lib.hid htold.2.1
               have HB3 := Lib.hid htold.2.2
               clear htold hown3 hg3 hlt3 hat3)
            | fail)
          refine (HN2.out _ _ _ _ _ HM3.out).mono ?_
          rintro q w4 ⟨rfl, rfl⟩
          go_wp2_with fail
          go_roundg (3001 - (m.length + 1))
          case rel =>
            refine ⟨S', m ++ [.p], nb2, sv2, _, vs2, by simp, by simp; omega, rfl, HM3, Lib.hid (HOK.out.step HST.out), Lib.hid ?_, Lib.hid (HB2.out.trans HB3.out), Lib.hid ?_⟩
            · rw [List.length_append, List.length_singleton]; exact HBD.out.step HST.out
            · rw [HR.out, List.length_append, List.length_singleton, show 3000 - m.length = (3000 - (m.length + 1)) + 1 from by omega, mrun_step HST.out]
          case measure => rw [HQ.out]; omega
        | t =>
          rw [show nxC S = 1 from HNK.out]
          go_wp2_with fail
          refine (show Calls Tryz.prog 81 #[.pointer (some ⟨mb, 0, none⟩)] wr _ from HMV.out).mono ?_
          rintro q w2 ⟨rfl, ⟨nb2, sv2, vs2, hm2⟩, hb2⟩
          have d2 := hm2.box.cell 2
          have df := hm2.box.frozen
          have dl := hm2.box.lt
          simp only [List.getElem?_toArray, List.getElem?_cons_zero, List.getElem?_cons_succ] at d2
          have hown2 := hm2.made
          have HM2 := Lib.hid hm2
          have HB2 := Lib.hid (HB.out.trans hb2)
          have hw2 := Lib.hid hown2
          clear hm2 hb2 hown2
          go_wp2_with (first
            | (at_builtin
               refine wpList_append_own_at _ rfl (.tmp 27) (.tmp 29) 93 rfl lo 135 i0 (.int .i64 0) 1 8 Tryz.underlying93 hinf hz0 hzs hzb rfl (by decide) (.slice gm m.length cm) m.length (mvVals m) rfl (hw2.out.alloc _) ⟨w2.heap.size, 0, none⟩ 1 1 [.int .i64 1] rfl rfl (cell_one_new _ _ _) ?_ ?_ ?_ ?_ ?_
               · intro u hu
                 simp at hu
                 subst hu
                 rfl
               · unfold maxLen; omega
               · omega
               · simp; omega
               intro v3 w3 hown3 hg3 hlt3 hat3
               obtain ⟨g3, c3, hv3, _, _, _⟩ := own_pos hown3 (by omega)
               subst hv3
               have htold := HM2.out.told .t hown3 hg3
               have e2 := htold.1.1
               have ef := htold.1.2.1
               have el := htold.1.2.2
               have HM3 := Lib.hid htold.2.1
               have HB3 := Lib.hid htold.2.2
               clear htold hown3 hg3 hlt3 hat3)
            | fail)
          refine (HN2.out _ _ _ _ _ HM3.out).mono ?_
          rintro q w4 ⟨rfl, rfl⟩
          go_wp2_with fail
          go_roundg (3001 - (m.length + 1))
          case rel =>
            refine ⟨S', m ++ [.t], nb2, sv2, _, vs2, by simp, by simp; omega, rfl, HM3, Lib.hid (HOK.out.step HST.out), Lib.hid ?_, Lib.hid (HB2.out.trans HB3.out), Lib.hid ?_⟩
            · rw [List.length_append, List.length_singleton]; exact HBD.out.step HST.out
            · rw [HR.out, List.length_append, List.length_singleton, show 3000 - m.length = (3000 - (m.length + 1)) + 1 from by omega, mrun_step HST.out]
          case measure => rw [HQ.out]; omega
        | o =>
          rw [show nxC S = 2 from HNK.out]
          go_wp2_with fail
          refine (show Calls Tryz.prog 82 #[.pointer (some ⟨mb, 0, none⟩)] wr _ from HMV.out).mono ?_
          rintro q w2 ⟨rfl, ⟨nb2, sv2, vs2, hm2⟩, hb2⟩
          have d2 := hm2.box.cell 2
          have df := hm2.box.frozen
          have dl := hm2.box.lt
          simp only [List.getElem?_toArray, List.getElem?_cons_zero, List.getElem?_cons_succ] at d2
          have hown2 := hm2.made
          have HM2 := Lib.hid hm2
          have HB2 := Lib.hid (HB.out.trans hb2)
          have hw2 := Lib.hid hown2
          clear hm2 hb2 hown2
          go_wp2_with (first
            | (at_builtin
               refine wpList_append_own_at _ rfl (.tmp 27) (.tmp 29) 93 rfl lo 135 i0 (.int .i64 0) 1 8 Tryz.underlying93 hinf hz0 hzs hzb rfl (by decide) (.slice gm m.length cm) m.length (mvVals m) rfl (hw2.out.alloc _) ⟨w2.heap.size, 0, none⟩ 1 1 [.int .i64 2] rfl rfl (cell_one_new _ _ _) ?_ ?_ ?_ ?_ ?_
               · intro u hu
                 simp at hu
                 subst hu
                 rfl
               · unfold maxLen; omega
               · omega
               · simp; omega
               intro v3 w3 hown3 hg3 hlt3 hat3
               obtain ⟨g3, c3, hv3, _, _, _⟩ := own_pos hown3 (by omega)
               subst hv3
               have htold := HM2.out.told .o hown3 hg3
               have e2 := htold.1.1
               have ef := htold.1.2.1
               have el := htold.1.2.2
               have HM3 := Lib.hid htold.2.1
               have HB3 := Lib.hid htold.2.2
               clear htold hown3 hg3 hlt3 hat3)
            | fail)
          refine (HN2.out _ _ _ _ _ HM3.out).mono ?_
          rintro q w4 ⟨rfl, rfl⟩
          go_wp2_with fail
          go_roundg (3001 - (m.length + 1))
          case rel =>
            refine ⟨S', m ++ [.o], nb2, sv2, _, vs2, by simp, by simp; omega, rfl, HM3, Lib.hid (HOK.out.step HST.out), Lib.hid ?_, Lib.hid (HB2.out.trans HB3.out), Lib.hid ?_⟩
            · rw [List.length_append, List.length_singleton]; exact HBD.out.step HST.out
            · rw [HR.out, List.length_append, List.length_singleton, show 3000 - m.length = (3000 - (m.length + 1)) + 1 from by omega, mrun_step HST.out]
          case measure => rw [HQ.out]; omega
        | l =>
          rw [show nxC S = 3 from HNK.out]
          go_wp2_with fail
          refine (show Calls Tryz.prog 83 #[.pointer (some ⟨mb, 0, none⟩)] wr _ from HMV.out).mono ?_
          rintro q w2 ⟨rfl, ⟨nb2, sv2, vs2, hm2⟩, hb2⟩
          have d2 := hm2.box.cell 2
          have df := hm2.box.frozen
          have dl := hm2.box.lt
          simp only [List.getElem?_toArray, List.getElem?_cons_zero, List.getElem?_cons_succ] at d2
          have hown2 := hm2.made
          have HM2 := Lib.hid hm2
          have HB2 := Lib.hid (HB.out.trans hb2)
          have hw2 := Lib.hid hown2
          clear hm2 hb2 hown2
          go_wp2_with (first
            | (at_builtin
               refine wpList_append_own_at _ rfl (.tmp 27) (.tmp 29) 93 rfl lo 135 i0 (.int .i64 0) 1 8 Tryz.underlying93 hinf hz0 hzs hzb rfl (by decide) (.slice gm m.length cm) m.length (mvVals m) rfl (hw2.out.alloc _) ⟨w2.heap.size, 0, none⟩ 1 1 [.int .i64 3] rfl rfl (cell_one_new _ _ _) ?_ ?_ ?_ ?_ ?_
               · intro u hu
                 simp at hu
                 subst hu
                 rfl
               · unfold maxLen; omega
               · omega
               · simp; omega
               intro v3 w3 hown3 hg3 hlt3 hat3
               obtain ⟨g3, c3, hv3, _, _, _⟩ := own_pos hown3 (by omega)
               subst hv3
               have htold := HM2.out.told .l hown3 hg3
               have e2 := htold.1.1
               have ef := htold.1.2.1
               have el := htold.1.2.2
               have HM3 := Lib.hid htold.2.1
               have HB3 := Lib.hid htold.2.2
               clear htold hown3 hg3 hlt3 hat3)
            | fail)
          refine (HN2.out _ _ _ _ _ HM3.out).mono ?_
          rintro q w4 ⟨rfl, rfl⟩
          go_wp2_with fail
          go_roundg (3001 - (m.length + 1))
          case rel =>
            refine ⟨S', m ++ [.l], nb2, sv2, _, vs2, by simp, by simp; omega, rfl, HM3, Lib.hid (HOK.out.step HST.out), Lib.hid ?_, Lib.hid (HB2.out.trans HB3.out), Lib.hid ?_⟩
            · rw [List.length_append, List.length_singleton]; exact HBD.out.step HST.out
            · rw [HR.out, List.length_append, List.length_singleton, show 3000 - m.length = (3000 - (m.length + 1)) + 1 from by omega, mrun_step HST.out]
          case measure => rw [HQ.out]; omega
end Go.Proofs.YtjcdclnaplojcaaGreatDoor

namespace Go.Proofs.YtjcdclnaplojcaaGreatDoor
set_option linter.unusedVariables false
set_option linter.unusedSimpArgs false
open Go.RowKit

set_option maxRecDepth 100000 in
set_option maxHeartbeats 4000000 in
theorem newMachine_any (t : Tm) (v : Value) (w : World) (P : Nat → Prop) (h : DAt w P (toDB [] t) v) (hP : ∀ b, P b → b < w.heap.size) :
    Calls Tryz.prog 46 #[v] w fun q w' => q = .returned (.pointer (some ⟨w.heap.size + 1, 0, none⟩)) ∧ MI w' P w.heap.size (w.heap.size + 1) ⟨t, .nil, [], 0⟩ [] w.heap.size (.slice none 0 0) (.slice none 0 0) [] ∧ Below w.heap.size w w' := by
  obtain ⟨tb, rfl, hPb⟩ := h.shape
  have hmf : ∀ (fn : Fn) (first cap : Array Value) (w : World), (Instr.makeFunc fn first cap).run Tryz.prog w = .ok (.func fn first cap) w := fun _ _ _ _ => rfl
  have HFIN : Hid (MI ((w.alloc (.cells #[.pointer (some ⟨tb, 0, none⟩), .pointer none] 145)).alloc (.cells #[.pointer (some ⟨w.heap.size, 0, none⟩), .slice none 0 0, .slice none 0 0, .int .i64 0, fnV 80 (w.heap.size + 1), fnV 81 (w.heap.size + 1), fnV 82 (w.heap.size + 1), fnV 83 (w.heap.size + 1)] 96)) P w.heap.size (w.heap.size + 1) ⟨t, .nil, [], 0⟩ [] w.heap.size (.slice none 0 0) (.slice none 0 0) [] ∧ Below w.heap.size w ((w.alloc (.cells #[.pointer (some ⟨tb, 0, none⟩), .pointer none] 145)).alloc (.cells #[.pointer (some ⟨w.heap.size, 0, none⟩), .slice none 0 0, .slice none 0 0, .int .i64 0, fnV 80 (w.heap.size + 1), fnV 81 (w.heap.size + 1), fnV 82 (w.heap.size + 1), fnV 83 (w.heap.size + 1)] 96))) := Lib.hid (by
    refine ⟨⟨?_, ⟨w.heap.size, tb, .pointer none, rfl, (Blk.new w _ _).alloc _, ?_, rfl⟩, World.ownsRow_nil _ _ _ _, rfl, World.ownsRow_nil _ _ _ _, hP, by omega⟩, ((Below.refl _ _).alloc (Nat.le_refl _) _).alloc (by simp) _⟩
    · have := Blk.new (w.alloc (.cells #[.pointer (some ⟨tb, 0, none⟩), .pointer none] 145)) 96 #[.pointer (some ⟨w.heap.size, 0, none⟩), .slice none 0 0, .slice none 0 0, .int .i64 0, fnV 80 (w.heap.size + 1), fnV 81 (w.heap.size + 1), fnV 82 (w.heap.size + 1), fnV 83 (w.heap.size + 1)]
      rw [show (w.alloc (.cells #[.pointer (some ⟨tb, 0, none⟩), .pointer none] 145)).heap.size = w.heap.size + 1 from by simp] at this
      exact this
    · exact DAt.mono (fun q hq => ⟨hq, by rw [Below.heap_alloc _ _ _ (by have := hP q hq; simp; omega), Below.heap_alloc _ _ _ (hP q hq)]⟩) h)
  unfold fnV at HFIN
  clear h hP
  go_enter Tryz.func46, Tryz.ntmps46
  go_wp2_with fail
  go_ret
  exact ⟨rfl, HFIN.out⟩

/-- What the program's run of a text answers. -/
def RxPost (s : List UInt8) (w : World) (q : Ending) (w' : World) : Prop :=
  Below w.heap.size w w' ∧
  ((∃ S m P lo mb nb sv mv vs, mcR s = some (S, m) ∧ q = .returned (.tuple #[.pointer (some ⟨mb, 0, none⟩), .bool true]) ∧ MI w' P lo mb S m nb sv mv vs ∧ StBd m.length S ∧ w.heap.size ≤ lo) ∨
   (mcR s = none ∧ ∃ p, q = .returned (.tuple #[.pointer p, .bool false])))

set_option maxRecDepth 100000 in
set_option maxHeartbeats 4000000 in
theorem runText_any (s : ByteArray) (w : World) (hm : s.size ≤ maxLen) :
    Calls Tryz.prog 23 #[.string s] w (RxPost s.data.toList w) := by
  go_enter Tryz.func23, Tryz.ntmps23
  go_wp2_with fail
  refine (readTerm_any s _ hm).mono ?_
  rintro e w1 ⟨hb1, ⟨t, v, hrd, rfl, htr⟩ | ⟨hrd, rfl⟩⟩
  · have HMC : Hid (mcR s.data.toList = mrun 3000 ⟨t, .nil, [], 0⟩ []) := Lib.hid (by simp only [mcR, hrd])
    have hz1 := hb1.size
    have HB1 := Lib.hid hb1
    have HN := Lib.hid (newMachine_any t v w1 _ htr (fun b hb => hb.2))
    obtain ⟨tb, rfl, _⟩ := htr.shape
    clear hrd htr hb1
    go_wp2_with fail
    refine HN.out.mono ?_
    rintro e w2 ⟨rfl, hmi, hb2⟩
    have HR := Lib.hid (run_any w2 _ w1.heap.size (w1.heap.size + 1) _ _ _ _ _ hmi (StOk.start t) ⟨trivial, fun p hp => by cases hp⟩)
    have HB2 := Lib.hid (HB1.out.trans (hb2.mono hz1))
    clear hmi hb2
    go_wp2_with fail
    refine HR.out.mono ?_
    rintro e w3 ⟨hb3, ⟨S, m, nb, sv, mv, vs, hres, rfl, hmi, hbd⟩ | ⟨hres, rfl⟩⟩
    · have HRES : Hid (mcR s.data.toList = some (S, m)) := Lib.hid (by rw [HMC.out, hres])
      have HM := Lib.hid hmi
      have HBD := Lib.hid hbd
      have HB3 := Lib.hid (HB2.out.trans (hb3.mono hz1))
      clear hres hmi hbd hb3
      go_wp2_with fail
      go_ret2
      exact ⟨HB3.out, .inl ⟨S, m, _, _, _, nb, sv, mv, vs, HRES.out, rfl, HM.out, HBD.out, hz1⟩⟩
    · have HRES : Hid (mcR s.data.toList = none) := Lib.hid (by rw [HMC.out, hres])
      have HB3 := Lib.hid (HB2.out.trans (hb3.mono hz1))
      clear hres hb3
      go_wp2_with fail
      go_ret2
      exact ⟨HB3.out, .inr ⟨HRES.out, _, rfl⟩⟩
  · have HRES : Hid (mcR s.data.toList = none) := Lib.hid (by simp only [mcR, hrd])
    have HB1 := Lib.hid hb1
    clear hrd hb1
    go_wp2_with fail
    go_ret2
    exact ⟨HB1.out, .inr ⟨HRES.out, _, rfl⟩⟩
end Go.Proofs.YtjcdclnaplojcaaGreatDoor

