/- The program's machine: its four moves, and which one is next. -/
import Derived.Test.YtljkmeloleeopaaYI
import Derived.Deep.RegionLaw
import Derived.Deep.AppendLies
import Derived.Deep.DrawnRows
import Derived.WalkSmall
namespace Go.Proofs.Ytljkmeloleeopaa
set_option linter.unusedVariables false
set_option linter.unusedSimpArgs false
open Go.RowKit

/-- The stack of the program, its top first. -/
def SAt (w : World) (P : Nat → Prop) : List (Tm × Env) → List Value → Prop
  | [], l => l = []
  | (t, e) :: st, l => ∃ v r, l = v :: r ∧ CAt w P t e v ∧ SAt w P st r
theorem SAt.len {w : World} {P : Nat → Prop} : ∀ {st : List (Tm × Env)} {l : List Value}, SAt w P st l → l.length = st.length := by
  intro st
  induction st with
  | nil => intro l h; cases h; rfl
  | cons p st ih => intro l h; obtain ⟨v, r, rfl, _, h4⟩ := h; simp [ih h4]
theorem SAt.stands {w w' : World} {P : Nat → Prop} (h : Stands w w' P) : ∀ {st : List (Tm × Env)} {l : List Value}, SAt w P st l → SAt w' P st l := by
  intro st
  induction st with
  | nil => intro l q; exact q
  | cons p st ih => intro l q; obtain ⟨v, r, h1, h2, h4⟩ := q; exact ⟨v, r, h1, h2.stands h, ih h4⟩
theorem CAt.pt {w : World} {P : Nat → Prop} {t : Tm} {e : Env} {v : Value} (h : CAt w P t e v) : ∃ b, v = .pointer (some ⟨b, 0, none⟩) := by
  obtain ⟨b, tb, ev, rfl, _⟩ := h; exact ⟨b, rfl⟩

def fnV (f : Nat) (mb : Nat) : Value := .func (.func f) #[.pointer (some ⟨mb, 0, none⟩)] #[]
def mvVals (m : List Mv) : List Value := m.map fun k => .int .i64 (k.code : Nat)
/-- The program's machine in memory. -/
structure MI (w : World) (P : Nat → Prop) (lo mb : Nat) (S : St) (m : List Mv) (nb : Nat) (sv mv : Value) (vs : List Value) : Prop where
  box : Blk w mb 59 #[.pointer (some ⟨nb, 0, none⟩), sv, mv, .int .i64 (S.op : Nat), fnV 42 mb, fnV 43 mb, fnV 44 mb, fnV 45 mb]
  now : CAt w P S.t S.e (.pointer (some ⟨nb, 0, none⟩))
  stk : w.ownsRow lo 54 1 sv vs.length vs.reverse
  sat : SAt w P S.st vs
  made : w.ownsRow lo 73 1 mv m.length (mvVals m)
  lw : ∀ b, P b → b < lo
  bs : lo ≤ mb
/-- What a move of the program's machine comes to; the moves made are not told yet. -/
def MpPost (P : Nat → Prop) (lo mb : Nat) (S' : St) (m : List Mv) (mv : Value) (w : World) (q : Ending) (w' : World) : Prop :=
  q = .returned (.tuple #[]) ∧ (∃ nb sv vs, MI w' P lo mb S' m nb sv mv vs) ∧ Below lo w w'

theorem within_d (x : List UInt8) (t : Tm) (e : Env) (v : Value) (cp : Option Addr) (k : Nat) (w : World) (P : Nat → Prop) (h : CAt w P (.lam x t) e v) (hP : ∀ b, P b → b < w.heap.size) :
    Calls Try.prog 62 #[v, .pointer cp, .int .i64 (k : Nat)] w.drew (WiPost P x t e (.pointer cp) k w) :=
  (within_any x t e v cp k w.drew P (h.stands (Stands.refl w P).drew) hP).mono fun _ _ ⟨h1, h2, h3, h4, h5⟩ => ⟨h1, ⟨h2.os, h2.tape, h2.output, h2.size, h2.block⟩, ⟨h3.tm, h3.cl, h3.en⟩, fun t' e' hc hk => h4 t' e' (hc.stands (Stands.refl w P).drew) hk, h5⟩
theorem infoPtr1 : (Try.prog.info? 54).map (fun i => (i.zero, i.size, i.bytes)) = some (some (.pointer none), 1, 8) := by kernel_rfl

theorem own_more {w w' : World} {base e size n : Nat} {v : Value} {xs : List Value} (h : w.ownsRow base e size v n xs) (hb : Below w.heap.size w w') : w'.ownsRow base e size v n xs :=
  h.kept (grown_of_below hb none) (by cases hv : v.ownBlock with | none => exact .inl rfl | some k => exact .inr (by simp))
section
variable {w w2 : World} {P : Nat → Prop} {lo mb : Nat} {S : St} {m : List Mv} {nb : Nat} {sv mv : Value} {vs : List Value}
theorem MI.notP (h : MI w P lo mb S m nb sv mv vs) : ¬ P mb := fun hp => by have := h.lw mb hp; have := h.bs; omega
theorem MI.allP (h : MI w P lo mb S m nb sv mv vs) : ∀ b, P b → b < w.heap.size := fun b hp => by have := h.lw b hp; have := h.bs; have := h.box.lt; omega
theorem MI.more (h : MI w P lo mb S m nb sv mv vs) (hs : Stands w w2 P) (hb : Below w.heap.size w w2) : MI w2 P lo mb S m nb sv mv vs :=
  ⟨h.box.below hb h.box.lt, h.now.stands hs, own_more h.stk hb, h.sat.stands hs, own_more h.made hb, h.lw, h.bs⟩
end

set_option maxRecDepth 100000 in
set_option maxHeartbeats 4000000 in
theorem open_any (w : World) (P : Nat → Prop) (lo mb : Nat) (x : List UInt8) (b : Tm) (e : Env) (op : Nat) (m : List Mv) (nb : Nat) (sv mv : Value) (vs : List Value)
    (h : MI w P lo mb ⟨.lam x b, e, [], op⟩ m nb sv mv vs) (hop : op ≤ 10000) :
    Calls Try.prog 44 #[.pointer (some ⟨mb, 0, none⟩)] w (MpPost P lo mb ⟨b, .opn x op e, [], op + 1⟩ m mv w) := by
  have bl := h.box.lt
  have b0 := h.box.cell 0
  have b3 := h.box.cell 3
  have bf := h.box.frozen
  simp only [List.getElem?_toArray, List.getElem?_cons_zero, List.getElem?_cons_succ] at b0 b3
  have hbs := h.bs
  have H := Lib.hid h
  have HC := Lib.hid h.now
  have hPw : Hid (∀ b, P b → b < w.heap.size) := Lib.hid h.allP
  have HFIN : Hid (∀ w2, Below w.heap.size w w2 → Stands w w2 P → CAt w2 P b (.opn x op e) (.pointer (some ⟨w.heap.size + 1, 0, none⟩)) →
      MpPost P lo mb ⟨b, .opn x op e, [], op + 1⟩ m mv w (.returned (.tuple #[])) ((w2.setCell ⟨mb, 0, none⟩ (.pointer (some ⟨w.heap.size + 1, 0, none⟩))).setCell ⟨mb, 3, none⟩ (.int .i64 (↑op + 1)))) := Lib.hid (fun w2 hb hs hc => by
    have h2 := H.out.more hs hb
    have q1 := h2.box.set_ 0 (.pointer (some ⟨w.heap.size + 1, 0, none⟩))
    have q2 := q1.set_ 3 (.int .i64 (↑op + 1))
    have hS := ((Stands.refl w2 P).set_ h2.box h2.notP (by decide) (by decide) 0 (.pointer (some ⟨w.heap.size + 1, 0, none⟩))).set_ q1 h2.notP (by decide) (by decide) 3 (.int .i64 (↑op + 1))
    have k1 := ownsRow_set (ownsRow_set h2.stk h2.box (by decide) 0 (.pointer (some ⟨w.heap.size + 1, 0, none⟩))) q1 (by decide) 3 (.int .i64 (↑op + 1))
    have m1 := ownsRow_set (ownsRow_set h2.made h2.box (by decide) 0 (.pointer (some ⟨w.heap.size + 1, 0, none⟩))) q1 (by decide) 3 (.int .i64 (↑op + 1))
    exact ⟨rfl, ⟨w.heap.size + 1, sv, vs, ⟨by simpa using q2, hc.stands hS, k1, h2.sat.stands hS, m1, h2.lw, h2.bs⟩⟩, (((hb.mono (by omega)).setCell hbs _).setCell hbs _)⟩)
  clear h
  go_enter Try.func44, Try.ntmps44
  go_wp2_with fail
  go_region_with (go_at_call 62; refine (within_d x b e _ none op w P HC.out hPw.out).mono ?_; rintro q w2 ⟨rfl, hq1, hq2, hq3, hq4⟩; have HQ3 := Lib.hid hq3; have HQ4 := Lib.hid hq4; clear hq3 hq4; have g0 : w2.cell? ⟨mb, 0, none⟩ = some (.pointer (some ⟨nb, 0, none⟩)) := (hq1.cell (p := ⟨mb, 0, none⟩) bl).trans b0; have g3 : w2.cell? ⟨mb, 3, none⟩ = some (.int .i64 op) := (hq1.cell (p := ⟨mb, 3, none⟩) bl).trans b3; have gf := (H.out.box.below hq1 bl).frozen; have gl : mb < w2.heap.size := by have := hq1.size; omega)
  all_goals
    go_wp2_with fail
    go_end0
    exact HFIN.out w2 hq1 hq2 (by first | exact HQ4.out rfl | exact HQ4.out trivial)

set_option maxRecDepth 100000 in
set_option maxHeartbeats 4000000 in
theorem take_any (w : World) (P : Nat → Prop) (lo mb : Nat) (x : List UInt8) (b : Tm) (e : Env) (a : Tm) (ea : Env) (st : List (Tm × Env)) (op : Nat) (m : List Mv) (nb : Nat) (sv mv : Value) (vs : List Value)
    (h : MI w P lo mb ⟨.lam x b, e, (a, ea) :: st, op⟩ m nb sv mv vs) (hst : st.length ≤ 10000) :
    Calls Try.prog 43 #[.pointer (some ⟨mb, 0, none⟩)] w (MpPost P lo mb ⟨b, .clo x a ea e, st, op⟩ m mv w) := by
  obtain ⟨v, r, rfl, hv, hr⟩ := h.sat
  obtain ⟨vb, rfl⟩ := hv.pt
  obtain ⟨gs, cs, rfl, hgs0, hgs, hcs⟩ := own_pos h.stk (by simp)
  have bl := h.box.lt
  have b0 := h.box.cell 0
  have b1 := h.box.cell 1
  have bf := h.box.frozen
  simp only [List.getElem?_toArray, List.getElem?_cons_zero, List.getElem?_cons_succ, List.length_cons] at b0 b1 hcs
  have hrl := hr.len
  have hRL : r.length ≤ 10000 := by omega
  have k0 := own_cell h.stk (j := r.length) (u := .pointer (some ⟨vb, 0, none⟩)) (by rw [List.reverse_cons, List.getElem?_append_right (by simp)]; simp)
  have hbs := h.bs
  have H := Lib.hid h
  have HC := Lib.hid h.now
  have hPw : Hid (∀ b, P b → b < w.heap.size) := Lib.hid h.allP
  have HV := Lib.hid hv
  have HR := Lib.hid hr
  have hs0 : w.ownsRow lo 54 1 (.slice (some ⟨gs, 0, none⟩) r.length cs) r.length r.reverse := by
    have := h.stk
    rw [List.length_cons, List.reverse_cons] at this
    exact ownsRow_pop (by simp) this
  have HS0 := Lib.hid hs0
  have HT1 : Hid (Stands w (w.setCell ⟨mb, 1, none⟩ (.slice (some ⟨gs, 0, none⟩) r.length cs)) P) := Lib.hid ((Stands.refl w P).set_ h.box h.notP (by decide) (by decide) 1 _)
  have hz : (w.setCell ⟨mb, 1, none⟩ (.slice (some ⟨gs, 0, none⟩) r.length cs)).heap.size = w.heap.size := by simp [World.setCell]
  have HWC : Hid (Calls Try.prog 62 #[.pointer (some ⟨nb, 0, none⟩), .pointer (some ⟨vb, 0, none⟩), .int .i64 0] (w.setCell ⟨mb, 1, none⟩ (.slice (some ⟨gs, 0, none⟩) r.length cs)) (WiPost P x b e (.pointer (some ⟨vb, 0, none⟩)) 0 (w.setCell ⟨mb, 1, none⟩ (.slice (some ⟨gs, 0, none⟩) r.length cs)))) :=
    Lib.hid (within_any x b e _ _ 0 _ P (HC.out.stands HT1.out) (by rw [hz]; exact hPw.out))
  have HFIN : Hid (∀ w2, Below (w.setCell ⟨mb, 1, none⟩ (.slice (some ⟨gs, 0, none⟩) r.length cs)).heap.size (w.setCell ⟨mb, 1, none⟩ (.slice (some ⟨gs, 0, none⟩) r.length cs)) w2 → Stands (w.setCell ⟨mb, 1, none⟩ (.slice (some ⟨gs, 0, none⟩) r.length cs)) w2 P → ∀ nc, CAt w2 P b (.clo x a ea e) (.pointer (some ⟨nc, 0, none⟩)) →
      (w2.cell? ⟨mb, 0, none⟩ = some (.pointer (some ⟨nb, 0, none⟩)) ∧ (∀ i, w2.frozen? ⟨mb, i, none⟩ = false) ∧ mb < w2.heap.size) ∧ MpPost P lo mb ⟨b, .clo x a ea e, st, op⟩ m mv w (.returned (.tuple #[])) (w2.setCell ⟨mb, 0, none⟩ (.pointer (some ⟨nc, 0, none⟩)))) := Lib.hid (fun w2 hb hs nc hc => by
    have q1 := H.out.box.set_ 1 (.slice (some ⟨gs, 0, none⟩) r.length cs)
    have q2 := q1.below hb q1.lt
    have s2 := own_more (ownsRow_set HS0.out H.out.box (by decide) 1 (.slice (some ⟨gs, 0, none⟩) r.length cs)) hb
    have m2 := own_more (ownsRow_set H.out.made H.out.box (by decide) 1 (.slice (some ⟨gs, 0, none⟩) r.length cs)) hb
    have q3 := q2.set_ 0 (.pointer (some ⟨nc, 0, none⟩))
    have hS := (Stands.refl w2 P).set_ q2 H.out.notP (by decide) (by decide) 0 (.pointer (some ⟨nc, 0, none⟩))
    have c0 := q2.cell 0
    simp at c0
    have hB : Below lo w w2 := ((Below.refl lo w).setCell hbs _).trans (hb.mono (by rw [hz]; omega))
    exact ⟨⟨c0, q2.frozen, q2.lt⟩, rfl, ⟨nc, _, r, ⟨by simpa using q3, hc.stands hS, ownsRow_set s2 q2 (by decide) 0 _, ((HR.out.stands HT1.out).stands hs).stands hS, ownsRow_set m2 q2 (by decide) 0 _, H.out.lw, H.out.bs⟩⟩, hB.setCell hbs _⟩)
  have hc1 : (w.setCell ⟨mb, 1, none⟩ (.slice (some ⟨gs, 0, none⟩) r.length cs)).cell? ⟨mb, 0, none⟩ = some (.pointer (some ⟨nb, 0, none⟩)) := by
    have := (h.box.set_ 1 (.slice (some ⟨gs, 0, none⟩) r.length cs)).cell 0
    simpa using this
  clear h hv hr hs0 hrl
  go_enter Try.func43, Try.ntmps43
  go_wp2_with fail
  refine HWC.out.mono ?_
  rintro q w2 ⟨rfl, hq1, hq2, hq3, hq4⟩
  obtain ⟨⟨g0, gf, gl⟩, hfin⟩ := HFIN.out w2 hq1 hq2 _ (hq3 a ea (HV.out.stands HT1.out) rfl)
  rw [hz] at hfin
  have HF := Lib.hid hfin
  clear hq1 hq2 hq3 hq4 hfin
  go_wp2_with fail
  go_end0
  exact HF.out

set_option maxRecDepth 100000 in
theorem lookup_any (w : World) (P : Nat → Prop) (lo mb : Nat) (x : List UInt8) (e : Env) (y : List UInt8) (a : Tm) (ea r : Env) (st : List (Tm × Env)) (op : Nat) (m : List Mv) (nb : Nat) (sv mv : Value) (vs : List Value)
    (h : MI w P lo mb ⟨.var x, e, st, op⟩ m nb sv mv vs) (hlk : e.look x = .clo y a ea r) (hel : e.names.length ≤ 10000) :
    Calls Try.prog 45 #[.pointer (some ⟨mb, 0, none⟩)] w (MpPost P lo mb ⟨a, ea, st, op⟩ m mv w) := by
  have bl := h.box.lt
  have b0 := h.box.cell 0
  have bf := h.box.frozen
  simp only [List.getElem?_toArray, List.getElem?_cons_zero, List.getElem?_cons_succ, List.length_cons] at b0
  have hbs := h.bs
  have H := Lib.hid h
  have HC := Lib.hid h.now
  have HL := Lib.hid hlk
  have HFIN : Hid (∀ nc, CAt w P a ea (.pointer (some ⟨nc, 0, none⟩)) → MpPost P lo mb ⟨a, ea, st, op⟩ m mv w (.returned (.tuple #[])) (w.setCell ⟨mb, 0, none⟩ (.pointer (some ⟨nc, 0, none⟩)))) := Lib.hid (fun nc hc => by
    have q3 := H.out.box.set_ 0 (.pointer (some ⟨nc, 0, none⟩))
    have hS := (Stands.refl w P).set_ H.out.box H.out.notP (by decide) (by decide) 0 (.pointer (some ⟨nc, 0, none⟩))
    exact ⟨rfl, ⟨nc, _, vs, ⟨by simpa using q3, hc.stands hS, ownsRow_set H.out.stk H.out.box (by decide) 0 _, H.out.sat.stands hS, ownsRow_set H.out.made H.out.box (by decide) 0 _, H.out.lw, H.out.bs⟩⟩, (Below.refl lo w).setCell hbs _⟩)
  clear h hlk
  go_enter Try.func45, Try.ntmps45
  go_wp2_with fail
  refine (value_var x e _ w P HC.out hel).mono ?_
  rintro q w2 ⟨rfl, ⟨y', a', ea', r', p, h1, rfl, hc⟩ | ⟨h1, rfl⟩⟩
  · rw [HL.out] at h1
    injection h1 with h1 h2 h3 h4
    subst h2 h3
    obtain ⟨nc, hnc⟩ := hc.pt
    injection hnc with hnc
    injection hnc with hnc
    subst hnc
    have HF := Lib.hid (HFIN.out nc hc)
    clear hc h1 h4
    go_wp2_with fail
    go_end0
    exact HF.out
  · rw [HL.out] at h1
    exact absurd h1 (by simp [Env.noClo])
end Go.Proofs.Ytljkmeloleeopaa
