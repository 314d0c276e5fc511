/- The model puts a term for a name. -/
import Derived.Test.YtkomchdmcbdahaaDoorAP
import Derived.Test.YtkomchdmcbdahaaDoorPT
namespace Go.Proofs.YtkomchdmcbdahaaDoor
set_option linter.unusedVariables false
open Go.RowKit

def PsPost (P : Nat → Prop) (r : Tr) (w : World) (e : Ending) (w' : World) : Prop :=
  ∃ (a : List UInt8) (A : Option Addr) (m c : Nat), e = .returned (.agg #[.string ⟨a.toArray⟩, .slice A m c]) ∧ TNew P w.heap.size w' r (.agg #[.string ⟨a.toArray⟩, .slice A m c]) ∧ Below w.heap.size w w'
def PsSaid (t : Tm) : Prop := ∀ (x : List UInt8) (c : Tm) (v vc : Value) (w : World) (P : Nat → Prop), t.ok → TAt w P (tmTr t) v → TAt w P (tmTr c) vc → (∀ b, P b → b < w.heap.size) →
  Calls Tryd.prog 53 #[v, .string ⟨x.toArray⟩, vc] w (PsPost P (tmTr (putT x c t)) w)

/-- What is kept while a term is put into the parts of another one. -/
structure PKp (w0 : World) (P : Nat → Prop) (g cap : Nat) (c : Tm) (p0 p1 p2 : Tr) (A0 A1 A2 : Option Addr) (n0 c0 n1 c1 n2 c2 : Nat) (ub : List UInt8) (Ab : Option Addr) (mb nb : Nat) (w' : World) : Prop where
  box : Blk w' w0.heap.size 35 #[.string ⟨#[]⟩, .slice (some ⟨g, 0, none⟩) 3 cap]
  byb : Blk w' (w0.heap.size + 1) 35 #[.string ⟨ub.toArray⟩, .slice Ab mb nb]
  res : Blk w' (w0.heap.size + 2) 35 #[.string ⟨#[]⟩, .slice none 0 0]
  three : Three w' P g p0 p1 p2 A0 A1 A2 n0 c0 n1 c1 n2 c2
  byT : TAt w' P (tmTr c) (.agg #[.string ⟨ub.toArray⟩, .slice Ab mb nb])
  all : ∀ q, P q → q < w0.heap.size
  grown : Below w0.heap.size w0 w'
section
variable {w0 : World} {P : Nat → Prop} {g cap : Nat} {c : Tm} {p0 p1 p2 : Tr} {A0 A1 A2 : Option Addr} {n0 c0 n1 c1 n2 c2 : Nat} {ub : List UInt8} {Ab : Option Addr} {mb nb : Nat} {w' w2 : World}
theorem PKp.start {w : World} {p0 p1 p2 : Tr} (h3 : Three w P g p0 p1 p2 A0 A1 A2 n0 c0 n1 c1 n2 c2) (hc : TAt w P (tmTr c) (.agg #[.string ⟨ub.toArray⟩, .slice Ab mb nb])) (hP : ∀ q, P q → q < w.heap.size) :
    PKp w P g cap c p0 p1 p2 A0 A1 A2 n0 c0 n1 c1 n2 c2 ub Ab mb nb (((w.alloc (.cells #[.string ⟨#[]⟩, .slice (some ⟨g, 0, none⟩) 3 cap] 35)).alloc (.cells #[.string ⟨ub.toArray⟩, .slice Ab mb nb] 35)).alloc (.cells #[.string ⟨#[]⟩, .slice none 0 0] 35)) := by
  have hB : Below w.heap.size w (((w.alloc (.cells #[.string ⟨#[]⟩, .slice (some ⟨g, 0, none⟩) 3 cap] 35)).alloc (.cells #[.string ⟨ub.toArray⟩, .slice Ab mb nb] 35)).alloc (.cells #[.string ⟨#[]⟩, .slice none 0 0] 35)) := (((Below.refl _ _).alloc (Nat.le_refl _) _).alloc (by simp) _).alloc (by simp; omega) _
  refine ⟨((Blk.new w _ _).alloc _).alloc _, ?_, ?_, h3.below hB hP, hc.below hB hP, hP, hB⟩
  · have := (Blk.new (w.alloc (.cells #[.string ⟨#[]⟩, .slice (some ⟨g, 0, none⟩) 3 cap] 35)) 35 #[.string ⟨ub.toArray⟩, .slice Ab mb nb]).alloc (.cells #[.string ⟨#[]⟩, .slice none 0 0] 35)
    simpa using this
  · have := Blk.new ((w.alloc (.cells #[.string ⟨#[]⟩, .slice (some ⟨g, 0, none⟩) 3 cap] 35)).alloc (.cells #[.string ⟨ub.toArray⟩, .slice Ab mb nb] 35)) 35 #[.string ⟨#[]⟩, .slice none 0 0]
    simpa using this
theorem PKp.below (h : PKp w0 P g cap c p0 p1 p2 A0 A1 A2 n0 c0 n1 c1 n2 c2 ub Ab mb nb w') (hb : Below w'.heap.size w' w2) : PKp w0 P g cap c p0 p1 p2 A0 A1 A2 n0 c0 n1 c1 n2 c2 ub Ab mb nb w2 :=
  have hz := h.grown.size
  ⟨h.box.below hb h.box.lt, h.byb.below hb h.byb.lt, h.res.below hb h.res.lt, h.three.below hb (fun q hq => Nat.lt_of_lt_of_le (h.all q hq) hz), h.byT.below hb (fun q hq => Nat.lt_of_lt_of_le (h.all q hq) hz), h.all, h.grown.trans (hb.mono hz)⟩
theorem PKp.drew (h : PKp w0 P g cap c p0 p1 p2 A0 A1 A2 n0 c0 n1 c1 n2 c2 ub Ab mb nb w') : PKp w0 P g cap c p0 p1 p2 A0 A1 A2 n0 c0 n1 c1 n2 c2 ub Ab mb nb w'.drew := h.below (Below.refl _ _).drew
theorem PKp.new (h : PKp w0 P g cap c p0 p1 p2 A0 A1 A2 n0 c0 n1 c1 n2 c2 ub Ab mb nb w') (o : Obj) : PKp w0 P g cap c p0 p1 p2 A0 A1 A2 n0 c0 n1 c1 n2 c2 ub Ab mb nb (w'.alloc o) := h.below ((Below.refl _ _).alloc (Nat.le_refl _) _)
theorem PKp.s (h : PKp w0 P g cap c p0 p1 p2 A0 A1 A2 n0 c0 n1 c1 n2 c2 ub Ab mb nb w') :
    w'.cell? ⟨w0.heap.size, 1, none⟩ = some (.slice (some ⟨g, 0, none⟩) 3 cap) ∧ w'.cell? ⟨g, 2, none⟩ = some (.string ⟨p1.atom.toArray⟩) ∧ w'.cell? ⟨g, 3, none⟩ = some (.slice A1 n1 c1) ∧
    w'.cell? ⟨g, 4, none⟩ = some (.string ⟨p2.atom.toArray⟩) ∧ w'.cell? ⟨g, 5, none⟩ = some (.slice A2 n2 c2) ∧ w'.cell? ⟨w0.heap.size + 1, 0, none⟩ = some (.string ⟨ub.toArray⟩) ∧ w'.cell? ⟨w0.heap.size + 1, 1, none⟩ = some (.slice Ab mb nb) := by
  have h1 := h.box.cell 1
  have h2 := h.byb.cell 0
  have h3 := h.byb.cell 1
  simp at h1 h2 h3
  exact ⟨h1, h.three.k2, h.three.k3, h.three.k4, h.three.k5, h2, h3⟩
theorem PKp.sl {y : List UInt8} (h : PKp w0 P g cap c p0 (.mk y []) p2 A0 A1 A2 n0 c0 n1 c1 n2 c2 ub Ab mb nb w') :
    w'.cell? ⟨w0.heap.size, 1, none⟩ = some (.slice (some ⟨g, 0, none⟩) 3 cap) ∧ w'.cell? ⟨g, 2, none⟩ = some (.string ⟨y.toArray⟩) ∧ w'.cell? ⟨g, 3, none⟩ = some (.slice A1 n1 c1) ∧
    w'.cell? ⟨g, 4, none⟩ = some (.string ⟨p2.atom.toArray⟩) ∧ w'.cell? ⟨g, 5, none⟩ = some (.slice A2 n2 c2) ∧ w'.cell? ⟨w0.heap.size + 1, 0, none⟩ = some (.string ⟨ub.toArray⟩) ∧ w'.cell? ⟨w0.heap.size + 1, 1, none⟩ = some (.slice Ab mb nb) := h.s
theorem PKp.sput (h : PKp w0 P g cap c p0 p1 p2 A0 A1 A2 n0 c0 n1 c1 n2 c2 ub Ab mb nb w') {u v : Value} :
    ((w'.setCell ⟨w0.heap.size + 2, 0, none⟩ u).setCell ⟨w0.heap.size + 2, 1, none⟩ v).cell? ⟨w0.heap.size, 1, none⟩ = some (.slice (some ⟨g, 0, none⟩) 3 cap) ∧ ((w'.setCell ⟨w0.heap.size + 2, 0, none⟩ u).setCell ⟨w0.heap.size + 2, 1, none⟩ v).cell? ⟨g, 2, none⟩ = some (.string ⟨p1.atom.toArray⟩) ∧ ((w'.setCell ⟨w0.heap.size + 2, 0, none⟩ u).setCell ⟨w0.heap.size + 2, 1, none⟩ v).cell? ⟨g, 3, none⟩ = some (.slice A1 n1 c1) ∧
    ((w'.setCell ⟨w0.heap.size + 2, 0, none⟩ u).setCell ⟨w0.heap.size + 2, 1, none⟩ v).cell? ⟨g, 4, none⟩ = some (.string ⟨p2.atom.toArray⟩) ∧ ((w'.setCell ⟨w0.heap.size + 2, 0, none⟩ u).setCell ⟨w0.heap.size + 2, 1, none⟩ v).cell? ⟨g, 5, none⟩ = some (.slice A2 n2 c2) ∧ ((w'.setCell ⟨w0.heap.size + 2, 0, none⟩ u).setCell ⟨w0.heap.size + 2, 1, none⟩ v).cell? ⟨w0.heap.size + 1, 0, none⟩ = some (.string ⟨ub.toArray⟩) ∧ ((w'.setCell ⟨w0.heap.size + 2, 0, none⟩ u).setCell ⟨w0.heap.size + 2, 1, none⟩ v).cell? ⟨w0.heap.size + 1, 1, none⟩ = some (.slice Ab mb nb) := by
  have hs := h.s
  have hg := h.all g h.three.pg
  have e : ∀ b i, b ≠ w0.heap.size + 2 → ((w'.setCell ⟨w0.heap.size + 2, 0, none⟩ u).setCell ⟨w0.heap.size + 2, 1, none⟩ v).cell? ⟨b, i, none⟩ = w'.cell? ⟨b, i, none⟩ := by
    intro b i hb
    rw [World.cell?_setCell_other _ _ _ _ (by intro e; injection e with e; omega), World.cell?_setCell_other _ _ _ _ (by intro e; injection e with e; omega)]
  rw [e _ _ (by omega), e _ _ (by omega), e _ _ (by omega), e _ _ (by omega), e _ _ (by omega), e _ _ (by omega), e _ _ (by omega)]
  exact hs
theorem PKp.sputl {y : List UInt8} (h : PKp w0 P g cap c p0 (.mk y []) p2 A0 A1 A2 n0 c0 n1 c1 n2 c2 ub Ab mb nb w') {u v : Value} :
    ((w'.setCell ⟨w0.heap.size + 2, 0, none⟩ u).setCell ⟨w0.heap.size + 2, 1, none⟩ v).cell? ⟨w0.heap.size, 1, none⟩ = some (.slice (some ⟨g, 0, none⟩) 3 cap) ∧ ((w'.setCell ⟨w0.heap.size + 2, 0, none⟩ u).setCell ⟨w0.heap.size + 2, 1, none⟩ v).cell? ⟨g, 2, none⟩ = some (.string ⟨y.toArray⟩) ∧ ((w'.setCell ⟨w0.heap.size + 2, 0, none⟩ u).setCell ⟨w0.heap.size + 2, 1, none⟩ v).cell? ⟨g, 3, none⟩ = some (.slice A1 n1 c1) ∧
    ((w'.setCell ⟨w0.heap.size + 2, 0, none⟩ u).setCell ⟨w0.heap.size + 2, 1, none⟩ v).cell? ⟨g, 4, none⟩ = some (.string ⟨p2.atom.toArray⟩) ∧ ((w'.setCell ⟨w0.heap.size + 2, 0, none⟩ u).setCell ⟨w0.heap.size + 2, 1, none⟩ v).cell? ⟨g, 5, none⟩ = some (.slice A2 n2 c2) ∧ ((w'.setCell ⟨w0.heap.size + 2, 0, none⟩ u).setCell ⟨w0.heap.size + 2, 1, none⟩ v).cell? ⟨w0.heap.size + 1, 0, none⟩ = some (.string ⟨ub.toArray⟩) ∧ ((w'.setCell ⟨w0.heap.size + 2, 0, none⟩ u).setCell ⟨w0.heap.size + 2, 1, none⟩ v).cell? ⟨w0.heap.size + 1, 1, none⟩ = some (.slice Ab mb nb) := h.sput
/-- A tree of new blocks or of those that were there. -/
abbrev PTr (P : Nat → Prop) (w0 w : World) (t : Tr) (v : Value) : Prop := TAt w (fun b => P b ∨ (w0.heap.size + 3 ≤ b ∧ b < w.heap.size)) t v
theorem PTr.below {t : Tr} {v : Value} (K : PKp w0 P g cap c p0 p1 p2 A0 A1 A2 n0 c0 n1 c1 n2 c2 ub Ab mb nb w') (h : PTr P w0 w' t v) (hb : Below w'.heap.size w' w2) : PTr P w0 w2 t v :=
  have hz := hb.size
  h.mono fun b hb' => ⟨hb'.imp id (fun h => ⟨h.1, by omega⟩), fun o => hb.cell (p := ⟨b, o, none⟩) (by
    rcases hb' with h | h
    · exact Nat.lt_of_lt_of_le (K.all b h) K.grown.size
    · exact h.2)⟩
theorem ps_call {t : Tm} (x : List UInt8) (IH : PsSaid t) (hok : t.ok) {v : Value} (K : PKp w0 P g cap c p0 p1 p2 A0 A1 A2 n0 c0 n1 c1 n2 c2 ub Ab mb nb w') (ht : TAt w' P (tmTr t) v) :
    Calls Tryd.prog 53 #[v, .string ⟨x.toArray⟩, .agg #[.string ⟨ub.toArray⟩, .slice Ab mb nb]] w' fun e w'' =>
      ∃ (a : List UInt8) (A : Option Addr) (m n : Nat), e = .returned (.agg #[.string ⟨a.toArray⟩, .slice A m n]) ∧ PTr P w0 w'' (tmTr (putT x c t)) (.agg #[.string ⟨a.toArray⟩, .slice A m n]) ∧ PKp w0 P g cap c p0 p1 p2 A0 A1 A2 n0 c0 n1 c1 n2 c2 ub Ab mb nb w'' ∧ Below w'.heap.size w' w'' := by
  have hz := K.res.lt
  refine (IH x c v _ w' P hok ht K.byT (fun q hq => Nat.lt_of_lt_of_le (K.all q hq) K.grown.size)).mono ?_
  rintro e w'' ⟨a, A, m, n, rfl, h1, h2⟩
  exact ⟨a, A, m, n, rfl, h1.mono fun b hb => ⟨hb.imp id (fun h => ⟨by omega, h.2⟩), fun _ => rfl⟩, K.below h2, h2⟩
theorem pl_call (hd : List UInt8) (hhd : hd.length ≤ 8000) {W : World} (K : PKp w0 P g cap c p0 p1 p2 A0 A1 A2 n0 c0 n1 c1 n2 c2 ub Ab mb nb W) {t1 t2 : Tr} {u1 v1 u2 v2 : Value}
    (hT1 : PTr P w0 W t1 (.agg #[u1, v1])) (hT2 : PTr P w0 W t2 (.agg #[u2, v2])) :
    Calls Tryd.prog 72 #[.string ⟨hd.toArray⟩, .slice (some ⟨W.heap.size, 0, none⟩) 2 2] (W.alloc (.cells #[u1, v1, u2, v2] 35)) fun e w'' =>
      ∃ A' m' c', e = .returned (.agg #[.string ⟨#[]⟩, .slice A' m' c']) ∧ PTr P w0 w'' (.mk [] [.mk hd [], t1, t2]) (.agg #[.string ⟨#[]⟩, .slice A' m' c']) ∧ PKp w0 P g cap c p0 p1 p2 A0 A1 A2 n0 c0 n1 c1 n2 c2 ub Ab mb nb w'' := by
  have hz := K.res.lt
  have hP : ∀ b, (P b ∨ (w0.heap.size + 3 ≤ b ∧ b < W.heap.size)) → b < W.heap.size := by
    rintro b (h | h)
    · exact Nat.lt_of_lt_of_le (K.all b h) K.grown.size
    · exact h.2
  have hbk := Blk.new W 35 #[u1, v1, u2, v2]
  have h := l1List_any hd hhd [t1, t2] (by simp) (fun b => P b ∨ (w0.heap.size + 3 ≤ b ∧ b < W.heap.size)) W.heap.size 2 [u1, v1, u2, v2] (W.alloc (.cells #[u1, v1, u2, v2] 35)) (by simp)
    (fun j u hu => by rw [hbk.cell j]; simpa using hu) (VsAt.cons' (hT1.alloc hP _) (VsAt.cons' (hT2.alloc hP _) (by unfold VsAt; rfl))) (fun b hb => by have := hP b hb; simp; omega)
  refine h.mono ?_
  rintro e w'' ⟨A', m', c', rfl, h1, h2⟩
  have hz2 := h2.size
  simp at hz2
  refine ⟨A', m', c', rfl, h1.mono fun b hb => ⟨?_, fun _ => rfl⟩, (K.new _).below h2⟩
  rcases hb with (h | h) | h
  · exact .inl h
  · exact .inr ⟨h.1, by omega⟩
  · have := h.1
    simp at this
    exact .inr ⟨by omega, h.2⟩
theorem ps_done {w5 : World} (K : PKp w0 P g cap c p0 p1 p2 A0 A1 A2 n0 c0 n1 c1 n2 c2 ub Ab mb nb w5) {t : Tr} {u v : Value} (hT : PTr P w0 w5 t (.agg #[u, v])) :
    Blk ((w5.setCell ⟨w0.heap.size + 2, 0, none⟩ u).setCell ⟨w0.heap.size + 2, 1, none⟩ v) (w0.heap.size + 2) 35 #[u, v] ∧
    TNew P w0.heap.size ((w5.setCell ⟨w0.heap.size + 2, 0, none⟩ u).setCell ⟨w0.heap.size + 2, 1, none⟩ v) t (.agg #[u, v]) ∧
    Below w0.heap.size w0 ((w5.setCell ⟨w0.heap.size + 2, 0, none⟩ u).setCell ⟨w0.heap.size + 2, 1, none⟩ v) := by
  refine ⟨res_set K.res _ _, hT.mono fun b hb => ⟨hb.imp id (fun h => ⟨by omega, by simpa [World.setCell] using h.2⟩), fun o => ?_⟩, (K.grown.setCell (p := ⟨w0.heap.size + 2, 0, none⟩) (by simp) _).setCell (p := ⟨w0.heap.size + 2, 1, none⟩) (by simp) _⟩
  have hne : b ≠ w0.heap.size + 2 := by
    rcases hb with h | h
    · have := K.all b h; omega
    · omega
  rw [World.cell?_setCell_other _ _ _ _ (by intro e; injection e with e; omega), World.cell?_setCell_other _ _ _ _ (by intro e; injection e with e; omega)]
end

set_option maxRecDepth 100000 in
set_option maxHeartbeats 1000000 in
theorem l1Put_var (y : List UInt8) : PsSaid (.var y) := by
  rintro x c v vc w P hok ht hc hP
  have hx := isNm_ne y hok
  have hae : (!y.isEmpty) = true := by cases y with
    | nil => exact absurd rfl hx
    | cons => rfl
  obtain ⟨A, m, n, e⟩ := ht.shape
  have e : v = .agg #[.string ⟨y.toArray⟩, .slice A m n] := e
  subst e
  obtain ⟨A2, m2, n2, rfl⟩ := hc.shape
  have HT := Lib.hid ht
  have HC := Lib.hid hc
  have HP := Lib.hid hP
  clear ht hP hc hx hok
  have hq : (y == x) = true ∨ (y == x) = false := by cases (y == x) <;> simp
  rcases hq with hq | hq
  · go_enter Tryd.func53, Tryd.ntmps53
    go_wp2
    have hB : Below w.heap.size w (((w.alloc (.cells #[.string ⟨y.toArray⟩, .slice A m n] 35)).alloc (.cells #[.string ⟨(tmTr c).atom.toArray⟩, .slice A2 m2 n2] 35)).alloc (.cells #[.string ⟨(tmTr c).atom.toArray⟩, .slice A2 m2 n2] 35)) := (((Below.refl _ _).alloc (Nat.le_refl _) _).alloc (by simp) _).alloc (by simp; omega) _
    have hr := Blk.new ((w.alloc (.cells #[.string ⟨y.toArray⟩, .slice A m n] 35)).alloc (.cells #[.string ⟨(tmTr c).atom.toArray⟩, .slice A2 m2 n2] 35)) 35 #[.string ⟨(tmTr c).atom.toArray⟩, .slice A2 m2 n2]
    have e2 : ((w.alloc (.cells #[.string ⟨y.toArray⟩, .slice A m n] 35)).alloc (.cells #[.string ⟨(tmTr c).atom.toArray⟩, .slice A2 m2 n2] 35)).heap.size = w.heap.size + 1 + 1 := by simp
    rw [e2] at hr
    have g0 := hr.cell 0
    have g1 := hr.cell 1
    simp only [List.getElem?_toArray, List.getElem?_cons_zero, List.getElem?_cons_succ] at g0 g1
    refine bodyPost_ret (v := .agg #[.string ⟨(tmTr c).atom.toArray⟩, .slice A2 m2 n2]) (by simp [results, Tryd.results53, go_sem, g0, g1]) rfl ?_
    refine ⟨_, _, _, _, rfl, ?_, hB⟩
    have e : putT x c (.var y) = c := by simp [putT, beq_iff_eq.1 hq]
    rw [e]
    exact (HC.out.below hB HP.out).mono fun b hb => ⟨.inl hb, fun _ => rfl⟩
  · go_enter Tryd.func53, Tryd.ntmps53
    go_wp2
    have hB : Below w.heap.size w (((w.alloc (.cells #[.string ⟨y.toArray⟩, .slice A m n] 35)).alloc (.cells #[.string ⟨(tmTr c).atom.toArray⟩, .slice A2 m2 n2] 35)).alloc (.cells #[.string ⟨y.toArray⟩, .slice A m n] 35)) := (((Below.refl _ _).alloc (Nat.le_refl _) _).alloc (by simp) _).alloc (by simp; omega) _
    have hr := Blk.new ((w.alloc (.cells #[.string ⟨y.toArray⟩, .slice A m n] 35)).alloc (.cells #[.string ⟨(tmTr c).atom.toArray⟩, .slice A2 m2 n2] 35)) 35 #[.string ⟨y.toArray⟩, .slice A m n]
    have e2 : ((w.alloc (.cells #[.string ⟨y.toArray⟩, .slice A m n] 35)).alloc (.cells #[.string ⟨(tmTr c).atom.toArray⟩, .slice A2 m2 n2] 35)).heap.size = w.heap.size + 1 + 1 := by simp
    rw [e2] at hr
    have g0 := hr.cell 0
    have g1 := hr.cell 1
    simp only [List.getElem?_toArray, List.getElem?_cons_zero, List.getElem?_cons_succ] at g0 g1
    refine bodyPost_ret (v := .agg #[.string ⟨y.toArray⟩, .slice A m n]) (by simp [results, Tryd.results53, go_sem, g0, g1]) rfl ?_
    refine ⟨_, _, _, _, rfl, ?_, hB⟩
    have e : putT x c (.var y) = .var y := by simp [putT, beq_eq_false_iff_ne.1 hq]
    rw [e]
    exact (HT.out.below hB HP.out).mono fun b hb => ⟨.inl hb, fun _ => rfl⟩
end Go.Proofs.YtkomchdmcbdahaaDoor
