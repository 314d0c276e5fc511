/- The model renames the bound names of a function. -/
import Derived.Test.YtkomchdmcbdahaaDoorRN
namespace Go.Proofs.YtkomchdmcbdahaaDoor
set_option linter.unusedVariables false
open Go.RowKit

/-- What is kept while the parts of a term are renamed. -/
structure RKp (fr rs ts : List (List UInt8)) (nb base b1 g1 d1 b2 g2 d2 : Nat) (tk : Value) (w0 : World) (P : Nat → Prop) (g cap : Nat) (p0 p1 p2 : Tr) (A0 A1 A2 : Option Addr) (n0 c0 n1 c1 n2 c2 n : Nat) (w' : World) : Prop where
  box : Blk w' w0.heap.size 35 #[.string ⟨#[]⟩, .slice (some ⟨g, 0, none⟩) 3 cap]
  res : Blk w' (w0.heap.size + 1) 35 #[.string ⟨#[]⟩, .slice none 0 0]
  three : Three w' P g p0 p1 p2 A0 A1 A2 n0 c0 n1 c1 n2 c2
  all : ∀ q, P q → q < w0.heap.size ∧ q ≠ nb
  nms : Nms w' nb tk n
  nbl : nb < w0.heap.size
  frs : SRow w' base tk fr
  fro : SRow w' b1 (.slice (some ⟨g1, 0, none⟩) rs.length d1) rs.reverse
  too : SRow w' b2 (.slice (some ⟨g2, 0, none⟩) ts.length d2) ts.reverse
  grown : w0.grownBy w' (some nb)
section
variable {fr rs ts : List (List UInt8)} {nb base b1 g1 d1 b2 g2 d2 : Nat} {tk : Value} {w0 : World} {P : Nat → Prop} {g cap : Nat} {p0 p1 p2 : Tr} {A0 A1 A2 : Option Addr} {n0 c0 n1 c1 n2 c2 n n' : Nat} {w' w2 : World}
theorem RKp.grow (h : RKp fr rs ts nb base b1 g1 d1 b2 g2 d2 tk w0 P g cap p0 p1 p2 A0 A1 A2 n0 c0 n1 c1 n2 c2 n w') (hg : w'.grownBy w2 (some nb)) (hn : Nms w2 nb tk n') : RKp fr rs ts nb base b1 g1 d1 b2 g2 d2 tk w0 P g cap p0 p1 p2 A0 A1 A2 n0 c0 n1 c1 n2 c2 n' w2 :=
  ⟨h.box.grown hg (fun e => by injection e with e; have := h.nbl; omega), h.res.grown hg (fun e => by injection e with e; have := h.nbl; omega),
   h.three.mono fun q hq => ⟨hq, fun o => World.cell?_of_block (w := w') (hg.block q (Nat.lt_of_lt_of_le (h.all q hq).1 h.grown.size) (fun e => (h.all q hq).2 (by injection e)))⟩,
   h.all, hn, h.nbl, h.frs.far2 h.nms (by decide) hg, h.fro.far2 h.nms (by decide) hg, h.too.far2 h.nms (by decide) hg, h.grown.trans hg⟩
theorem RKp.below (h : RKp fr rs ts nb base b1 g1 d1 b2 g2 d2 tk w0 P g cap p0 p1 p2 A0 A1 A2 n0 c0 n1 c1 n2 c2 n w') (hb : Below w'.heap.size w' w2) : RKp fr rs ts nb base b1 g1 d1 b2 g2 d2 tk w0 P g cap p0 p1 p2 A0 A1 A2 n0 c0 n1 c1 n2 c2 n w2 :=
  h.grow (below_grown hb _) (h.nms.below hb h.nms.lt)
theorem RKp.drew (h : RKp fr rs ts nb base b1 g1 d1 b2 g2 d2 tk w0 P g cap p0 p1 p2 A0 A1 A2 n0 c0 n1 c1 n2 c2 n w') : RKp fr rs ts nb base b1 g1 d1 b2 g2 d2 tk w0 P g cap p0 p1 p2 A0 A1 A2 n0 c0 n1 c1 n2 c2 n w'.drew :=
  h.below (Below.refl _ _).drew
theorem RKp.new (h : RKp fr rs ts nb base b1 g1 d1 b2 g2 d2 tk w0 P g cap p0 p1 p2 A0 A1 A2 n0 c0 n1 c1 n2 c2 n w') (o : Obj) : RKp fr rs ts nb base b1 g1 d1 b2 g2 d2 tk w0 P g cap p0 p1 p2 A0 A1 A2 n0 c0 n1 c1 n2 c2 n (w'.alloc o) :=
  h.below ((Below.refl _ _).alloc (Nat.le_refl _) _)
theorem RKp.new1 (h : RKp fr rs ts nb base b1 g1 d1 b2 g2 d2 tk w0 P g cap p0 p1 p2 A0 A1 A2 n0 c0 n1 c1 n2 c2 n w') (o : Obj) (i : Nat) (u : Value) : RKp fr rs ts nb base b1 g1 d1 b2 g2 d2 tk w0 P g cap p0 p1 p2 A0 A1 A2 n0 c0 n1 c1 n2 c2 n ((w'.alloc o).setCell ⟨w'.heap.size, i, none⟩ u) :=
  h.below (((Below.refl _ _).alloc (Nat.le_refl _) _).setCell (p := ⟨w'.heap.size, i, none⟩) (Nat.le_refl _) _)
theorem RKp.new2 (h : RKp fr rs ts nb base b1 g1 d1 b2 g2 d2 tk w0 P g cap p0 p1 p2 A0 A1 A2 n0 c0 n1 c1 n2 c2 n w') (o : Obj) (i j : Nat) (u v : Value) : RKp fr rs ts nb base b1 g1 d1 b2 g2 d2 tk w0 P g cap p0 p1 p2 A0 A1 A2 n0 c0 n1 c1 n2 c2 n (((w'.alloc o).setCell ⟨w'.heap.size, i, none⟩ u).setCell ⟨w'.heap.size, j, none⟩ v) :=
  h.below ((((Below.refl _ _).alloc (Nat.le_refl _) _).setCell (p := ⟨w'.heap.size, i, none⟩) (Nat.le_refl _) _).setCell (p := ⟨w'.heap.size, j, none⟩) (Nat.le_refl _) _)
theorem RKp.put2 (h : RKp fr rs ts nb base b1 g1 d1 b2 g2 d2 tk w0 P g cap p0 p1 p2 A0 A1 A2 n0 c0 n1 c1 n2 c2 n w') {k : Nat} {x y : Value} (hk : Blk w' k 35 #[x, y]) (hl : w0.heap.size + 2 ≤ k) (u v : Value) : RKp fr rs ts nb base b1 g1 d1 b2 g2 d2 tk w0 P g cap p0 p1 p2 A0 A1 A2 n0 c0 n1 c1 n2 c2 n ((w'.setCell ⟨k, 0, none⟩ u).setCell ⟨k, 1, none⟩ v) := by
  have hrow : ∀ {base : Nat} {v : Value} {l : List (List UInt8)}, SRow w' base v l → v.ownBlock ≠ some k := fun hr e => row_not hk hr (by decide) e.symm
  have hf : ∀ {base : Nat} {v' : Value} {l : List (List UInt8)}, SRow w' base v' l → SRow ((w'.setCell ⟨k, 0, none⟩ u).setCell ⟨k, 1, none⟩ v) base v' l := fun hr => ownsRow_far (ownsRow_far hr (hrow hr) _) (hrow hr) _
  have hnb := h.nbl
  refine ⟨(h.box.far (by simp; omega) _).far (by simp; omega) _, (h.res.far (by simp; omega) _).far (by simp; omega) _, h.three.mono fun q hq => ⟨hq, fun o => ?_⟩, h.all, (h.nms.far (by simp; omega) _).far (by simp; omega) _, h.nbl, hf h.frs, hf h.fro, hf h.too, ?_⟩
  · have := (h.all q hq).1
    rw [World.cell?_setCell_other _ _ _ _ (by intro e; injection e with e; omega), World.cell?_setCell_other _ _ _ _ (by intro e; injection e with e; omega)]
  · exact grown_two h.grown ((grown_set w' k 0 u).trans (grown_set _ k 1 v)) (.inr ⟨k, rfl, by omega⟩)
theorem RKp.frow {b : Nat} {v : Value} {l : List (List UInt8)} (k : RKp fr rs ts nb base b1 g1 d1 b2 g2 d2 tk w0 P g cap p0 p1 p2 A0 A1 A2 n0 c0 n1 c1 n2 c2 n w') (h : SRow w' b v l) (hg : w'.grownBy w2 (some nb)) : SRow w2 b v l := h.far2 k.nms (by decide) hg
theorem SRow.drew' {w : World} {b : Nat} {v : Value} {l : List (List UInt8)} (h : SRow w b v l) : SRow w.drew b v l := srow_drewN h 1
/-- A new box for a tree. -/
structure NB (w0 : World) (k : Nat) (w : World) : Prop where
  hi : w0.heap.size + 2 ≤ k
  blk : Blk w k 35 #[.string ⟨#[]⟩, .slice none 0 0]
theorem NB.facts {w0 w : World} {k : Nat} (h : NB w0 k w) : w.cell? ⟨k, 0, none⟩ = some (.string ⟨#[]⟩) ∧ w.cell? ⟨k, 1, none⟩ = some (.slice none 0 0) ∧ w.frozen? ⟨k, 0, none⟩ = false ∧ w.frozen? ⟨k, 1, none⟩ = false ∧ k < w.heap.size :=
  ⟨by simpa using h.blk.cell 0, by simpa using h.blk.cell 1, h.blk.frozen 0, h.blk.frozen 1, h.blk.lt⟩
theorem nbx {w3 : World} (hg : (w3.alloc (.cells #[.string ⟨#[]⟩, .slice none 0 0] 35)).grownBy w2 (some nb)) (h : RKp fr rs ts nb base b1 g1 d1 b2 g2 d2 tk w0 P g cap p0 p1 p2 A0 A1 A2 n0 c0 n1 c1 n2 c2 n w3) : NB w0 w3.heap.size w2 :=
  ⟨h.res.lt, (Blk.new w3 35 #[.string ⟨#[]⟩, .slice none 0 0]).grown hg (fun e => by injection e with e; have := h.nms.lt; omega)⟩
theorem nbx' {w3 : World} (hg : (w3.alloc (.cells #[.string ⟨#[]⟩, .slice none 0 0] 35)).drew.grownBy w2 (some nb)) (h : RKp fr rs ts nb base b1 g1 d1 b2 g2 d2 tk w0 P g cap p0 p1 p2 A0 A1 A2 n0 c0 n1 c1 n2 c2 n w3) : NB w0 w3.heap.size w2 :=
  nbx ((grown_drewN (grown_refl _ (some nb)) 1).trans hg) h
theorem nbxT {Q : Nat → Prop} {w3 : World} (hg : (w3.alloc (.cells #[.string ⟨#[]⟩, .slice none 0 0] 35)).grownBy w2 (some nb)) (h : RKp fr rs ts nb base b1 g1 d1 b2 g2 d2 tk w0 P g cap p0 p1 p2 A0 A1 A2 n0 c0 n1 c1 n2 c2 n w3)
    (hQ : ∀ k, w0.heap.size + 2 ≤ k → k < (w3.alloc (.cells #[.string ⟨#[]⟩, .slice none 0 0] 35)).heap.size → Q k) : NB w0 w3.heap.size w2 ∧ Q w3.heap.size :=
  ⟨nbx hg h, hQ _ h.res.lt (by simp)⟩
theorem nbcT {Q : Nat → Prop} {k : Nat} (hN : NB w0 k w') (hg : w'.grownBy w2 (some nb)) (h : RKp fr rs ts nb base b1 g1 d1 b2 g2 d2 tk w0 P g cap p0 p1 p2 A0 A1 A2 n0 c0 n1 c1 n2 c2 n w')
    (hQ : ∀ k, w0.heap.size + 2 ≤ k → k < w'.heap.size → Q k) : NB w0 k w2 ∧ Q k :=
  ⟨⟨hN.hi, hN.blk.grown hg (fun e => by injection e with e; have := h.nbl; have := hN.hi; omega)⟩, hQ _ hN.hi hN.blk.lt⟩
/-- What the walk goes on with: the tree in its box. -/
structure NX (P : Nat → Prop) (w0 : World) (k : Nat) (W : World) (t : Tr) (u v : Value) : Prop where
  hi : w0.heap.size + 2 ≤ k
  blk : Blk W k 35 #[u, v]
  tree : TAt W (fun b => P b ∨ (w0.heap.size + 2 ≤ b ∧ b < W.heap.size)) t (.agg #[u, v])
theorem nx_new {w4 : World} {t : Tr} {u v : Value} (h : RKp fr rs ts nb base b1 g1 d1 b2 g2 d2 tk w0 P g cap p0 p1 p2 A0 A1 A2 n0 c0 n1 c1 n2 c2 n w4) (ht : TAt w4 (fun b => P b ∨ (w0.heap.size + 2 ≤ b ∧ b < w4.heap.size)) t (.agg #[u, v])) : NX P w0 w4.heap.size (w4.alloc (.cells #[u, v] 35)) t u v := by
  have hz := h.res.lt
  refine ⟨by omega, Blk.new _ _ _, ht.mono fun b hb => ⟨hb.imp id (fun h => ⟨h.1, by simp; omega⟩), fun o => ?_⟩⟩
  have hb' : b < w4.heap.size := by
    rcases hb with hb | hb
    · have := (h.all b hb).1; omega
    · exact hb.2
  exact World.cell?_alloc_lt _ _ _ hb'
theorem nx_set {w4 : World} {k : Nat} {t : Tr} {u v : Value} (hN : NB w0 k w4) (ht : TAt w4 (fun b => (P b ∨ (w0.heap.size + 2 ≤ b ∧ b < w4.heap.size)) ∧ b ≠ k) t (.agg #[u, v])) : NX P w0 k ((w4.setCell ⟨k, 0, none⟩ u).setCell ⟨k, 1, none⟩ v) t u v := by
  refine ⟨hN.hi, res_set hN.blk _ _, ht.mono fun b hb => ⟨hb.1.imp id (fun h => ⟨h.1, by simpa [World.setCell] using h.2⟩), fun o => ?_⟩⟩
  rw [World.cell?_setCell_other _ _ _ _ (by intro e; injection e with e; exact hb.2 e.symm), World.cell?_setCell_other _ _ _ _ (by intro e; injection e with e; exact hb.2 e.symm)]
theorem nbc {k : Nat} (hN : NB w0 k w') (hg : w'.grownBy w2 (some nb)) (h : RKp fr rs ts nb base b1 g1 d1 b2 g2 d2 tk w0 P g cap p0 p1 p2 A0 A1 A2 n0 c0 n1 c1 n2 c2 n w') : NB w0 k w2 :=
  ⟨hN.hi, hN.blk.grown hg (fun e => by injection e with e; have := h.nbl; have := hN.hi; omega)⟩
theorem RKp.s (h : RKp fr rs ts nb base b1 g1 d1 b2 g2 d2 tk w0 P g cap p0 p1 p2 A0 A1 A2 n0 c0 n1 c1 n2 c2 n w') :
    w'.cell? ⟨w0.heap.size, 1, none⟩ = some (.slice (some ⟨g, 0, none⟩) 3 cap) ∧ w'.cell? ⟨g, 2, none⟩ = some (.string ⟨p1.atom.toArray⟩) ∧ w'.cell? ⟨g, 3, none⟩ = some (.slice A1 n1 c1) ∧
    w'.cell? ⟨g, 4, none⟩ = some (.string ⟨p2.atom.toArray⟩) ∧ w'.cell? ⟨g, 5, none⟩ = some (.slice A2 n2 c2) := by
  have := h.box.cell 1
  simp at this
  exact ⟨this, h.three.k2, h.three.k3, h.three.k4, h.three.k5⟩
theorem RKp.sl {x : List UInt8} (h : RKp fr rs ts nb base b1 g1 d1 b2 g2 d2 tk w0 P g cap p0 (.mk x []) p2 A0 A1 A2 n0 c0 n1 c1 n2 c2 n w') :
    w'.cell? ⟨w0.heap.size, 1, none⟩ = some (.slice (some ⟨g, 0, none⟩) 3 cap) ∧ w'.cell? ⟨g, 2, none⟩ = some (.string ⟨x.toArray⟩) ∧ w'.cell? ⟨g, 3, none⟩ = some (.slice A1 n1 c1) ∧
    w'.cell? ⟨g, 4, none⟩ = some (.string ⟨p2.atom.toArray⟩) ∧ w'.cell? ⟨g, 5, none⟩ = some (.slice A2 n2 c2) := h.s
theorem ll_call (hd s : List UInt8) (hhd : hd.length ≤ 8000) (hs : s.length ≤ 8000) {W : World} (K : RKp fr rs ts nb base b1 g1 d1 b2 g2 d2 tk w0 P g cap p0 p1 p2 A0 A1 A2 n0 c0 n1 c1 n2 c2 n W) {t1 t2 : Tr} {u1 v1 u2 v2 : Value}
    (hT1 : TAt W (fun b => P b ∨ (w0.heap.size + 2 ≤ b ∧ b < W.heap.size)) t1 (.agg #[u1, v1])) (hT2 : TAt W (fun b => P b ∨ (w0.heap.size + 2 ≤ b ∧ b < W.heap.size)) t2 (.agg #[u2, v2])) (gb : Nat) (hgb : gb = W.heap.size) :
    Calls Tryd.prog 72 #[.string ⟨hd.toArray⟩, .slice (some ⟨gb, 0, none⟩) 2 2] (W.alloc (.cells #[u1, v1, u2, v2] 35)) fun e w'' =>
      ∃ A' m' c', e = .returned (.agg #[.string ⟨#[]⟩, .slice A' m' c']) ∧ TAt w'' (fun b => P b ∨ (w0.heap.size + 2 ≤ b ∧ b < w''.heap.size)) (.mk [] [.mk hd [], t1, t2]) (.agg #[.string ⟨#[]⟩, .slice A' m' c']) ∧
        RKp fr rs ts nb base b1 g1 d1 b2 g2 d2 tk w0 P g cap p0 p1 p2 A0 A1 A2 n0 c0 n1 c1 n2 c2 n w'' ∧ Below W.heap.size W w'' := by
  subst hgb
  have hz := K.res.lt
  have hP : ∀ b, (P b ∨ (w0.heap.size + 2 ≤ b ∧ b < W.heap.size)) → b < W.heap.size := by
    rintro b (h | h)
    · have := (K.all b h).1; omega
    · exact h.2
  have hbk := Blk.new W 35 #[u1, v1, u2, v2]
  have h := l1List_any hd hhd [t1, t2] (by simp) (fun b => P b ∨ (w0.heap.size + 2 ≤ b ∧ b < W.heap.size)) W.heap.size 2 [u1, v1, u2, v2] (W.alloc (.cells #[u1, v1, u2, v2] 35)) (by simp)
    (fun j u hu => by rw [hbk.cell j]; simpa using hu) (VsAt.cons' (hT1.alloc hP _) (VsAt.cons' (hT2.alloc hP _) (by unfold VsAt; rfl))) (fun b hb => by have := hP b hb; simp; omega)
  refine h.mono ?_
  rintro e w'' ⟨A', m', c', rfl, h1, h2⟩
  have hz2 := h2.size
  simp at hz2
  refine ⟨A', m', c', rfl, h1.mono fun b hb => ⟨?_, fun _ => rfl⟩, (K.new _).below h2, ((Below.refl _ _).alloc (Nat.le_refl _) _).trans (h2.mono (by simp))⟩
  rcases hb with (h | h) | h
  · exact .inl h
  · exact .inr ⟨h.1, by omega⟩
  · have := h.1
    simp at this
    exact .inr ⟨by omega, h.2⟩
theorem rs_done {w5 : World} (K : RKp fr rs ts nb base b1 g1 d1 b2 g2 d2 tk w0 P g cap p0 p1 p2 A0 A1 A2 n0 c0 n1 c1 n2 c2 n w5) {t : Tr} {u v : Value} (hT : TAt w5 (fun b => P b ∨ (w0.heap.size + 2 ≤ b ∧ b < w5.heap.size)) t (.agg #[u, v])) :
    Blk ((w5.setCell ⟨w0.heap.size + 1, 0, none⟩ u).setCell ⟨w0.heap.size + 1, 1, none⟩ v) (w0.heap.size + 1) 35 #[u, v] ∧
    TNew P w0.heap.size ((w5.setCell ⟨w0.heap.size + 1, 0, none⟩ u).setCell ⟨w0.heap.size + 1, 1, none⟩ v) t (.agg #[u, v]) ∧
    w0.grownBy ((w5.setCell ⟨w0.heap.size + 1, 0, none⟩ u).setCell ⟨w0.heap.size + 1, 1, none⟩ v) (some nb) ∧ Nms ((w5.setCell ⟨w0.heap.size + 1, 0, none⟩ u).setCell ⟨w0.heap.size + 1, 1, none⟩ v) nb tk n := by
  have hnb := K.nbl
  refine ⟨res_set K.res _ _, hT.mono fun b hb => ⟨hb.imp id (fun h => ⟨by omega, by simpa [World.setCell] using h.2⟩), fun o => ?_⟩, grown_two K.grown ((grown_set w5 (w0.heap.size + 1) 0 u).trans (grown_set _ (w0.heap.size + 1) 1 v)) (.inr ⟨_, rfl, by omega⟩), (K.nms.far (by simp; omega) _).far (by simp; omega) _⟩
  have hne : b ≠ w0.heap.size + 1 := by
    rcases hb with h | h
    · have := (K.all b h).1; omega
    · omega
  rw [World.cell?_setCell_other _ _ _ _ (by intro e; injection e with e; omega), World.cell?_setCell_other _ _ _ _ (by intro e; injection e with e; omega)]
end

set_option maxRecDepth 100000 in
set_option maxHeartbeats 4000000 in
theorem l1Rename_lam (x : List UInt8) (d : Tm) (ih : RsSaid d) : RsSaid (.lam x d) := by
  rintro rs ts fr n nb base b1 g1 d1 b2 g2 d2 tk v w P hok ht hP hn hf h1 h2 hlen hts hfr hsz hnx
  obtain ⟨g, cap, A0, A1, A2, n0, c0, n1, c1, n2, c2, rfl, hcap, h3⟩ := ht.three
  obtain ⟨f1, f2, _, _⟩ := fresh_spec fr n
  have HF2 : Hid (fresh fr n + 1 + d.size * 1000 ≤ 900000 ∧ n ≤ 900000 ∧ rs.length + 1 + d.size ≤ 8000 ∧ rs.length ≤ 8000 ∧ ts.length = rs.length) := Lib.hid (by simp only [Tm.size] at hsz hnx; omega)
  have HP := Lib.hid hP
  have HP1 : Hid (∀ b, P b → b < w.heap.size) := Lib.hid fun b hb => (hP b hb).1
  have IH := Lib.hid ih
  have HOK := Lib.hid hok.2
  have HTS := Lib.hid hts
  have a3 := (h3.alloc HP1.out (.cells #[.string ⟨#[]⟩, .slice (some ⟨g, 0, none⟩) 3 cap] 35)).alloc (fun b hb => by have := HP1.out b hb; simp; omega) (.cells #[.string ⟨#[]⟩, .slice none 0 0] 35)
  have hr2 : Blk ((w.alloc (.cells #[.string ⟨#[]⟩, .slice (some ⟨g, 0, none⟩) 3 cap] 35)).alloc (.cells #[.string ⟨#[]⟩, .slice none 0 0] 35)) (w.heap.size + 1) 35 #[.string ⟨#[]⟩, .slice none 0 0] := by
    have := Blk.new (w.alloc (.cells #[.string ⟨#[]⟩, .slice (some ⟨g, 0, none⟩) 3 cap] 35)) 35 #[.string ⟨#[]⟩, .slice none 0 0]
    simpa using this
  have K0 : Hid (RKp fr rs ts nb base b1 g1 d1 b2 g2 d2 tk w P g cap (.mk sLam []) (.mk x []) (tmTr d) A0 A1 A2 n0 c0 n1 c1 n2 c2 n ((w.alloc (.cells #[.string ⟨#[]⟩, .slice (some ⟨g, 0, none⟩) 3 cap] 35)).alloc (.cells #[.string ⟨#[]⟩, .slice none 0 0] 35))) :=
    Lib.hid ⟨(Blk.new w _ _).alloc _, hr2, a3, hP, (hn.alloc _).alloc _, hn.lt, (hf.alloc _).alloc _, (h1.alloc _).alloc _, (h2.alloc _).alloc _, (World.grownBy_alloc _ _ _).trans (World.grownBy_alloc _ _ _)⟩
  have A3 := Lib.hid a3
  clear ih hP ht hok hn hf h1 h2 hlen hts hsz hnx h3 a3 hr2 f1 f2
  go_enter Tryd.func47, Tryd.ntmps47
  go_wp2_with fail
  refine (l1Head3 _ P g cap (.mk sLam []) (.mk x []) (tmTr d) A0 A1 A2 n0 c0 n1 c1 n2 c2 A3.out (fun b hb => by have := HP1.out b hb; simp; omega)).mono ?_
  rintro e w1 ⟨rfl, hb1⟩
  have k1 := K0.out.below hb1
  have hl : (sLam == [108, 97, 109]) = true := rfl
  have K1 := Lib.hid k1
  clear k1
  simp only [Tr.atom]
  go_wp2_with fail
  refine (l1Fresh_any fr n nb base tk _ K1.out.nms K1.out.frs (by omega) HF2.out.2.1).mono ?_
  rintro e w2 ⟨rfl, hg2, hn2⟩
  have hk := K1.out.grow hg2 hn2
  have CF : Hid (∀ w', RKp fr rs ts nb base b1 g1 d1 b2 g2 d2 tk w P g cap (.mk sLam []) (.mk x []) (tmTr d) A0 A1 A2 n0 c0 n1 c1 n2 c2 (fresh fr n + 1) w' → Calls Tryd.prog 70 #[.slice (some ⟨g1, 0, none⟩) rs.length d1, .string ⟨x.toArray⟩] w' fun e w'' =>
      ∃ b' g' c', e = .returned (.slice (some ⟨g', 0, none⟩) (rs.length + 1) c') ∧ SRow w'' b' (.slice (some ⟨g', 0, none⟩) (x :: rs).length c') (x :: rs).reverse ∧ w'.grownBy w'' (some nb) ∧ RKp fr rs ts nb base b1 g1 d1 b2 g2 d2 tk w P g cap (.mk sLam []) (.mk x []) (tmTr d) A0 A1 A2 n0 c0 n1 c1 n2 c2 (fresh fr n + 1) w'') := Lib.hid (fun w' k => by
    have h := l1With_any rs.reverse x b1 g1 d1 w' (by rw [List.length_reverse]; exact k.fro) (by rw [List.length_reverse]; have := HF2.out; omega)
    rw [List.length_reverse] at h
    refine h.mono ?_
    rintro e w'' ⟨g', c', rfl, h1, h2⟩
    rw [← List.reverse_cons] at h1
    exact ⟨_, g', c', by simp, by rw [List.length_reverse] at h1; exact h1, below_grown h2 _, k.below h2⟩)
  have CT : Hid (∀ w', RKp fr rs ts nb base b1 g1 d1 b2 g2 d2 tk w P g cap (.mk sLam []) (.mk x []) (tmTr d) A0 A1 A2 n0 c0 n1 c1 n2 c2 (fresh fr n + 1) w' → Calls Tryd.prog 70 #[.slice (some ⟨g2, 0, none⟩) ts.length d2, .string ⟨(zN (fresh fr n)).toArray⟩] w' fun e w'' =>
      ∃ b' g' c', e = .returned (.slice (some ⟨g', 0, none⟩) (ts.length + 1) c') ∧ SRow w'' b' (.slice (some ⟨g', 0, none⟩) (zN (fresh fr n) :: ts).length c') (zN (fresh fr n) :: ts).reverse ∧ w'.grownBy w'' (some nb) ∧ RKp fr rs ts nb base b1 g1 d1 b2 g2 d2 tk w P g cap (.mk sLam []) (.mk x []) (tmTr d) A0 A1 A2 n0 c0 n1 c1 n2 c2 (fresh fr n + 1) w'') := Lib.hid (fun w' k => by
    have h := l1With_any ts.reverse (zN (fresh fr n)) b2 g2 d2 w' (by rw [List.length_reverse]; exact k.too) (by rw [List.length_reverse]; have := HF2.out; omega)
    rw [List.length_reverse] at h
    refine h.mono ?_
    rintro e w'' ⟨g', c', rfl, h1, h2⟩
    rw [← List.reverse_cons] at h1
    exact ⟨_, g', c', by simp, by rw [List.length_reverse] at h1; exact h1, below_grown h2 _, k.below h2⟩)
  have CR : Hid (∀ w' b' g' c' b'' g'' c'', RKp fr rs ts nb base b1 g1 d1 b2 g2 d2 tk w P g cap (.mk sLam []) (.mk x []) (tmTr d) A0 A1 A2 n0 c0 n1 c1 n2 c2 (fresh fr n + 1) w' → SRow w' b' (.slice (some ⟨g', 0, none⟩) (x :: rs).length c') (x :: rs).reverse → SRow w' b'' (.slice (some ⟨g'', 0, none⟩) (zN (fresh fr n) :: ts).length c'') (zN (fresh fr n) :: ts).reverse →
      Calls Tryd.prog 47 #[.agg #[.string ⟨(tmTr d).atom.toArray⟩, .slice A2 n2 c2], .slice (some ⟨g', 0, none⟩) (rs.length + 1) c', .slice (some ⟨g'', 0, none⟩) (ts.length + 1) c'', .pointer (some ⟨nb, 0, none⟩)] w' fun e w'' =>
      ∃ (a : List UInt8) (A : Option Addr) (m c : Nat), e = .returned (.agg #[.string ⟨a.toArray⟩, .slice A m c]) ∧ TAt w'' (fun b => P b ∨ (w.heap.size + 2 ≤ b ∧ b < w''.heap.size)) (tmTr (renT fr d (x :: rs) (zN (fresh fr n) :: ts) (fresh fr n + 1)).1) (.agg #[.string ⟨a.toArray⟩, .slice A m c]) ∧ (∀ k, w.heap.size + 2 ≤ k → k < w'.heap.size → TAt w'' (fun b => (P b ∨ (w.heap.size + 2 ≤ b ∧ b < w''.heap.size)) ∧ b ≠ k) (tmTr (renT fr d (x :: rs) (zN (fresh fr n) :: ts) (fresh fr n + 1)).1) (.agg #[.string ⟨a.toArray⟩, .slice A m c])) ∧ RKp fr rs ts nb base b1 g1 d1 b2 g2 d2 tk w P g cap (.mk sLam []) (.mk x []) (tmTr d) A0 A1 A2 n0 c0 n1 c1 n2 c2 (renT fr d (x :: rs) (zN (fresh fr n) :: ts) (fresh fr n + 1)).2 w'' ∧ w'.grownBy w'' (some nb)) := Lib.hid (fun w' b' g' c' b'' g'' c'' k h1 h2 => by
    have hs := HF2.out
    refine (IH.out (x :: rs) (zN (fresh fr n) :: ts) fr (fresh fr n + 1) nb base b' g' c' b'' g'' c'' tk _ w' P HOK.out k.three.t2 (fun q hq => ⟨Nat.lt_of_lt_of_le (HP1.out q hq) k.grown.size, (HP.out q hq).2⟩) k.nms k.frs h1 h2 (by simp; omega) ?_ hfr (by simp; omega) (by omega)).mono ?_
    · intro y hy
      rcases List.mem_cons.1 hy with rfl | hy
      · exact zN_short _ (by omega)
      · exact HTS.out y hy
    · rintro e w'' ⟨a, A, m, c, rfl, h3, h4, h5⟩
      obtain ⟨A', n', c', e⟩ := h3.shape
      simp only [Value.agg.injEq, Array.mk.injEq, List.cons.injEq] at e
      obtain ⟨rfl, -, -⟩ := e
      have hz := k.res.lt
      refine ⟨_, A, m, c, rfl, h3.mono fun b hb => ⟨hb.imp id (fun h => ⟨by omega, h.2⟩), fun _ => rfl⟩, fun q hq1 hq2 => h3.mono fun b hb => ⟨⟨hb.imp id (fun h => ⟨by omega, h.2⟩), ?_⟩, fun _ => rfl⟩, k.grow h4 h5, h4⟩
      rcases hb with h | h
      · have := HP1.out b h; omega
      · omega)
  clear hg2 hn2
  go_wp2_with fail
  go_region_held3 (fun w' => w'.cell? ⟨w.heap.size, 1, none⟩ = some (.slice (some ⟨g, 0, none⟩) 3 cap) ∧ w'.cell? ⟨g, 2, none⟩ = some (.string ⟨x.toArray⟩) ∧ w'.cell? ⟨g, 3, none⟩ = some (.slice A1 n1 c1) ∧
      w'.cell? ⟨g, 4, none⟩ = some (.string ⟨(tmTr d).atom.toArray⟩) ∧ w'.cell? ⟨g, 5, none⟩ = some (.slice A2 n2 c2))
    (with_reducible first | exact hk.drew.sl | exact RKp.sl (by assumption) | exact (RKp.drew (by assumption)).sl | exact (RKp.new (by assumption) _).sl | exact (RKp.drew (RKp.new (by assumption) _)).sl | exact (RKp.new1 (by assumption) _ _ _).sl | exact (RKp.new2 (by assumption) _ _ _ _ _).sl | exact (RKp.put2 (by assumption) (NB.blk (by assumption)) (NB.hi (by assumption)) _ _).sl)
    (first
      | (go_at_call 70; (with_reducible refine (CF.out _ ?hkp).mono ?_); (case hkp => with_reducible first | exact hk.drew | assumption | exact (RKp.drew (by assumption)) | exact RKp.new (by first | exact hk.drew | assumption) _ | exact RKp.drew (RKp.new (by assumption) _)); rintro e w3 ⟨bF, gF, cF, rfl, hF, hgF, hkF⟩; (try (with_reducible first | replace hT := RKp.frow (by assumption) hT hgF | replace hT := RKp.frow (RKp.drew (by assumption)) (SRow.drew' hT) hgF | replace hT := RKp.frow (RKp.new (by assumption) _) (World.ownsRow.alloc hT _) hgF)); (with_reducible first | (have hN := nbx hgF (by first | exact hk.drew | assumption)) | (have hN := nbx' hgF (by assumption)) | (have hN := nbc (by assumption) hgF (by assumption)) | skip); clear hgF)
      | (go_at_call 70; (with_reducible refine (CT.out _ ?hkp).mono ?_); (case hkp => with_reducible first | exact hk.drew | assumption | exact (RKp.drew (by assumption)) | exact RKp.new (by first | exact hk.drew | assumption) _ | exact RKp.drew (RKp.new (by assumption) _)); rintro e w3 ⟨bT, gT, cT, rfl, hT, hgT, hkT⟩; (try (with_reducible first | replace hF := RKp.frow (by assumption) hF hgT | replace hF := RKp.frow (RKp.drew (by assumption)) (SRow.drew' hF) hgT | replace hF := RKp.frow (RKp.new (by assumption) _) (World.ownsRow.alloc hF _) hgT)); (with_reducible first | (have hN := nbx hgT (by first | exact hk.drew | assumption)) | (have hN := nbx' hgT (by assumption)) | (have hN := nbc (by assumption) hgT (by assumption)) | skip); clear hgT)
      | (go_at_call 47; (with_reducible refine (CR.out _ bF gF cF bT gT cT ?k1 ?k2 ?k3).mono ?_); (case k1 => with_reducible first | assumption | exact RKp.new (by assumption) _); (case k2 => with_reducible first | assumption | exact World.ownsRow.alloc hF _); (case k3 => with_reducible first | assumption | exact World.ownsRow.alloc hT _); rintro e w4 ⟨a, A, m, c, rfl, ht4, htk, hk4, hg4⟩; (with_reducible first | (have hNT := nbxT hg4 (by first | exact hk.drew | assumption) htk) | (have hNT := nbcT (by assumption) hg4 (by assumption) htk) | skip); (try (obtain ⟨hN, hTk⟩ := hNT)); (try (have hNf := NB.facts hN; obtain ⟨x0, x1, x2, x3, x4⟩ := hNf)); (try clear hg4)))
  all_goals
    first
    | (have hX := nx_set hN hTk; have hK := hk4.put2 hN.blk hN.hi (.string ⟨a.toArray⟩) (.slice A m c))
    | (have hX := nx_new hk4 ht4; have hK := hk4.new (.cells #[.string ⟨a.toArray⟩, .slice A m c] 35))
    obtain ⟨xh, xb, xt⟩ := hX
    have q0 := xb.cell 0
    have q1 := xb.cell 1
    have ql := xb.lt
    have r0 := hK.res.cell 0
    have r1 := hK.res.cell 1
    have rf0 := hK.res.frozen 0
    have rf1 := hK.res.frozen 1
    have rl := hK.res.lt
    simp only [List.getElem?_toArray, List.getElem?_cons_zero, List.getElem?_cons_succ] at q0 q1 r0 r1
    have XB := Lib.hid xb
    have XT := Lib.hid xt
    have HK := Lib.hid hK
    clear xb xt hK
    go_wp2_with fail
    refine (ll_call [108, 97, 109] (zN (fresh fr n)) (by simp) (zN_short _ (by have := HF2.out.1; omega)) HK.out (t1 := .mk (zN (fresh fr n)) []) (by unfold TAt; exact ⟨_, rfl, zN_short _ (by have := HF2.out.1; omega), by simp, .inl ⟨rfl, rfl⟩⟩) XT.out _ (by simp)).mono ?_
    rintro e w5 ⟨A', m', c', rfl, ht5, hk5, -⟩
    have s0 := hk5.res.cell 0
    have s1 := hk5.res.cell 1
    have sf0 := hk5.res.frozen 0
    have sf1 := hk5.res.frozen 1
    have sl := hk5.res.lt
    simp only [List.getElem?_toArray, List.getElem?_cons_zero, List.getElem?_cons_succ] at s0 s1
    obtain ⟨hd1, hd2, hd3, hd4⟩ := rs_done hk5 ht5
    have y0 := hd1.cell 0
    have y1 := hd1.cell 1
    simp only [List.getElem?_toArray, List.getElem?_cons_zero, List.getElem?_cons_succ] at y0 y1
    have HD2 := Lib.hid hd2
    have HD3 := Lib.hid hd3
    have HD4 := Lib.hid hd4
    clear hd1 hd2 hd3 hd4 ht5 hk5
    go_wp2_with fail
    refine bodyPost_ret (v := .agg #[.string ⟨#[]⟩, .slice A' m' c']) (by simp [results, Tryd.results47, go_sem, y0, y1]) rfl ?_
    exact ⟨_, _, _, _, rfl, HD2.out, HD3.out, HD4.out⟩
end Go.Proofs.YtkomchdmcbdahaaDoor
