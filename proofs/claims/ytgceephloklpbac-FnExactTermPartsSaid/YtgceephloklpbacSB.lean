/- The model goes within all lam around. -/
import Derived.Test.YtgceephloklpbacHD
import Derived.RegionTactic
import Derived.BigRegion
import Derived.Deep.LoopGhost
namespace Go.Proofs.Ytgceephloklpbac
set_option linter.unusedVariables false
open Go.RowKit

theorem TAt.two {w : World} {P : Nat → Prop} {t : Tr} {v : Value} (h : TAt w P t v) : ∃ A n c, v = .agg #[.string ⟨t.atom.toArray⟩, .slice A n c] := h.shape

/-- On the way within. -/
structure BdR (w : World) (P : Nat → Prop) (t t' : Tm) (m : Nat) (a p : Value) (wr : World) : Prop where
  below : Below w.heap.size w wr
  box : Blk wr w.heap.size 35 #[a, p]
  res : Blk wr (w.heap.size + 1) 35 #[.string ⟨#[]⟩, .slice none 0 0]
  tree : TAt wr P (tmTr t') (.agg #[a, p])
  ok : t'.ok
  num : m + (lamsOf t').length = (lamsOf t).length
  body : bodyOf t' = bodyOf t

def BdPost (w : World) (P : Nat → Prop) (t : Tm) (e : Ending) (w' : World) : Prop :=
  ∃ v, e = .returned (.tuple #[.int .i64 (lamsOf t).length, v]) ∧ TAt w' P (tmTr (bodyOf t)) v ∧ Below w.heap.size w w'

theorem lamsOf_size (t : Tm) : (lamsOf t).length ≤ t.size := by
  induction t with
  | var x => simp [lamsOf]
  | lam x b ih => simp only [lamsOf, Tm.size, List.length_cons]; omega
  | app f a _ _ => simp [lamsOf]
theorem bodyOf_ok (t : Tm) (h : t.ok) : (bodyOf t).ok := by
  induction t with
  | var x => exact h
  | lam x b ih => exact ih h.2
  | app f a _ _ => exact h

set_option maxRecDepth 100000 in
set_option maxHeartbeats 2000000 in
theorem l1Body_any (t : Tm) (hok : t.ok) (v : Value) (w : World) (P : Nat → Prop) (ht : TAt w P (tmTr t) v) (hP : ∀ b, P b → b < w.heap.size) (hsz : t.size ≤ 10000) :
    Calls Try.prog 35 #[v] w (BdPost w P t) := by
  obtain ⟨A, n, c, rfl⟩ := ht.two
  have HP := Lib.hid hP
  have HT := Lib.hid ht
  have hls := lamsOf_size t
  clear hP ht
  go_enter Try.func35, Try.ntmps35
  go_wp2
  go_loopg [4] t.size (fun q mv wr => ∃ t' m A n c, q = t'.size ∧ mv = .int .i64 ((m : Nat) : Int) ∧ m ≤ 10000 ∧ Hid (BdR w P t t' m (.string ⟨(tmTr t').atom.toArray⟩) (.slice A n c) wr))
  case atStart =>
    refine ⟨t, 0, A, n, c, rfl, rfl, by omega, Lib.hid ⟨by go_grown, (Blk.new _ _ _).alloc _, ?_, (HT.out.alloc HP.out _).alloc (fun q hq => by have := HP.out q hq; simp; omega) _, hok, by simp, rfl⟩⟩
    have := Blk.new (w.alloc (.cells #[.string ⟨(tmTr t).atom.toArray⟩, .slice A n c] 35)) 35 #[.string ⟨#[]⟩, .slice none 0 0]
    simpa using this
  case round =>
    obtain ⟨t', m, A, n, c, hq, rfl, hm, HR⟩ := hrel
    have HQ := Lib.hid hq
    clear hq
    have c0 := HR.out.box.cell 0
    have c1 := HR.out.box.cell 1
    have bl := HR.out.box.lt
    have hzb := HR.out.below.size
    have hPr : Hid (∀ b, P b → b < wr.heap.size) := Lib.hid fun b hb => by have := HP.out b hb; omega
    simp at c0 c1
    have hml : m ≤ t.size := by have := HR.out.num; omega
    go_wp2_with fail
    refine (l1Head_tm t' HR.out.ok _ _ P HR.out.tree hPr.out).mono ?_
    rintro e w1 ⟨rfl, hb1⟩
    have HB1 := Lib.hid hb1
    have box1 := HR.out.box.below hb1 bl
    have res1 := HR.out.res.below hb1 HR.out.res.lt
    have d0 := box1.cell 0
    have d1 := box1.cell 1
    have f0 := box1.frozen 0
    have f1 := box1.frozen 1
    have bl1 := box1.lt
    have rl1 := res1.lt
    have r0 := res1.cell 0
    have r1 := res1.cell 1
    have rf0 := res1.frozen 0
    have rf1 := res1.frozen 1
    simp at d0 d1 r0 r1
    have HT1 := Lib.hid (HR.out.tree.below hb1 hPr.out)
    have HBX := Lib.hid box1
    have HRS := Lib.hid res1
    clear hb1 box1 res1 c0 c1
    by_cases hl : ∃ x d, t' = .lam x d
    · obtain ⟨x, d, rfl⟩ := hl
      have hh : (hdOf (.lam x d) == [108, 97, 109]) = true := rfl
      obtain ⟨g, cap, A0, A1, A2, n0, c0, n1, c1, n2, c2, he, hcap, h3⟩ := HT1.out.three
      simp at he
      obtain ⟨hA, hN, hC⟩ := he.2
      subst hA hN hC
      have k4 := h3.k4
      have k5 := h3.k5
      have H3 := Lib.hid h3
      clear h3
      have hmm : m + 1 ≤ (lamsOf t).length := by have := HR.out.num; simp only [lamsOf, List.length_cons] at this; omega
      go_wp2
      go_roundg d.size
      case rel =>
        refine ⟨d, m + 1, A2, n2, c2, rfl, by go_num, by omega, Lib.hid ⟨?_, res_set HBX.out _ _, (HRS.out.far (by simp) _).far (by simp) _, ?_, HR.out.ok.2, ?_, HR.out.body⟩⟩
        · exact ((HR.out.below.trans (HB1.out.mono hzb)).setCell (p := ⟨w.heap.size, 0, none⟩) (by simp) _).setCell (p := ⟨w.heap.size, 1, none⟩) (by simp) _
        · exact H3.out.t2.mono fun b hb => ⟨hb, fun o => by
            have hbw := HP.out b hb
            rw [World.cell?_setCell_other _ _ _ _ (by intro e; injection e with e; omega), World.cell?_setCell_other _ _ _ _ (by intro e; injection e with e; omega)]⟩
        · have := HR.out.num; simp only [lamsOf, List.length_cons] at this; omega
      case measure => have := HQ.out; simp only [Tm.size] at this; omega
    · have hh : (hdOf t' == [108, 97, 109]) = false := by
        cases t' with
        | lam x d => exact absurd ⟨x, d, rfl⟩ hl
        | var x => rfl
        | app f a => rfl
      have hbd : bodyOf t' = t' ∧ lamsOf t' = [] := by
        cases t' with
        | lam x d => exact absurd ⟨x, d, rfl⟩ hl
        | var x => exact ⟨rfl, rfl⟩
        | app f a => exact ⟨rfl, rfl⟩
      have HBD := Lib.hid hbd
      clear hbd hl
      go_wp2
      go_region
      all_goals
        go_wp2
        have hW : Blk (((w1.setCell ⟨w.heap.size + 1, 0, none⟩ (.string ⟨(tmTr t').atom.toArray⟩)).setCell ⟨w.heap.size + 1, 1, none⟩ (.slice A n c)).drew) (w.heap.size + 1) 35 #[.string ⟨(tmTr t').atom.toArray⟩, .slice A n c] := (res_set HRS.out _ _).drew
        have g0 := hW.cell 0
        have g1 := hW.cell 1
        simp only [List.getElem?_toArray, List.getElem?_cons_zero, List.getElem?_cons_succ] at g0 g1
        refine bodyPost_ret (v := .tuple #[.int .i64 m, .agg #[.string ⟨(tmTr t').atom.toArray⟩, .slice A n c]]) (by simp [results, Try.results35, go_sem, g0, g1]) rfl ?_
        have hmm : m = (lamsOf t).length := by have := HR.out.num; rw [HBD.out.2] at this; simpa using this
        refine ⟨_, by rw [hmm], ?_, ?_⟩
        · rw [← HR.out.body, HBD.out.1]
          exact HT1.out.mono fun b hb => ⟨hb, fun o => by
            have hbw := HP.out b hb
            show ((w1.setCell _ _).setCell _ _).cell? _ = _
            rw [World.cell?_setCell_other _ _ _ _ (by intro e; injection e with e; omega), World.cell?_setCell_other _ _ _ _ (by intro e; injection e with e; omega)]⟩
        · exact (((HR.out.below.trans (HB1.out.mono hzb)).setCell (p := ⟨w.heap.size + 1, 0, none⟩) (by simp) _).setCell (p := ⟨w.heap.size + 1, 1, none⟩) (by simp) _).drew
end Go.Proofs.Ytgceephloklpbac
