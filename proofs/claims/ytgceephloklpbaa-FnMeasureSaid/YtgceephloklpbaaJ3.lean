/- The model goes within all lam around. The model takes the second terms on the left. The model's kinds, steps of a kind, normal terms, measures, counts of redexes. The model counts redexes. The model's size of a term. The model's measures, neutral terms and numbers of redexes. The model's answers: Measure, NeutralIs, RedexCount. -/
import Derived.Test.YtgceephloklpbaaJ2
import Derived.RegionTactic
import Derived.BigRegion
import Derived.Deep.LoopGhost
import Derived.Test.YtgceephloklpbaaH
import Derived.Test.YtgceephloklpbaaF1
import Derived.Laws.OwnMore
import Derived.Test.YtgceephloklpbaaG
import Derived.Test.YtgceephloklpbaaR0
namespace Go.Proofs.Ytgceephloklpbaa
set_option linter.unusedVariables false
open Go.RowKit

theorem TAt.two {w : World} {P : Nat → Prop} {t : Tr} {v : Value} (h : TAt w P t v) : ∃ A n c, v = .agg #[.string ⟨t.atom.toArray⟩, .slice A n c] := h.shape

/-- On the way within. -/
structure BdR (w : World) (P : Nat → Prop) (t t' : Tm) (m : Nat) (a p : Value) (wr : World) : Prop where
  below : Below w.heap.size w wr
  box : Blk wr w.heap.size 32 #[a, p]
  res : Blk wr (w.heap.size + 1) 32 #[.string ⟨#[]⟩, .slice none 0 0]
  tree : TAt wr P (tmTr t') (.agg #[a, p])
  ok : t'.ok
  num : m + (lamsOf t').length = (lamsOf t).length
  body : bodyOf t' = bodyOf t

def BdPost (w : World) (P : Nat → Prop) (t : Tm) (e : Ending) (w' : World) : Prop :=
  ∃ v, e = .returned (.tuple #[.int .i64 (lamsOf t).length, v]) ∧ TAt w' P (tmTr (bodyOf t)) v ∧ Below w.heap.size w w'

theorem lamsOf_size (t : Tm) : (lamsOf t).length ≤ t.size := by
  induction t with
  | var x => simp [lamsOf]
  | lam x b ih => simp only [lamsOf, Tm.size, List.length_cons]; omega
  | app f a _ _ => simp [lamsOf]
theorem bodyOf_ok (t : Tm) (h : t.ok) : (bodyOf t).ok := by
  induction t with
  | var x => exact h
  | lam x b ih => exact ih h.2
  | app f a _ _ => exact h

set_option maxRecDepth 100000 in
set_option maxHeartbeats 2000000 in
theorem l1Body_any (t : Tm) (hok : t.ok) (v : Value) (w : World) (P : Nat → Prop) (ht : TAt w P (tmTr t) v) (hP : ∀ b, P b → b < w.heap.size) (hsz : t.size ≤ 10000) :
    Calls Try.prog 40 #[v] w (BdPost w P t) := by
  obtain ⟨A, n, c, rfl⟩ := ht.two
  have HP := Lib.hid hP
  have HT := Lib.hid ht
  have hls := lamsOf_size t
  clear hP ht
  go_enter Try.func40, Try.ntmps40
  go_wp2
  go_loopg [4] t.size (fun q mv wr => ∃ t' m A n c, q = t'.size ∧ mv = .int .i64 ((m : Nat) : Int) ∧ m ≤ 10000 ∧ Hid (BdR w P t t' m (.string ⟨(tmTr t').atom.toArray⟩) (.slice A n c) wr))
  case atStart =>
    refine ⟨t, 0, A, n, c, rfl, rfl, by omega, Lib.hid ⟨by go_grown, (Blk.new _ _ _).alloc _, ?_, (HT.out.alloc HP.out _).alloc (fun q hq => by have := HP.out q hq; simp; omega) _, hok, by simp, rfl⟩⟩
    have := Blk.new (w.alloc (.cells #[.string ⟨(tmTr t).atom.toArray⟩, .slice A n c] 32)) 32 #[.string ⟨#[]⟩, .slice none 0 0]
    simpa using this
  case round =>
    obtain ⟨t', m, A, n, c, hq, rfl, hm, HR⟩ := hrel
    have HQ := Lib.hid hq
    clear hq
    have c0 := HR.out.box.cell 0
    have c1 := HR.out.box.cell 1
    have bl := HR.out.box.lt
    have hzb := HR.out.below.size
    have hPr : Hid (∀ b, P b → b < wr.heap.size) := Lib.hid fun b hb => by have := HP.out b hb; omega
    simp at c0 c1
    have hml : m ≤ t.size := by have := HR.out.num; omega
    go_wp2_with fail
    refine (l1Head_tm t' HR.out.ok _ _ P HR.out.tree hPr.out).mono ?_
    rintro e w1 ⟨rfl, hb1⟩
    have HB1 := Lib.hid hb1
    have box1 := HR.out.box.below hb1 bl
    have res1 := HR.out.res.below hb1 HR.out.res.lt
    have d0 := box1.cell 0
    have d1 := box1.cell 1
    have f0 := box1.frozen 0
    have f1 := box1.frozen 1
    have bl1 := box1.lt
    have rl1 := res1.lt
    have r0 := res1.cell 0
    have r1 := res1.cell 1
    have rf0 := res1.frozen 0
    have rf1 := res1.frozen 1
    simp at d0 d1 r0 r1
    have HT1 := Lib.hid (HR.out.tree.below hb1 hPr.out)
    have HBX := Lib.hid box1
    have HRS := Lib.hid res1
    clear hb1 box1 res1 c0 c1
    by_cases hl : ∃ x d, t' = .lam x d
    · obtain ⟨x, d, rfl⟩ := hl
      have hh : (hdOf (.lam x d) == [108, 97, 109]) = true := rfl
      obtain ⟨g, cap, A0, A1, A2, n0, c0, n1, c1, n2, c2, he, hcap, h3⟩ := HT1.out.three
      simp at he
      obtain ⟨hA, hN, hC⟩ := he.2
      subst hA hN hC
      have k4 := h3.k4
      have k5 := h3.k5
      have H3 := Lib.hid h3
      clear h3
      have hmm : m + 1 ≤ (lamsOf t).length := by have := HR.out.num; simp only [lamsOf, List.length_cons] at this; omega
      go_wp2
      go_roundg d.size
      case rel =>
        refine ⟨d, m + 1, A2, n2, c2, rfl, by go_num, by omega, Lib.hid ⟨?_, res_set HBX.out _ _, (HRS.out.far (by simp) _).far (by simp) _, ?_, HR.out.ok.2, ?_, HR.out.body⟩⟩
        · exact ((HR.out.below.trans (HB1.out.mono hzb)).setCell (p := ⟨w.heap.size, 0, none⟩) (by simp) _).setCell (p := ⟨w.heap.size, 1, none⟩) (by simp) _
        · exact H3.out.t2.mono fun b hb => ⟨hb, fun o => by
            have hbw := HP.out b hb
            rw [World.cell?_setCell_other _ _ _ _ (by intro e; injection e with e; omega), World.cell?_setCell_other _ _ _ _ (by intro e; injection e with e; omega)]⟩
        · have := HR.out.num; simp only [lamsOf, List.length_cons] at this; omega
      case measure => have := HQ.out; simp only [Tm.size] at this; omega
    · have hh : (hdOf t' == [108, 97, 109]) = false := by
        cases t' with
        | lam x d => exact absurd ⟨x, d, rfl⟩ hl
        | var x => rfl
        | app f a => rfl
      have hbd : bodyOf t' = t' ∧ lamsOf t' = [] := by
        cases t' with
        | lam x d => exact absurd ⟨x, d, rfl⟩ hl
        | var x => exact ⟨rfl, rfl⟩
        | app f a => exact ⟨rfl, rfl⟩
      have HBD := Lib.hid hbd
      clear hbd hl
      go_wp2
      go_region
      all_goals
        go_wp2
        have hW : Blk (((w1.setCell ⟨w.heap.size + 1, 0, none⟩ (.string ⟨(tmTr t').atom.toArray⟩)).setCell ⟨w.heap.size + 1, 1, none⟩ (.slice A n c)).drew) (w.heap.size + 1) 32 #[.string ⟨(tmTr t').atom.toArray⟩, .slice A n c] := (res_set HRS.out _ _).drew
        have g0 := hW.cell 0
        have g1 := hW.cell 1
        simp only [List.getElem?_toArray, List.getElem?_cons_zero, List.getElem?_cons_succ] at g0 g1
        refine bodyPost_ret (v := .tuple #[.int .i64 m, .agg #[.string ⟨(tmTr t').atom.toArray⟩, .slice A n c]]) (by simp [results, Try.results40, go_sem, g0, g1]) rfl ?_
        have hmm : m = (lamsOf t).length := by have := HR.out.num; rw [HBD.out.2] at this; simpa using this
        refine ⟨_, by rw [hmm], ?_, ?_⟩
        · rw [← HR.out.body, HBD.out.1]
          exact HT1.out.mono fun b hb => ⟨hb, fun o => by
            have hbw := HP.out b hb
            show ((w1.setCell _ _).setCell _ _).cell? _ = _
            rw [World.cell?_setCell_other _ _ _ _ (by intro e; injection e with e; omega), World.cell?_setCell_other _ _ _ _ (by intro e; injection e with e; omega)]⟩
        · exact (((HR.out.below.trans (HB1.out.mono hzb)).setCell (p := ⟨w.heap.size + 1, 0, none⟩) (by simp) _).setCell (p := ⟨w.heap.size + 1, 1, none⟩) (by simp) _).drew
end Go.Proofs.Ytgceephloklpbaa

namespace Go.Proofs.Ytgceephloklpbaa
set_option linter.unusedVariables false
open Go.RowKit

theorem VsAt.one {w : World} {P : Nat → Prop} {ts : List Tr} {xs : List Value} (h : VsAt w P ts xs) : ∀ u ∈ xs, u.oneCell' = true := by
  induction ts generalizing xs with
  | nil => unfold VsAt at h; subst h; simp
  | cons t ts ih =>
    unfold VsAt at h
    obtain ⟨a, b, r, rfl, h1, h2⟩ := h
    obtain ⟨A, n, c, e⟩ := h1.shape
    simp at e
    obtain ⟨rfl, rfl⟩ := e
    intro u hu
    rcases List.mem_cons.1 hu with rfl | hu
    · rfl
    · rcases List.mem_cons.1 hu with rfl | hu
      · rfl
      · exact ih h2 u hu
theorem VsAt.cons {w : World} {P : Nat → Prop} {t : Tr} {ts : List Tr} {a b : Value} {xs : List Value} (h1 : TAt w P t (.agg #[a, b])) (h2 : VsAt w P ts xs) : VsAt w P (t :: ts) (a :: b :: xs) := by
  unfold VsAt
  exact ⟨a, b, xs, rfl, h1, h2⟩

/-- On the way to the left. -/
structure SpR (w : World) (P : Nat → Prop) (t t' : Tm) (us : List Tm) (a p : Value) (ga ca : Nat) (xs : List Value) (wr : World) : Prop where
  below : Below w.heap.size w wr
  box : Blk wr w.heap.size 32 #[a, p]
  res : Blk wr (w.heap.size + 1) 32 #[.string ⟨#[]⟩, .slice none 0 0]
  tree : TAt wr P (tmTr t') (.agg #[a, p])
  ok : t'.ok
  own : wr.ownsRow (w.heap.size + 2) 32 2 (.slice (some ⟨ga, 0, none⟩) us.length ca) us.length xs
  trees : VsAt wr P (us.map tmTr) xs
  args : argsOf t = argsOf t' ++ us
  first : firstOf t = firstOf t'
  le : us.length + t'.size ≤ t.size

def SpPost (w : World) (P : Nat → Prop) (t : Tm) (e : Ending) (w' : World) : Prop :=
  ∃ v ga ca xs, e = .returned (.tuple #[v, .slice (some ⟨ga, 0, none⟩) (argsOf t).length ca]) ∧ TAt w' P (tmTr (firstOf t)) v ∧ w'.ownsRow (w.heap.size + 2) 32 2 (.slice (some ⟨ga, 0, none⟩) (argsOf t).length ca) (argsOf t).length xs ∧
    VsAt w' P ((argsOf t).map tmTr) xs ∧ Below w.heap.size w w'

theorem argsOf_ok (t : Tm) (h : t.ok) : ∀ a ∈ argsOf t, a.ok := by
  induction t with
  | var x => simp [argsOf]
  | lam x b _ => simp [argsOf]
  | app f a ihf _ =>
    intro c hc
    simp only [argsOf, List.mem_append, List.mem_singleton] at hc
    rcases hc with hc | rfl
    · exact ihf h.1 c hc
    · exact h.2
theorem firstOf_ok (t : Tm) (h : t.ok) : (firstOf t).ok := by
  induction t with
  | var x => exact h
  | lam x b _ => exact h
  | app f a ihf _ => exact ihf h.1

set_option maxRecDepth 100000 in
set_option maxHeartbeats 4000000 in
theorem l1Spine_any (t : Tm) (hok : t.ok) (v : Value) (w : World) (P : Nat → Prop) (ht : TAt w P (tmTr t) v) (hP : ∀ b, P b → b < w.heap.size) (hsz : t.size ≤ 8000) :
    Calls Try.prog 41 #[v] w (SpPost w P t) := by
  obtain ⟨A, n, c, rfl⟩ := ht.two
  obtain ⟨i0, hinf, hz0, hzs, hzb⟩ := info_parts Try.infoTree
  have HP := Lib.hid hP
  have HT := Lib.hid ht
  clear hP ht
  go_enter Try.func41, Try.ntmps41
  go_wp2
  go_loopg [4] t.size (fun q sv wr => ∃ t' us A n c ga ca xs, q = t'.size ∧ sv = .slice (some ⟨ga, 0, none⟩) us.length ca ∧ Hid (SpR w P t t' us (.string ⟨(tmTr t').atom.toArray⟩) (.slice A n c) ga ca xs wr))
  case atStart =>
    refine ⟨t, [], A, n, c, w.heap.size + 2, 0, [], rfl, rfl, Lib.hid ⟨by go_grown, ((Blk.new _ _ _).alloc _).alloc _, ?_, ?_, hok, ?_, by unfold VsAt; rfl, by simp, rfl, by simp⟩⟩
    · have := Blk.new (w.alloc (.cells #[.string ⟨(tmTr t).atom.toArray⟩, .slice A n c] 32)) 32 #[.string ⟨#[]⟩, .slice none 0 0]
      exact (show Blk _ (w.heap.size + 1) _ _ by simpa using this).alloc _
    · exact ((HT.out.alloc HP.out _).alloc (fun q hq => by have := HP.out q hq; simp; omega) _).alloc (fun q hq => by have := HP.out q hq; simp; omega) _
    · have h := World.ownsRow_made (base := w.heap.size + 2) (e := 32) (size := 2) ((w.alloc (.cells #[.string ⟨(tmTr t).atom.toArray⟩, .slice A n c] 32)).alloc (.cells #[.string ⟨#[]⟩, .slice none 0 0] 32)) #[] 0 (by simp) (Nat.zero_le _) rfl
      simpa using h
  case round =>
    obtain ⟨t', us, A, n, c, ga, ca, xs, hq, rfl, HR⟩ := hrel
    have HQ := Lib.hid hq
    clear hq
    have c0 := HR.out.box.cell 0
    have c1 := HR.out.box.cell 1
    have bl := HR.out.box.lt
    have hzw := HR.out.below.size
    have hPr : Hid (∀ b, P b → b < wr.heap.size) := Lib.hid fun b hb => by have := HP.out b hb; omega
    simp at c0 c1
    go_wp2_with fail
    refine (l1Head_tm t' HR.out.ok _ _ P HR.out.tree hPr.out).mono ?_
    rintro e w1 ⟨rfl, hb1⟩
    have HB1 := Lib.hid hb1
    have box1 := HR.out.box.below hb1 bl
    have res1 := HR.out.res.below hb1 HR.out.res.lt
    have d0 := box1.cell 0
    have d1 := box1.cell 1
    have f0 := box1.frozen 0
    have f1 := box1.frozen 1
    have bl1 := box1.lt
    have rl1 := res1.lt
    have r0 := res1.cell 0
    have r1 := res1.cell 1
    have rf0 := res1.frozen 0
    have rf1 := res1.frozen 1
    simp at d0 d1 r0 r1
    have hz1 := hb1.size
    have HT1 := Lib.hid (HR.out.tree.below hb1 hPr.out)
    have HVS := Lib.hid (HR.out.trees.below hb1 hPr.out)
    have HOW := Lib.hid (HR.out.own.kept (grown_of_below hb1 none) (.inr (by simp [Value.ownBlock])))
    have HBX := Lib.hid box1
    have HRS := Lib.hid res1
    clear hb1 box1 res1 c0 c1
    by_cases hl : ∃ f a, t' = .app f a
    · obtain ⟨f, a, rfl⟩ := hl
      have hh : (hdOf (.app f a) == [97, 112, 112]) = true := rfl
      obtain ⟨g, cap, A0, A1, A2, n0, c0, n1, c1, n2, c2, he, hcap, h3⟩ := HT1.out.three
      simp at he
      obtain ⟨hA, hN, hC⟩ := he.2
      subst hA hN hC
      have k2 := h3.k2
      have k3 := h3.k3
      have k4 := h3.k4
      have k5 := h3.k5
      have hgb : g < w.heap.size := HP.out g h3.pg
      have H3 := Lib.hid h3
      clear h3
      have hle := HR.out.le
      simp only [Tm.size] at hle
      have hxl : xs.length = us.length * 2 := HR.out.own.1
      have HXL := Lib.hid hxl
      clear hxl
      have hlit : (w1.alloc (.cells #[.string ⟨(tmTr a).atom.toArray⟩, .slice A2 n2 c2] 32)).ownsRow (w.heap.size + 2) 32 2 (.slice (some ⟨w1.heap.size, 0, none⟩) 1 1) 1 [.string ⟨(tmTr a).atom.toArray⟩, .slice A2 n2 c2] :=
        World.ownsRow_lit w1 #[.string ⟨(tmTr a).atom.toArray⟩, .slice A2 n2 c2] 1 (by omega) (by unfold maxLen; omega) rfl
      have hnews : ∀ j u, xs[j]? = some u → (w1.alloc (.cells #[.string ⟨(tmTr a).atom.toArray⟩, .slice A2 n2 c2] 32)).cell? ((⟨ga, 0, none⟩ : Addr).add j) = some u := by
        intro j u hu
        rw [add_off]
        have h1 := HOW.out.cells (g := ga) rfl j u hu
        rw [add_off] at h1
        have h2 := HOW.out.lt ga rfl
        rw [World.cell?_alloc_lt _ _ _ h2.2]
        exact h1
      have HLIT := Lib.hid hlit
      have HNEWS := Lib.hid hnews
      clear hlit hnews
      go_wp2_with (first
        | (at_builtin
           refine wpList_append_own_at _ rfl (.tmp 13) (.tmp 14) 30 rfl (w.heap.size + 2) 32 i0 (.agg #[.string ⟨#[]⟩, .slice none 0 0]) 2 40 Try.underlying30 hinf hz0 hzs hzb rfl (by decide) (.slice (some ⟨w1.heap.size, 0, none⟩) 1 1) 1 [.string ⟨(tmTr a).atom.toArray⟩, .slice A2 n2 c2] rfl HLIT.out ⟨ga, 0, none⟩ us.length ca xs rfl HXL.out ?_ ?_ ?_ ?_ ?_ ?_
           · exact HNEWS.out
           · exact HVS.out.one
           · unfold maxLen; omega
           · omega
           · simp; omega
           intro v2 w2 hown2 hg2 _ hat2
           have hz2 := hg2.size
           simp at hz2
           have hne : ∀ q, q < w1.heap.size → some q ≠ (Value.slice (some ⟨w1.heap.size, 0, none⟩) 1 1).ownBlock := fun q hq e => by simp [Value.ownBlock] at e; omega
           have hkp : ∀ q, q < w1.heap.size → w2.heap[q]? = w1.heap[q]? := fun q hq => by rw [hg2.block q (by simp; omega) (hne q hq)]; exact Below.heap_alloc _ _ _ hq
           have hc2 : ∀ q o, q < w1.heap.size → w2.cell? ⟨q, o, none⟩ = w1.cell? ⟨q, o, none⟩ := fun q o hq => World.cell?_of_block (hkp q hq)
           have box2 : Blk w2 w.heap.size 32 #[.string ⟨(tmTr (.app f a)).atom.toArray⟩, .slice (some ⟨g, 0, none⟩) 3 c] := (hkp _ bl1).trans HBX.out
           have res2 : Blk w2 (w.heap.size + 1) 32 #[.string ⟨#[]⟩, .slice none 0 0] := (hkp _ rl1).trans HRS.out
           have e0 := box2.cell 0
           have e1 := box2.cell 1
           have ef0 := box2.frozen 0
           have ef1 := box2.frozen 1
           have el := box2.lt
           simp at e0 e1
           have j2 := (hc2 g 2 (by omega)).trans k2
           have j3 := (hc2 g 3 (by omega)).trans k3
           have HBX2 := Lib.hid box2
           have HRS2 := Lib.hid res2
           have HKP := Lib.hid hkp
           have HC2 := Lib.hid hc2
           have HO2 := Lib.hid hown2
           have HG2 := Lib.hid hg2
           have ho' := hown2
           rw [Nat.add_comm 1 us.length] at ho'
           obtain ⟨g2, c2', hv2, hg2b⟩ := own_some ho'
           subst hv2
           clear box2 res2 hkp hc2 hown2 hg2 hne ho' d0 d1 f0 f1 r0 r1 rf0 rf1 hat2)
        | fail)
      go_wp2
      go_roundg f.size
      case rel =>
        have hc : ∀ q o, P q → ((w2.setCell ⟨w.heap.size, 0, none⟩ (.string ⟨(tmTr f).atom.toArray⟩)).setCell ⟨w.heap.size, 1, none⟩ (.slice A1 n1 c1)).cell? ⟨q, o, none⟩ = w1.cell? ⟨q, o, none⟩ := fun q o hq => by
          have hbw := HP.out q hq
          rw [World.cell?_setCell_other _ _ _ _ (by intro e; injection e with e; omega), World.cell?_setCell_other _ _ _ _ (by intro e; injection e with e; omega)]
          exact HC2.out q o (by omega)
        refine ⟨f, a :: us, A1, n1, c1, g2, c2', .string ⟨(tmTr a).atom.toArray⟩ :: .slice A2 n2 c2 :: xs, rfl, rfl, Lib.hid ⟨?_, res_set HBX2.out _ _, (HRS2.out.far (by simp) _).far (by simp) _, ?_, HR.out.ok.1, ?_, ?_, ?_, ?_, ?_⟩⟩
        · refine Below.setCell (p := ⟨w.heap.size, 1, none⟩) (Below.setCell (p := ⟨w.heap.size, 0, none⟩) ?_ (by simp) _) (by simp) _
          exact ((HR.out.below.trans (HB1.out.mono hzw)).alloc (by omega) _).grown HG2.out (by simp; omega) (fun k e => by simp [Value.ownBlock] at e; omega)
        · exact H3.out.t1.mono fun b hb => ⟨hb, fun o => hc b o hb⟩
        · have h := HO2.out
          rw [Nat.add_comm 1 us.length] at h
          exact ownsRow_far (ownsRow_far h (by simp [Value.ownBlock]; omega) _) (by simp [Value.ownBlock]; omega) _
        · exact VsAt.cons (H3.out.t2.mono fun b hb => ⟨hb, fun o => hc b o hb⟩) (HVS.out.mono fun b hb => ⟨hb, fun o => hc b o hb⟩)
        · rw [HR.out.args]; simp [argsOf]
        · rw [HR.out.first]; rfl
        · simp; omega
      case measure => have := HQ.out; simp only [Tm.size] at this; omega
    · have hh : (hdOf t' == [97, 112, 112]) = false := by
        cases t' with
        | app f a => exact absurd ⟨f, a, rfl⟩ hl
        | var x => rfl
        | lam x d => rfl
      have hbd : argsOf t' = [] ∧ firstOf t' = t' := by
        cases t' with
        | app f a => exact absurd ⟨f, a, rfl⟩ hl
        | var x => exact ⟨rfl, rfl⟩
        | lam x d => exact ⟨rfl, rfl⟩
      have HBD := Lib.hid hbd
      clear hbd hl
      go_wp2
      have hW : Blk ((w1.setCell ⟨w.heap.size + 1, 0, none⟩ (.string ⟨(tmTr t').atom.toArray⟩)).setCell ⟨w.heap.size + 1, 1, none⟩ (.slice A n c)) (w.heap.size + 1) 32 #[.string ⟨(tmTr t').atom.toArray⟩, .slice A n c] := res_set HRS.out _ _
      have g0 := hW.cell 0
      have g1 := hW.cell 1
      simp only [List.getElem?_toArray, List.getElem?_cons_zero, List.getElem?_cons_succ] at g0 g1
      refine bodyPost_ret (v := .tuple #[.agg #[.string ⟨(tmTr t').atom.toArray⟩, .slice A n c], .slice (some ⟨ga, 0, none⟩) us.length ca]) (by simp [results, Try.results41, go_sem, g0, g1]) rfl ?_
      have hus : argsOf t = us := by have := HR.out.args; rw [HBD.out.1] at this; simpa using this
      have hc : ∀ q o, P q → ((w1.setCell ⟨w.heap.size + 1, 0, none⟩ (.string ⟨(tmTr t').atom.toArray⟩)).setCell ⟨w.heap.size + 1, 1, none⟩ (.slice A n c)).cell? ⟨q, o, none⟩ = w1.cell? ⟨q, o, none⟩ := fun q o hq => by
        have hbw := HP.out q hq
        rw [World.cell?_setCell_other _ _ _ _ (by intro e; injection e with e; omega), World.cell?_setCell_other _ _ _ _ (by intro e; injection e with e; omega)]
      refine ⟨_, ga, ca, xs, by rw [hus], ?_, ?_, ?_, ?_⟩
      · rw [HR.out.first, HBD.out.2]
        exact HT1.out.mono fun b hb => ⟨hb, fun o => hc b o hb⟩
      · rw [hus]
        have hgl := (HOW.out.lt ga rfl).1
        exact ownsRow_far (ownsRow_far HOW.out (by simp [Value.ownBlock]; omega) _) (by simp [Value.ownBlock]; omega) _
      · rw [hus]
        exact HVS.out.mono fun b hb => ⟨hb, fun o => hc b o hb⟩
      · exact ((HR.out.below.trans (HB1.out.mono hzw)).setCell (p := ⟨w.heap.size + 1, 0, none⟩) (by simp) _).setCell (p := ⟨w.heap.size + 1, 1, none⟩) (by simp) _
end Go.Proofs.Ytgceephloklpbaa

namespace Go.Proofs.Ytgceephloklpbaa
set_option linter.unusedVariables false
open Go.RowKit

def kindT (k : Bool) : List UInt8 := if k then [104, 101, 97, 100] else [102, 117, 108, 108]
def rdKind (x : List UInt8) : Option Bool := if x = [104, 101, 97, 100] then some true else if x = [102, 117, 108, 108] then some false else none
theorem rdKind_some (x : List UInt8) (k : Bool) (h : rdKind x = some k) : x = kindT k := by
  unfold rdKind at h
  split at h
  · injection h with h; subst h; assumption
  · split at h
    · injection h with h; subst h; assumption
    · cases h
theorem rdKind_beq (x : List UInt8) (k : Bool) (h : rdKind x = some k) : (x == [104, 101, 97, 100]) = k ∧ (x == [102, 117, 108, 108]) = !k := by
  have := rdKind_some x k h
  subst this
  cases k <;> exact ⟨rfl, rfl⟩
theorem rdKind_no (x : List UInt8) (h : rdKind x = none) : (x == [104, 101, 97, 100]) = false ∧ (x == [102, 117, 108, 108]) = false := by
  unfold rdKind at h
  split at h
  · cases h
  · split at h
    · cases h
    · exact ⟨beq_eq_false_iff_ne.2 (by assumption), beq_eq_false_iff_ne.2 (by assumption)⟩
theorem l2Kind_any (x : List UInt8) (w : World) :
    Calls Try.prog 20 #[.string ⟨x.toArray⟩] w fun e w' => e = .returned (.bool (rdKind x).isSome) ∧ w' = w := by
  cases h : rdKind x with
  | none =>
    obtain ⟨h1, h2⟩ := rdKind_no x h
    go_enter Try.func20, Try.ntmps20
    go_wp2
    go_ret
    exact ⟨rfl, rfl⟩
  | some k =>
    obtain ⟨h1, h2⟩ := rdKind_beq x k h
    cases k
    all_goals
      simp only [Bool.not_true, Bool.not_false] at h1 h2
      go_enter Try.func20, Try.ntmps20
      go_wp2
      go_ret
      exact ⟨rfl, rfl⟩

set_option maxRecDepth 100000 in
set_option maxHeartbeats 1000000 in
theorem l2Step_any (k : Bool) (x : List UInt8) (hk : rdKind x = some k) (t : Tm) (v : Value) (w : World) (P : Nat → Prop) (hok : t.ok) (hat : t.atoms ≤ 400) (ht : TAt w P (tmTr t) v) (hP : ∀ b, P b → b < w.heap.size) :
    Calls Try.prog 21 #[.string ⟨x.toArray⟩, v] w (StPost P (tmTr (stepR k t).1) (stepR k t).2 w) := by
  obtain ⟨A, m, n, e⟩ := ht.shape
  generalize (tmTr t).atom = at0 at e
  subst e
  obtain ⟨h1, h2⟩ := rdKind_beq x k hk
  have K0 := Lib.hid (HKp.start ht hP)
  have CH := Lib.hid (l2Head_any t _ _ P hok hat K0.out.tr K0.out.lo)
  have CF := Lib.hid (l2Full_any t _ _ P hok hat K0.out.tr K0.out.lo)
  clear ht hP hk
  cases k
  · have HE : Hid (stepR false t = fullT t) := Lib.hid rfl
    generalize stepR false t = rr at HE
    generalize fullT t = r at HE CF
    obtain ⟨r1, r2⟩ := r
    simp only [Bool.not_false] at h1 h2
    go_enter Try.func21, Try.ntmps21
    go_wp2_with fail
    refine CF.out.mono ?_
    rintro e w2 ⟨u, B, p, q, rfl, ht2, hb2⟩
    have hk2 := K0.out.below hb2
    have hr2 := HTr.of_new K0.out ht2
    obtain ⟨b0, b1, s0, s1, f0, f1, rl⟩ := hk2.cells
    have HK2 := Lib.hid hk2
    have HR2 := Lib.hid hr2
    clear ht2 hk2 hb2 hr2
    go_wp2_with fail
    obtain ⟨hd1, hd2, hd3⟩ := HK2.out.done HR2.out
    have y0 := hd1.cell 0
    have y1 := hd1.cell 1
    simp only [List.getElem?_toArray, List.getElem?_cons_zero, List.getElem?_cons_succ] at y0 y1
    refine bodyPost_ret (v := .tuple #[.agg #[.string ⟨u.toArray⟩, .slice B p q], .int .i64 r2]) (by simp [results, Try.results21, go_sem, y0, y1]) rfl ?_
    exact ⟨_, _, _, _, by rw [HE.out], by rw [HE.out]; exact hd2, hd3⟩
  · have HE : Hid (stepR true t = headT t) := Lib.hid rfl
    generalize stepR true t = rr at HE
    generalize headT t = r at HE CH
    obtain ⟨r1, r2⟩ := r
    simp only [Bool.not_true] at h1 h2
    go_enter Try.func21, Try.ntmps21
    go_wp2_with fail
    refine CH.out.mono ?_
    rintro e w2 ⟨u, B, p, q, rfl, ht2, hb2⟩
    have hk2 := K0.out.below hb2
    have hr2 := HTr.of_new K0.out ht2
    obtain ⟨b0, b1, s0, s1, f0, f1, rl⟩ := hk2.cells
    have HK2 := Lib.hid hk2
    have HR2 := Lib.hid hr2
    clear ht2 hk2 hb2 hr2
    go_wp2_with fail
    obtain ⟨hd1, hd2, hd3⟩ := HK2.out.done HR2.out
    have y0 := hd1.cell 0
    have y1 := hd1.cell 1
    simp only [List.getElem?_toArray, List.getElem?_cons_zero, List.getElem?_cons_succ] at y0 y1
    refine bodyPost_ret (v := .tuple #[.agg #[.string ⟨u.toArray⟩, .slice B p q], .int .i64 r2]) (by simp [results, Try.results21, go_sem, y0, y1]) rfl ?_
    exact ⟨_, _, _, _, by rw [HE.out], by rw [HE.out]; exact hd2, hd3⟩

/-- Whether a text is a term that is normal for a kind. -/
def nmO (k : Option Bool) (o : Option Tm) : Bool := match k, o with
  | some k, some t => decide ((stepR k t).2 = 0)
  | _, _ => false

set_option maxRecDepth 100000 in
set_option maxHeartbeats 1000000 in
theorem specNormalIs_any (x : List UInt8) (s : ByteArray) (w : World) (hm : s.size ≤ maxLen) :
    Calls Try.prog 8 #[.string ⟨x.toArray⟩, .string s] w fun e w' => e = .returned (.bool (nmO (rdKind x) (rdTerm s.data.toList))) ∧ Below w.heap.size w w' := by
  have CK : Hid (∀ w', _) := Lib.hid (fun w' => l2Kind_any x w')
  go_enter Try.func8, Try.ntmps8
  go_wp2_with fail
  refine (l1Term_any s _ hm).mono ?_
  rintro e w1 ⟨hb1, ⟨t, v, hrd, rfl, htr⟩ | ⟨hrd, b, A, n, c, rfl⟩⟩
  · obtain ⟨A, n, c, rfl⟩ := htr.shape
    obtain ⟨hok, hat⟩ := rdTerm_good _ _ hrd
    have HR := Lib.hid hrd
    have HT := Lib.hid (htr.alloc (fun q hq => hq.2) (.cells #[.string ⟨(tmTr t).atom.toArray⟩, .slice A n c] 32))
    have HK := Lib.hid hok
    have HA := Lib.hid hat
    have hB : Below w.heap.size w (w1.alloc (.cells #[.string ⟨(tmTr t).atom.toArray⟩, .slice A n c] 32)) := hb1.alloc hb1.size _
    have HB := Lib.hid hB
    have hz := hb1.size
    cases hk : rdKind x with
    | none =>
      have HN := Lib.hid hk
      rw [hk] at CK
      clear hrd htr hok hat hb1 hk hB
      go_wp2_with fail
      refine (CK.out _).mono ?_
      rintro e w2 ⟨rfl, rfl⟩
      simp only [Option.isSome]
      go_wp2_with fail
      go_ret
      exact ⟨by rw [HN.out]; rfl, HB.out⟩
    | some k =>
      have HN := Lib.hid hk
      rw [hk] at CK
      clear hrd htr hok hat hb1 hk hB
      go_wp2_with fail
      refine (CK.out _).mono ?_
      rintro e w2 ⟨rfl, rfl⟩
      simp only [Option.isSome]
      go_wp2_with fail
      refine (l2Step_any k x HN.out t _ _ _ HK.out HA.out HT.out (fun q hq => by simp; omega)).mono ?_
      rintro e w3 ⟨u, B, p, q, rfl, ht3, hb3⟩
      have hB3 := HB.out.trans (hb3.mono HB.out.size)
      have HB3 := Lib.hid (hB3.alloc hB3.size (.cells #[.string ⟨u.toArray⟩, .slice B p q] 32))
      have HE : Hid (nmO (some k) (rdTerm s.data.toList) = decide ((stepR k t).2 = 0)) := Lib.hid (by rw [HR.out]; rfl)
      clear ht3 hb3 hB3
      generalize (stepR k t).2 = nn at HE ⊢
      by_cases h0 : nn = 0
      · subst h0
        go_wp2_with fail
        go_ret
        exact ⟨by rw [HN.out, HE.out]; rfl, HB3.out⟩
      · have hne : ((nn : Int) == 0) = false := beq_eq_false_iff_ne.2 (by omega)
        go_wp2_with fail
        go_ret
        exact ⟨by rw [HN.out, HE.out, decide_eq_false h0]; rfl, HB3.out⟩
  · have HR := Lib.hid hrd
    have HE : Hid (nmO (rdKind x) (rdTerm s.data.toList) = false) := Lib.hid (by rw [hrd]; cases rdKind x <;> rfl)
    clear hrd
    go_wp2
    go_ret
    exact ⟨ret_bool (by rw [HE.out]), hb1.alloc hb1.size _⟩
end Go.Proofs.Ytgceephloklpbaa

namespace Go.Proofs.Ytgceephloklpbaa
set_option linter.unusedVariables false
open Go.RowKit

theorem reds_le (t : Tm) : t.reds ≤ t.atoms := reds_atoms t
set_option maxRecDepth 100000 in
set_option maxHeartbeats 4000000 in
theorem l2Count_any : ∀ (t : Tm) (v : Value) (w : World) (P : Nat → Prop), t.ok → TAt w P (tmTr t) v → (∀ b, P b → b < w.heap.size) → t.atoms ≤ 10000 →
    Calls Try.prog 28 #[v] w fun e w' => e = .returned (.int .i64 t.reds) ∧ Below w.heap.size w w' := by
  intro t
  induction t with
  | var x =>
    intro v w P hok ht hP hsz
    obtain ⟨A, m, n, e⟩ := ht.shape
    have e : v = .agg #[.string ⟨x.toArray⟩, .slice A m n] := e
    subst e
    have hA := ht.alloc hP (.cells #[.string ⟨x.toArray⟩, .slice A m n] 32)
    have hlo : ∀ b, P b → b < (w.alloc (.cells #[.string ⟨x.toArray⟩, .slice A m n] 32)).heap.size := fun b hb => by have := hP b hb; simp; omega
    have hbx := Blk.new w 32 #[.string ⟨x.toArray⟩, .slice A m n]
    have hB0 : Below w.heap.size w (w.alloc (.cells #[.string ⟨x.toArray⟩, .slice A m n] 32)) := (Below.refl _ _).alloc (Nat.le_refl _) _
    have C1 := Lib.hid (l2Redex_any (.var x) hok _ _ P hA hlo)
    have C2 : Hid (∀ w', Below (w.alloc (.cells #[.string ⟨x.toArray⟩, .slice A m n] 32)).heap.size (w.alloc (.cells #[.string ⟨x.toArray⟩, .slice A m n] 32)) w' → _) := Lib.hid (fun w' h => l1Head_tm (.var x) hok _ w' P (hA.below h hlo) (fun b hb => Nat.lt_of_lt_of_le (hlo b hb) h.size))
    have HB := Lib.hid hbx
    have HB0 := Lib.hid hB0
    clear ht hP hA hlo hbx hB0
    go_enter Try.func28, Try.ntmps28
    go_wp2_with fail
    refine C1.out.mono ?_
    rintro e w1 ⟨rfl, hb1⟩
    have hx := HB.out.below hb1 HB.out.lt
    have x0 := hx.cell 0
    have x1 := hx.cell 1
    have xl := hx.lt
    simp only [List.getElem?_toArray, List.getElem?_cons_zero, List.getElem?_cons_succ] at x0 x1
    have h0 : (Tm.var x).isRdx = false := rfl
    simp only [h0]
    have HB1 := Lib.hid hb1
    clear hb1 hx
    go_wp2_with fail
    refine (C2.out _ HB1.out).mono ?_
    rintro e w2 ⟨rfl, hb2⟩
    have h1 : (hdOf (.var x) == [108, 97, 109]) = false := rfl
    have h2 : (hdOf (.var x) == [97, 112, 112]) = false := rfl
    have HB2 := Lib.hid (HB0.out.trans ((HB1.out.mono (by simp)).trans (hb2.mono (by have := HB1.out.size; simp at this; omega))))
    clear hb2
    go_wp2_with fail
    go_ret
    exact ⟨rfl, HB2.out⟩
  | lam x d ih =>
    intro v w P hok ht hP hsz
    obtain ⟨g, cap, A0, A1, A2, n0, c0, n1, c1, n2, c2, rfl, hcap, h3⟩ := ht.three
    have hgb := hP g h3.pg
    have hA := ht.alloc hP (.cells #[.string ⟨#[]⟩, .slice (some ⟨g, 0, none⟩) 3 cap] 32)
    have hlo : ∀ b, P b → b < (w.alloc (.cells #[.string ⟨#[]⟩, .slice (some ⟨g, 0, none⟩) 3 cap] 32)).heap.size := fun b hb => by have := hP b hb; simp; omega
    have HP := Lib.hid hP
    have IH := Lib.hid ih
    have HOK := Lib.hid hok.2
    have C1 := Lib.hid (l2Redex_any (.lam x d) hok _ _ P hA hlo)
    have a3 := h3.alloc HP.out (.cells #[.string ⟨#[]⟩, .slice (some ⟨g, 0, none⟩) 3 cap] 32)
    have hsz' : d.atoms + 1 ≤ 10000 := by simp only [Tm.atoms] at hsz; omega
    clear ih hP ht hok hsz hA hlo h3
    go_enter Try.func28, Try.ntmps28
    go_wp2_with fail
    refine C1.out.mono ?_
    rintro e w1 ⟨rfl, hb1⟩
    have b3 := a3.below hb1 (fun b hb => by have := HP.out b hb; simp; omega)
    have hr := (Blk.new w 32 #[.string ⟨#[]⟩, .slice (some ⟨g, 0, none⟩) 3 cap]).below hb1 (by simp)
    have hB1 : Below w.heap.size w w1 := ((Below.refl _ _).alloc (Nat.le_refl _) _).trans (hb1.mono (by simp))
    have hlt := hr.lt
    have r0 := hr.cell 0
    have r1 := hr.cell 1
    simp at r0 r1
    have h0 : (Tm.lam x d).isRdx = false := rfl
    simp only [h0]
    have B3 := Lib.hid b3
    have HR := Lib.hid hr
    have HB1 := Lib.hid hB1
    clear b3 hr hb1 a3 hB1
    go_wp2_with fail
    refine (l1Head3 _ P g cap (.mk sLam []) (.mk x []) (tmTr d) A0 A1 A2 n0 c0 n1 c1 n2 c2 B3.out (fun b hb => by have := HP.out b hb; omega)).mono ?_
    rintro e w2 ⟨rfl, hb2⟩
    have b3 := B3.out.below hb2 (fun b hb => by have := HP.out b hb; omega)
    have hr := HR.out.below hb2 HR.out.lt
    have r1' := hr.cell 1
    simp at r1'
    have k4 := b3.k4
    have k5 := b3.k5
    have hl : (sLam == [108, 97, 109]) = true := rfl
    simp only [Tr.atom]
    have HB2 := Lib.hid (HB1.out.trans (hb2.mono HB1.out.size))
    have T2 := Lib.hid b3.t2
    clear hb2 b3 hr
    go_wp2_with fail
    refine (IH.out _ _ P HOK.out T2.out (fun b hb => by have := HP.out b hb; have := HB2.out.size; omega) (by omega)).mono ?_
    rintro e w3 ⟨rfl, hb3⟩
    have HB3 := Lib.hid (HB2.out.trans (hb3.mono HB2.out.size))
    clear hb3
    go_wp2_with fail
    go_ret
    exact ⟨ret_int (by simp only [Tm.reds]), HB3.out⟩
  | app f a ihf iha =>
    intro v w P hok ht hP hsz
    obtain ⟨g, cap, A0, A1, A2, n0, c0, n1, c1, n2, c2, rfl, hcap, h3⟩ := ht.three
    have hgb := hP g h3.pg
    have hA := ht.alloc hP (.cells #[.string ⟨#[]⟩, .slice (some ⟨g, 0, none⟩) 3 cap] 32)
    have hlo : ∀ b, P b → b < (w.alloc (.cells #[.string ⟨#[]⟩, .slice (some ⟨g, 0, none⟩) 3 cap] 32)).heap.size := fun b hb => by have := hP b hb; simp; omega
    have HP := Lib.hid hP
    have IHF := Lib.hid ihf
    have IHA := Lib.hid iha
    have HOK := Lib.hid hok
    have C1 := Lib.hid (l2Redex_any (.app f a) hok _ _ P hA hlo)
    have a3 := h3.alloc HP.out (.cells #[.string ⟨#[]⟩, .slice (some ⟨g, 0, none⟩) 3 cap] 32)
    have hsz' : f.atoms + a.atoms + 1 ≤ 10000 := by simp only [Tm.atoms] at hsz; omega
    have q1 := reds_atoms f
    have q2 := reds_atoms a
    clear ihf iha hP ht hok hsz hA hlo h3
    go_enter Try.func28, Try.ntmps28
    go_wp2_with fail
    refine C1.out.mono ?_
    rintro e w1 ⟨rfl, hb1⟩
    have b3 := a3.below hb1 (fun b hb => by have := HP.out b hb; simp; omega)
    have hr := (Blk.new w 32 #[.string ⟨#[]⟩, .slice (some ⟨g, 0, none⟩) 3 cap]).below hb1 (by simp)
    have hB1 : Below w.heap.size w w1 := ((Below.refl _ _).alloc (Nat.le_refl _) _).trans (hb1.mono (by simp))
    have hlt := hr.lt
    have r0 := hr.cell 0
    have r1 := hr.cell 1
    simp at r0 r1
    have hc : f.isLam = true ∨ f.isLam = false := by cases f.isLam <;> simp
    have h0 : (Tm.app f a).isRdx = f.isLam := rfl
    have B3 := Lib.hid b3
    have HR := Lib.hid hr
    have HB1 := Lib.hid hB1
    clear b3 hr hb1 a3 hB1
    have hl : (sApp == [108, 97, 109]) = false := rfl
    have hl2 : (sApp == [97, 112, 112]) = true := rfl
    rcases hc with hc | hc
    all_goals
      simp only [h0, hc]
      go_wp2_with fail
      refine (l1Head3 _ P g cap (.mk sApp []) (tmTr f) (tmTr a) A0 A1 A2 n0 c0 n1 c1 n2 c2 B3.out (fun b hb => by have := HP.out b hb; omega)).mono ?_
      rintro e w2 ⟨rfl, hb2⟩
      have b3 := B3.out.below hb2 (fun b hb => by have := HP.out b hb; omega)
      have hr := HR.out.below hb2 HR.out.lt
      have hB2 := HB1.out.trans (hb2.mono HB1.out.size)
      have hlt2 := hr.lt
      have hk : BKeep w P g cap w.heap.size (.mk sApp []) (tmTr f) (tmTr a) A0 A1 A2 n0 c0 n1 c1 n2 c2 w2 := ⟨hr, b3, fun q hq => by have := HP.out q hq; omega, hB2, by omega⟩
      have C2 : Hid (∀ w', BKeep w P g cap w.heap.size (.mk sApp []) (tmTr f) (tmTr a) A0 A1 A2 n0 c0 n1 c1 n2 c2 w' → Calls Try.prog 28 #[.agg #[.string ⟨(tmTr f).atom.toArray⟩, .slice A1 n1 c1]] w' fun e w2 => e = .returned (.int .i64 f.reds) ∧ BKeep w P g cap w.heap.size (.mk sApp []) (tmTr f) (tmTr a) A0 A1 A2 n0 c0 n1 c1 n2 c2 w2) :=
        Lib.hid (fun w' h => (IHF.out _ _ P HOK.out.1 h.three.t1 h.all (by omega)).mono fun _ _ ⟨he, hb⟩ => ⟨he, h.more hb⟩)
      have C3 : Hid (∀ w', BKeep w P g cap w.heap.size (.mk sApp []) (tmTr f) (tmTr a) A0 A1 A2 n0 c0 n1 c1 n2 c2 w' → Calls Try.prog 28 #[.agg #[.string ⟨(tmTr a).atom.toArray⟩, .slice A2 n2 c2]] w' fun e w2 => e = .returned (.int .i64 a.reds) ∧ BKeep w P g cap w.heap.size (.mk sApp []) (tmTr f) (tmTr a) A0 A1 A2 n0 c0 n1 c1 n2 c2 w2) :=
        Lib.hid (fun w' h => (IHA.out _ _ P HOK.out.2 h.three.t2 h.all (by omega)).mono fun _ _ ⟨he, hb⟩ => ⟨he, h.more hb⟩)
      simp only [Tr.atom]
      clear hb2 b3 hr hB2
      go_wp2_with fail
      go_region_held3 (fun w' => w'.cell? ⟨w.heap.size, 1, none⟩ = some (.slice (some ⟨g, 0, none⟩) 3 cap) ∧ w'.cell? ⟨g, 2, none⟩ = some (.string ⟨(tmTr f).atom.toArray⟩) ∧ w'.cell? ⟨g, 3, none⟩ = some (.slice A1 n1 c1) ∧
          w'.cell? ⟨g, 4, none⟩ = some (.string ⟨(tmTr a).atom.toArray⟩) ∧ w'.cell? ⟨g, 5, none⟩ = some (.slice A2 n2 c2) ∧ BKeep w P g cap w.heap.size (.mk sApp []) (tmTr f) (tmTr a) A0 A1 A2 n0 c0 n1 c1 n2 c2 w')
        (first | exact hk.drew.s | exact BKeep.s (by assumption) | exact (BKeep.drew (by assumption)).s)
        (first
          | (go_at_call 28; with_reducible refine (C2.out _ ?_).mono ?_; (first | assumption | exact hk.drew); rintro e w4 ⟨rfl, hk4⟩)
          | (go_at_call 28; with_reducible refine (C3.out _ ?_).mono ?_; (first | assumption | exact hk.drew); rintro e w3 ⟨rfl, hk3⟩))
      all_goals
        go_wp2
        go_ret
        refine ⟨ret_int ?_, hk3.below⟩
        simp (disch := omega) only [IntWalk.i64_in, Tm.reds, hc]
        simp
end Go.Proofs.Ytgceephloklpbaa

namespace Go.Proofs.Ytgceephloklpbaa
set_option linter.unusedVariables false
open Go.RowKit

set_option maxRecDepth 100000 in
set_option maxHeartbeats 4000000 in
theorem l1Size_any : ∀ (t : Tm) (v : Value) (w : World) (P : Nat → Prop), t.ok → TAt w P (tmTr t) v → (∀ b, P b → b < w.heap.size) → t.size ≤ 10000 →
    Calls Try.prog 39 #[v] w fun e w' => e = .returned (.int .i64 t.size) ∧ Below w.heap.size w w' := by
  intro t
  induction t with
  | var x =>
    intro v w P hok ht hP hsz
    have hne := isNm_ne x hok
    have hae : (!x.isEmpty) = true := by cases x with
      | nil => exact absurd rfl hne
      | cons => rfl
    obtain ⟨vp, rfl, _⟩ := ht.form
    clear ht hne hok
    go_enter Try.func39, Try.ntmps39
    go_wp2
    go_ret
    exact ⟨rfl, by go_grown⟩
  | lam x d ih =>
    intro v w P hok ht hP hsz
    obtain ⟨g, cap, A0, A1, A2, n0, c0, n1, c1, n2, c2, rfl, hcap, h3⟩ := ht.three
    have hgb := hP g h3.pg
    have HP := Lib.hid hP
    have IH := Lib.hid ih
    have HOK := Lib.hid hok.2
    have a3 := h3.alloc HP.out (.cells #[.string ⟨#[]⟩, .slice (some ⟨g, 0, none⟩) 3 cap] 32)
    have hsz' : d.size + 1 ≤ 10000 := by simp only [Tm.size] at hsz; omega
    clear ih hP ht hok hsz
    go_enter Try.func39, Try.ntmps39
    go_wp2_with fail
    refine (l1Head3 _ P g cap (.mk sLam []) (.mk x []) (tmTr d) A0 A1 A2 n0 c0 n1 c1 n2 c2 a3 (fun b hb => by have := HP.out b hb; simp; omega)).mono ?_
    rintro e w1 ⟨rfl, hb1⟩
    have hB1 : Below w.heap.size w w1 := ((Below.refl _ _).alloc (Nat.le_refl _) _).trans (hb1.mono (by simp))
    have b3 := a3.below hb1 (fun b hb => by have := HP.out b hb; simp; omega)
    have hr := (Blk.new w 32 #[.string ⟨#[]⟩, .slice (some ⟨g, 0, none⟩) 3 cap]).below hb1 (by simp)
    have hlt := hr.lt
    have r1 := hr.cell 1
    simp at r1
    have k4 := b3.k4
    have k5 := b3.k5
    have hl : (sLam == [108, 97, 109]) = true := rfl
    simp only [Tr.atom]
    go_wp2_with fail
    refine (IH.out _ _ P HOK.out b3.t2 (fun b hb => by have := HP.out b hb; omega) (by omega)).mono ?_
    rintro e w3 ⟨rfl, hb3⟩
    go_wp2_with fail
    go_ret
    exact ⟨ret_int (by simp only [Tm.size]; omega), hB1.trans (hb3.mono (by omega))⟩
  | app f a ihf iha =>
    intro v w P hok ht hP hsz
    obtain ⟨g, cap, A0, A1, A2, n0, c0, n1, c1, n2, c2, rfl, hcap, h3⟩ := ht.three
    have hgb := hP g h3.pg
    have HP := Lib.hid hP
    have IHF := Lib.hid ihf
    have IHA := Lib.hid iha
    have HOK := Lib.hid hok
    have a3 := h3.alloc HP.out (.cells #[.string ⟨#[]⟩, .slice (some ⟨g, 0, none⟩) 3 cap] 32)
    have hsz' : f.size + a.size + 1 ≤ 10000 := by simp only [Tm.size] at hsz; omega
    clear ihf iha hP ht hok hsz
    go_enter Try.func39, Try.ntmps39
    go_wp2_with fail
    refine (l1Head3 _ P g cap (.mk sApp []) (tmTr f) (tmTr a) A0 A1 A2 n0 c0 n1 c1 n2 c2 a3 (fun b hb => by have := HP.out b hb; simp; omega)).mono ?_
    rintro e w1 ⟨rfl, hb1⟩
    have hB1 : Below w.heap.size w w1 := ((Below.refl _ _).alloc (Nat.le_refl _) _).trans (hb1.mono (by simp))
    have b3 := a3.below hb1 (fun b hb => by have := HP.out b hb; simp; omega)
    have hr := (Blk.new w 32 #[.string ⟨#[]⟩, .slice (some ⟨g, 0, none⟩) 3 cap]).below hb1 (by simp)
    have hlt := hr.lt
    have hk : BKeep w P g cap w.heap.size (.mk sApp []) (tmTr f) (tmTr a) A0 A1 A2 n0 c0 n1 c1 n2 c2 w1 := ⟨hr, b3, fun q hq => by have := HP.out q hq; omega, hB1, by omega⟩
    have C1 : Hid (∀ w', BKeep w P g cap w.heap.size (.mk sApp []) (tmTr f) (tmTr a) A0 A1 A2 n0 c0 n1 c1 n2 c2 w' → Calls Try.prog 39 #[.agg #[.string ⟨(tmTr f).atom.toArray⟩, .slice A1 n1 c1]] w' fun e w2 => e = .returned (.int .i64 f.size) ∧ BKeep w P g cap w.heap.size (.mk sApp []) (tmTr f) (tmTr a) A0 A1 A2 n0 c0 n1 c1 n2 c2 w2) :=
      Lib.hid (fun w' h => (IHF.out _ _ P HOK.out.1 h.three.t1 h.all (by omega)).mono fun _ _ ⟨he, hb⟩ => ⟨he, h.more hb⟩)
    have C2 : Hid (∀ w', BKeep w P g cap w.heap.size (.mk sApp []) (tmTr f) (tmTr a) A0 A1 A2 n0 c0 n1 c1 n2 c2 w' → Calls Try.prog 39 #[.agg #[.string ⟨(tmTr a).atom.toArray⟩, .slice A2 n2 c2]] w' fun e w2 => e = .returned (.int .i64 a.size) ∧ BKeep w P g cap w.heap.size (.mk sApp []) (tmTr f) (tmTr a) A0 A1 A2 n0 c0 n1 c1 n2 c2 w2) :=
      Lib.hid (fun w' h => (IHA.out _ _ P HOK.out.2 h.three.t2 h.all (by omega)).mono fun _ _ ⟨he, hb⟩ => ⟨he, h.more hb⟩)
    have hl : (sApp == [108, 97, 109]) = false := rfl
    simp only [Tr.atom]
    go_wp2_with fail
    go_region_held3 (fun w' => w'.cell? ⟨w.heap.size, 1, none⟩ = some (.slice (some ⟨g, 0, none⟩) 3 cap) ∧ w'.cell? ⟨g, 2, none⟩ = some (.string ⟨(tmTr f).atom.toArray⟩) ∧ w'.cell? ⟨g, 3, none⟩ = some (.slice A1 n1 c1) ∧
        w'.cell? ⟨g, 4, none⟩ = some (.string ⟨(tmTr a).atom.toArray⟩) ∧ w'.cell? ⟨g, 5, none⟩ = some (.slice A2 n2 c2) ∧ BKeep w P g cap w.heap.size (.mk sApp []) (tmTr f) (tmTr a) A0 A1 A2 n0 c0 n1 c1 n2 c2 w')
      (first | exact hk.drew.s | exact BKeep.s (by assumption) | exact (BKeep.drew (by assumption)).s)
      (first
        | (go_at_call 39; with_reducible refine (C1.out _ ?_).mono ?_; (first | assumption | exact hk.drew); rintro e w2 ⟨rfl, hk2⟩)
        | (go_at_call 39; with_reducible refine (C2.out _ ?_).mono ?_; (first | assumption | exact hk.drew); rintro e w3 ⟨rfl, hk3⟩))
    all_goals
      go_wp2
      go_ret
      refine ⟨ret_int ?_, hk3.below⟩
      simp (disch := omega) only [IntWalk.i64_in, Tm.size]
      omega
end Go.Proofs.Ytgceephloklpbaa

namespace Go.Proofs.Ytgceephloklpbaa
set_option linter.unusedVariables false
open Go.RowKit

def meT (k : Bool) (t : Tm) : Nat := if k then (lamsOf t).length + (argsOf (bodyOf t)).length else t.size
def meO (k : Option Bool) (o : Option Tm) : Int := match k, o with
  | some k, some t => if (stepR k t).2 = 0 then meT k t else -1
  | _, _ => -1
def neO (o : Option Tm) : Bool := match o with
  | some t => decide ((stepR false t).2 = 0) && !t.isLam
  | none => false
def rcO (o : Option Tm) : Int := match o with
  | some t => t.reds
  | none => -1
theorem argsOf_size (t : Tm) : (argsOf t).length ≤ t.size := by
  induction t with
  | var x => simp [argsOf]
  | lam x b _ => simp [argsOf]
  | app f a ihf _ => simp only [argsOf, Tm.size, List.length_append, List.length_singleton]; omega
theorem bodyOf_size (t : Tm) : (bodyOf t).size ≤ t.size := by
  induction t with
  | var x => simp [bodyOf]
  | lam x b ih => simp only [bodyOf, Tm.size]; omega
  | app f a _ _ => simp [bodyOf]

set_option maxRecDepth 100000 in
set_option maxHeartbeats 1000000 in
theorem l2Measure_any (k : Bool) (x : List UInt8) (hk : rdKind x = some k) (t : Tm) (v : Value) (w : World) (P : Nat → Prop) (hok : t.ok) (hsz : t.size ≤ 1000) (ht : TAt w P (tmTr t) v) (hP : ∀ b, P b → b < w.heap.size) :
    Calls Try.prog 24 #[.string ⟨x.toArray⟩, v] w fun e w' => e = .returned (.int .i64 (meT k t)) ∧ Below w.heap.size w w' := by
  obtain ⟨A, m, n, e⟩ := ht.shape
  generalize (tmTr t).atom = at0 at e
  subst e
  obtain ⟨h1, h2⟩ := rdKind_beq x k hk
  have hA := ht.alloc hP (.cells #[.string ⟨at0.toArray⟩, .slice A m n] 32)
  have hlo : ∀ b, P b → b < (w.alloc (.cells #[.string ⟨at0.toArray⟩, .slice A m n] 32)).heap.size := fun b hb => by have := hP b hb; simp; omega
  have hB0 : Below w.heap.size w (w.alloc (.cells #[.string ⟨at0.toArray⟩, .slice A m n] 32)) := (Below.refl _ _).alloc (Nat.le_refl _) _
  have CS := Lib.hid (l1Size_any t _ _ P hok hA hlo (by omega))
  have CB := Lib.hid (l1Body_any t hok _ _ P hA hlo (by omega))
  have hP1 := Lib.hid hP
  have HB0 := Lib.hid hB0
  have HO := Lib.hid hok
  clear ht hP hk hA hlo hB0
  cases k
  · simp only [Bool.not_false] at h1 h2
    go_enter Try.func24, Try.ntmps24
    go_wp2_with fail
    refine CS.out.mono ?_
    rintro e w2 ⟨rfl, hb2⟩
    go_wp2_with fail
    go_ret
    exact ⟨rfl, HB0.out.trans (hb2.mono (by simp))⟩
  · simp only [Bool.not_true] at h1 h2
    have hl1 := lamsOf_size t
    have hl2 := argsOf_size (bodyOf t)
    have hl3 := bodyOf_size t
    go_enter Try.func24, Try.ntmps24
    go_wp2_with fail
    refine CB.out.mono ?_
    rintro e w2 ⟨v2, rfl, ht2, hb2⟩
    obtain ⟨A2, m2, n2, rfl⟩ := ht2.shape
    have hB2 := HB0.out.trans (hb2.mono (by simp))
    have hlo2 : ∀ b, P b → b < w2.heap.size := fun b hb => by have := hP1.out b hb; have := hB2.size; omega
    have ht3 := ht2.alloc hlo2 (.cells #[.string ⟨(tmTr (bodyOf t)).atom.toArray⟩, .slice A2 m2 n2] 32)
    have hB3 := hB2.alloc hB2.size (.cells #[.string ⟨(tmTr (bodyOf t)).atom.toArray⟩, .slice A2 m2 n2] 32)
    have CP := Lib.hid (l1Spine_any (bodyOf t) (bodyOf_ok t HO.out) _ _ P ht3 (fun b hb => by have := hlo2 b hb; simp; omega) (by omega))
    have HB3 := Lib.hid hB3
    clear ht2 hb2 hB2 hlo2 ht3 hB3
    go_wp2_with fail
    refine CP.out.mono ?_
    rintro e w4 ⟨v4, ga, ca, xs, rfl, ht4, _, _, hb4⟩
    obtain ⟨A4, m4, n4, rfl⟩ := ht4.shape
    have HB4 := Lib.hid (HB3.out.trans (hb4.mono HB3.out.size))
    have e1 : IntKind.i64.wrap (((lamsOf t).length : Int) + ((argsOf (bodyOf t)).length : Int)) = (((lamsOf t).length + (argsOf (bodyOf t)).length : Nat) : Int) := by rw [IntWalk.i64_in _ (by omega)]; omega
    clear ht4 hb4
    go_wp2_with fail
    go_ret
    exact ⟨ret_int (by simp only [meT]; rfl), HB4.out.alloc HB4.out.size _⟩
end Go.Proofs.Ytgceephloklpbaa

namespace Go.Proofs.Ytgceephloklpbaa
set_option linter.unusedVariables false
open Go.RowKit

set_option maxRecDepth 100000 in
theorem specRedexCount_any (s : ByteArray) (w : World) (hm : s.size ≤ maxLen) :
    Calls Try.prog 14 #[.string s] w fun e w' => e = .returned (.int .i64 (rcO (rdTerm s.data.toList))) ∧ Below w.heap.size w w' := by
  go_enter Try.func14, Try.ntmps14
  go_wp2_with fail
  refine (l1Term_any s _ hm).mono ?_
  rintro e w1 ⟨hb1, ⟨t, v, hrd, rfl, htr⟩ | ⟨hrd, b, A, n, c, rfl⟩⟩
  · obtain ⟨A, n, c, rfl⟩ := htr.shape
    obtain ⟨hok, hat⟩ := rdTerm_good _ _ hrd
    have HR := Lib.hid hrd
    have HT := Lib.hid (htr.alloc (fun q hq => hq.2) (.cells #[.string ⟨(tmTr t).atom.toArray⟩, .slice A n c] 32))
    have HK := Lib.hid hok
    have hz := hb1.size
    clear hrd htr hok
    go_wp2_with fail
    refine (l2Count_any t _ _ _ HK.out HT.out (fun q hq => by simp; omega) (by omega)).mono ?_
    rintro e w2 ⟨rfl, hb2⟩
    go_wp2_with fail
    go_ret
    exact ⟨ret_int (by rw [HR.out]; rfl), (hb1.alloc hz _).trans (hb2.mono (by simp; omega))⟩
  · have HR := Lib.hid hrd
    clear hrd
    go_wp2
    go_ret
    exact ⟨ret_int (by rw [HR.out]; rfl), hb1.alloc hb1.size _⟩

set_option maxRecDepth 100000 in
set_option maxHeartbeats 1000000 in
theorem specMeasure_any (x : List UInt8) (s : ByteArray) (w : World) (hm : s.size ≤ maxLen) :
    Calls Try.prog 10 #[.string ⟨x.toArray⟩, .string s] w fun e w' => e = .returned (.int .i64 (meO (rdKind x) (rdTerm s.data.toList))) ∧ Below w.heap.size w w' := by
  have CN : Hid (∀ w', _) := Lib.hid (fun w' => specNormalIs_any x s w' hm)
  go_enter Try.func10, Try.ntmps10
  go_wp2_with fail
  refine (l1Term_any s _ hm).mono ?_
  rintro e w1 ⟨hb1, ⟨t, v, hrd, rfl, htr⟩ | ⟨hrd, b, A, n, c, rfl⟩⟩
  · obtain ⟨A, n, c, rfl⟩ := htr.shape
    obtain ⟨hok, hat⟩ := rdTerm_good _ _ hrd
    have hsa := size_atoms t
    have HR := Lib.hid hrd
    have HT := Lib.hid (htr.alloc (fun q hq => hq.2) (.cells #[.string ⟨(tmTr t).atom.toArray⟩, .slice A n c] 32))
    have hbx := Blk.new w1 32 #[.string ⟨(tmTr t).atom.toArray⟩, .slice A n c]
    have HX := Lib.hid hbx
    have HK := Lib.hid hok
    have hB : Below w.heap.size w (w1.alloc (.cells #[.string ⟨(tmTr t).atom.toArray⟩, .slice A n c] 32)) := hb1.alloc hb1.size _
    have HB := Lib.hid hB
    have hz := hb1.size
    rw [hrd] at CN
    clear hrd htr hok hb1 hB hbx
    cases hk : rdKind x with
    | none =>
      have HN := Lib.hid hk
      have hq : nmO (rdKind x) (some t) = false := by rw [hk]; rfl
      rw [hq] at CN
      have HE : Hid (meO (rdKind x) (rdTerm s.data.toList) = -1) := Lib.hid (by rw [hk]; rfl)
      clear hk hq
      go_wp2_with fail
      refine (CN.out _).mono ?_
      rintro e w2 ⟨rfl, hb2⟩
      have HB2 := Lib.hid (HB.out.trans (hb2.mono (by simp; omega)))
      clear hb2
      go_wp2_with fail
      go_ret
      exact ⟨by rw [HN.out]; rfl, HB2.out⟩
    | some k =>
      have HN := Lib.hid hk
      have HE : Hid (meO (some k) (some t) = if (stepR k t).2 = 0 then (meT k t : Int) else -1) := Lib.hid rfl
      by_cases h0 : (stepR k t).2 = 0
      · have hq : nmO (rdKind x) (some t) = true := by rw [hk]; simp [nmO, h0]
        rw [hq] at CN
        have H0 := Lib.hid h0
        clear hk hq h0
        go_wp2_with fail
        refine (CN.out _).mono ?_
        rintro e w2 ⟨rfl, hb2⟩
        have hx2 := HX.out.below hb2 HX.out.lt
        have x0 := hx2.cell 0
        have x1 := hx2.cell 1
        have xl := hx2.lt
        simp only [List.getElem?_toArray, List.getElem?_cons_zero, List.getElem?_cons_succ] at x0 x1
        have T2 := Lib.hid (HT.out.below hb2 (fun q hq => by simp; omega))
        have hB2 := HB.out.trans (hb2.mono (by simp; omega))
        have HB2 := Lib.hid hB2
        have hz2 := hb2.size
        simp only [World.size_alloc] at hz2
        clear hb2 hx2 hB2
        go_wp2_with fail
        refine (l2Measure_any k x HN.out t _ _ _ HK.out (by omega) T2.out (fun q hq => by omega)).mono ?_
        rintro e w3 ⟨rfl, hb3⟩
        have HB3 := Lib.hid (HB2.out.trans (hb3.mono HB2.out.size))
        clear hb3
        go_wp2_with fail
        go_ret
        exact ⟨ret_int (by rw [HN.out, HR.out, HE.out, if_pos H0.out]), HB3.out⟩
      · have hq : nmO (rdKind x) (some t) = false := by rw [hk]; simp [nmO, h0]
        rw [hq] at CN
        have H0 := Lib.hid h0
        clear hk hq h0
        go_wp2_with fail
        refine (CN.out _).mono ?_
        rintro e w2 ⟨rfl, hb2⟩
        have HB2 := Lib.hid (HB.out.trans (hb2.mono (by simp; omega)))
        clear hb2
        go_wp2_with fail
        go_ret
        exact ⟨ret_int (by rw [HN.out, HR.out, HE.out, if_neg H0.out]), HB2.out⟩
  · have HR := Lib.hid hrd
    have HE : Hid (meO (rdKind x) (rdTerm s.data.toList) = -1) := Lib.hid (by rw [hrd]; cases rdKind x <;> rfl)
    clear hrd
    go_wp2
    go_ret
    exact ⟨ret_int (by rw [HE.out]), hb1.alloc hb1.size _⟩

set_option maxRecDepth 100000 in
set_option maxHeartbeats 1000000 in
theorem specNeutralIs_any (s : ByteArray) (w : World) (hm : s.size ≤ maxLen) :
    Calls Try.prog 12 #[.string s] w fun e w' => e = .returned (.bool (neO (rdTerm s.data.toList))) ∧ Below w.heap.size w w' := by
  have CN : Hid (∀ w', _) := Lib.hid (fun w' => specNormalIs_any [102, 117, 108, 108] s w' hm)
  go_enter Try.func12, Try.ntmps12
  go_wp2_with fail
  refine (l1Term_any s _ hm).mono ?_
  rintro e w1 ⟨hb1, ⟨t, v, hrd, rfl, htr⟩ | ⟨hrd, b, A, n, c, rfl⟩⟩
  · obtain ⟨A, n, c, rfl⟩ := htr.shape
    obtain ⟨hok, hat⟩ := rdTerm_good _ _ hrd
    have HR := Lib.hid hrd
    have HT := Lib.hid (htr.alloc (fun q hq => hq.2) (.cells #[.string ⟨(tmTr t).atom.toArray⟩, .slice A n c] 32))
    have hbx := Blk.new w1 32 #[.string ⟨(tmTr t).atom.toArray⟩, .slice A n c]
    have HX := Lib.hid hbx
    have HK := Lib.hid hok
    have hB : Below w.heap.size w (w1.alloc (.cells #[.string ⟨(tmTr t).atom.toArray⟩, .slice A n c] 32)) := hb1.alloc hb1.size _
    have HB := Lib.hid hB
    have hz := hb1.size
    rw [hrd] at CN
    clear hrd htr hok hb1 hB hbx
    by_cases h0 : (stepR false t).2 = 0
    · have hq : nmO (rdKind [102, 117, 108, 108]) (some t) = true := by simp [nmO, rdKind, h0]
      rw [hq] at CN
      have HE : Hid (neO (some t) = !t.isLam) := Lib.hid (by simp [neO, h0])
      have hlam := hd_lam t
      clear hq h0
      go_wp2_with fail
      refine (CN.out _).mono ?_
      rintro e w2 ⟨rfl, hb2⟩
      have hx2 := HX.out.below hb2 HX.out.lt
      have x0 := hx2.cell 0
      have x1 := hx2.cell 1
      have xl := hx2.lt
      simp only [List.getElem?_toArray, List.getElem?_cons_zero, List.getElem?_cons_succ] at x0 x1
      have T2 := Lib.hid (HT.out.below hb2 (fun q hq => by simp; omega))
      have hB2 := HB.out.trans (hb2.mono (by simp; omega))
      have HB2 := Lib.hid hB2
      have hz2 := hb2.size
      simp only [World.size_alloc] at hz2
      clear hb2 hx2 hB2
      go_wp2_with fail
      refine (l1Head_tm t HK.out _ _ _ T2.out (fun q hq => by omega)).mono ?_
      rintro e w3 ⟨rfl, hb3⟩
      have HB3 := Lib.hid (HB2.out.trans (hb3.mono HB2.out.size))
      clear hb3
      have hc : t.isLam = true ∨ t.isLam = false := by cases t.isLam <;> simp
      rcases hc with hc | hc
      all_goals
        rw [hc] at hlam HE
        go_wp2_with fail
        go_ret
        exact ⟨by rw [HR.out, HE.out]; rfl, HB3.out⟩
    · have hq : nmO (rdKind [102, 117, 108, 108]) (some t) = false := by simp [nmO, rdKind, h0]
      rw [hq] at CN
      have HE : Hid (neO (some t) = false) := Lib.hid (by simp [neO, h0])
      clear hq h0
      go_wp2_with fail
      refine (CN.out _).mono ?_
      rintro e w2 ⟨rfl, hb2⟩
      have HB2 := Lib.hid (HB.out.trans (hb2.mono (by simp; omega)))
      clear hb2
      go_wp2_with fail
      go_ret
      exact ⟨by rw [HR.out, HE.out]; rfl, HB2.out⟩
  · have HR := Lib.hid hrd
    clear hrd
    go_wp2
    go_ret
    exact ⟨ret_bool (by rw [HR.out]; rfl), hb1.alloc hb1.size _⟩
end Go.Proofs.Ytgceephloklpbaa

