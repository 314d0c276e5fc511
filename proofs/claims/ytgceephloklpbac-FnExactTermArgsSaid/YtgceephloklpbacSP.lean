/- The model takes the second terms on the left. -/
import Derived.Test.YtgceephloklpbacSB
import Derived.Test.YtgceephloklpbacH
import Derived.Test.YtgceephloklpbacF1
import Derived.Laws.OwnMore
namespace Go.Proofs.Ytgceephloklpbac
set_option linter.unusedVariables false
open Go.RowKit

theorem VsAt.one {w : World} {P : Nat → Prop} {ts : List Tr} {xs : List Value} (h : VsAt w P ts xs) : ∀ u ∈ xs, u.oneCell' = true := by
  induction ts generalizing xs with
  | nil => unfold VsAt at h; subst h; simp
  | cons t ts ih =>
    unfold VsAt at h
    obtain ⟨a, b, r, rfl, h1, h2⟩ := h
    obtain ⟨A, n, c, e⟩ := h1.shape
    simp at e
    obtain ⟨rfl, rfl⟩ := e
    intro u hu
    rcases List.mem_cons.1 hu with rfl | hu
    · rfl
    · rcases List.mem_cons.1 hu with rfl | hu
      · rfl
      · exact ih h2 u hu
theorem VsAt.cons {w : World} {P : Nat → Prop} {t : Tr} {ts : List Tr} {a b : Value} {xs : List Value} (h1 : TAt w P t (.agg #[a, b])) (h2 : VsAt w P ts xs) : VsAt w P (t :: ts) (a :: b :: xs) := by
  unfold VsAt
  exact ⟨a, b, xs, rfl, h1, h2⟩

/-- On the way to the left. -/
structure SpR (w : World) (P : Nat → Prop) (t t' : Tm) (us : List Tm) (a p : Value) (ga ca : Nat) (xs : List Value) (wr : World) : Prop where
  below : Below w.heap.size w wr
  box : Blk wr w.heap.size 35 #[a, p]
  res : Blk wr (w.heap.size + 1) 35 #[.string ⟨#[]⟩, .slice none 0 0]
  tree : TAt wr P (tmTr t') (.agg #[a, p])
  ok : t'.ok
  own : wr.ownsRow (w.heap.size + 2) 35 2 (.slice (some ⟨ga, 0, none⟩) us.length ca) us.length xs
  trees : VsAt wr P (us.map tmTr) xs
  args : argsOf t = argsOf t' ++ us
  first : firstOf t = firstOf t'
  le : us.length + t'.size ≤ t.size

def SpPost (w : World) (P : Nat → Prop) (t : Tm) (e : Ending) (w' : World) : Prop :=
  ∃ v ga ca xs, e = .returned (.tuple #[v, .slice (some ⟨ga, 0, none⟩) (argsOf t).length ca]) ∧ TAt w' P (tmTr (firstOf t)) v ∧ w'.ownsRow (w.heap.size + 2) 35 2 (.slice (some ⟨ga, 0, none⟩) (argsOf t).length ca) (argsOf t).length xs ∧
    VsAt w' P ((argsOf t).map tmTr) xs ∧ Below w.heap.size w w'

theorem argsOf_ok (t : Tm) (h : t.ok) : ∀ a ∈ argsOf t, a.ok := by
  induction t with
  | var x => simp [argsOf]
  | lam x b _ => simp [argsOf]
  | app f a ihf _ =>
    intro c hc
    simp only [argsOf, List.mem_append, List.mem_singleton] at hc
    rcases hc with hc | rfl
    · exact ihf h.1 c hc
    · exact h.2
theorem firstOf_ok (t : Tm) (h : t.ok) : (firstOf t).ok := by
  induction t with
  | var x => exact h
  | lam x b _ => exact h
  | app f a ihf _ => exact ihf h.1

set_option maxRecDepth 100000 in
set_option maxHeartbeats 4000000 in
theorem l1Spine_any (t : Tm) (hok : t.ok) (v : Value) (w : World) (P : Nat → Prop) (ht : TAt w P (tmTr t) v) (hP : ∀ b, P b → b < w.heap.size) (hsz : t.size ≤ 8000) :
    Calls Try.prog 36 #[v] w (SpPost w P t) := by
  obtain ⟨A, n, c, rfl⟩ := ht.two
  obtain ⟨i0, hinf, hz0, hzs, hzb⟩ := info_parts Try.infoTree
  have HP := Lib.hid hP
  have HT := Lib.hid ht
  clear hP ht
  go_enter Try.func36, Try.ntmps36
  go_wp2
  go_loopg [4] t.size (fun q sv wr => ∃ t' us A n c ga ca xs, q = t'.size ∧ sv = .slice (some ⟨ga, 0, none⟩) us.length ca ∧ Hid (SpR w P t t' us (.string ⟨(tmTr t').atom.toArray⟩) (.slice A n c) ga ca xs wr))
  case atStart =>
    refine ⟨t, [], A, n, c, w.heap.size + 2, 0, [], rfl, rfl, Lib.hid ⟨by go_grown, ((Blk.new _ _ _).alloc _).alloc _, ?_, ?_, hok, ?_, by unfold VsAt; rfl, by simp, rfl, by simp⟩⟩
    · have := Blk.new (w.alloc (.cells #[.string ⟨(tmTr t).atom.toArray⟩, .slice A n c] 35)) 35 #[.string ⟨#[]⟩, .slice none 0 0]
      exact (show Blk _ (w.heap.size + 1) _ _ by simpa using this).alloc _
    · exact ((HT.out.alloc HP.out _).alloc (fun q hq => by have := HP.out q hq; simp; omega) _).alloc (fun q hq => by have := HP.out q hq; simp; omega) _
    · have h := World.ownsRow_made (base := w.heap.size + 2) (e := 35) (size := 2) ((w.alloc (.cells #[.string ⟨(tmTr t).atom.toArray⟩, .slice A n c] 35)).alloc (.cells #[.string ⟨#[]⟩, .slice none 0 0] 35)) #[] 0 (by simp) (Nat.zero_le _) rfl
      simpa using h
  case round =>
    obtain ⟨t', us, A, n, c, ga, ca, xs, hq, rfl, HR⟩ := hrel
    have HQ := Lib.hid hq
    clear hq
    have c0 := HR.out.box.cell 0
    have c1 := HR.out.box.cell 1
    have bl := HR.out.box.lt
    have hzw := HR.out.below.size
    have hPr : Hid (∀ b, P b → b < wr.heap.size) := Lib.hid fun b hb => by have := HP.out b hb; omega
    simp at c0 c1
    go_wp2_with fail
    refine (l1Head_tm t' HR.out.ok _ _ P HR.out.tree hPr.out).mono ?_
    rintro e w1 ⟨rfl, hb1⟩
    have HB1 := Lib.hid hb1
    have box1 := HR.out.box.below hb1 bl
    have res1 := HR.out.res.below hb1 HR.out.res.lt
    have d0 := box1.cell 0
    have d1 := box1.cell 1
    have f0 := box1.frozen 0
    have f1 := box1.frozen 1
    have bl1 := box1.lt
    have rl1 := res1.lt
    have r0 := res1.cell 0
    have r1 := res1.cell 1
    have rf0 := res1.frozen 0
    have rf1 := res1.frozen 1
    simp at d0 d1 r0 r1
    have hz1 := hb1.size
    have HT1 := Lib.hid (HR.out.tree.below hb1 hPr.out)
    have HVS := Lib.hid (HR.out.trees.below hb1 hPr.out)
    have HOW := Lib.hid (HR.out.own.kept (grown_of_below hb1 none) (.inr (by simp [Value.ownBlock])))
    have HBX := Lib.hid box1
    have HRS := Lib.hid res1
    clear hb1 box1 res1 c0 c1
    by_cases hl : ∃ f a, t' = .app f a
    · obtain ⟨f, a, rfl⟩ := hl
      have hh : (hdOf (.app f a) == [97, 112, 112]) = true := rfl
      obtain ⟨g, cap, A0, A1, A2, n0, c0, n1, c1, n2, c2, he, hcap, h3⟩ := HT1.out.three
      simp at he
      obtain ⟨hA, hN, hC⟩ := he.2
      subst hA hN hC
      have k2 := h3.k2
      have k3 := h3.k3
      have k4 := h3.k4
      have k5 := h3.k5
      have hgb : g < w.heap.size := HP.out g h3.pg
      have H3 := Lib.hid h3
      clear h3
      have hle := HR.out.le
      simp only [Tm.size] at hle
      have hxl : xs.length = us.length * 2 := HR.out.own.1
      have HXL := Lib.hid hxl
      clear hxl
      have hlit : (w1.alloc (.cells #[.string ⟨(tmTr a).atom.toArray⟩, .slice A2 n2 c2] 35)).ownsRow (w.heap.size + 2) 35 2 (.slice (some ⟨w1.heap.size, 0, none⟩) 1 1) 1 [.string ⟨(tmTr a).atom.toArray⟩, .slice A2 n2 c2] :=
        World.ownsRow_lit w1 #[.string ⟨(tmTr a).atom.toArray⟩, .slice A2 n2 c2] 1 (by omega) (by unfold maxLen; omega) rfl
      have hnews : ∀ j u, xs[j]? = some u → (w1.alloc (.cells #[.string ⟨(tmTr a).atom.toArray⟩, .slice A2 n2 c2] 35)).cell? ((⟨ga, 0, none⟩ : Addr).add j) = some u := by
        intro j u hu
        rw [add_off]
        have h1 := HOW.out.cells (g := ga) rfl j u hu
        rw [add_off] at h1
        have h2 := HOW.out.lt ga rfl
        rw [World.cell?_alloc_lt _ _ _ h2.2]
        exact h1
      have HLIT := Lib.hid hlit
      have HNEWS := Lib.hid hnews
      clear hlit hnews
      go_wp2_with (first
        | (at_builtin
           refine wpList_append_own_at _ rfl (.tmp 13) (.tmp 14) 33 rfl (w.heap.size + 2) 35 i0 (.agg #[.string ⟨#[]⟩, .slice none 0 0]) 2 40 Try.underlying33 hinf hz0 hzs hzb rfl (by decide) (.slice (some ⟨w1.heap.size, 0, none⟩) 1 1) 1 [.string ⟨(tmTr a).atom.toArray⟩, .slice A2 n2 c2] rfl HLIT.out ⟨ga, 0, none⟩ us.length ca xs rfl HXL.out ?_ ?_ ?_ ?_ ?_ ?_
           · exact HNEWS.out
           · exact HVS.out.one
           · unfold maxLen; omega
           · omega
           · simp; omega
           intro v2 w2 hown2 hg2 _ hat2
           have hz2 := hg2.size
           simp at hz2
           have hne : ∀ q, q < w1.heap.size → some q ≠ (Value.slice (some ⟨w1.heap.size, 0, none⟩) 1 1).ownBlock := fun q hq e => by simp [Value.ownBlock] at e; omega
           have hkp : ∀ q, q < w1.heap.size → w2.heap[q]? = w1.heap[q]? := fun q hq => by rw [hg2.block q (by simp; omega) (hne q hq)]; exact Below.heap_alloc _ _ _ hq
           have hc2 : ∀ q o, q < w1.heap.size → w2.cell? ⟨q, o, none⟩ = w1.cell? ⟨q, o, none⟩ := fun q o hq => World.cell?_of_block (hkp q hq)
           have box2 : Blk w2 w.heap.size 35 #[.string ⟨(tmTr (.app f a)).atom.toArray⟩, .slice (some ⟨g, 0, none⟩) 3 c] := (hkp _ bl1).trans HBX.out
           have res2 : Blk w2 (w.heap.size + 1) 35 #[.string ⟨#[]⟩, .slice none 0 0] := (hkp _ rl1).trans HRS.out
           have e0 := box2.cell 0
           have e1 := box2.cell 1
           have ef0 := box2.frozen 0
           have ef1 := box2.frozen 1
           have el := box2.lt
           simp at e0 e1
           have j2 := (hc2 g 2 (by omega)).trans k2
           have j3 := (hc2 g 3 (by omega)).trans k3
           have HBX2 := Lib.hid box2
           have HRS2 := Lib.hid res2
           have HKP := Lib.hid hkp
           have HC2 := Lib.hid hc2
           have HO2 := Lib.hid hown2
           have HG2 := Lib.hid hg2
           have ho' := hown2
           rw [Nat.add_comm 1 us.length] at ho'
           obtain ⟨g2, c2', hv2, hg2b⟩ := own_some ho'
           subst hv2
           clear box2 res2 hkp hc2 hown2 hg2 hne ho' d0 d1 f0 f1 r0 r1 rf0 rf1 hat2)
        | fail)
      go_wp2
      go_roundg f.size
      case rel =>
        have hc : ∀ q o, P q → ((w2.setCell ⟨w.heap.size, 0, none⟩ (.string ⟨(tmTr f).atom.toArray⟩)).setCell ⟨w.heap.size, 1, none⟩ (.slice A1 n1 c1)).cell? ⟨q, o, none⟩ = w1.cell? ⟨q, o, none⟩ := fun q o hq => by
          have hbw := HP.out q hq
          rw [World.cell?_setCell_other _ _ _ _ (by intro e; injection e with e; omega), World.cell?_setCell_other _ _ _ _ (by intro e; injection e with e; omega)]
          exact HC2.out q o (by omega)
        refine ⟨f, a :: us, A1, n1, c1, g2, c2', .string ⟨(tmTr a).atom.toArray⟩ :: .slice A2 n2 c2 :: xs, rfl, rfl, Lib.hid ⟨?_, res_set HBX2.out _ _, (HRS2.out.far (by simp) _).far (by simp) _, ?_, HR.out.ok.1, ?_, ?_, ?_, ?_, ?_⟩⟩
        · refine Below.setCell (p := ⟨w.heap.size, 1, none⟩) (Below.setCell (p := ⟨w.heap.size, 0, none⟩) ?_ (by simp) _) (by simp) _
          exact ((HR.out.below.trans (HB1.out.mono hzw)).alloc (by omega) _).grown HG2.out (by simp; omega) (fun k e => by simp [Value.ownBlock] at e; omega)
        · exact H3.out.t1.mono fun b hb => ⟨hb, fun o => hc b o hb⟩
        · have h := HO2.out
          rw [Nat.add_comm 1 us.length] at h
          exact ownsRow_far (ownsRow_far h (by simp [Value.ownBlock]; omega) _) (by simp [Value.ownBlock]; omega) _
        · exact VsAt.cons (H3.out.t2.mono fun b hb => ⟨hb, fun o => hc b o hb⟩) (HVS.out.mono fun b hb => ⟨hb, fun o => hc b o hb⟩)
        · rw [HR.out.args]; simp [argsOf]
        · rw [HR.out.first]; rfl
        · simp; omega
      case measure => have := HQ.out; simp only [Tm.size] at this; omega
    · have hh : (hdOf t' == [97, 112, 112]) = false := by
        cases t' with
        | app f a => exact absurd ⟨f, a, rfl⟩ hl
        | var x => rfl
        | lam x d => rfl
      have hbd : argsOf t' = [] ∧ firstOf t' = t' := by
        cases t' with
        | app f a => exact absurd ⟨f, a, rfl⟩ hl
        | var x => exact ⟨rfl, rfl⟩
        | lam x d => exact ⟨rfl, rfl⟩
      have HBD := Lib.hid hbd
      clear hbd hl
      go_wp2
      have hW : Blk ((w1.setCell ⟨w.heap.size + 1, 0, none⟩ (.string ⟨(tmTr t').atom.toArray⟩)).setCell ⟨w.heap.size + 1, 1, none⟩ (.slice A n c)) (w.heap.size + 1) 35 #[.string ⟨(tmTr t').atom.toArray⟩, .slice A n c] := res_set HRS.out _ _
      have g0 := hW.cell 0
      have g1 := hW.cell 1
      simp only [List.getElem?_toArray, List.getElem?_cons_zero, List.getElem?_cons_succ] at g0 g1
      refine bodyPost_ret (v := .tuple #[.agg #[.string ⟨(tmTr t').atom.toArray⟩, .slice A n c], .slice (some ⟨ga, 0, none⟩) us.length ca]) (by simp [results, Try.results36, go_sem, g0, g1]) rfl ?_
      have hus : argsOf t = us := by have := HR.out.args; rw [HBD.out.1] at this; simpa using this
      have hc : ∀ q o, P q → ((w1.setCell ⟨w.heap.size + 1, 0, none⟩ (.string ⟨(tmTr t').atom.toArray⟩)).setCell ⟨w.heap.size + 1, 1, none⟩ (.slice A n c)).cell? ⟨q, o, none⟩ = w1.cell? ⟨q, o, none⟩ := fun q o hq => by
        have hbw := HP.out q hq
        rw [World.cell?_setCell_other _ _ _ _ (by intro e; injection e with e; omega), World.cell?_setCell_other _ _ _ _ (by intro e; injection e with e; omega)]
      refine ⟨_, ga, ca, xs, by rw [hus], ?_, ?_, ?_, ?_⟩
      · rw [HR.out.first, HBD.out.2]
        exact HT1.out.mono fun b hb => ⟨hb, fun o => hc b o hb⟩
      · rw [hus]
        have hgl := (HOW.out.lt ga rfl).1
        exact ownsRow_far (ownsRow_far HOW.out (by simp [Value.ownBlock]; omega) _) (by simp [Value.ownBlock]; omega) _
      · rw [hus]
        exact HVS.out.mono fun b hb => ⟨hb, fun o => hc b o hb⟩
      · exact ((HR.out.below.trans (HB1.out.mono hzw)).setCell (p := ⟨w.heap.size + 1, 0, none⟩) (by simp) _).setCell (p := ⟨w.heap.size + 1, 1, none⟩) (by simp) _
end Go.Proofs.Ytgceephloklpbac
