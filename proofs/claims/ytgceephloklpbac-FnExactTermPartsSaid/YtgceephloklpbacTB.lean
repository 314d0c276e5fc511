/- The program takes a term apart: the walk. -/
import Derived.Test.YtgceephloklpbacTA
import Derived.Test.YtgceephloklpbacWB
import Derived.Deep.RegionLaw
import Derived.Test.YtgceephloklpbacL
namespace Go.Proofs.Ytgceephloklpbac
set_option linter.unusedVariables false
open Go.RowKit
attribute [local go_sem ↓] Go.wp_at_zero Go.wp_at_succ

theorem infoStr' : (Try.prog.info? 9).map (fun i => (i.zero, i.size, i.bytes)) = some (some (.string ⟨#[]⟩), 1, 16) := by kernel_rfl
/-- A term is known by its form. -/
def DB.code : DB → Int
  | .free _ => 0
  | .bnd _ => 1
  | .lam _ _ => 2
  | .app _ _ => 3
theorem DAt.code_cell {w : World} {P : Nat → Prop} {d : DB} {v : Value} (h : DAt w P d v) : ∃ b, v = .pointer (some ⟨b, 0, none⟩) ∧ P b ∧ w.cell? ⟨b, 0, none⟩ = some (.int .i64 d.code) ∧ b < w.heap.size := by
  cases d with
  | free x => obtain ⟨b, rfl, hP, _, hb⟩ := h; have := hb.cell 0; simp at this; exact ⟨b, rfl, hP, this, hb.lt⟩
  | bnd i => obtain ⟨b, rfl, hP, hb⟩ := h; have := hb.cell 0; simp at this; exact ⟨b, rfl, hP, this, hb.lt⟩
  | lam x e => obtain ⟨b, c, rfl, hP, _, hb, _⟩ := h; have := hb.cell 0; simp at this; exact ⟨b, rfl, hP, this, hb.lt⟩
  | app f a => obtain ⟨b, c, e, rfl, hP, hb, _⟩ := h; have := hb.cell 0; simp at this; exact ⟨b, rfl, hP, this, hb.lt⟩
theorem SRow.short {w : World} {b : Nat} {v : Value} {l : List (List UInt8)} (h : SRow w b v l) : ∃ A c, v = .slice A l.length c := own_shape h

set_option maxRecDepth 100000 in
set_option maxHeartbeats 4000000 in
theorem takeApart_any (d : DB) (v : Value) (w : World) (P : Nat → Prop) (hd : DAt w P d v) (hP : ∀ b, P b → b < w.heap.size) (hsz : d.size ≤ 1000) :
    Calls Try.prog 38 #[v] w (TkPost P w d) := by
  obtain ⟨b, rfl, hbP⟩ := hd.shape
  have HD := Lib.hid hd
  have HP := Lib.hid hP
  obtain ⟨i0, hinf, hz0, hzs, hzb⟩ := info_parts infoStr'
  obtain ⟨i1, hinf1, hz1, hzs1, hzb1⟩ := info_parts Try.infoPtrTerm
  clear hd hP
  go_enter Try.func38, Try.ntmps38
  go_wp2
  go_loopg [0] d.size (fun q v wr => ∃ d' ls lv, q = d'.size ∧ Hid (TkA P w d d' ls lv v wr))
  case atStart =>
    refine ⟨d, [], .slice none 0 0, rfl, Lib.hid ⟨by go_grown, ?_, (Blk.new _ _ _).alloc _, ?_, World.ownsRow_nil _ _ _ _, by simp, rfl, by simp⟩⟩
    · exact DAt.mono (fun q hq => ⟨hq, by have := HP.out q hq; rw [Below.heap_alloc _ _ _ (by simp; omega), Below.heap_alloc _ _ _ this]⟩) HD.out
    · have := Blk.new (w.alloc (.cells #[.slice none 0 0, .pointer none, .pointer none, .slice none 0 0] 54)) 54 #[.slice none 0 0, .pointer none, .pointer none, .slice none 0 0]
      simpa using this
  case round =>
    obtain ⟨d', ls, lv, hq, HT⟩ := hrel
    have HQ := Lib.hid hq
    clear hq
    obtain ⟨A, c, rfl⟩ := HT.out.own.short
    have hlen : ls.length ≤ 1000 := by have := HT.out.le; omega
    have s0 := HT.out.loc.cell 0
    have sf := HT.out.loc.frozen 0
    have sl := HT.out.loc.lt
    simp at s0
    have hown := HT.out.own
    have hbase := HT.out.below.size
    by_cases hlam : ∃ x e, d' = .lam x e
    · obtain ⟨x, e, rfl⟩ := hlam
      obtain ⟨b', cb, rfl, hb'P, hx, hb', he⟩ := HT.out.dat
      have k0 := hb'.cell 0
      have k1 := hb'.cell 1
      have k3 := hb'.cell 3
      have kl := hb'.lt
      simp at k0 k1 k3
      have HE := Lib.hid he
      have HB' := Lib.hid hb'
      have hb'w := HP.out b' hb'P
      have hne1 : some (w.heap.size + 1) ≠ (Value.slice A ls.length c).ownBlock := fun e => by have := (hown.lt _ e.symm).1; omega
      have hne2 : some b' ≠ (Value.slice A ls.length c).ownBlock := fun e => by have := (hown.lt _ e.symm).1; omega
      have HOWN := Lib.hid hown
      have hfz : ∀ o, (wr.alloc o).frozen? ⟨w.heap.size + 1, 0, none⟩ = false := fun o => (frozen_alloc' wr o sl).trans sf
      clear he hb' hown
      go_wp2
      go_region_law ((refine step_append_lies _ (by rfl) _ _ _ (by rfl) (w.heap.size + 2) 9 i0 (.string ⟨#[]⟩) 1 16 Try.underlying23 hinf hz0 hzs hzb rfl (by omega) (.slice A ls.length c) ls.length (ls.map strV) (by rfl) ((HOWN.out.alloc _).drew) ⟨wr.heap.size, 0, none⟩ 1 1 [.string ⟨x.toArray⟩] (by rfl) (by rfl) (World.news_of_block (cs := #[.string ⟨x.toArray⟩]) (t := 9) (fr := (0, 0)) (heap_alloc_new wr _)) (by simp [Value.oneCell']) (by omega) (by unfold maxLen; omega) (by omega) (by simp; omega) (wr.heap.size + 1) (by simp) ?_; intro g cap w1 hown1 hgrow hat hlt; have q0 := far_cell hgrow sl hne1 s0; have q1 := far_froz hgrow sl hne1 sf; have q3 := far_cell hgrow kl hne2 k3))
      all_goals
        go_wp2
        go_roundg e.size
        case rel => exact ⟨e, ls ++ [x], _, rfl, Lib.hid (HT.out.step HP.out hown1 hgrow hat HE.out)⟩
        case measure => have := HQ.out; simp only [DB.size] at this; omega
    · have hbod : dBody d' = d' ∧ dLams d' = [] ∧ ((d'.code == 2) = false) := by
        cases d' with
        | lam x e => exact absurd ⟨x, e, rfl⟩ hlam
        | free x => exact ⟨rfl, rfl, rfl⟩
        | bnd i => exact ⟨rfl, rfl, rfl⟩
        | app f a => exact ⟨rfl, rfl, rfl⟩
      obtain ⟨hb1, hb2, hb3⟩ := hbod
      obtain ⟨b', rfl, hb'P, k0, kl⟩ := HT.out.dat.code_cell
      have s1 := HT.out.loc.cell 1
      have sf1 := HT.out.loc.frozen 1
      simp at s1
      have HT2 := Lib.hid (HT.out.turn HP.out hb1 hb2)
      have hbl : ls.length = (dLams d).length := by have := HT.out.lams; rw [hb2, List.append_nil] at this; rw [this]
      have HBL := Lib.hid hbl
      clear hb1 hb2 hown hbl hlam
      go_wp2
      obtain ⟨wo, hwo⟩ : ∃ wo, wo = wr.setCell ⟨w.heap.size + 1, 1, none⟩ (.pointer (some ⟨b', 0, none⟩)) := ⟨_, rfl⟩
      rw [← hwo] at HT2 ⊢
      clear hwo s0 s1 sf sf1 sl k0 kl HT hbase hb'P hb3
      go_loopg [0] d'.size (fun q v wr => ∃ d'' cs av xs, q = d''.size ∧ Hid (TkB P w d d'' (.slice A ls.length c) (.pointer (some ⟨b', 0, none⟩)) av cs xs v wr))
      case atStart => exact ⟨d', [], .slice none 0 0, [], rfl, HT2⟩
      case round =>
        obtain ⟨d2, cs, av, xs, hq2, HT⟩ := hrel
        have HQ2 := Lib.hid hq2
        clear hq2
        obtain ⟨A2, c2, hav⟩ := own_shape HT.out.args
        subst hav
        have hlen2 : xs.length ≤ 1000 := by have := HT.out.le; have := HT.out.ds.1; omega
        have s0 := HT.out.loc.cell 0
        have s1 := HT.out.loc.cell 1
        have s3 := HT.out.loc.cell 3
        have sf := HT.out.loc.frozen 3
        have sf2 := HT.out.loc.frozen 2
        have s2 := HT.out.loc.cell 2
        have sl := HT.out.loc.lt
        simp at s0 s1 s2 s3
        have hown := HT.out.args
        have hbase := HT.out.below.size
        by_cases happ : ∃ f a, d2 = .app f a
        · obtain ⟨f, a, rfl⟩ := happ
          obtain ⟨b2, cb, db, rfl, hb'P, hb', hf, ha⟩ := HT.out.dat
          have k0 := hb'.cell 0
          have k3 := hb'.cell 3
          have k4 := hb'.cell 4
          have kl := hb'.lt
          simp at k0 k3 k4
          have HF := Lib.hid hf
          have HA := Lib.hid ha
          have hb'w := HP.out b2 hb'P
          have hne1 : some (w.heap.size + 1) ≠ (Value.slice A2 xs.length c2).ownBlock := fun e => by have := (hown.lt _ e.symm).1; omega
          have hne2 : some b2 ≠ (Value.slice A2 xs.length c2).ownBlock := fun e => by have := (hown.lt _ e.symm).1; omega
          have HOWN := Lib.hid hown
          clear hf ha hb' hown
          go_wp2
          go_region_law ((refine step_append_lies _ (by rfl) _ _ _ (by rfl) (w.heap.size + 2) 38 i1 (.pointer none) 1 8 Try.underlying52 hinf1 hz1 hzs1 hzb1 rfl (by omega) (.slice A2 xs.length c2) xs.length xs (by rfl) ((HOWN.out.alloc _).drew) ⟨wr.heap.size, 0, none⟩ 1 1 [.pointer (some ⟨db, 0, none⟩)] (by rfl) (by rfl) (World.news_of_block (cs := #[.pointer (some ⟨db, 0, none⟩)]) (t := 38) (fr := (0, 0)) (heap_alloc_new wr _)) (by simp [Value.oneCell']) (by omega) (by unfold maxLen; omega) (by omega) (by simp; omega) (wr.heap.size + 1) (by simp) ?_; intro g cap w1 hown1 hgrow hat hlt; have q0 := far_cell hgrow sl hne1 s3; have q1 := far_froz hgrow sl hne1 sf; have q3 := far_cell hgrow kl hne2 k3))
          all_goals
            go_wp2
            go_roundg f.size
            case rel => exact ⟨f, cs ++ [a], _, xs ++ [.pointer (some ⟨db, 0, none⟩)], rfl, Lib.hid (HT.out.step HP.out hown1 hgrow hat HF.out HA.out)⟩
            case measure => have := HQ2.out; simp only [DB.size] at this; omega
        · have hfst : dArgs d2 = [] ∧ dFirst d2 = d2 ∧ ((d2.code == 3) = false) := by
            cases d2 with
            | app f a => exact absurd ⟨f, a, rfl⟩ happ
            | free x => exact ⟨rfl, rfl, rfl⟩
            | bnd i => exact ⟨rfl, rfl, rfl⟩
            | lam x e => exact ⟨rfl, rfl, rfl⟩
          obtain ⟨hb1, hb2, hb3⟩ := hfst
          obtain ⟨b2, rfl, hb'P, k0, kl⟩ := HT.out.dat.code_cell
          have HDN := Lib.hid (fun w1 => HT.out.done (w1 := w1) HP.out hb1 hb2)
          have HOWN := Lib.hid (ownsRow_far hown (a := ⟨w.heap.size + 1, 2, none⟩) (fun e => by have := (hown.lt _ e).1; simp at this) (.pointer (some ⟨b2, 0, none⟩)))
          have HPT := Lib.hid HT.out.ds.ptrs
          clear hb1 hb2 hown happ
          go_wp2_with fail
          refine (rev_any xs _ _ _ HOWN.out HPT.out (by omega)).mono ?_
          rintro e w5 ⟨rfl, hr5, hg5⟩
          obtain ⟨hR, hS, _, hfin⟩ := HDN.out w5 hr5 hg5
          have c0 := hS.cell 0
          have c1 := hS.cell 1
          have c2' := hS.cell 2
          have c3 := hS.cell 3
          have hRl := hR.lt
          have hSl := hS.lt
          have d0 := hR.cell 0
          have d1 := hR.cell 1
          have d2' := hR.cell 2
          have d3 := hR.cell 3
          have f0 := hR.frozen 0
          have f1 := hR.frozen 1
          have f2 := hR.frozen 2
          have f3 := hR.frozen 3
          simp at c0 c1 c2' c3 d0 d1 d2' d3
          have HRR := Lib.hid hR
          have HFN := Lib.hid hfin
          clear hR hS hfin hr5 hg5 s0 s1 s2 s3 sf sf2 k0 kl hb3
          go_wp2
          have hW : Blk ((((w5.setCell ⟨w.heap.size, 0, none⟩ (.slice A ls.length c)).setCell ⟨w.heap.size, 1, none⟩ (.pointer (some ⟨b', 0, none⟩))).setCell ⟨w.heap.size, 2, none⟩ (.pointer (some ⟨b2, 0, none⟩))).setCell ⟨w.heap.size, 3, none⟩ (.slice A2 xs.length c2)) w.heap.size 54 #[.slice A ls.length c, .pointer (some ⟨b', 0, none⟩), .pointer (some ⟨b2, 0, none⟩), .slice A2 xs.length c2] := by
            have := (((HRR.out.set_ 0 (.slice A ls.length c)).set_ 1 (.pointer (some ⟨b', 0, none⟩))).set_ 2 (.pointer (some ⟨b2, 0, none⟩))).set_ 3 (.slice A2 xs.length c2)
            simpa using this
          have g0 := hW.cell 0
          have g1 := hW.cell 1
          have g2 := hW.cell 2
          have g3 := hW.cell 3
          simp only [List.getElem?_toArray, List.getElem?_cons_zero, List.getElem?_cons_succ] at g0 g1 g2 g3
          refine bodyPost_ret (v := .agg #[.slice A ls.length c, .pointer (some ⟨b', 0, none⟩), .pointer (some ⟨b2, 0, none⟩), .slice A2 xs.length c2]) (by simp [results, Try.results38, go_sem, g0, g1, g2, g3]) rfl ?_
          obtain ⟨r1, r2, r3, r4, r5, r6⟩ := HFN.out ((((w5.setCell ⟨w.heap.size, 0, none⟩ (.slice A ls.length c)).setCell ⟨w.heap.size, 1, none⟩ (.pointer (some ⟨b', 0, none⟩))).setCell ⟨w.heap.size, 2, none⟩ (.pointer (some ⟨b2, 0, none⟩))).setCell ⟨w.heap.size, 3, none⟩ (.slice A2 xs.length c2)) (fun q hq => by rw [Below.heap_setCell _ _ _ _ (by simpa using hq), Below.heap_setCell _ _ _ _ (by simpa using hq), Below.heap_setCell _ _ _ _ (by simpa using hq), Below.heap_setCell _ _ _ _ (by simpa using hq)]) (by rw [setCell_size, setCell_size, setCell_size, setCell_size]) rfl rfl rfl
          rw [List.length_reverse] at r5
          exact ⟨_, b', b2, _, xs.reverse, rfl, r1, r2, r3, r4, by rw [List.length_reverse]; exact r5, r6⟩
end Go.Proofs.Ytgceephloklpbac
