/- The model's reading of parts in parentheses, and of a whole text. -/
import Derived.Test.YtjcdclnaplojcaaGreatDoorC
namespace Go.Proofs.YtjcdclnaplojcaaGreatDoor
set_option linter.unusedVariables false
open Go.RowKit

/-- What holds at the head of each round. -/
structure LRel (s : ByteArray) (k i : Nat) (w : World) (i' : Nat) (acc : List Tr) (vp : Value) (xs : List Value) (wr : World) : Prop where
  lo : i ≤ i'
  hi : i' < s.size
  run : ∃ n, s.size - i' ≤ n ∧ rdParts (rdPart k) n (s.data.toList.drop (i' + 1)) acc = rdPart (k + 1) (s.data.toList.drop i)
  few : acc.length ≤ i'
  below : Below w.heap.size w wr
  res : Blk wr w.heap.size 51 #[.string ⟨#[]⟩, .slice none 0 0]
  out : Blk wr (w.heap.size + 1) 51 #[.string ⟨#[]⟩, vp]
  own : wr.ownsRow (w.heap.size + 2) 51 2 vp acc.length xs
  trees : VsAt wr (fun b => w.heap.size + 2 ≤ b ∧ b < wr.heap.size ∧ some b ≠ vp.ownBlock) acc xs

theorem res_set {w : World} {g : Nat} {t : TypeId} {x y : Value} (h : Blk w g t #[x, y]) (a b : Value) : Blk ((w.setCell ⟨g, 0, none⟩ a).setCell ⟨g, 1, none⟩ b) g t #[a, b] := by
  have := (h.set_ 0 a).set_ 1 b
  simpa using this
theorem ret_tree {fn : Func} {p u : Tmp} (h : fn.results = #[.cell p 51, .tmp u]) (tmps : Array Value) (w : World) (g : Nat) (a b : Value) (hp : tmps.getD p undef = .pointer (some ⟨g, 0, none⟩)) (hb : Blk w g 51 #[a, b]) :
    (results fn tmps).run Tryz.prog w = .ok (.tuple #[.agg #[a, b], tmps.getD u undef]) w := by
  rw [results_cell_tmp h, hp]
  have h0 := hb.cell 0
  have h1 := hb.cell 1
  simp at h0 h1
  simp [go_sem, h0, h1]

theorem LRel.step {s : ByteArray} {k i : Nat} {w : World} {i' : Nat} {acc : List Tr} {vp : Value} {xs : List Value} {wr w1 w2 : World} {t : Tr} {a b v2 : Value} {o1 o2 : Obj}
    (hR : LRel s k i w i' acc vp xs wr) (hb1 : Below wr.heap.size wr w1) (ht : TAt w1 (fun q => wr.heap.size ≤ q ∧ q < w1.heap.size) t (.agg #[a, b]))
    (hown2 : w2.ownsRow (w.heap.size + 2) 51 2 v2 (acc.length + 1) (xs ++ [a, b])) (hg2 : ((w1.alloc o1).alloc o2).grownBy w2 vp.ownBlock)
    (hat2 : v2.ownBlock = vp.ownBlock ∨ v2.ownBlock = some ((w1.alloc o1).alloc o2).heap.size) :
    Below w.heap.size w (w2.setCell ⟨w.heap.size + 1, 1, none⟩ v2) ∧
    Blk (w2.setCell ⟨w.heap.size + 1, 1, none⟩ v2) w.heap.size 51 #[.string ⟨#[]⟩, .slice none 0 0] ∧
    Blk (w2.setCell ⟨w.heap.size + 1, 1, none⟩ v2) (w.heap.size + 1) 51 #[.string ⟨#[]⟩, v2] ∧
    (w2.setCell ⟨w.heap.size + 1, 1, none⟩ v2).ownsRow (w.heap.size + 2) 51 2 v2 (acc.length + 1) (xs ++ [a, b]) ∧
    VsAt (w2.setCell ⟨w.heap.size + 1, 1, none⟩ v2) (fun q => w.heap.size + 2 ≤ q ∧ q < (w2.setCell ⟨w.heap.size + 1, 1, none⟩ v2).heap.size ∧ some q ≠ v2.ownBlock) (acc ++ [t]) (xs ++ [a, b]) ∧
    Blk w2 w.heap.size 51 #[.string ⟨#[]⟩, .slice none 0 0] ∧ Blk w2 (w.heap.size + 1) 51 #[.string ⟨#[]⟩, vp] := by
  have hlt := hR.own.lt
  have hz1 := hb1.size
  have hz2 := hg2.size
  have hz0 := hR.out.lt
  simp only [World.size_alloc] at hz2 hat2
  have r2 : Blk w2 w.heap.size 51 #[.string ⟨#[]⟩, .slice none 0 0] :=
    (((hR.res.below hb1 hR.res.lt).alloc _).alloc _).grown hg2 (fun e => by have := hlt _ e.symm; omega)
  have q2 : Blk w2 (w.heap.size + 1) 51 #[.string ⟨#[]⟩, vp] :=
    (((hR.out.below hb1 hR.out.lt).alloc _).alloc _).grown hg2 (fun e => by have := hlt _ e.symm; omega)
  have hne : v2.ownBlock ≠ some (w.heap.size + 1) := by
    rcases hat2 with h | h
    · rw [h]; intro e; have := hlt _ e; omega
    · rw [h]; intro e; simp at e; omega
  refine ⟨?_, r2.far (by simp) _, q2.set_ 1 v2, ownsRow_far hown2 hne _, ?_, r2, q2⟩
  · refine Below.setCell ?_ (by simp) _
    refine Below.grown ?_ hg2 (by simp; omega) (fun q e => by have := hlt _ e; omega)
    exact ((hR.below.trans (hb1.mono (by omega))).alloc (by omega) _).alloc (by simp; omega) _
  · have hsz : (w2.setCell ⟨w.heap.size + 1, 1, none⟩ v2).heap.size = w2.heap.size := by simp [World.setCell]
    rw [hsz]
    have cellw : ∀ q o, w.heap.size + 2 ≤ q → q < w1.heap.size → some q ≠ vp.ownBlock → (w2.setCell ⟨w.heap.size + 1, 1, none⟩ v2).cell? ⟨q, o, none⟩ = w1.cell? ⟨q, o, none⟩ := by
      intro q o h1 h2 h3
      rw [World.cell?_setCell_other _ _ _ _ (by intro e; injection e with e; omega)]
      rw [World.cell?_of_block (w := (w1.alloc o1).alloc o2) (hg2.block q (by simp; omega) h3)]
      rw [World.cell?_alloc_lt _ _ _ (by simp; omega), World.cell?_alloc_lt _ _ _ h2]
    have newne : ∀ q, q < w1.heap.size → some q ≠ vp.ownBlock → some q ≠ v2.ownBlock := by
      intro q h1 h2
      rcases hat2 with h | h
      · rw [h]; exact h2
      · rw [h]; intro e; simp at e; omega
    refine VsAt.snoc (hR.trees.mono fun q ⟨h1, h2, h3⟩ => ⟨⟨h1, by omega, newne q (by omega) h3⟩, fun o => ?_⟩) (ht.mono fun q ⟨h1, h2⟩ => ⟨⟨by omega, by omega, newne q h2 (fun e => by have := hlt _ e.symm; omega)⟩, fun o => ?_⟩)
    · rw [cellw q o h1 (by omega) h3]
      exact hb1.cell (p := ⟨q, o, none⟩) h2
    · exact cellw q o (by omega) h2 (fun e => by have := hlt _ e.symm; omega)

theorem LRel.run_none {s : ByteArray} {k i : Nat} {w : World} {i' : Nat} {acc : List Tr} {vp : Value} {xs : List Value} {wr : World} (hR : LRel s k i w i' acc vp xs wr)
    (h : rdPart k (s.data.toList.drop (i' + 1)) = none ∨ ∃ t, rdPart k (s.data.toList.drop (i' + 1)) = some (t, [])) : rdPart (k + 1) (s.data.toList.drop i) = none := by
  obtain ⟨n, hn, hrun⟩ := hR.run
  rw [← hrun]
  cases n with
  | zero => rfl
  | succ n =>
    unfold rdParts
    rcases h with h | ⟨t, h⟩
    · simp [h]
    · simp [h]
theorem LRel.run_some {s : ByteArray} {k i : Nat} {w : World} {i' : Nat} {acc : List Tr} {vp : Value} {xs : List Value} {wr : World} (hR : LRel s k i w i' acc vp xs wr) {t : Tr} {j : Nat} (hj : j < s.size)
    (h : rdPart k (s.data.toList.drop (i' + 1)) = some (t, s.data.toList.drop j)) :
    (s[j] = 41 → rdPart (k + 1) (s.data.toList.drop i) = some (.mk [] (acc ++ [t]), s.data.toList.drop (j + 1))) ∧
    (s[j] ≠ 41 → s[j] ≠ 32 → rdPart (k + 1) (s.data.toList.drop i) = none) ∧
    (s[j] = 32 → ∃ n, s.size - i' ≤ n + 1 ∧ rdParts (rdPart k) n (s.data.toList.drop (j + 1)) (acc ++ [t]) = rdPart (k + 1) (s.data.toList.drop i)) := by
  obtain ⟨n, hn, hrun⟩ := hR.run
  have hi := hR.hi
  rw [← hrun]
  cases n with
  | zero => omega
  | succ n =>
    rw [drop_at s j hj] at h
    refine ⟨fun h1 => by simp [rdParts, h, h1], fun h1 h2 => by simp [rdParts, h, h1, h2], fun h1 => ⟨n, by omega, ?_⟩⟩
    simp only [rdParts, h]
    rw [if_neg (by rw [h1]; decide), if_pos h1]

theorem LRel.start (s : ByteArray) (k i : Nat) (w : World) (hi : i < s.size) (hc : s[i] = 40) :
    LRel s k i w i [] (.slice none 0 0) [] ((w.alloc (.cells #[.string ⟨#[]⟩, .slice none 0 0] 51)).alloc (.cells #[.string ⟨#[]⟩, .slice none 0 0] 51)) where
  lo := Nat.le_refl _
  hi := hi
  run := by
    refine ⟨(s.data.toList.drop (i + 1)).length + 1, by simp; omega, ?_⟩
    rw [drop_at s i hi]
    simp [rdPart, hc]
  few := by simp
  below := by go_grown
  res := (Blk.new _ _ _).alloc _
  out := by have := Blk.new (w.alloc (.cells #[.string ⟨#[]⟩, .slice none 0 0] 51)) 51 #[.string ⟨#[]⟩, .slice none 0 0]; simpa using this
  own := World.ownsRow_nil _ _ _ _
  trees := by unfold VsAt; rfl

/-- What a closing parenthesis leaves. -/
theorem LRel.done {w w3 : World} {acc : List Tr} {t : Tr} {a b v2 x y : Value} {xs : List Value}
    (hfew : acc.length + 1 ≤ 8000) (hbl : Below w.heap.size w w3) (hown : w3.ownsRow (w.heap.size + 2) 51 2 v2 (acc.length + 1) (xs ++ [a, b]))
    (hv : VsAt w3 (fun q => w.heap.size + 2 ≤ q ∧ q < w3.heap.size ∧ some q ≠ v2.ownBlock) (acc ++ [t]) (xs ++ [a, b])) :
    Below w.heap.size w ((w3.setCell ⟨w.heap.size, 0, none⟩ x).setCell ⟨w.heap.size, 1, none⟩ y) ∧
    TAt ((w3.setCell ⟨w.heap.size, 0, none⟩ x).setCell ⟨w.heap.size, 1, none⟩ y) (fun q => w.heap.size ≤ q ∧ q < ((w3.setCell ⟨w.heap.size, 0, none⟩ x).setCell ⟨w.heap.size, 1, none⟩ y).heap.size) (.mk [] (acc ++ [t])) (.agg #[.string ⟨#[]⟩, v2]) := by
  have hsz : ((w3.setCell ⟨w.heap.size, 0, none⟩ x).setCell ⟨w.heap.size, 1, none⟩ y).heap.size = w3.heap.size := by simp [World.setCell]
  have cw : ∀ q o, w.heap.size + 2 ≤ q → ((w3.setCell ⟨w.heap.size, 0, none⟩ x).setCell ⟨w.heap.size, 1, none⟩ y).cell? ⟨q, o, none⟩ = w3.cell? ⟨q, o, none⟩ := by
    intro q o h
    rw [World.cell?_setCell_other _ _ _ _ (by intro e; injection e with e; omega), World.cell?_setCell_other _ _ _ _ (by intro e; injection e with e; omega)]
  refine ⟨(hbl.setCell (by simp) _).setCell (by simp) _, ?_⟩
  obtain ⟨g, cap, hvv, hg, hlt⟩ : ∃ g cap, v2 = .slice (some ⟨g, 0, none⟩) (acc.length + 1) cap ∧ w.heap.size + 2 ≤ g ∧ g < w3.heap.size := by
    rcases hown.2 with ⟨_, h⟩ | ⟨g', cap', cur, hv', h1, h2, _⟩
    · omega
    · exact ⟨g', cap', hv', h1, (Array.getElem?_eq_some_iff.1 h2).1⟩
  have hcells := hown.cells (g := g) (by rw [hvv]; rfl)
  have hcap : acc.length + 1 ≤ cap := by
    rcases hown.2 with ⟨_, h⟩ | ⟨g', cap', cur, hv', _, _, h, _⟩
    · omega
    · rw [hvv] at hv'; injection hv' with _ _ h2; omega
  unfold TAt
  refine ⟨v2, rfl, by simp, by simpa using hfew, .inr ⟨by simp, g, cap, xs ++ [a, b], by rw [hvv]; simp, by simpa using hcap, ⟨by omega, by omega⟩, fun j u hu => ?_, ?_⟩⟩
  · rw [cw g j hg]
    have := hcells j u hu
    rwa [show (⟨g, 0, none⟩ : Addr).add j = ⟨g, j, none⟩ from by unfold Addr.add; split <;> simp_all] at this
  · exact hv.mono fun q ⟨h1, h2, _⟩ => ⟨⟨by omega, by omega⟩, fun o => cw q o h1⟩

theorem Tryz.infoTree : (Tryz.prog.info? 51).map (fun i => (i.zero, i.size, i.bytes)) = some (some (.agg #[.string ⟨#[]⟩, .slice none 0 0]), 2, 40) := by kernel_rfl

set_option maxRecDepth 100000 in
theorem l1Read_list (s : ByteArray) (hs : s.size ≤ 8000) (k i : Nat) (d : Int) (w : World) (hd : d ≤ 300) (hd2 : 0 ≤ d) (hi : i < s.size) (hc : s[i] = 40)
    (ih : ∀ (z : Int) (w : World), 0 ≤ z → z ≤ s.size → Calls Tryz.prog 93 #[.string s, .int .i64 z, .int .i64 (d + 1)] w (RdPost s k z.toNat w)) :
    Calls Tryz.prog 93 #[.string s, .int .i64 i, .int .i64 d] w (RdPost s (k + 1) i w) := by
  have hcb : ((s[i].toNat : Int) != 40) = false := by
    rw [hc]; rfl
  have hdb : decide (300 < d) = false := by simp; omega
  have hib : decide (s.size ≤ i) = false := by simp; omega
  have HC := Lib.hid hc
  clear hc
  have IH := Lib.hid ih
  clear ih
  go_enter Tryz.func93, Tryz.ntmps93
  go_wp2
  go_loopw [1] (fun v wr => ∃ i' acc vp xs, v = .int .i64 ((i' : Nat) : Int) ∧ LRel s k i w i' acc vp xs wr) (fun v _ => s.size - (intOf v).toNat)
  case atStart => exact ⟨i, [], _, [], rfl, LRel.start s k i w hi HC.out⟩
  case round =>
    obtain ⟨i', acc, vp, xs, rfl, hR⟩ := hrel
    have hi' := hR.hi
    go_wp2_with fail
    refine (IH.out _ _ (by omega) (by omega)).mono ?_
    rintro e w1 ⟨hb1, hres⟩
    have hz1 := hb1.size
    have hres1 := hR.res.below hb1 hR.res.lt
    have hout1 := hR.out.below hb1 hR.out.lt
    have hlt1 := hres1.lt
    have hlt2 := hout1.lt
    have c0 := hres1.cell 0
    have c1 := hres1.cell 1
    have c2 := hout1.cell 0
    have c3 := hout1.cell 1
    have f0 := hres1.frozen
    have f1 := hout1.frozen
    simp at c0 c1 c2 c3
    obtain ⟨A0, n0, rfl⟩ := own_shape hR.own
    rcases hres with ⟨t, r, v, j, hrd, rfl, hj, hjs, hdr, htr⟩ | ⟨hrd, b, A, n, c, rfl⟩
    · obtain ⟨A, n, c, rfl⟩ := htr.shape
      have hlo := hR.lo
      rw [show ((i' : Int) + 1).toNat = i' + 1 from by omega] at hj hrd
      obtain ⟨i0, hinf, hz0, hzs, hzb⟩ := info_parts Tryz.infoTree
      have hfew := hR.few
      have own1 := (hR.own.kept (grown_of_below hb1 none) (by cases h : (Value.slice A0 acc.length n0).ownBlock <;> simp))
      have HTR := Lib.hid htr
      have HRD := Lib.hid hrd
      have HDR := Lib.hid hdr
      clear htr hrd hdr
      by_cases hjlt : j < s.size
      · have hsm := Lib.hid (hR.run_some hjlt (by rw [HRD.out, ← HDR.out]))
        go_wp2_with (
          (at_builtin
           refine wpList_append_own_at _ rfl (.tmp 69) (.tmp 71) 49 rfl (w.heap.size + 2) 51 i0 (.agg #[.string ⟨#[]⟩, .slice none 0 0]) 2 40 Tryz.underlying49 hinf hz0 hzs hzb rfl (by decide) (.slice A0 acc.length n0) acc.length xs rfl ((own1.alloc _).alloc _) ⟨w1.heap.size + 1, 0, none⟩ 1 1 [.string ⟨t.atom.toArray⟩, .slice A n c] rfl rfl ?_ ?_ ?_ ?_ ?_ ?_
           · have hh := cell_two_new (w1.alloc (.cells #[.string ⟨t.atom.toArray⟩, .slice A n c] 51)) (.string ⟨t.atom.toArray⟩) (.slice A n c) 51
             simpa using hh
           · intro u hu
             simp at hu
             rcases hu with rfl | rfl <;> rfl
           · unfold maxLen; omega
           · omega
           · simp; omega
           intro v2 w2 hown2 hg2 _ hat2
           have hst := Lib.hid (hR.step hb1 HTR.out hown2 hg2 hat2)
           have r2 := hst.out.2.2.2.2.2.1
           have q2 := hst.out.2.2.2.2.2.2
           obtain ⟨A2, n2, rfl⟩ := own_shape hown2
           have d0 := r2.cell 0
           have d1 := r2.cell 1
           have d2 := q2.cell 0
           have d3 := q2.cell 1
           have g0 := r2.frozen
           have g1 := q2.frozen
           simp at d0 d1 d2 d3))
        all_goals (obtain ⟨s1, s2, s3, s4, s5, _, _⟩ := hst.out)
        · have hx : (((s[j].toNat : Nat) : Int) == 41) = true := by assumption
          refine bodyPost_ret (ret_tree Tryz.results93 _ _ _ _ _ rfl (res_set s2 _ _)) rfl ?_
          obtain ⟨e1, e2⟩ := LRel.done (x := .string ⟨#[]⟩) (y := .slice A2 (acc.length + 1) n2) (by omega) s1 s4 s5
          refine ⟨e1, .inl ⟨_, _, _, j + 1, (hsm.out.1 (byte_of_beq hx)), rfl, by omega, by omega, rfl, e2⟩⟩
        · have hx : (((s[j].toNat : Nat) : Int) == 41) = false := by assumption
          have hy : (((s[j].toNat : Nat) : Int) != 32) = true := by assumption
          refine bodyPost_ret (ret_tree Tryz.results93 _ _ _ _ _ rfl (res_set s2 _ _)) rfl ?_
          obtain ⟨e1, e2⟩ := LRel.done (x := .string ⟨#[]⟩) (y := .slice A2 (acc.length + 1) n2) (by omega) s1 s4 s5
          exact ⟨e1, .inr ⟨hsm.out.2.1 (byte_of_beq_false hx) (byte_of_bne hy), _, _, _, _, rfl⟩⟩
        · have hy : (((s[j].toNat : Nat) : Int) != 32) = false := by assumption
          obtain ⟨n', hn', hrun⟩ := hsm.out.2.2 (byte_of_bne_false hy)
          go_roundw
          case rel => exact ⟨j, acc ++ [t], _, _, rfl, ⟨by omega, hjlt, ⟨n', by omega, hrun⟩, by simp; omega, s1, s2, s3, by simpa using s4, s5⟩⟩
          case measure => simp [intOf]; omega
      · have hnone := Lib.hid (hR.run_none (.inr ⟨t, by rw [HRD.out, ← HDR.out, List.drop_of_length_le (by simp; omega)]⟩))
        go_wp2
        refine bodyPost_ret (ret_tree Tryz.results93 _ _ _ _ _ rfl ((res_set hres1 _ _).alloc _)) rfl ?_
        refine ⟨?_, .inr ⟨hnone.out, _, _, _, _, rfl⟩⟩
        exact (((hR.below.trans (hb1.mono (by have := hR.below.size; omega))).setCell (by simp) _).setCell (by simp) _).alloc (by simp [World.setCell]; omega) _
    · have hnone := Lib.hid (hR.run_none (.inl (by rw [show i' + 1 = ((i' : Int) + 1).toNat from by omega]; exact hrd)))
      clear hrd
      go_wp2
      refine bodyPost_ret (ret_tree Tryz.results93 _ _ _ _ _ rfl ((res_set hres1 _ _).alloc _)) rfl ?_
      refine ⟨?_, .inr ⟨hnone.out, _, _, _, _, rfl⟩⟩
      exact (((hR.below.trans (hb1.mono (by have := hR.below.size; omega))).setCell (by simp) _).setCell (by simp) _).alloc (by simp [World.setCell]; omega) _

theorem l1Read_any (s : ByteArray) (hs : s.size ≤ 8000) : ∀ (k : Nat) (z d : Int) (w : World), k ≤ 301 → d = 301 - k → 0 ≤ z → z ≤ s.size →
    Calls Tryz.prog 93 #[.string s, .int .i64 z, .int .i64 d] w (RdPost s k z.toNat w) := by
  intro k
  induction k with
  | zero =>
    intro z d w _ hd h0 h1
    obtain ⟨i, rfl⟩ := Int.eq_ofNat_of_zero_le h0
    exact l1Read_zero s hs i d w (by omega) (by omega) (by omega)
  | succ k ih =>
    intro z d w hk hd h0 h1
    obtain ⟨i, rfl⟩ := Int.eq_ofNat_of_zero_le h0
    rw [Int.toNat_natCast]
    by_cases hi : i = s.size
    · exact l1Read_end s hs k i d w (by omega) (by omega) hi
    · have hi' : i < s.size := by omega
      by_cases hc : s[i] = 40
      · exact l1Read_list s hs k i d w (by omega) (by omega) hi' hc fun z w h2 h3 => ih z (d + 1) w (by omega) (by omega) h2 h3
      · exact l1Read_atom s hs k i d w (by omega) (by omega) hi' hc

/-- What the model's reading of a whole text answers. -/
def PaPost (s : ByteArray) (w : World) (e : Ending) (w' : World) : Prop :=
  Below w.heap.size w w' ∧
  ((∃ t v, rdText s.data.toList = some t ∧ e = .returned (.tuple #[v, .bool true]) ∧ TAt w' (fun b => w.heap.size ≤ b ∧ b < w'.heap.size) t v) ∨
   (rdText s.data.toList = none ∧ ∃ b A n c, e = .returned (.tuple #[.agg #[.string b, .slice A n c], .bool false])))

theorem l1Parse_any (s : ByteArray) (w : World) (hm : s.size ≤ maxLen) :
    Calls Tryz.prog 56 #[.string s] w (PaPost s w) := by
  unfold maxLen at hm
  by_cases hs : s.size ≤ 8000
  · go_enter Tryz.func56, Tryz.ntmps56
    go_wp2_with fail
    refine (l1Read_any s hs 301 _ _ _ (by omega) (by omega) (by omega) (by omega)).mono ?_
    rintro e w1 ⟨hb1, hres⟩
    have hr := (Blk.new w 51 #[.string ⟨#[]⟩, .slice none 0 0]).below hb1 (by simp)
    have hlt := hr.lt
    have c0 := hr.cell 0
    have c1 := hr.cell 1
    have f0 := hr.frozen
    simp at c0 c1
    have hB : Below w.heap.size w w1 := ((Below.refl _ _).alloc (Nat.le_refl _) _).trans (hb1.mono (by simp))
    rw [show Int.toNat 0 = 0 from rfl, List.drop_zero] at hres
    rcases hres with ⟨t, r, v, j, hrd, rfl, hj, hjs, hdr, htr⟩ | ⟨hrd, b, A, n, c, rfl⟩
    · obtain ⟨A, n, c, rfl⟩ := htr.shape
      have hj2 : ((j : Int) == (s.size : Int)) = decide (r = []) := by
        rw [Bool.eq_iff_iff, ← hdr]
        simp
        omega
      have hfin : rdText s.data.toList = if r = [] then some t else none := by
        unfold rdText
        rw [if_neg (by simp; omega), hrd]
        cases r <;> rfl
      have HJ := Lib.hid hj2
      have HF := Lib.hid hfin
      have HTR := Lib.hid htr
      clear hj2 hfin hrd hdr htr
      go_wp2
      refine bodyPost_ret (ret_tree Tryz.results56 _ _ _ _ _ rfl ((res_set hr _ _).alloc _)) rfl ?_
      refine ⟨((hB.setCell (by simp) _).setCell (by simp) _).alloc (by simp [World.setCell]; omega) _, ?_⟩
      by_cases hr0 : r = []
      · refine .inl ⟨t, .agg #[.string ⟨t.atom.toArray⟩, .slice A n c], by rw [HF.out, if_pos hr0], ?_, ?_⟩
        rotate_left
        · refine HTR.out.mono fun q ⟨h1, h2⟩ => ⟨⟨by simp at h1; omega, by simp [World.setCell]; omega⟩, fun o => ?_⟩
          simp at h1
          rw [World.cell?_alloc_lt _ _ _ (by simp [World.setCell]; exact h2), World.cell?_setCell_other _ _ _ _ (by intro e; injection e with e; omega), World.cell?_setCell_other _ _ _ _ (by intro e; injection e with e; omega)]
        · show Ending.returned (.tuple #[_, .bool ((j : Int) == (s.size : Int))]) = _
          rw [HJ.out, decide_eq_true hr0]
      · refine .inr ⟨by rw [HF.out, if_neg hr0], ⟨t.atom.toArray⟩, A, n, c, ?_⟩
        show Ending.returned (.tuple #[_, .bool ((j : Int) == (s.size : Int))]) = _
        rw [HJ.out, decide_eq_false hr0]
    · have hfin : rdText s.data.toList = none := by
        unfold rdText
        rw [if_neg (by simp; omega), hrd]
      have hj2 : ((-1 : Int) == (s.size : Int)) = false := beq_eq_false_iff_ne.2 (by omega)
      have HF := Lib.hid hfin
      clear hfin hrd
      go_wp2
      refine bodyPost_ret (ret_tree Tryz.results56 _ _ _ _ _ rfl ((res_set hr _ _).alloc _)) rfl ?_
      exact ⟨((hB.setCell (by simp) _).setCell (by simp) _).alloc (by simp [World.setCell]; omega) _, .inr ⟨HF.out, _, _, _, _, rfl⟩⟩
  · have hn : rdText s.data.toList = none := by unfold rdText; rw [if_pos (by simp; omega)]
    have HN := Lib.hid hn
    clear hn
    go_enter Tryz.func56, Tryz.ntmps56
    go_wp2
    refine bodyPost_ret (ret_tree Tryz.results56 _ _ _ _ _ rfl (Blk.new _ _ _)) rfl ?_
    exact ⟨by go_grown, .inr ⟨HN.out, _, _, _, _, rfl⟩⟩
end Go.Proofs.YtjcdclnaplojcaaGreatDoor
