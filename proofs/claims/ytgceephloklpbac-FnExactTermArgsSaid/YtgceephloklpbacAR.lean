/- TermArgs of the model and of the program. -/
import Derived.Test.YtgceephloklpbacPA
import Derived.Test.YtgceephloklpbacF3
namespace Go.Proofs.Ytgceephloklpbac
set_option linter.unusedVariables false
open Go.RowKit

/-- The second terms' texts of a term that is read. -/
def arOf : Option Tm → List (List UInt8)
  | some t => (argsOf (bodyOf t)).map wrTm
  | none => []
def TaPost (o : Option Tm) (w : World) (e : Ending) (w' : World) : Prop :=
  ∃ v, e = .returned (.tuple #[v, .bool o.isSome]) ∧ SRow w' w.heap.size v (arOf o) ∧ Below w.heap.size w w'
theorem argsOf_length (t : Tm) : (argsOf t).length ≤ t.size := by
  induction t with
  | var x => simp [argsOf]
  | lam x b _ => simp [argsOf]
  | app f a ihf _ => simp only [argsOf, Tm.size, List.length_append, List.length_singleton]; omega
theorem argsOf_atoms (t : Tm) : ∀ a ∈ argsOf t, a.atoms ≤ t.atoms := by
  induction t with
  | var x => simp [argsOf]
  | lam x b _ => simp [argsOf]
  | app f a ihf _ =>
    intro c hc
    simp only [argsOf, List.mem_append, List.mem_singleton] at hc
    simp only [Tm.atoms]
    rcases hc with hc | rfl
    · have := ihf c hc; omega
    · omega
theorem arOf_length (l : List UInt8) : (arOf (rdTerm l)).length ≤ 400 := by
  cases h : rdTerm l with
  | none => simp [arOf]
  | some t =>
    have h1 := (rdTerm_good _ _ h).2
    have h2 := size_atoms t
    have h3 := bodyOf_size t
    have h4 := argsOf_length (bodyOf t)
    simp only [arOf, List.length_map]
    omega
theorem take_map_snoc (l : List Tm) (k : Nat) (h : k < l.length) : (l.take (k + 1)).map wrTm = (l.take k).map wrTm ++ [wrTm l[k]] := by
  rw [List.take_succ_eq_append_getElem h, List.map_append]; rfl

set_option maxRecDepth 100000 in
set_option maxHeartbeats 4000000 in
theorem specTermArgs_any (s : ByteArray) (w : World) (hm : s.size ≤ maxLen) :
    Calls Try.prog 22 #[.string s] w (TaPost (rdTerm s.data.toList) w) := by
  obtain ⟨i0, hinf, hz0, hzs, hzb⟩ := info_parts Try.infoStr
  go_enter Try.func22, Try.ntmps22
  go_wp2_with fail
  refine (l1Term_any s _ hm).mono ?_
  rintro e w1 ⟨hb1, ⟨t, v, hrd, rfl, htr⟩ | ⟨hrd, b, A, n, c, rfl⟩⟩
  · obtain ⟨A, n, c, rfl⟩ := htr.shape
    obtain ⟨hok, hat⟩ := rdTerm_good _ _ hrd
    have hsa := size_atoms t
    have hz := hb1.size
    have HR := Lib.hid hrd
    have HT := Lib.hid ((htr.alloc (fun q hq => hq.2) (.cells #[.string ⟨(tmTr t).atom.toArray⟩, .slice A n c] 35)).alloc (fun q hq => by have := hq.2; simp; omega) (.cells #[] 9))
    have HK := Lib.hid hok
    have HB1 := Lib.hid ((hb1.alloc hz (.cells #[.string ⟨(tmTr t).atom.toArray⟩, .slice A n c] 35)).alloc (by simp; omega) (.cells #[] 9))
    have HOUT : Hid (SRow ((w1.alloc (.cells #[.string ⟨(tmTr t).atom.toArray⟩, .slice A n c] 35)).alloc (.cells #[] 9)) w1.heap.size (.slice (some ⟨w1.heap.size + 1, 0, none⟩) 0 0) []) := by
      refine Lib.hid ?_
      have h := World.ownsRow_made (base := w1.heap.size) (e := 9) (size := 1) (w1.alloc (.cells #[.string ⟨(tmTr t).atom.toArray⟩, .slice A n c] 35)) #[] 0 (by simp) (Nat.zero_le _) rfl
      unfold SRow
      simpa using h
    clear hrd htr hok hb1
    go_wp2_with fail
    refine (l1Body_any t HK.out _ _ _ HT.out (fun q hq => by simp; omega) (by omega)).mono ?_
    rintro e w2 ⟨vb, rfl, htb, hb2⟩
    obtain ⟨A1, n1, c1, rfl⟩ := htb.two
    have hz2 := hb2.size
    simp at hz2
    have hall2 : ∀ q, (w.heap.size ≤ q ∧ q < w1.heap.size) → q < w2.heap.size := fun q hq => by omega
    have HTB := Lib.hid (htb.alloc hall2 (.cells #[.string ⟨(tmTr (bodyOf t)).atom.toArray⟩, .slice A1 n1 c1] 35))
    have HB2 := Lib.hid ((HB1.out.trans (hb2.mono (by simp; omega))).alloc (by omega) (.cells #[.string ⟨(tmTr (bodyOf t)).atom.toArray⟩, .slice A1 n1 c1] 35))
    have HOUT2 := Lib.hid ((HOUT.out.below hb2).alloc (.cells #[.string ⟨(tmTr (bodyOf t)).atom.toArray⟩, .slice A1 n1 c1] 35))
    have hbs := bodyOf_size t
    have HAL := Lib.hid hall2
    clear htb hb2 hall2
    go_wp2_with fail
    refine (l1Spine_any (bodyOf t) (bodyOf_ok t HK.out) _ _ _ HTB.out (fun q hq => by have := HAL.out q hq; simp; omega) (by omega)).mono ?_
    rintro e w3 ⟨vf, ga, ca, xs, rfl, htf, hown, hvs, hb3⟩
    obtain ⟨A2, n2, c2, rfl⟩ := htf.two
    have hz3 := hb3.size
    simp at hz3
    have hall3 : ∀ q, (w.heap.size ≤ q ∧ q < w1.heap.size) → q < w3.heap.size := fun q hq => by omega
    have HB3 := Lib.hid (((HB2.out.trans (hb3.mono (by simp; omega))).alloc (by omega) (.cells #[.string ⟨(tmTr (firstOf (bodyOf t))).atom.toArray⟩, .slice A2 n2 c2] 35)))
    have HOUT3 := Lib.hid ((SRow.below HOUT2.out hb3).alloc (.cells #[.string ⟨(tmTr (firstOf (bodyOf t))).atom.toArray⟩, .slice A2 n2 c2] 35))
    have HOWN := Lib.hid (hown.alloc (.cells #[.string ⟨(tmTr (firstOf (bodyOf t))).atom.toArray⟩, .slice A2 n2 c2] 35))
    have HVS := Lib.hid (hvs.mono (w' := w3.alloc (.cells #[.string ⟨(tmTr (firstOf (bodyOf t))).atom.toArray⟩, .slice A2 n2 c2] 35)) (fun q hq => ⟨hq, fun o => World.cell?_alloc_lt _ _ _ (hall3 q hq)⟩))
    have HAL3 := Lib.hid hall3
    have HARG := Lib.hid (show ∀ a ∈ argsOf (bodyOf t), a.ok ∧ a.atoms ≤ 400 from fun a ha => ⟨argsOf_ok _ (bodyOf_ok t HK.out) a ha, by have := argsOf_atoms (bodyOf t) a ha; have := bodyOf_atoms t; omega⟩)
    have hal := argsOf_length (bodyOf t)
    clear htf hown hvs hb3 hall3
    go_wp2_with fail
    go_loopw [6, 11] (fun ov i wr => ∃ (k : Nat) (A0 : Option Addr) (n0 c0 : Nat), k ≤ (argsOf (bodyOf t)).length ∧ i = .int .i64 k ∧ ov = .slice A0 n0 c0 ∧ Hid (SRow wr w1.heap.size (.slice A0 n0 c0) (((argsOf (bodyOf t)).take k).map wrTm)) ∧ Hid (Below w.heap.size w wr ∧ (∀ q, w.heap.size ≤ q ∧ q < w1.heap.size → q < wr.heap.size) ∧ (w.heap.size ≤ wr.heap.size ∧ w1.heap.size ≤ wr.heap.size) ∧
        wr.ownsRow (w2.heap.size + 1 + 2) 35 2 (.slice (some ⟨ga, 0, none⟩) (argsOf (bodyOf t)).length ca) (argsOf (bodyOf t)).length xs ∧ VsAt wr (fun q => w.heap.size ≤ q ∧ q < w1.heap.size) ((argsOf (bodyOf t)).map tmTr) xs)) (fun _ i _ => (argsOf (bodyOf t)).length - (intOf i).toNat)
    case atStart =>
      refine ⟨0, _, _, _, by omega, rfl, rfl, Lib.hid HOUT3.out, Lib.hid ⟨HB3.out, fun q hq => by have := HAL3.out q hq; simp; omega, ⟨by simp; omega, by simp; omega⟩, ?_, HVS.out⟩⟩
      have := HOWN.out
      simpa using this
    case round =>
      obtain ⟨k, A0, n0, c0, hk, rfl, rfl, HSR, HI⟩ := hrel
      by_cases hlt : k < (argsOf (bodyOf t)).length
      · have hn0 : n0 = k := by have := SRow.len HSR.out; simp at this; omega
        subst hn0
        obtain ⟨x, y, hx, hy, hxy⟩ := HI.out.2.2.2.2.at_ n0 (tmTr (argsOf (bodyOf t))[n0]) (by simp [hlt])
        rw [Nat.mul_comm] at hx hy
        obtain ⟨A5, n5, c5, e5⟩ := hxy.shape
        simp at e5
        obtain ⟨rfl, rfl⟩ := e5
        have q0 := HI.out.2.2.2.1.cells (g := ga) rfl _ _ hx
        have q1 := HI.out.2.2.2.1.cells (g := ga) rfl _ _ hy
        rw [add_off] at q0 q1
        obtain ⟨hok5, hat5⟩ := HARG.out _ (List.getElem_mem hlt)
        have HXY := Lib.hid hxy
        have HOK5 := Lib.hid hok5
        have HSN := Lib.hid (take_map_snoc (argsOf (bodyOf t)) n0 hlt)
        have hle0 : w.heap.size ≤ wr.heap.size := HI.out.2.2.1.1
        have hle1 : w1.heap.size ≤ wr.heap.size := HI.out.2.2.1.2
        clear hx hy hxy hok5
        go_wp2_with fail
        refine (l1Text_tm _ HOK5.out hat5 _ _ _ HXY.out HI.out.2.1).mono ?_
        rintro e w4 ⟨rfl, hb4⟩
        have HSR4 := Lib.hid (SRow.below HSR.out hb4)
        have HB4 := Lib.hid hb4
        have hz4 := hb4.size
        have hlen4 : (((argsOf (bodyOf t)).take n0).map wrTm).length = n0 := by simp; omega
        have HL4 := Lib.hid hlen4
        have hos : w4.ownsRow w1.heap.size 9 1 (.slice A0 n0 c0) n0 ((((argsOf (bodyOf t)).take n0).map wrTm).map strV) := by
          have h := HSR4.out
          unfold SRow at h
          rw [HL4.out] at h
          exact h
        have HOS := Lib.hid hos
        clear hb4 hlen4 hos
        go_wp2_with (first
          | (at_builtin
             refine wpList_append_own_at _ rfl (.tmp 37) (.tmp 43) 23 rfl w1.heap.size 9 i0 (.string ⟨#[]⟩) 1 16 Try.underlying23 hinf hz0 hzs hzb rfl (by decide) (.slice A0 n0 c0) n0 ((((argsOf (bodyOf t)).take n0).map wrTm).map strV) rfl (HOS.out.alloc _) ⟨w4.heap.size, 0, none⟩ 1 1 [.string ⟨(wrTm (argsOf (bodyOf t))[n0]).toArray⟩] rfl rfl (cell_one_new _ _ _) ?_ ?_ ?_ ?_ ?_
             · intro u hu
               simp at hu
               subst hu
               rfl
             · unfold maxLen; omega
             · omega
             · simp; omega
             intro v2 w5 hown5 hg5 _ hat5')
          | fail)
        obtain ⟨A6, c6, hv2⟩ := own_shape hown5
        subst hv2
        have hz5 := hg5.size
        simp at hz5
        go_roundw
        case rel =>
          have hag : Hid (((w4.alloc (.cells #[.string ⟨(wrTm (argsOf (bodyOf t))[n0]).toArray⟩] 9))).ownsRow (w2.heap.size + 1 + 2) 35 2 (.slice (some ⟨ga, 0, none⟩) (argsOf (bodyOf t)).length ca) (argsOf (bodyOf t)).length xs) :=
            Lib.hid ((HI.out.2.2.2.1.kept (grown_of_below HB4.out none) (.inr (by simp [Value.ownBlock]))).alloc _)
          refine ⟨n0 + 1, A6, n0 + 1, c6, by omega, by go_num, rfl, Lib.hid ?_, Lib.hid ⟨?_, fun q hq => by have := HI.out.2.1 q hq; omega, ⟨by omega, by omega⟩, ?_, ?_⟩⟩
          · unfold SRow
            rw [HSN.out, List.length_append, HL4.out, List.map_append]
            exact hown5
          · exact ((HI.out.1.trans (HB4.out.mono hle0)).alloc (by omega) _).grown hg5 (by simp; omega) (fun q e => by have := (HOS.out.lt q e).1; omega)
          · exact hag.out.kept hg5 (own_two hag.out (HOS.out.alloc _) (by decide))
          · refine HI.out.2.2.2.2.mono fun q hq => ⟨hq, fun o => ?_⟩
            have hqr := HI.out.2.1 q hq
            have hne : some q ≠ (Value.slice A0 n0 c0).ownBlock := fun e => by have := (HOS.out.lt q e.symm).1; omega
            rw [World.cell?_of_block (w := w4.alloc (.cells #[.string ⟨(wrTm (argsOf (bodyOf t))[n0]).toArray⟩] 9)) (hg5.block q (by simp; omega) hne), World.cell?_alloc_lt _ _ _ (show q < w4.heap.size by omega)]
            exact HB4.out.cell (p := ⟨q, o, none⟩) hqr
        case measure => simp [intOf]; omega
      · have hke : (argsOf (bodyOf t)).take k = argsOf (bodyOf t) := List.take_of_length_le (by omega)
        have HKE := Lib.hid hke
        clear hke
        go_wp2
        go_ret2
        exact ⟨_, by rw [HR.out]; rfl, by have := HSR.out; rw [HKE.out] at this; rw [HR.out]; exact own_base this hz, HI.out.1⟩
  · have HR := Lib.hid hrd
    have hz := hb1.size
    clear hrd
    go_wp2
    go_ret2
    have h := World.ownsRow_made (base := w.heap.size) (e := 9) (size := 1) (w1.alloc (.cells #[.string b, .slice A n c] 35)) #[] 0 (by simp; omega) (Nat.zero_le _) rfl
    have hr : SRow (((w1.alloc (.cells #[.string b, .slice A n c] 35)).alloc (.cells #[] 9))) w.heap.size (.slice (some ⟨w1.heap.size + 1, 0, none⟩) 0 0) [] := by
      unfold SRow
      simpa using h
    exact ⟨_, by rw [HR.out]; rfl, by rw [HR.out]; exact hr, (hb1.alloc hz _).alloc (by simp; omega) _⟩
/-- What stays on the way through the second terms. -/
structure ArK (w w2 : World) (P : Nat → Prop) (t : Tm) (sb : Nat) (AL : Option Addr) (cl : Nat) (bb fb : Nat) (AA : Option Addr) (ca : Nat) (xs : List Value) (wr : World) : Prop where
  below : Below w.heap.size w wr
  le : w.heap.size ≤ w2.heap.size ∧ w2.heap.size ≤ wr.heap.size
  spn : Blk wr sb 54 #[.slice AL (lamsOf t).length cl, .pointer (some ⟨bb, 0, none⟩), .pointer (some ⟨fb, 0, none⟩), .slice AA xs.length ca]
  lams : Scope wr (.slice AL (lamsOf t).length cl) (lamsOf t).reverse
  low : ∀ k, (Value.slice AL (lamsOf t).length cl).ownBlock = some k → w.heap.size ≤ k ∧ k < w2.heap.size
  args : wr.ownsRow w.heap.size 38 1 (.slice AA xs.length ca) xs.length xs
  ds : DsAt wr P ((argsOf (bodyOf t)).map (toDB (lamsOf t).reverse)) xs
theorem DsAt.keep {w w' : World} {P : Nat → Prop} (h : ∀ q cs, Blk w q 66 cs → Blk w' q 66 cs) {ds : List DB} {xs : List Value} (hd : DsAt w P ds xs) : DsAt w' P ds xs :=
  ⟨hd.1, fun i d x h1 h2 => (hd.2 i d x h1 h2).keep h⟩

set_option maxRecDepth 100000 in
set_option maxHeartbeats 4000000 in
theorem implTermArgs_any (s : ByteArray) (w : World) (hm : s.size ≤ maxLen) :
    Calls Try.prog 23 #[.string s] w (TaPost (rdTerm s.data.toList) w) := by
  obtain ⟨i0, hinf, hz0, hzs, hzb⟩ := info_parts Try.infoStr
  go_enter Try.func23, Try.ntmps23
  go_wp2_with fail
  refine (readTerm_any s _ hm).mono ?_
  rintro e w1 ⟨hb1, ⟨t, v, hrd, rfl, hd⟩ | ⟨hrd, rfl⟩⟩
  · obtain ⟨d, rfl, _⟩ := hd.shape
    obtain ⟨hok, hat⟩ := rdTerm_good _ _ hrd
    have hsa := size_atoms t
    obtain ⟨p1, p2, p3, p4⟩ := parts_of t
    have HR := Lib.hid hrd
    have HD := Lib.hid hd
    have HK := Lib.hid hok
    have HB1 := Lib.hid hb1
    have hz1 := hb1.size
    have HP1 := Lib.hid p1
    have HP4 := Lib.hid p4
    have hls := lamsOf_size t
    have hbs := bodyOf_size t
    have hal := argsOf_length (bodyOf t)
    have hts : (toDB [] t).size ≤ 1000 := by rw [toDB_size]; omega
    have HARG := Lib.hid (show ∀ a ∈ argsOf (bodyOf t), a.ok ∧ a.atoms ≤ 400 from fun a ha => ⟨argsOf_ok _ (bodyOf_ok t HK.out) a ha, by have := argsOf_atoms (bodyOf t) a ha; have := bodyOf_atoms t; omega⟩)
    clear hrd hd hok p1 p2 p3 p4 hb1
    go_wp2_with fail
    refine (takeApart_any _ _ _ _ HD.out (fun q hq => hq.2) hts).mono ?_
    rintro e w2 ⟨lv, bb, fb, av, xs, rfl, hb2, hlv, hbd, hfd, hav, hds⟩
    rw [HP1.out] at hlv
    rw [HP4.out] at hds
    obtain ⟨AL, cl, hlve⟩ := own_shape hlv
    obtain ⟨AA, ca, have_⟩ := own_shape hav
    subst hlve have_
    have hxl : xs.length = (argsOf (bodyOf t)).length := by have := hds.1; rw [List.length_map] at this; exact this.symm
    have hz2 := hb2.size
    have HKK : Hid (ArK w w2 (fun q => w.heap.size ≤ q ∧ q < w1.heap.size) t w2.heap.size AL cl bb fb AA ca xs (w2.alloc (.cells #[.slice AL (lamsOf t).length cl, .pointer (some ⟨bb, 0, none⟩), .pointer (some ⟨fb, 0, none⟩), .slice AA xs.length ca] 54))) :=
      Lib.hid ⟨(HB1.out.trans (hb2.mono hz1)).alloc (by omega) _, ⟨by omega, by simp⟩, Blk.new _ _ _, hlv.scope.alloc _, fun k e => ⟨by have := (hlv.lt k e).1; omega, (hlv.lt k e).2⟩, (own_base hav hz1).alloc _, hds.keep (fun q cs hk => hk.alloc _)⟩
    have c3 := HKK.out.spn.cell 3
    have sl := HKK.out.spn.lt
    simp at c3
    have HXL := Lib.hid hxl
    have hxl2 : xs.length ≤ 400 := by omega
    have hlr : (lamsOf t).reverse.length ≤ 400 := by rw [List.length_reverse]; omega
    clear hbd hfd hb2 hlv hav hds hxl
    go_wp2_with fail
    go_loopw [7, 22] (fun ov i wr => ∃ (k : Nat) (A0 : Option Addr) (n0 c0 : Nat), k ≤ xs.length ∧ i = .int .i64 k ∧ ov = .slice A0 n0 c0 ∧ Hid (SRow wr w2.heap.size (.slice A0 n0 c0) (((argsOf (bodyOf t)).take k).map wrTm)) ∧ Hid (ArK w w2 (fun q => w.heap.size ≤ q ∧ q < w1.heap.size) t w2.heap.size AL cl bb fb AA ca xs wr)) (fun _ i _ => xs.length - (intOf i).toNat)
    case atStart => exact ⟨0, none, 0, 0, by omega, rfl, rfl, Lib.hid (World.ownsRow_nil _ _ _ _), HKK⟩
    case round =>
      obtain ⟨k, A0, n0, c0, hk, rfl, rfl, HSR, HI⟩ := hrel
      by_cases hlt : k < xs.length
      · have hlt2 : k < (argsOf (bodyOf t)).length := by have := HXL.out; omega
        have hn0 : n0 = k := by have := SRow.len HSR.out; simp at this; omega
        subst hn0
        obtain ⟨ga, hga⟩ : ∃ g, AA = some ⟨g, 0, none⟩ := by
          rcases HI.out.args.2 with ⟨_, h0⟩ | ⟨g, cap, cur, hv, _⟩
          · omega
          · injection hv with h1 _ _; exact ⟨g, h1⟩
        subst hga
        have hd5 := HI.out.ds.2 n0 (toDB (lamsOf t).reverse (argsOf (bodyOf t))[n0]) xs[n0] (by simp [hlt2]) (List.getElem?_eq_getElem hlt)
        obtain ⟨b5, hb5, _⟩ := hd5.shape
        rw [hb5] at hd5
        have q0 := HI.out.args.cells (g := ga) rfl n0 xs[n0] (List.getElem?_eq_getElem hlt)
        rw [add_off, hb5] at q0
        obtain ⟨hok5, hat5⟩ := HARG.out _ (List.getElem_mem hlt2)
        have s0 := HI.out.spn.cell 0
        have sl := HI.out.spn.lt
        simp at s0
        have HD5 := Lib.hid hd5
        have HOK5 := Lib.hid hok5
        have HSN := Lib.hid (take_map_snoc (argsOf (bodyOf t)) n0 hlt2)
        have hle0 := HI.out.le.1
        have hle1 := HI.out.le.2
        clear hd5 hok5 hb5
        go_wp2_with fail
        refine (text_part _ HOK5.out hat5 (lamsOf t).reverse hlr _ _ _ _ HD5.out HI.out.lams).mono ?_
        rintro e w4 ⟨rfl, hg4, hs4, hk4⟩
        have hz4 := hg4.size
        have hlen4 : (((argsOf (bodyOf t)).take n0).map wrTm).length = n0 := by simp; omega
        have HL4 := Lib.hid hlen4
        have hos : w4.ownsRow w2.heap.size 9 1 (.slice A0 n0 c0) n0 ((((argsOf (bodyOf t)).take n0).map wrTm).map strV) := by
          have h : SRow w4 w2.heap.size (.slice A0 n0 c0) (((argsOf (bodyOf t)).take n0).map wrTm) := HSR.out.kept hg4 (by
            cases h1 : (Value.slice A0 n0 c0).ownBlock with
            | none => exact .inl rfl
            | some q => exact .inr fun e => by have := (HSR.out.lt q h1).1; have := (HI.out.low q e.symm).2; omega)
          unfold SRow at h
          rw [HL4.out] at h
          exact h
        have HK4 : Hid (ArK w w2 (fun q => w.heap.size ≤ q ∧ q < w1.heap.size) t w2.heap.size AL cl bb fb (some ⟨ga, 0, none⟩) ca xs w4) :=
          Lib.hid ⟨HI.out.below.grown hg4 (by omega) (fun q e => (HI.out.low q e).1), ⟨hle0, by omega⟩, HI.out.spn.grown hg4 (row_not HI.out.spn HI.out.lams (by decide)), hs4, HI.out.low, HI.out.args.kept hg4 (own_two HI.out.args HI.out.lams (by decide)), HI.out.ds.keep hk4⟩
        have HOS := Lib.hid hos
        clear hg4 hs4 hk4 hlen4 hos s0
        go_wp2_with (first
          | (at_builtin
             refine wpList_append_own_at _ rfl (.tmp 26) (.tmp 31) 23 rfl w2.heap.size 9 i0 (.string ⟨#[]⟩) 1 16 Try.underlying23 hinf hz0 hzs hzb rfl (by decide) (.slice A0 n0 c0) n0 ((((argsOf (bodyOf t)).take n0).map wrTm).map strV) rfl (HOS.out.alloc _) ⟨w4.heap.size, 0, none⟩ 1 1 [.string ⟨(wrTm (argsOf (bodyOf t))[n0]).toArray⟩] rfl rfl (cell_one_new _ _ _) ?_ ?_ ?_ ?_ ?_
             · intro u hu
               simp at hu
               subst hu
               rfl
             · unfold maxLen; omega
             · omega
             · simp; omega
             intro v2 w5 hown5 hg5 _ hat5')
          | fail)
        obtain ⟨A6, c6, hv2⟩ := own_shape hown5
        subst hv2
        have hz5 := hg5.size
        simp at hz5
        go_roundw
        case rel =>
          have hrow : ∀ q, (Value.slice A0 n0 c0).ownBlock = some q → w2.heap.size ≤ q := fun q e => (HOS.out.lt q e).1
          have ho := HOS.out.alloc (.cells #[.string ⟨(wrTm (argsOf (bodyOf t))[n0]).toArray⟩] 9)
          refine ⟨n0 + 1, A6, n0 + 1, c6, by omega, by go_num, rfl, Lib.hid ?_, Lib.hid ⟨?_, ⟨hle0, by omega⟩, ?_, ?_, HI.out.low, ?_, ?_⟩⟩
          · unfold SRow
            rw [HSN.out, List.length_append, HL4.out, List.map_append]
            exact hown5
          · exact (HK4.out.below.alloc (by omega) _).grown hg5 (by simp; omega) (fun q e => by have := hrow q e; omega)
          · exact (HK4.out.spn.alloc _).grown hg5 (row_not (HK4.out.spn.alloc _) ho (by decide))
          · refine (HK4.out.lams.alloc _).kept hg5 ?_
            cases h1 : (Value.slice AL (lamsOf t).length cl).ownBlock with
            | none => exact .inl rfl
            | some q => exact .inr fun e => by have := hrow q e.symm; have := (HI.out.low q h1).2; omega
          · exact (HK4.out.args.alloc _).kept hg5 (own_two (HK4.out.args.alloc _) ho (by decide))
          · exact HK4.out.ds.keep (fun q cs hk => (hk.alloc _).grown hg5 (row_not (hk.alloc _) ho (by decide)))
        case measure => simp [intOf]; omega
      · have hke : (argsOf (bodyOf t)).take k = argsOf (bodyOf t) := List.take_of_length_le (by have := HXL.out; omega)
        have HKE := Lib.hid hke
        clear hke
        go_wp2
        go_ret2
        exact ⟨_, by rw [HR.out]; rfl, by have := HSR.out; rw [HKE.out] at this; rw [HR.out]; exact own_base this HI.out.le.1, HI.out.below⟩
  · have HR := Lib.hid hrd
    clear hrd
    go_wp2
    go_ret2
    exact ⟨_, by rw [HR.out]; rfl, by rw [HR.out]; exact World.ownsRow_nil _ _ _ _, hb1⟩
end Go.Proofs.Ytgceephloklpbac
