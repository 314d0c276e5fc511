/- The model's canonical term. -/
import Derived.Test.YtkomchdmcbdahaaDoorRM
import Derived.Test.YtkomchdmcbdahaaDoorCM
import Derived.Test.YtkomchdmcbdahaaDoorU1
namespace Go.Proofs.YtkomchdmcbdahaaDoor
set_option linter.unusedVariables false
open Go.RowKit

def ApPost (P : Nat → Prop) (r : Tr) (w : World) (e : Ending) (w' : World) : Prop :=
  ∃ a A m c, e = .returned (.agg #[a, .slice A m c]) ∧ TNew P w.heap.size w' r (.agg #[a, .slice A m c]) ∧ Below w.heap.size w w'

theorem apart_call (t : Tm) (hok : t.ok) (hat : t.atoms ≤ 400) (fr : List (List UInt8)) (hfr : fr.length ≤ 999) (base : Nat) (fv v : Value) (W : World) (P : Nat → Prop) (ht : TAt W P (tmTr t) v) (hP : ∀ b, P b → b < W.heap.size) (hf : SRow W base fv fr) :
    Calls Tryd.prog 47 #[v, .slice (some ⟨W.heap.size, 0, none⟩) 0 0, .slice (some ⟨W.heap.size + 1, 0, none⟩) 0 0, .pointer (some ⟨W.heap.size + 1 + 1, 0, none⟩)] (((W.alloc (.cells #[] 9)).alloc (.cells #[] 9)).alloc (.cells #[fv, .int .i64 0] 65))
      fun e w' => ∃ (a : List UInt8) (A : Option Addr) (m c : Nat), e = .returned (.agg #[.string ⟨a.toArray⟩, .slice A m c]) ∧ TNew P W.heap.size w' (tmTr (renT fr t [] [] 0).1) (.agg #[.string ⟨a.toArray⟩, .slice A m c]) ∧ Below W.heap.size W w' := by
  have hsz := size_atoms t
  have r1 : SRow (((W.alloc (.cells #[] 9)).alloc (.cells #[] 9)).alloc (.cells #[fv, .int .i64 0] 65)) 0 (.slice (some ⟨W.heap.size, 0, none⟩) 0 0) [] :=
    ((World.ownsRow_made (base := 0) (e := 9) (size := 1) W #[] 0 (Nat.zero_le _) (Nat.zero_le _) rfl).alloc _).alloc _
  have r2 : SRow (((W.alloc (.cells #[] 9)).alloc (.cells #[] 9)).alloc (.cells #[fv, .int .i64 0] 65)) 0 (.slice (some ⟨W.heap.size + 1, 0, none⟩) 0 0) [] := by
    have h := (World.ownsRow_made (base := 0) (e := 9) (size := 1) (W.alloc (.cells #[] 9)) #[] 0 (Nat.zero_le _) (Nat.zero_le _) rfl).alloc (.cells #[fv, .int .i64 0] 65)
    have e : (W.alloc (.cells #[] 9)).heap.size = W.heap.size + 1 := by simp
    rw [e] at h
    exact h
  have hn : Nms (((W.alloc (.cells #[] 9)).alloc (.cells #[] 9)).alloc (.cells #[fv, .int .i64 0] 65)) (W.heap.size + 1 + 1) fv 0 := by
    have h := Blk.new ((W.alloc (.cells #[] 9)).alloc (.cells #[] 9)) 65 #[fv, .int .i64 0]
    have e : ((W.alloc (.cells #[] 9)).alloc (.cells #[] 9)).heap.size = W.heap.size + 1 + 1 := by simp
    rw [e] at h
    exact h
  have ht3 := ((ht.alloc hP (.cells #[] 9)).alloc (fun b hb => by have := hP b hb; simp; omega) (.cells #[] 9)).alloc (fun b hb => by have := hP b hb; simp; omega) (.cells #[fv, .int .i64 0] 65)
  have hz3 : (((W.alloc (.cells #[] 9)).alloc (.cells #[] 9)).alloc (.cells #[fv, .int .i64 0] 65)).heap.size = W.heap.size + 3 := by simp
  have hB : Below W.heap.size W (((W.alloc (.cells #[] 9)).alloc (.cells #[] 9)).alloc (.cells #[fv, .int .i64 0] 65)) := (((Below.refl _ _).alloc (Nat.le_refl _) _).alloc (by simp) _).alloc (by simp; omega) _
  refine (l1Rename_any t [] [] fr 0 (W.heap.size + 1 + 1) base 0 W.heap.size 0 0 (W.heap.size + 1) 0 fv v _ P hok ht3 (fun b hb => by have := hP b hb; exact ⟨by omega, by omega⟩) hn (((hf.alloc _).alloc _).alloc _) r1 r2 rfl (by simp) hfr (by simp; omega) (by omega)).mono ?_
  rintro e w' ⟨a, A, m, c, rfl, h1, h2, h3⟩
  obtain ⟨A', n', c', e⟩ := h1.shape
  simp only [Value.agg.injEq, Array.mk.injEq, List.cons.injEq] at e
  obtain ⟨rfl, -, -⟩ := e
  exact ⟨_, A, m, c, rfl, h1.mono fun b hb => ⟨hb.imp id (fun h => ⟨by omega, h.2⟩), fun _ => rfl⟩, hB.grown h2 (by omega) (fun k e => by injection e with e; omega)⟩

set_option maxRecDepth 100000 in
theorem l1Apart_none (t : Tm) (hok : t.ok) (hat : t.atoms ≤ 400) (v : Value) (w : World) (P : Nat → Prop) (ht : TAt w P (tmTr t) v) (hP : ∀ b, P b → b < w.heap.size) :
    Calls Tryd.prog 26 #[v, .slice none 0 0] w (ApPost P (tmTr (canT t)) w) := by
  obtain ⟨A, m, c, rfl⟩ := ht.shape
  have HT := Lib.hid ht
  have HP := Lib.hid hP
  have HK := Lib.hid hok
  have HAT := Lib.hid hat
  clear ht hP hok hat
  go_enter Tryd.func26, Tryd.ntmps26
  go_wp2_with fail
  have hbx : Blk ((w.alloc (.cells #[.string ⟨(tmTr t).atom.toArray⟩, .slice A m c] 35)).alloc (.cells #[.string ⟨#[]⟩, .slice none 0 0] 35)) w.heap.size 35 #[.string ⟨(tmTr t).atom.toArray⟩, .slice A m c] := (Blk.new w _ _).alloc _
  have hrs : Blk ((w.alloc (.cells #[.string ⟨(tmTr t).atom.toArray⟩, .slice A m c] 35)).alloc (.cells #[.string ⟨#[]⟩, .slice none 0 0] 35)) (w.heap.size + 1) 35 #[.string ⟨#[]⟩, .slice none 0 0] := by
    have := Blk.new (w.alloc (.cells #[.string ⟨(tmTr t).atom.toArray⟩, .slice A m c] 35)) 35 #[.string ⟨#[]⟩, .slice none 0 0]
    simpa using this
  have ht1 := (HT.out.alloc HP.out (.cells #[.string ⟨(tmTr t).atom.toArray⟩, .slice A m c] 35)).alloc (fun q hq => by have := HP.out q hq; simp; omega) (.cells #[.string ⟨#[]⟩, .slice none 0 0] 35)
  have hB1 : Below w.heap.size w ((w.alloc (.cells #[.string ⟨(tmTr t).atom.toArray⟩, .slice A m c] 35)).alloc (.cells #[.string ⟨#[]⟩, .slice none 0 0] 35)) := ((Below.refl _ _).alloc (Nat.le_refl _) _).alloc (by simp) _
  have hsz : ((w.alloc (.cells #[.string ⟨(tmTr t).atom.toArray⟩, .slice A m c] 35)).alloc (.cells #[.string ⟨#[]⟩, .slice none 0 0] 35)).heap.size = w.heap.size + 2 := by simp
  generalize (w.alloc (.cells #[.string ⟨(tmTr t).atom.toArray⟩, .slice A m c] 35)).alloc (.cells #[.string ⟨#[]⟩, .slice none 0 0] 35) = W at hbx hrs ht1 hB1 hsz ⊢
  have r1 : SRow ((W.alloc (.cells #[] 9)).alloc (.cells #[] 9)) (w.heap.size + 2) (.slice (some ⟨w.heap.size + 1 + 1, 0, none⟩) 0 0) [] := by
    have h := World.ownsRow_made (base := w.heap.size + 2) (e := 9) (size := 1) W #[] 0 (by omega) (Nat.zero_le _) rfl
    have h2 := h.alloc (.cells #[] 9)
    rw [hsz] at h2
    exact h2
  have r2 : SRow ((W.alloc (.cells #[] 9)).alloc (.cells #[] 9)) (w.heap.size + 3) (.slice (some ⟨w.heap.size + 1 + 1 + 1, 0, none⟩) 0 0) [] := by
    have h := World.ownsRow_made (base := w.heap.size + 3) (e := 9) (size := 1) (W.alloc (.cells #[] 9)) #[] 0 (by simp; omega) (Nat.zero_le _) rfl
    have e : (W.alloc (.cells #[] 9)).heap.size = w.heap.size + 1 + 1 + 1 := by simp; omega
    rw [e] at h
    exact h
  have ht2 := (ht1.alloc (fun q hq => by have := HP.out q hq; omega) (.cells #[] 9)).alloc (fun q hq => by have := HP.out q hq; simp; omega) (.cells #[] 9)
  have hat := HAT.out
  refine (l1Free_any t [] [] (w.heap.size + 2) (w.heap.size + 1 + 1) 0 (w.heap.size + 3) _ _ _ P HK.out ht2 (fun q hq => ⟨by have := HP.out q hq; simp; omega, by intro e; simp [Value.ownBlock] at e; have := HP.out q hq; omega⟩) r1 (by simp [Value.ownBlock]) r2 (by simp; omega) (by simp; omega) (by simp; omega)).mono ?_
  rintro e w2 ⟨v2, rfl, gg1, gg2, -⟩
  have hb2 : Below (w.heap.size + 2) W w2 := (((Below.refl (w.heap.size + 2) W).alloc (by omega) _).alloc (by simp; omega) _).grown gg2 (by simp; omega) (fun k e => by simp [Value.ownBlock] at e; omega)
  have hbx2 := hbx.below hb2 (by omega)
  have hrs2 := hrs.below hb2 (by omega)
  have hB2 : Below w.heap.size w w2 := hB1.trans (hb2.mono (by omega))
  have ht3 := ht1.below hb2 (fun q hq => by have := HP.out q hq; omega)
  have hz2 := hb2.size
  obtain ⟨AF, cF, rfl⟩ := own_shape gg1
  have b0 := hbx2.cell 0
  have b1 := hbx2.cell 1
  simp only [List.getElem?_toArray, List.getElem?_cons_zero, List.getElem?_cons_succ] at b0 b1
  have HBX := Lib.hid hbx2
  have HRS := Lib.hid hrs2
  have HB := Lib.hid hB2
  have HT3 := Lib.hid ht3
  have HF := Lib.hid gg1
  have hz2' : w.heap.size + 2 ≤ w2.heap.size := by omega
  clear hbx hrs ht1 hB1 r1 r2 ht2 hat gg1 gg2 hb2 hbx2 hrs2 hB2 ht3 hz2 hsz
  go_wp2_with fail
  go_loopg [5, 6] 0 (fun q v5 v6 wr => q = 0 ∧ v5 = .slice AF (freeS [] t []).length cF ∧ v6 = .int .i64 0 ∧ wr = w2)
  case atStart => exact ⟨rfl, rfl, rfl, rfl⟩
  case round =>
    obtain ⟨-, rfl, rfl, rfl⟩ := hrel
    go_wp2_with fail
    have hfl : (freeS [] t []).length ≤ 999 := by
      have h0 := freeS_length t [] []
      have := HAT.out
      simp at h0
      omega
    refine (apart_call t HK.out HAT.out (freeS [] t []) hfl _ _ _ wr P HT3.out (fun q hq => by have := HP.out q hq; omega) HF.out).mono ?_
    rintro e w3 ⟨u, A', m', c', rfl, h1, h2⟩
    have hz3 := h2.size
    have hrs3 := HRS.out.below h2 (by omega)
    have s0 := hrs3.cell 0
    have s1 := hrs3.cell 1
    have sf0 := hrs3.frozen 0
    have sf1 := hrs3.frozen 1
    have sl := hrs3.lt
    simp only [List.getElem?_toArray, List.getElem?_cons_zero, List.getElem?_cons_succ] at s0 s1
    have hW : Blk ((w3.setCell ⟨w.heap.size + 1, 0, none⟩ (.string ⟨u.toArray⟩)).setCell ⟨w.heap.size + 1, 1, none⟩ (.slice A' m' c')) (w.heap.size + 1) 35 #[.string ⟨u.toArray⟩, .slice A' m' c'] := res_set hrs3 _ _
    have y0 := hW.cell 0
    have y1 := hW.cell 1
    simp only [List.getElem?_toArray, List.getElem?_cons_zero, List.getElem?_cons_succ] at y0 y1
    have HT5 : Hid (TNew P w.heap.size ((w3.setCell ⟨w.heap.size + 1, 0, none⟩ (.string ⟨u.toArray⟩)).setCell ⟨w.heap.size + 1, 1, none⟩ (.slice A' m' c')) (tmTr (canT t)) (.agg #[.string ⟨u.toArray⟩, .slice A' m' c'])) := Lib.hid (by
      refine h1.mono fun b hb => ⟨hb.imp id (fun h => ⟨by omega, by simpa [World.setCell] using h.2⟩), fun o => ?_⟩
      have hne : b ≠ w.heap.size + 1 := by
        rcases hb with h | h
        · have := HP.out b h; omega
        · omega
      rw [World.cell?_setCell_other _ _ _ _ (by intro e; injection e with e; omega), World.cell?_setCell_other _ _ _ _ (by intro e; injection e with e; omega)])
    have HB5 : Hid (Below w.heap.size w ((w3.setCell ⟨w.heap.size + 1, 0, none⟩ (.string ⟨u.toArray⟩)).setCell ⟨w.heap.size + 1, 1, none⟩ (.slice A' m' c'))) := Lib.hid (((HB.out.trans (h2.mono (by omega))).setCell (p := ⟨w.heap.size + 1, 0, none⟩) (by simp) _).setCell (p := ⟨w.heap.size + 1, 1, none⟩) (by simp) _)
    clear hrs3 hW h1 h2
    go_wp2_with fail
    refine bodyPost_ret (v := .agg #[.string ⟨u.toArray⟩, .slice A' m' c']) (by simp [results, Tryd.results26, go_sem, y0, y1]) rfl ?_
    exact ⟨_, _, _, _, rfl, HT5.out, HB5.out⟩

theorem specTermCanon_any (s : ByteArray) (w : World) (hm : s.size ≤ maxLen) :
    Calls Tryd.prog 10 #[.string s] w (CtPost (cnO (rdTerm s.data.toList)) w) := by
  go_enter Tryd.func10, Tryd.ntmps10
  go_wp2_with fail
  refine (l1Term_any s _ hm).mono ?_
  rintro e w1 ⟨hb1, ⟨t, v, hrd, rfl, htr⟩ | ⟨hrd, b, A, n, c, rfl⟩⟩
  · obtain ⟨A, n, c, rfl⟩ := htr.shape
    obtain ⟨hok, hat⟩ := rdTerm_good _ _ hrd
    have HR := Lib.hid hrd
    have HAT := Lib.hid hat
    have HT := Lib.hid htr
    have HK := Lib.hid hok
    have HB := Lib.hid hb1
    have hz := hb1.size
    clear hrd htr hok hat hb1
    go_wp2_with fail
    refine (l1Apart_none t HK.out HAT.out _ _ (fun b => w.heap.size ≤ b ∧ b < w1.heap.size) (HT.out.alloc (fun q hq => hq.2) _) (fun b hb => by have := hb.2; simp; omega)).mono ?_
    rintro e w2 ⟨u, A', m', c', rfl, h1, h2⟩
    obtain ⟨A'', n'', c'', e⟩ := h1.shape
    simp only [Value.agg.injEq, Array.mk.injEq, List.cons.injEq] at e
    obtain ⟨rfl, -, -⟩ := e
    have HT2 := Lib.hid h1
    have HB2 := Lib.hid ((HB.out.alloc hz _).trans (h2.mono (by simp; omega)))
    have hz2 := h2.size
    simp at hz2
    clear h1 h2
    go_wp2_with fail
    have htx := l1Text_any (tmTr (canT t)) _ w2 _ HT2.out (fun b hb => by
      rcases hb with hb | hb
      · have := hb.2; omega
      · exact hb.2) (by rw [wrTr_tm _ (canT_ok t HK.out HAT.out)]; have := wrTm_short (canT t) (canT_ok t HK.out HAT.out); have := canT_atoms t; have := HAT.out; omega)
    rw [wrTr_tm _ (canT_ok t HK.out HAT.out)] at htx
    refine htx.mono ?_
    rintro e w3 ⟨rfl, hb3⟩
    have HB3 := Lib.hid (HB2.out.trans (hb3.mono (by have := HB2.out.size; omega)))
    clear htx hb3
    go_wp2_with fail
    go_ret2
    exact ⟨by rw [HR.out]; rfl, HB3.out⟩
  · have HR := Lib.hid hrd
    have hz := hb1.size
    clear hrd
    go_wp2
    go_ret2
    exact ⟨by rw [HR.out]; rfl, hb1.alloc hz _⟩
end Go.Proofs.YtkomchdmcbdahaaDoor
