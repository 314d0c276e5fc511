/- The model renames apart from some terms. -/
import Derived.Test.YtkomchdmcbdahaaDoorPU
namespace Go.Proofs.YtkomchdmcbdahaaDoor
set_option linter.unusedVariables false
open Go.RowKit

theorem VsAt.get {w : World} {P : Nat → Prop} {ts : List Tr} {xs : List Value} (h : VsAt w P ts xs) {i : Nat} {t : Tr} (hi : ts[i]? = some t) : ∃ (a : List UInt8) (A : Option Addr) (m c : Nat), xs[i * 2]? = some (.string ⟨a.toArray⟩) ∧ xs[i * 2 + 1]? = some (.slice A m c) ∧ TAt w P t (.agg #[.string ⟨a.toArray⟩, .slice A m c]) := by
  induction ts generalizing xs i with
  | nil => simp at hi
  | cons t' ts ih =>
    unfold VsAt at h
    obtain ⟨a, b, r, rfl, h1, h2⟩ := h
    cases i with
    | zero =>
      simp at hi
      subst hi
      obtain ⟨A, n, c, e⟩ := h1.shape
      simp at e
      obtain ⟨rfl, rfl⟩ := e
      exact ⟨_, A, n, c, rfl, rfl, h1⟩
    | succ i =>
      obtain ⟨a', A, m, c, e1, e2, e3⟩ := ih h2 (i := i) (by simpa using hi)
      refine ⟨a', A, m, c, ?_, ?_, e3⟩
      · rw [show (i + 1) * 2 = i * 2 + 1 + 1 by omega, List.getElem?_cons_succ, List.getElem?_cons_succ]; exact e1
      · rw [show (i + 1) * 2 + 1 = i * 2 + 1 + 1 + 1 by omega, List.getElem?_cons_succ, List.getElem?_cons_succ]; exact e2

/-- The free names of a term and of some others. -/
def avs (t : Tm) (os : List Tm) : List (List UInt8) := freeS [] t [] ++ (os.map fun o => freeS [] o []).flatten

theorem avs_le (t : Tm) (os : List Tm) (k : Nat) : (avs t (os.take k)).length ≤ (avs t os).length := by
  have h : avs t os = avs t (os.take k) ++ ((os.drop k).map fun o => freeS [] o []).flatten := by
    unfold avs
    rw [List.append_assoc, ← List.flatten_append, ← List.map_append, List.take_append_drop]
  rw [h]
  simp
theorem avs_succ (t : Tm) (os : List Tm) (k : Nat) (o : Tm) (h : os[k]? = some o) : avs t (os.take (k + 1)) = avs t (os.take k) ++ freeS [] o [] := by
  obtain ⟨hk, rfl⟩ := List.getElem?_eq_some_iff.1 h
  unfold avs
  rw [List.take_succ_eq_append_getElem hk, List.map_append, List.flatten_append, List.append_assoc]
  simp only [List.map_cons, List.map_nil, List.flatten_cons, List.flatten_nil, List.append_nil]
theorem own_slice {w : World} {base : Nat} {v : Value} {l : List (List UInt8)} (h : SRow w base v l) {b : Nat} (hb : v.ownBlock = some b) : ∃ g c, v = .slice (some ⟨g, 0, none⟩) l.length c := by
  rcases h.2 with ⟨h, _⟩ | ⟨g, cap, cur, hv, _⟩
  · rw [h] at hb; simp [Value.ownBlock] at hb
  · exact ⟨g, cap, hv⟩

set_option maxRecDepth 100000 in
set_option maxHeartbeats 4000000 in
theorem l1Apart_any (t : Tm) (os : List Tm) (hok : t.ok) (hat : t.atoms ≤ 400) (hos : ∀ o ∈ os, o.ok ∧ o.atoms ≤ 400) (hlo : os.length ≤ 2) (hla : (avs t os).length ≤ 999) (go co : Nat) (xs : List Value) (v : Value) (w : World) (P : Nat → Prop) (ht : TAt w P (tmTr t) v) (hP : ∀ b, P b → b < w.heap.size) (hgo : go < w.heap.size) (hx : ∀ j u, xs[j]? = some u → w.cell? ⟨go, j, none⟩ = some u) (hv : VsAt w P (os.map tmTr) xs) :
    Calls Tryd.prog 26 #[v, .slice (some ⟨go, 0, none⟩) os.length co] w (ApPost P (tmTr (renT (avs t os) t [] [] 0).1) w) := by
  obtain ⟨A, m, c, rfl⟩ := ht.shape
  have HT := Lib.hid ht
  have HP := Lib.hid hP
  have HK := Lib.hid hok
  have HAT := Lib.hid hat
  have HOS := Lib.hid hos
  have HLA := Lib.hid hla
  have HX := Lib.hid hx
  have HV := Lib.hid hv
  clear ht hP hok hat hos hla hx hv
  go_enter Tryd.func26, Tryd.ntmps26
  go_wp2_with fail
  have hbx : Blk ((w.alloc (.cells #[.string ⟨(tmTr t).atom.toArray⟩, .slice A m c] 35)).alloc (.cells #[.string ⟨#[]⟩, .slice none 0 0] 35)) w.heap.size 35 #[.string ⟨(tmTr t).atom.toArray⟩, .slice A m c] := (Blk.new w _ _).alloc _
  have hrs : Blk ((w.alloc (.cells #[.string ⟨(tmTr t).atom.toArray⟩, .slice A m c] 35)).alloc (.cells #[.string ⟨#[]⟩, .slice none 0 0] 35)) (w.heap.size + 1) 35 #[.string ⟨#[]⟩, .slice none 0 0] := by
    have := Blk.new (w.alloc (.cells #[.string ⟨(tmTr t).atom.toArray⟩, .slice A m c] 35)) 35 #[.string ⟨#[]⟩, .slice none 0 0]
    simpa using this
  have ht1 := (HT.out.alloc HP.out (.cells #[.string ⟨(tmTr t).atom.toArray⟩, .slice A m c] 35)).alloc (fun q hq => by have := HP.out q hq; simp; omega) (.cells #[.string ⟨#[]⟩, .slice none 0 0] 35)
  have hB1 : Below w.heap.size w ((w.alloc (.cells #[.string ⟨(tmTr t).atom.toArray⟩, .slice A m c] 35)).alloc (.cells #[.string ⟨#[]⟩, .slice none 0 0] 35)) := ((Below.refl _ _).alloc (Nat.le_refl _) _).alloc (by simp) _
  have hsz : ((w.alloc (.cells #[.string ⟨(tmTr t).atom.toArray⟩, .slice A m c] 35)).alloc (.cells #[.string ⟨#[]⟩, .slice none 0 0] 35)).heap.size = w.heap.size + 2 := by simp
  generalize (w.alloc (.cells #[.string ⟨(tmTr t).atom.toArray⟩, .slice A m c] 35)).alloc (.cells #[.string ⟨#[]⟩, .slice none 0 0] 35) = W at hbx hrs ht1 hB1 hsz ⊢
  have r1 : SRow ((W.alloc (.cells #[] 9)).alloc (.cells #[] 9)) (w.heap.size + 2) (.slice (some ⟨w.heap.size + 1 + 1, 0, none⟩) 0 0) [] := by
    have h := World.ownsRow_made (base := w.heap.size + 2) (e := 9) (size := 1) W #[] 0 (by omega) (Nat.zero_le _) rfl
    have h2 := h.alloc (.cells #[] 9)
    rw [hsz] at h2
    exact h2
  have r2 : SRow ((W.alloc (.cells #[] 9)).alloc (.cells #[] 9)) (w.heap.size + 2) (.slice (some ⟨w.heap.size + 1 + 1 + 1, 0, none⟩) 0 0) [] := by
    have h := World.ownsRow_made (base := w.heap.size + 2) (e := 9) (size := 1) (W.alloc (.cells #[] 9)) #[] 0 (by simp; omega) (Nat.zero_le _) rfl
    have e : (W.alloc (.cells #[] 9)).heap.size = w.heap.size + 1 + 1 + 1 := by simp; omega
    rw [e] at h
    exact h
  have ht2 := (ht1.alloc (fun q hq => by have := HP.out q hq; omega) (.cells #[] 9)).alloc (fun q hq => by have := HP.out q hq; simp; omega) (.cells #[] 9)
  have hat := HAT.out
  refine (l1Free_any t [] [] (w.heap.size + 2) (w.heap.size + 1 + 1) 0 (w.heap.size + 2) _ _ _ P HK.out ht2 (fun q hq => ⟨by have := HP.out q hq; simp; omega, by intro e; simp [Value.ownBlock] at e; have := HP.out q hq; omega⟩) r1 (by simp [Value.ownBlock]) r2 (by simp; omega) (by simp; omega) (by simp; omega)).mono ?_
  rintro e w2 ⟨v2, rfl, gg1, gg2, -⟩
  have hb2 : Below (w.heap.size + 2) W w2 := (((Below.refl (w.heap.size + 2) W).alloc (by omega) _).alloc (by simp; omega) _).grown gg2 (by simp; omega) (fun k e => by simp [Value.ownBlock] at e; omega)
  have hbx2 := hbx.below hb2 (by omega)
  have hrs2 := hrs.below hb2 (by omega)
  have hB2 : Below w.heap.size w w2 := hB1.trans (hb2.mono (by omega))
  have ht3 := ht1.below hb2 (fun q hq => by have := HP.out q hq; omega)
  have hz2 := hb2.size
  obtain ⟨AF, cF, rfl⟩ := own_shape gg1
  have b0 := hbx2.cell 0
  have b1 := hbx2.cell 1
  simp only [List.getElem?_toArray, List.getElem?_cons_zero, List.getElem?_cons_succ] at b0 b1
  have HBX := Lib.hid hbx2
  have HRS := Lib.hid hrs2
  have HB := Lib.hid hB2
  have HT3 := Lib.hid ht3
  have HF := Lib.hid gg1
  have hz2' : w.heap.size + 2 ≤ w2.heap.size := by omega
  clear hbx hrs ht1 hB1 r1 r2 ht2 hat gg1 gg2 hb2 hbx2 hrs2 hB2 ht3 hz2 hsz
  go_wp2_with fail
  have hl0 : 0 ≤ os.length := Nat.zero_le _
  go_loopg [5, 6] os.length (fun q v5 v6 wr => ∃ (k : Nat) (B : Option Addr) (cB : Nat), q + k = os.length ∧ v6 = .int .i64 k ∧ v5 = .slice B (avs t (os.take k)).length cB ∧ Hid (Below (w.heap.size + 2) w2 wr ∧ SRow wr (w.heap.size + 2) (.slice B (avs t (os.take k)).length cB) (avs t (os.take k))))
  case atStart =>
    exact ⟨0, AF, cF, by omega, rfl, by simp [avs], Lib.hid ⟨Below.refl _ _, by simpa [avs] using HF.out⟩⟩
  case round =>
    obtain ⟨k, B, cB, hq, rfl, rfl, HR⟩ := hrel
    have HQ := Lib.hid hq
    clear hq
    by_cases hlt : k < os.length
    · obtain ⟨o, ho⟩ : ∃ o, os[k]? = some o := ⟨_, List.getElem?_eq_getElem hlt⟩
      obtain ⟨s1, A1, m1, c1, hx0, hx1, hto⟩ := HV.out.get (i := k) (t := tmTr o) (by rw [List.getElem?_map, ho]; rfl)
      have hB2 := HR.out.1
      have hzw := hB2.size
      have q0 : wr.cell? ⟨go, k * 2, none⟩ = some (.string ⟨s1.toArray⟩) := (hB2.cell (p := ⟨go, k * 2, none⟩) (by show go < _; omega)).trans ((HB.out.cell (p := ⟨go, k * 2, none⟩) hgo).trans (HX.out _ _ hx0))
      have q1 : wr.cell? ⟨go, k * 2 + 1, none⟩ = some (.slice A1 m1 c1) := (hB2.cell (p := ⟨go, k * 2 + 1, none⟩) (by show go < _; omega)).trans ((HB.out.cell (p := ⟨go, k * 2 + 1, none⟩) hgo).trans (HX.out _ _ hx1))
      have HTO := Lib.hid ((hto.below HB.out HP.out).below hB2 (fun q hq => by have := HP.out q hq; omega))
      have HO := Lib.hid ho
      clear hx0 hx1 hto hB2 ho
      have hoa := HOS.out o (List.mem_of_getElem? HO.out)
      have hfl := freeS_length o [] []
      have hal := avs_le t os k
      have hla := HLA.out
      have hfl' : (freeS [] o []).length ≤ 400 := by simp at hfl; omega
      have hal' : (avs t (os.take k)).length ≤ 999 := by omega
      have C1 := Lib.hid (l1Free_any o [] [] wr.heap.size wr.heap.size 0 wr.heap.size (.agg #[.string ⟨s1.toArray⟩, .slice A1 m1 c1]) (.slice (some ⟨wr.heap.size + 1, 0, none⟩) 0 0) ((wr.alloc (.cells #[] 9)).alloc (.cells #[] 9)) P hoa.1
        ((HTO.out.alloc (fun q hq => by have := HP.out q hq; omega) _).alloc (fun q hq => by have := HP.out q hq; simp; omega) _) (fun q hq => ⟨by have := HP.out q hq; simp; omega, by intro e; simp [Value.ownBlock] at e; have := HP.out q hq; omega⟩)
        ((World.ownsRow_made (base := wr.heap.size) (e := 9) (size := 1) wr #[] 0 (Nat.le_refl _) (Nat.zero_le _) rfl).alloc _) (by simp [Value.ownBlock])
        (by
          have h := World.ownsRow_made (base := wr.heap.size) (e := 9) (size := 1) (wr.alloc (.cells #[] 9)) #[] 0 (by simp) (Nat.zero_le _) rfl
          have e : (wr.alloc (.cells #[] 9)).heap.size = wr.heap.size + 1 := by simp
          rw [e] at h
          exact h) (by simp; omega) (by simp; omega) (by simp; omega))
      clear hoa hfl hal hla
      obtain ⟨i0, hinf, hz0, hzs, hzb⟩ := info_parts Tryd.infoStr
      go_wp2_with fail
      refine C1.out.mono ?_
      rintro e w3 ⟨v3, rfl, gg1, gg2, gg3⟩
      obtain ⟨g3, c3, rfl⟩ : ∃ g c, v3 = .slice (some ⟨g, 0, none⟩) (freeS [] o []).length c := by
        rcases gg3 with h | ⟨b, h, _⟩
        · exact own_slice gg1 (b := wr.heap.size + 1) h
        · exact own_slice gg1 h
      have hb3 : Below wr.heap.size wr w3 := (((Below.refl _ _).alloc (Nat.le_refl _) _).alloc (by simp) _).grown gg2 (by simp; omega) (fun k e => by simp [Value.ownBlock] at e; omega)
      have HR3 := Lib.hid (HR.out.2.below hb3)
      have HB3 := Lib.hid hb3
      have HG3 := Lib.hid gg1
      have hz3 := hb3.size
      clear gg1 gg2 gg3 hb3 C1
      go_wp2_with (first
        | (at_builtin
           refine wpList_append_own_at _ rfl (.tmp 17) (.tmp 24) 60 rfl (w.heap.size + 2) 9 i0 (.string ⟨#[]⟩) 1 16 Tryd.underlying60 hinf hz0 hzs hzb rfl (by decide) (.slice B (avs t (os.take k)).length cB) (avs t (os.take k)).length ((avs t (os.take k)).map strV) rfl HR3.out ⟨g3, 0, none⟩ (freeS [] o []).length c3 ((freeS [] o []).map strV) rfl ?_ ?_ ?_ ?_ ?_ ?_ ?_
           · simp
           · exact HG3.out.cells (g := g3) rfl
           · exact str_one _
           · unfold maxLen; omega
           · omega
           · omega
           intro v4 w4 hown4 hg4 _ hat4
           have HO4 := Lib.hid hown4
           have HG4 := Lib.hid hg4
           clear hown4 hg4 hat4)
        | fail)
      obtain ⟨B4, c4, rfl⟩ := own_shape HO4.out
      go_wp2
      go_roundg (os.length - (k + 1))
      case rel =>
        have ea := avs_succ t os k o HO.out
        refine ⟨k + 1, B4, c4, by have := HQ.out; omega, by go_num, by rw [ea, List.length_append], Lib.hid ⟨?_, ?_⟩⟩
        · exact (HR.out.1.trans (HB3.out.mono (by have := HR.out.1.size; omega))).grown HG4.out (by have := HR.out.1.size; omega) (fun q e => (HR3.out.lt q e).1)
        · rw [ea, List.length_append]
          unfold SRow
          rw [List.length_append, List.map_append]
          exact HO4.out
      case measure => have := HQ.out; omega
    · obtain rfl : k = os.length := by have := HQ.out; omega
      rw [List.take_length] at HR
      rw [List.take_length]
      have hB2 := HR.out.1
      have hzw := hB2.size
      have hbx5 := HBX.out.below hB2 (by omega)
      have b05 := hbx5.cell 0
      have b15 := hbx5.cell 1
      simp only [List.getElem?_toArray, List.getElem?_cons_zero, List.getElem?_cons_succ] at b05 b15
      clear hbx5 hB2
      have hbb := HB.out.trans (HR.out.1.mono (by omega))
      have hB := Lib.hid hbb
      have hHT5 := Lib.hid (HT3.out.below HR.out.1 (fun q hq => by have := HP.out q hq; omega))
      have hHR := Lib.hid (HRS.out.below HR.out.1 (by omega))
      clear hbb
      go_wp2_with fail
      refine (apart_call t HK.out HAT.out (avs t os) HLA.out _ _ _ wr P hHT5.out (fun q hq => by have := HP.out q hq; omega) HR.out.2).mono ?_
      rintro e w3 ⟨u, A', m', c', rfl, h1, h2⟩
      have hz3 := h2.size
      have hrs3 := hHR.out.below h2 (by omega)
      have s0 := hrs3.cell 0
      have s1 := hrs3.cell 1
      have sf0 := hrs3.frozen 0
      have sf1 := hrs3.frozen 1
      have sl := hrs3.lt
      simp only [List.getElem?_toArray, List.getElem?_cons_zero, List.getElem?_cons_succ] at s0 s1
      have hW : Blk ((w3.setCell ⟨w.heap.size + 1, 0, none⟩ (.string ⟨u.toArray⟩)).setCell ⟨w.heap.size + 1, 1, none⟩ (.slice A' m' c')) (w.heap.size + 1) 35 #[.string ⟨u.toArray⟩, .slice A' m' c'] := res_set hrs3 _ _
      have y0 := hW.cell 0
      have y1 := hW.cell 1
      simp only [List.getElem?_toArray, List.getElem?_cons_zero, List.getElem?_cons_succ] at y0 y1
      have HT5 : Hid (TNew P w.heap.size ((w3.setCell ⟨w.heap.size + 1, 0, none⟩ (.string ⟨u.toArray⟩)).setCell ⟨w.heap.size + 1, 1, none⟩ (.slice A' m' c')) (tmTr (renT (avs t os) t [] [] 0).1) (.agg #[.string ⟨u.toArray⟩, .slice A' m' c'])) := Lib.hid (by
        refine h1.mono fun b hb => ⟨hb.imp id (fun h => ⟨by omega, by simpa [World.setCell] using h.2⟩), fun o => ?_⟩
        have hne : b ≠ w.heap.size + 1 := by
          rcases hb with h | h
          · have := HP.out b h; omega
          · omega
        rw [World.cell?_setCell_other _ _ _ _ (by intro e; injection e with e; omega), World.cell?_setCell_other _ _ _ _ (by intro e; injection e with e; omega)])
      have HB5 : Hid (Below w.heap.size w ((w3.setCell ⟨w.heap.size + 1, 0, none⟩ (.string ⟨u.toArray⟩)).setCell ⟨w.heap.size + 1, 1, none⟩ (.slice A' m' c'))) := Lib.hid (((hB.out.trans (h2.mono (by omega))).setCell (p := ⟨w.heap.size + 1, 0, none⟩) (by simp) _).setCell (p := ⟨w.heap.size + 1, 1, none⟩) (by simp) _)
      clear hrs3 hW h1 h2
      go_wp2_with fail
      refine bodyPost_ret (v := .agg #[.string ⟨u.toArray⟩, .slice A' m' c']) (by simp [results, Tryd.results26, go_sem, y0, y1]) rfl ?_
      exact ⟨_, _, _, _, rfl, HT5.out, HB5.out⟩


end Go.Proofs.YtkomchdmcbdahaaDoor
