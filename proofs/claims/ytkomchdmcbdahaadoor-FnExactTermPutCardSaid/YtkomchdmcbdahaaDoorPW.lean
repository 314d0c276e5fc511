/- TermPut of the model and of the program. -/
import Derived.Test.YtkomchdmcbdahaaDoorAQ
import Derived.Test.YtkomchdmcbdahaaDoorA
namespace Go.Proofs.YtkomchdmcbdahaaDoor
set_option linter.unusedVariables false
open Go.RowKit

theorem avs_two (t c : Tm) (x : List UInt8) : avs t [c, .var x] = avoid t c x := by simp [avs, avoid, freeS]
theorem apart_ok (t c : Tm) (x : List UInt8) (h : t.ok) (ha : t.atoms ≤ 400) (hca : c.atoms ≤ 400) : (renT (avoid t c x) t [] [] 0).1.ok := by
  have h1 := renT_le (avoid t c x) t [] []
  have h2 := freeS_lams t [] []
  have h3 := freeS_lams c [] []
  simp only [List.length_nil] at h2 h3
  have h4 : (avoid t c x).length = (freeS [] t []).length + (freeS [] c []).length + 1 := by simp [avoid]; omega
  exact renT_ok _ t [] [] 0 h (by simp) rfl (by omega)
theorem avoid_le (t c : Tm) (x : List UInt8) (ha : t.atoms ≤ 400) (hca : c.atoms ≤ 400) : (avoid t c x).length ≤ 999 := by
  have h2 := freeS_lams t [] []
  have h3 := freeS_lams c [] []
  simp only [List.length_nil] at h2 h3
  have h4 : (avoid t c x).length = (freeS [] t []).length + (freeS [] c []).length + 1 := by simp [avoid]; omega
  omega


/-- What is kept while a term is put for a name in another one. -/
structure SKp (w0 : World) (P : Nat → Prop) (t c : Tm) (at_ ac : List UInt8) (A : Option Addr) (m n : Nat) (A2 : Option Addr) (m2 n2 : Nat) (w' : World) : Prop where
  bt : Blk w' w0.heap.size 35 #[.string ⟨at_.toArray⟩, .slice A m n]
  bb : Blk w' (w0.heap.size + 1) 35 #[.string ⟨ac.toArray⟩, .slice A2 m2 n2]
  br : Blk w' (w0.heap.size + 2) 35 #[.string ⟨#[]⟩, .slice none 0 0]
  tT : TAt w' P (tmTr t) (.agg #[.string ⟨at_.toArray⟩, .slice A m n])
  tC : TAt w' P (tmTr c) (.agg #[.string ⟨ac.toArray⟩, .slice A2 m2 n2])
  all : ∀ q, P q → q < w0.heap.size
  grown : Below w0.heap.size w0 w'
section
variable {w0 : World} {P : Nat → Prop} {t c : Tm} {at_ ac : List UInt8} {A : Option Addr} {m n : Nat} {A2 : Option Addr} {m2 n2 : Nat} {w' w2 : World}
theorem SKp.start {w : World} (ht : TAt w P (tmTr t) (.agg #[.string ⟨at_.toArray⟩, .slice A m n])) (hc : TAt w P (tmTr c) (.agg #[.string ⟨ac.toArray⟩, .slice A2 m2 n2])) (hP : ∀ q, P q → q < w.heap.size) :
    SKp w P t c at_ ac A m n A2 m2 n2 (((w.alloc (.cells #[.string ⟨at_.toArray⟩, .slice A m n] 35)).alloc (.cells #[.string ⟨ac.toArray⟩, .slice A2 m2 n2] 35)).alloc (.cells #[.string ⟨#[]⟩, .slice none 0 0] 35)) := by
  have hB : Below w.heap.size w (((w.alloc (.cells #[.string ⟨at_.toArray⟩, .slice A m n] 35)).alloc (.cells #[.string ⟨ac.toArray⟩, .slice A2 m2 n2] 35)).alloc (.cells #[.string ⟨#[]⟩, .slice none 0 0] 35)) := (((Below.refl _ _).alloc (Nat.le_refl _) _).alloc (by simp) _).alloc (by simp; omega) _
  refine ⟨((Blk.new w _ _).alloc _).alloc _, ?_, ?_, ht.below hB hP, hc.below hB hP, hP, hB⟩
  · have := (Blk.new (w.alloc (.cells #[.string ⟨at_.toArray⟩, .slice A m n] 35)) 35 #[.string ⟨ac.toArray⟩, .slice A2 m2 n2]).alloc (.cells #[.string ⟨#[]⟩, .slice none 0 0] 35)
    simpa using this
  · have := Blk.new ((w.alloc (.cells #[.string ⟨at_.toArray⟩, .slice A m n] 35)).alloc (.cells #[.string ⟨ac.toArray⟩, .slice A2 m2 n2] 35)) 35 #[.string ⟨#[]⟩, .slice none 0 0]
    simpa using this
theorem SKp.below (h : SKp w0 P t c at_ ac A m n A2 m2 n2 w') (hb : Below w'.heap.size w' w2) : SKp w0 P t c at_ ac A m n A2 m2 n2 w2 :=
  have hz := h.grown.size
  ⟨h.bt.below hb h.bt.lt, h.bb.below hb h.bb.lt, h.br.below hb h.br.lt, h.tT.below hb (fun q hq => Nat.lt_of_lt_of_le (h.all q hq) hz), h.tC.below hb (fun q hq => Nat.lt_of_lt_of_le (h.all q hq) hz), h.all, h.grown.trans (hb.mono hz)⟩
theorem SKp.drew (h : SKp w0 P t c at_ ac A m n A2 m2 n2 w') : SKp w0 P t c at_ ac A m n A2 m2 n2 w'.drew := h.below (Below.refl _ _).drew
theorem SKp.new (h : SKp w0 P t c at_ ac A m n A2 m2 n2 w') (o : Obj) : SKp w0 P t c at_ ac A m n A2 m2 n2 (w'.alloc o) := h.below ((Below.refl _ _).alloc (Nat.le_refl _) _)
theorem SKp.s (h : SKp w0 P t c at_ ac A m n A2 m2 n2 w') :
    w'.cell? ⟨w0.heap.size, 0, none⟩ = some (.string ⟨at_.toArray⟩) ∧ w'.cell? ⟨w0.heap.size, 1, none⟩ = some (.slice A m n) ∧ w'.cell? ⟨w0.heap.size + 1, 0, none⟩ = some (.string ⟨ac.toArray⟩) ∧ w'.cell? ⟨w0.heap.size + 1, 1, none⟩ = some (.slice A2 m2 n2) := by
  have h0 := h.bt.cell 0
  have h1 := h.bt.cell 1
  have h2 := h.bb.cell 0
  have h3 := h.bb.cell 1
  simp at h0 h1 h2 h3
  exact ⟨h0, h1, h2, h3⟩
theorem SKp.sput (h : SKp w0 P t c at_ ac A m n A2 m2 n2 w') {u v : Value} :
    ((w'.setCell ⟨w0.heap.size + 2, 0, none⟩ u).setCell ⟨w0.heap.size + 2, 1, none⟩ v).cell? ⟨w0.heap.size, 0, none⟩ = some (.string ⟨at_.toArray⟩) ∧ ((w'.setCell ⟨w0.heap.size + 2, 0, none⟩ u).setCell ⟨w0.heap.size + 2, 1, none⟩ v).cell? ⟨w0.heap.size, 1, none⟩ = some (.slice A m n) ∧
    ((w'.setCell ⟨w0.heap.size + 2, 0, none⟩ u).setCell ⟨w0.heap.size + 2, 1, none⟩ v).cell? ⟨w0.heap.size + 1, 0, none⟩ = some (.string ⟨ac.toArray⟩) ∧ ((w'.setCell ⟨w0.heap.size + 2, 0, none⟩ u).setCell ⟨w0.heap.size + 2, 1, none⟩ v).cell? ⟨w0.heap.size + 1, 1, none⟩ = some (.slice A2 m2 n2) := by
  have hs := h.s
  have e : ∀ b i, b ≠ w0.heap.size + 2 → ((w'.setCell ⟨w0.heap.size + 2, 0, none⟩ u).setCell ⟨w0.heap.size + 2, 1, none⟩ v).cell? ⟨b, i, none⟩ = w'.cell? ⟨b, i, none⟩ := by
    intro b i hb
    rw [World.cell?_setCell_other _ _ _ _ (by intro e; injection e with e; omega), World.cell?_setCell_other _ _ _ _ (by intro e; injection e with e; omega)]
  rw [e _ _ (by omega), e _ _ (by omega), e _ _ (by omega), e _ _ (by omega)]
  exact hs
theorem ss_done {w5 : World} (K : SKp w0 P t c at_ ac A m n A2 m2 n2 w5) {r : Tr} {u v : Value} (hT : PTr P w0 w5 r (.agg #[u, v])) :
    Blk ((w5.setCell ⟨w0.heap.size + 2, 0, none⟩ u).setCell ⟨w0.heap.size + 2, 1, none⟩ v) (w0.heap.size + 2) 35 #[u, v] ∧
    TNew P w0.heap.size ((w5.setCell ⟨w0.heap.size + 2, 0, none⟩ u).setCell ⟨w0.heap.size + 2, 1, none⟩ v) r (.agg #[u, v]) ∧
    Below w0.heap.size w0 ((w5.setCell ⟨w0.heap.size + 2, 0, none⟩ u).setCell ⟨w0.heap.size + 2, 1, none⟩ v) := by
  refine ⟨res_set K.br _ _, hT.mono fun b hb => ⟨hb.imp id (fun h => ⟨by omega, by simpa [World.setCell] using h.2⟩), fun o => ?_⟩, (K.grown.setCell (p := ⟨w0.heap.size + 2, 0, none⟩) (by simp) _).setCell (p := ⟨w0.heap.size + 2, 1, none⟩) (by simp) _⟩
  have hne : b ≠ w0.heap.size + 2 := by
    rcases hb with h | h
    · have := K.all b h; omega
    · omega
  rw [World.cell?_setCell_other _ _ _ _ (by intro e; injection e with e; omega), World.cell?_setCell_other _ _ _ _ (by intro e; injection e with e; omega)]
theorem sa_call (x : List UInt8) (hx : x.length ≤ 8000) (hxn : isNm x = true) (hok : t.ok) (hat : t.atoms ≤ 400) (hcok : c.ok) (hcat : c.atoms ≤ 400) {W : World} (K : SKp w0 P t c at_ ac A m n A2 m2 n2 W) (gb : Nat) (hgb : gb = W.heap.size) :
    Calls Tryd.prog 26 #[.agg #[.string ⟨at_.toArray⟩, .slice A m n], .slice (some ⟨gb, 0, none⟩) 2 2] (W.alloc (.cells #[.string ⟨ac.toArray⟩, .slice A2 m2 n2, .string ⟨x.toArray⟩, .slice none 0 0] 35)) fun e w'' =>
      ∃ (a' : List UInt8) (A' : Option Addr) (m' n' : Nat), e = .returned (.agg #[.string ⟨a'.toArray⟩, .slice A' m' n']) ∧ PTr P w0 w'' (tmTr (renT (avoid t c x) t [] [] 0).1) (.agg #[.string ⟨a'.toArray⟩, .slice A' m' n']) ∧ SKp w0 P t c at_ ac A m n A2 m2 n2 w'' := by
  subst hgb
  have hz := K.br.lt
  have hP : ∀ q, P q → q < W.heap.size := fun q hq => Nat.lt_of_lt_of_le (K.all q hq) K.grown.size
  have hbk := Blk.new W 35 #[.string ⟨ac.toArray⟩, .slice A2 m2 n2, .string ⟨x.toArray⟩, .slice none 0 0]
  have h := l1Apart_any t [c, .var x] hok hat (by
      intro o ho
      simp only [List.mem_cons, List.not_mem_nil, or_false] at ho
      rcases ho with rfl | rfl
      · exact ⟨hcok, hcat⟩
      · exact ⟨hxn, by simp [Tm.atoms]⟩) (by simp) (by rw [avs_two]; exact avoid_le t c x hat hcat) W.heap.size 2 [.string ⟨ac.toArray⟩, .slice A2 m2 n2, .string ⟨x.toArray⟩, .slice none 0 0] (.agg #[.string ⟨at_.toArray⟩, .slice A m n]) (W.alloc (.cells #[.string ⟨ac.toArray⟩, .slice A2 m2 n2, .string ⟨x.toArray⟩, .slice none 0 0] 35)) P
    (K.tT.alloc hP _) (fun q hq => by have := hP q hq; simp; omega) (by simp) (fun j u hu => by rw [hbk.cell j]; simpa using hu)
    (VsAt.cons' (K.tC.alloc hP _) (VsAt.cons' (by show TAt _ _ (.mk x []) _; unfold TAt; exact ⟨_, rfl, hx, by simp, .inl ⟨rfl, rfl⟩⟩) (by unfold VsAt; rfl)))
  rw [avs_two] at h
  refine h.mono ?_
  rintro e w'' ⟨a', A', m', n', rfl, h1, h2⟩
  obtain ⟨A'', n'', c'', e⟩ := h1.shape
  simp only [Value.agg.injEq, Array.mk.injEq, List.cons.injEq] at e
  obtain ⟨rfl, -, -⟩ := e
  refine ⟨_, A', m', n', rfl, h1.mono fun b hb => ⟨hb.imp id (fun h => ⟨by have := h.1; simp at this; omega, h.2⟩), fun _ => rfl⟩, (K.new _).below h2⟩
theorem sp_call (x : List UInt8) (hok : t.ok) (hat : t.atoms ≤ 400) (hcat : c.atoms ≤ 400) {W : World} (K : SKp w0 P t c at_ ac A m n A2 m2 n2 W) {v : Value} (hT : PTr P w0 W (tmTr (renT (avoid t c x) t [] [] 0).1) v) :
    Calls Tryd.prog 53 #[v, .string ⟨x.toArray⟩, .agg #[.string ⟨ac.toArray⟩, .slice A2 m2 n2]] W fun e w'' =>
      ∃ (a' : List UInt8) (A' : Option Addr) (m' n' : Nat), e = .returned (.agg #[.string ⟨a'.toArray⟩, .slice A' m' n']) ∧ PTr P w0 w'' (tmTr (subT t x c)) (.agg #[.string ⟨a'.toArray⟩, .slice A' m' n']) ∧ SKp w0 P t c at_ ac A m n A2 m2 n2 w'' := by
  have hz := K.br.lt
  have h := l1Put_any (renT (avoid t c x) t [] [] 0).1 x c v _ W (fun b => P b ∨ (w0.heap.size + 3 ≤ b ∧ b < W.heap.size)) (apart_ok t c x hok hat hcat) hT (K.tC.mono fun b hb => ⟨.inl hb, fun _ => rfl⟩) (by
    rintro b (h | h)
    · exact Nat.lt_of_lt_of_le (K.all b h) K.grown.size
    · exact h.2)
  refine h.mono ?_
  rintro e w'' ⟨a', A', m', n', rfl, h1, h2⟩
  have hz2 := h2.size
  refine ⟨a', A', m', n', rfl, h1.mono fun b hb => ⟨?_, fun _ => rfl⟩, K.below h2⟩
  rcases hb with (h | h) | h
  · exact .inl h
  · exact .inr ⟨h.1, by omega⟩
  · exact .inr ⟨by omega, h.2⟩
end

set_option maxRecDepth 100000 in
set_option maxHeartbeats 2000000 in
theorem l1Sub_any (t c : Tm) (x : List UInt8) (hx : isNm x = true) (hok : t.ok) (hat : t.atoms ≤ 400) (hcok : c.ok) (hcat : c.atoms ≤ 400) (v vc : Value) (w : World) (P : Nat → Prop) (ht : TAt w P (tmTr t) v) (hc : TAt w P (tmTr c) vc) (hP : ∀ b, P b → b < w.heap.size) :
    Calls Tryd.prog 30 #[v, .string ⟨x.toArray⟩, vc] w (PsPost P (tmTr (subT t x c)) w) := by
  obtain ⟨A, m, n, rfl⟩ := ht.shape
  obtain ⟨A2, m2, n2, rfl⟩ := hc.shape
  generalize (tmTr t).atom = at_ at ht
  generalize (tmTr c).atom = ac at hc
  have hx8 : x.length ≤ 8000 := by
    obtain ⟨_, _, _, _, _, h⟩ := isNm_atoms x hx
    omega
  have K0 := Lib.hid (SKp.start ht hc hP)
  have CA : Hid (∀ W, SKp w P t c at_ ac A m n A2 m2 n2 W → ∀ gb, gb = W.heap.size → _) := Lib.hid (fun W K gb hgb => sa_call x hx8 hx hok hat hcok hcat K gb hgb)
  have CB : Hid (∀ W v, SKp w P t c at_ ac A m n A2 m2 n2 W → PTr P w W (tmTr (renT (avoid t c x) t [] [] 0).1) v → _) := Lib.hid (fun W v K hT => sp_call x hok hat hcat K hT)
  clear ht hP hc hx8 hx hok hat hcok hcat
  go_enter Tryd.func30, Tryd.ntmps30
  go_wp2_with fail
  have hk := K0.out
  generalize (((w.alloc (.cells #[.string ⟨at_.toArray⟩, .slice A m n] 35)).alloc (.cells #[.string ⟨ac.toArray⟩, .slice A2 m2 n2] 35)).alloc (.cells #[.string ⟨#[]⟩, .slice none 0 0] 35)) = W at hk ⊢
  have hkd := hk.drew
  go_region_held3 (fun w' => w'.cell? ⟨w.heap.size, 0, none⟩ = some (.string ⟨at_.toArray⟩) ∧ w'.cell? ⟨w.heap.size, 1, none⟩ = some (.slice A m n) ∧ w'.cell? ⟨w.heap.size + 1, 0, none⟩ = some (.string ⟨ac.toArray⟩) ∧ w'.cell? ⟨w.heap.size + 1, 1, none⟩ = some (.slice A2 m2 n2))
    (with_reducible first | exact hkd.s | exact SKp.s (by assumption) | exact SKp.s (SKp.new (by assumption) _) | exact SKp.sput (by assumption))
    (first
      | (go_at_call 26; refine (CA.out _ hkd _ rfl).mono ?_; rintro e w3 ⟨u3, A3, m3, n3, rfl, ht3, hk3⟩)
      | (go_at_call 53; (with_reducible refine (CB.out _ _ hk3 ht3).mono ?_); rintro e w5 ⟨u5, A5, m5, n5, rfl, ht5, hk5⟩; have s0 := hk5.br.cell 0; have s1 := hk5.br.cell 1; have sf0 := hk5.br.frozen 0; have sf1 := hk5.br.frozen 1; have sl := hk5.br.lt; simp only [List.getElem?_toArray, List.getElem?_cons_zero, List.getElem?_cons_succ] at s0 s1))
  all_goals
    obtain ⟨hd1, hd2, hd3⟩ := ss_done hk5 ht5
    have y0 := hd1.cell 0
    have y1 := hd1.cell 1
    simp only [List.getElem?_toArray, List.getElem?_cons_zero, List.getElem?_cons_succ] at y0 y1
    have HD2 := Lib.hid hd2
    have HD3 := Lib.hid hd3
    clear hd1 hd2 hd3 ht5 hk5
    go_wp2_with fail
    refine bodyPost_ret (v := .agg #[.string ⟨u5.toArray⟩, .slice A5 m5 n5]) (by simp [results, Tryd.results30, go_sem, y0, y1]) rfl ?_
    exact ⟨_, _, _, _, rfl, HD2.out, HD3.out⟩
end Go.Proofs.YtkomchdmcbdahaaDoor
