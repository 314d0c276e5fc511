/- The model renames the bound names of an application, and of any term. -/
import Derived.Test.YtkomchdmcbdahaaDoorRL
namespace Go.Proofs.YtkomchdmcbdahaaDoor
set_option linter.unusedVariables false
open Go.RowKit

section
variable {fr rs ts : List (List UInt8)} {nb base b1 g1 d1 b2 g2 d2 : Nat} {tk : Value} {w0 : World} {P : Nat → Prop} {g cap : Nat} {p0 p1 p2 : Tr} {A0 A1 A2 : Option Addr} {n0 c0 n1 c1 n2 c2 n n' : Nat} {w' w2 : World}
theorem rs_call {t : Tm} (IH : RsSaid t) (hok : t.ok) {v : Value} (ht : TAt w' P (tmTr t) v) (K : RKp fr rs ts nb base b1 g1 d1 b2 g2 d2 tk w0 P g cap p0 p1 p2 A0 A1 A2 n0 c0 n1 c1 n2 c2 n w') (hlen : ts.length = rs.length) (hts : ∀ x ∈ ts, x.length ≤ 8000) (hfr : fr.length ≤ 999) (hsz : rs.length + t.size ≤ 8000) (hnx : n + t.size * 1000 ≤ 900000) :
    Calls Tryd.prog 47 #[v, .slice (some ⟨g1, 0, none⟩) rs.length d1, .slice (some ⟨g2, 0, none⟩) ts.length d2, .pointer (some ⟨nb, 0, none⟩)] w' fun e w'' =>
      ∃ (a : List UInt8) (A : Option Addr) (m c : Nat), e = .returned (.agg #[.string ⟨a.toArray⟩, .slice A m c]) ∧ TAt w'' (fun b => P b ∨ (w0.heap.size + 2 ≤ b ∧ b < w''.heap.size)) (tmTr (renT fr t rs ts n).1) (.agg #[.string ⟨a.toArray⟩, .slice A m c]) ∧
        (∀ k, w0.heap.size + 2 ≤ k → k < w'.heap.size → TAt w'' (fun b => (P b ∨ (w0.heap.size + 2 ≤ b ∧ b < w''.heap.size)) ∧ b ≠ k) (tmTr (renT fr t rs ts n).1) (.agg #[.string ⟨a.toArray⟩, .slice A m c])) ∧
        RKp fr rs ts nb base b1 g1 d1 b2 g2 d2 tk w0 P g cap p0 p1 p2 A0 A1 A2 n0 c0 n1 c1 n2 c2 (renT fr t rs ts n).2 w'' ∧ w'.grownBy w'' (some nb) := by
  refine (IH rs ts fr n nb base b1 g1 d1 b2 g2 d2 tk _ w' P hok ht (fun q hq => ⟨Nat.lt_of_lt_of_le (K.all q hq).1 K.grown.size, (K.all q hq).2⟩) K.nms K.frs K.fro K.too hlen hts hfr hsz hnx).mono ?_
  rintro e w'' ⟨a, A, m, c, rfl, h3, h4, h5⟩
  obtain ⟨A', n', c', e⟩ := h3.shape
  simp only [Value.agg.injEq, Array.mk.injEq, List.cons.injEq] at e
  obtain ⟨rfl, -, -⟩ := e
  have hz := K.res.lt
  refine ⟨_, A, m, c, rfl, h3.mono fun b hb => ⟨hb.imp id (fun h => ⟨by omega, h.2⟩), fun _ => rfl⟩, fun q hq1 hq2 => h3.mono fun b hb => ⟨⟨hb.imp id (fun h => ⟨by omega, h.2⟩), ?_⟩, fun _ => rfl⟩, K.grow h4 h5, h4⟩
  rcases hb with h | h
  · have := (K.all b h).1; omega
  · omega
theorem NX.grow {k : Nat} {t : Tr} {u v : Value} (X : NX P w0 k w' t u v) (K : RKp fr rs ts nb base b1 g1 d1 b2 g2 d2 tk w0 P g cap p0 p1 p2 A0 A1 A2 n0 c0 n1 c1 n2 c2 n w') (hg : w'.grownBy w2 (some nb)) : NX P w0 k w2 t u v := by
  have hnb := K.nbl
  have hh := X.hi
  refine ⟨X.hi, X.blk.grown hg (fun e => by injection e with e; omega), X.tree.mono fun b hb => ⟨hb.imp id (fun h => ⟨h.1, Nat.lt_of_lt_of_le h.2 hg.size⟩), fun o => World.cell?_of_block (w := w') (hg.block b ?_ (fun e => ?_))⟩⟩
  · rcases hb with h | h
    · exact Nat.lt_of_lt_of_le (K.all b h).1 K.grown.size
    · exact h.2
  · injection e with e
    rcases hb with h | h
    · exact (K.all b h).2 e
    · omega
theorem RKp.s7 {k : Nat} {t : Tr} {u v : Value} (h : RKp fr rs ts nb base b1 g1 d1 b2 g2 d2 tk w0 P g cap p0 p1 p2 A0 A1 A2 n0 c0 n1 c1 n2 c2 n w') (X : NX P w0 k w' t u v) :
    w'.cell? ⟨w0.heap.size, 1, none⟩ = some (.slice (some ⟨g, 0, none⟩) 3 cap) ∧ w'.cell? ⟨g, 4, none⟩ = some (.string ⟨p2.atom.toArray⟩) ∧ w'.cell? ⟨g, 5, none⟩ = some (.slice A2 n2 c2) ∧ w'.cell? ⟨k, 0, none⟩ = some u ∧ w'.cell? ⟨k, 1, none⟩ = some v := by
  have h1 := X.blk.cell 0
  have h2 := X.blk.cell 1
  simp only [List.getElem?_toArray, List.getElem?_cons_zero, List.getElem?_cons_succ] at h1 h2
  exact ⟨h.s.1, h.s.2.2.2.1, h.s.2.2.2.2, h1, h2⟩
theorem RKp.s7p {k : Nat} {t : Tr} {u v x y : Value} (h : RKp fr rs ts nb base b1 g1 d1 b2 g2 d2 tk w0 P g cap p0 p1 p2 A0 A1 A2 n0 c0 n1 c1 n2 c2 n w') (X : NX P w0 k w' t u v) :
    ((w'.setCell ⟨w0.heap.size + 1, 0, none⟩ x).setCell ⟨w0.heap.size + 1, 1, none⟩ y).cell? ⟨w0.heap.size, 1, none⟩ = some (.slice (some ⟨g, 0, none⟩) 3 cap) ∧ ((w'.setCell ⟨w0.heap.size + 1, 0, none⟩ x).setCell ⟨w0.heap.size + 1, 1, none⟩ y).cell? ⟨g, 4, none⟩ = some (.string ⟨p2.atom.toArray⟩) ∧
    ((w'.setCell ⟨w0.heap.size + 1, 0, none⟩ x).setCell ⟨w0.heap.size + 1, 1, none⟩ y).cell? ⟨g, 5, none⟩ = some (.slice A2 n2 c2) ∧ ((w'.setCell ⟨w0.heap.size + 1, 0, none⟩ x).setCell ⟨w0.heap.size + 1, 1, none⟩ y).cell? ⟨k, 0, none⟩ = some u ∧ ((w'.setCell ⟨w0.heap.size + 1, 0, none⟩ x).setCell ⟨w0.heap.size + 1, 1, none⟩ y).cell? ⟨k, 1, none⟩ = some v := by
  have hs := h.s7 X
  have hg := (h.all g h.three.pg).1
  have hh := X.hi
  have e : ∀ b i, b ≠ w0.heap.size + 1 → ((w'.setCell ⟨w0.heap.size + 1, 0, none⟩ x).setCell ⟨w0.heap.size + 1, 1, none⟩ y).cell? ⟨b, i, none⟩ = w'.cell? ⟨b, i, none⟩ := by
    intro b i hb
    rw [World.cell?_setCell_other _ _ _ _ (by intro e; injection e with e; omega), World.cell?_setCell_other _ _ _ _ (by intro e; injection e with e; omega)]
  rw [e _ _ (by omega), e _ _ (by omega), e _ _ (by omega), e _ _ (by omega), e _ _ (by omega)]
  exact hs
end

set_option maxRecDepth 100000 in
set_option maxHeartbeats 4000000 in
theorem l1Rename_app (f a : Tm) (ihf : RsSaid f) (iha : RsSaid a) : RsSaid (.app f a) := by
  rintro rs ts fr n nb base b1 g1 d1 b2 g2 d2 tk v w P hok ht hP hn hf h1 h2 hlen hts hfr hsz hnx
  obtain ⟨g, cap, A0, A1, A2, n0, c0, n1, c1, n2, c2, rfl, hcap, h3⟩ := ht.three
  have hle : (renT fr f rs ts n).2 ≤ n + f.size * 1000 := by
    have := renD_next fr hfr (toDB rs f) n
    rw [(renT_renD fr f rs ts n).1]
    rwa [toDB_size] at this
  have HF2 : Hid (n + f.size * 1000 ≤ 900000 ∧ (renT fr f rs ts n).2 + a.size * 1000 ≤ 900000 ∧ rs.length + f.size ≤ 8000 ∧ rs.length + a.size ≤ 8000 ∧ ts.length = rs.length) := Lib.hid (by simp only [Tm.size] at hsz hnx; omega)
  have HP := Lib.hid hP
  have HP1 : Hid (∀ b, P b → b < w.heap.size) := Lib.hid fun b hb => (hP b hb).1
  have IHF := Lib.hid ihf
  have IHA := Lib.hid iha
  have HOK := Lib.hid hok
  have HTS := Lib.hid hts
  have a3 := (h3.alloc HP1.out (.cells #[.string ⟨#[]⟩, .slice (some ⟨g, 0, none⟩) 3 cap] 35)).alloc (fun b hb => by have := HP1.out b hb; simp; omega) (.cells #[.string ⟨#[]⟩, .slice none 0 0] 35)
  have hr2 : Blk ((w.alloc (.cells #[.string ⟨#[]⟩, .slice (some ⟨g, 0, none⟩) 3 cap] 35)).alloc (.cells #[.string ⟨#[]⟩, .slice none 0 0] 35)) (w.heap.size + 1) 35 #[.string ⟨#[]⟩, .slice none 0 0] := by
    have := Blk.new (w.alloc (.cells #[.string ⟨#[]⟩, .slice (some ⟨g, 0, none⟩) 3 cap] 35)) 35 #[.string ⟨#[]⟩, .slice none 0 0]
    simpa using this
  have K0 : Hid (RKp fr rs ts nb base b1 g1 d1 b2 g2 d2 tk w P g cap (.mk sApp []) (tmTr f) (tmTr a) A0 A1 A2 n0 c0 n1 c1 n2 c2 n ((w.alloc (.cells #[.string ⟨#[]⟩, .slice (some ⟨g, 0, none⟩) 3 cap] 35)).alloc (.cells #[.string ⟨#[]⟩, .slice none 0 0] 35))) :=
    Lib.hid ⟨(Blk.new w _ _).alloc _, hr2, a3, hP, (hn.alloc _).alloc _, hn.lt, (hf.alloc _).alloc _, (h1.alloc _).alloc _, (h2.alloc _).alloc _, (World.grownBy_alloc _ _ _).trans (World.grownBy_alloc _ _ _)⟩
  have A3 := Lib.hid a3
  have CR : Hid (∀ w', RKp fr rs ts nb base b1 g1 d1 b2 g2 d2 tk w P g cap (.mk sApp []) (tmTr f) (tmTr a) A0 A1 A2 n0 c0 n1 c1 n2 c2 n w' → _) := Lib.hid (fun w' k => rs_call ihf hok.1 k.three.t1 k hlen hts hfr HF2.out.2.2.1 HF2.out.1)
  have CS : Hid (∀ w', RKp fr rs ts nb base b1 g1 d1 b2 g2 d2 tk w P g cap (.mk sApp []) (tmTr f) (tmTr a) A0 A1 A2 n0 c0 n1 c1 n2 c2 (renT fr f rs ts n).2 w' → _) := Lib.hid (fun w' k => rs_call iha hok.2 k.three.t2 k hlen hts hfr HF2.out.2.2.2.1 HF2.out.2.1)
  clear ihf iha hP ht hok hn hf h1 h2 hlen hts hsz hnx h3 a3 hr2 hle
  go_enter Tryd.func47, Tryd.ntmps47
  go_wp2_with fail
  refine (l1Head3 _ P g cap (.mk sApp []) (tmTr f) (tmTr a) A0 A1 A2 n0 c0 n1 c1 n2 c2 A3.out (fun b hb => by have := HP1.out b hb; simp; omega)).mono ?_
  rintro e w1 ⟨rfl, hb1⟩
  have hk := K0.out.below hb1
  have hl : (sApp == [108, 97, 109]) = false := rfl
  simp only [Tr.atom]
  have hks := hk.s
  have HK := Lib.hid hk
  clear hk
  go_wp2_with fail
  refine (CR.out _ HK.out).mono ?_
  rintro e w2 ⟨u, A, m, c, rfl, ht2, -, hk2, -⟩
  have hX := nx_new hk2 ht2
  have hk3 := hk2.new (.cells #[.string ⟨u.toArray⟩, .slice A m c] 35)
  clear hks hk2 ht2
  have hKd := hk3.drew
  have hXd : NX P w w2.heap.size (w2.alloc (.cells #[.string ⟨u.toArray⟩, .slice A m c] 35)).drew (tmTr (renT fr f rs ts n).1) (.string ⟨u.toArray⟩) (.slice A m c) := hX.grow hk3 (grown_drewN (grown_refl _ (some nb)) 1)
  have CL : Hid (∀ W n' u' A' m' c', RKp fr rs ts nb base b1 g1 d1 b2 g2 d2 tk w P g cap (.mk sApp []) (tmTr f) (tmTr a) A0 A1 A2 n0 c0 n1 c1 n2 c2 n' W → NX P w w2.heap.size W (tmTr (renT fr f rs ts n).1) (.string ⟨u.toArray⟩) (.slice A m c) → TAt W (fun b => P b ∨ (w.heap.size + 2 ≤ b ∧ b < W.heap.size)) (tmTr (renT fr a rs ts (renT fr f rs ts n).2).1) (.agg #[.string ⟨u'⟩, .slice A' m' c']) →
      Calls Tryd.prog 72 #[.string ⟨#[97, 112, 112]⟩, .slice (some ⟨W.heap.size, 0, none⟩) 2 2] (W.alloc (.cells #[.string ⟨u.toArray⟩, .slice A m c, .string ⟨u'⟩, .slice A' m' c'] 35)) fun e w'' =>
        ∃ A' m' c', e = .returned (.agg #[.string ⟨#[]⟩, .slice A' m' c']) ∧ TAt w'' (fun b => P b ∨ (w.heap.size + 2 ≤ b ∧ b < w''.heap.size)) (tmTr (renT fr (.app f a) rs ts n).1) (.agg #[.string ⟨#[]⟩, .slice A' m' c']) ∧
          RKp fr rs ts nb base b1 g1 d1 b2 g2 d2 tk w P g cap (.mk sApp []) (tmTr f) (tmTr a) A0 A1 A2 n0 c0 n1 c1 n2 c2 n' w'' ∧ NX P w w2.heap.size w'' (tmTr (renT fr f rs ts n).1) (.string ⟨u.toArray⟩) (.slice A m c)) := Lib.hid (fun W n' u' A' m' c' K X T => by
    refine (ll_call [97, 112, 112] [] (by simp) (by simp) K X.tree T _ rfl).mono ?_
    rintro e w'' ⟨B, j, d, rfl, h1, h2, h3⟩
    exact ⟨B, j, d, rfl, h1, h2, X.grow K (below_grown h3 _)⟩)
  go_wp2_with fail
  go_region_held3 (fun w' => w'.cell? ⟨w.heap.size, 1, none⟩ = some (.slice (some ⟨g, 0, none⟩) 3 cap) ∧ w'.cell? ⟨g, 4, none⟩ = some (.string ⟨(tmTr a).atom.toArray⟩) ∧ w'.cell? ⟨g, 5, none⟩ = some (.slice A2 n2 c2) ∧ w'.cell? ⟨w2.heap.size, 0, none⟩ = some (.string ⟨u.toArray⟩) ∧ w'.cell? ⟨w2.heap.size, 1, none⟩ = some (.slice A m c))
    (with_reducible first | exact hKd.s7 hXd | exact RKp.s7 (by assumption) (by assumption) | exact RKp.s7 (RKp.new (by assumption) _) (NX.grow (by assumption) (by assumption) (World.grownBy_alloc _ _ _)) | exact RKp.s7p (by assumption) (by assumption))
    (first
      | (go_at_call 47; (with_reducible refine (CS.out _ hKd).mono ?_); rintro e w3 ⟨u', A', m', c', rfl, ht4, -, hk4, hg4⟩; have hX4 := hXd.grow hKd hg4; clear hg4)
      | (go_at_call 72; (with_reducible refine (CL.out _ _ _ _ _ _ hk4 hX4 ht4).mono ?_); rintro e w5 ⟨A5, m5, c5, rfl, ht5, hk5, hX5⟩; have s0 := hk5.res.cell 0; have s1 := hk5.res.cell 1; have sf0 := hk5.res.frozen 0; have sf1 := hk5.res.frozen 1; have sl := hk5.res.lt; simp only [List.getElem?_toArray, List.getElem?_cons_zero, List.getElem?_cons_succ] at s0 s1))
  all_goals
    obtain ⟨hd1, hd2, hd3, hd4⟩ := rs_done hk5 ht5
    have y0 := hd1.cell 0
    have y1 := hd1.cell 1
    simp only [List.getElem?_toArray, List.getElem?_cons_zero, List.getElem?_cons_succ] at y0 y1
    have HD2 := Lib.hid hd2
    have HD3 := Lib.hid hd3
    have HD4 := Lib.hid hd4
    clear hd1 hd2 hd3 hd4 ht5 hk5
    go_wp2_with fail
    refine bodyPost_ret (v := .agg #[.string ⟨#[]⟩, .slice A5 m5 c5]) (by simp [results, Tryd.results47, go_sem, y0, y1]) rfl ?_
    exact ⟨_, _, _, _, rfl, HD2.out, HD3.out, HD4.out⟩

theorem l1Rename_any (t : Tm) : RsSaid t := by
  induction t with
  | var x => exact l1Rename_var x
  | lam x d ih => exact l1Rename_lam x d ih
  | app f a ihf iha => exact l1Rename_app f a ihf iha
end Go.Proofs.YtkomchdmcbdahaaDoor
