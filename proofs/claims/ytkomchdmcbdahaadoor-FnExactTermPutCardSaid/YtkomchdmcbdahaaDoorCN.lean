/- The program gives new names, and renames. -/
import Derived.Test.YtkomchdmcbdahaaDoorIT
import Derived.Test.YtkomchdmcbdahaaDoorWR
import Derived.Test.YtkomchdmcbdahaaDoorZ
import Derived.Test.YtkomchdmcbdahaaDoorC1
import Derived.Deep.LoopGhost
namespace Go.Proofs.YtkomchdmcbdahaaDoor
set_option linter.unusedVariables false
open Go.RowKit

theorem Tab.kept {w w' : World} (h : Tab w) (hk : w'.heap[0]? = w.heap[0]?) : Tab w' := by
  have hg : Tryd.prog.globalNamed "internal/strconv.uint64pow10" = some 0 := by kernel_rfl
  unfold Tab Lib.TabIs World.var? at *
  rw [hg] at h ⊢
  simp only [Option.bind_some] at h ⊢
  rw [hk]
  exact h
theorem Tab.lt {w : World} (h : Tab w) : 0 < w.heap.size := by
  have hg : Tryd.prog.globalNamed "internal/strconv.uint64pow10" = some 0 := by kernel_rfl
  unfold Tab Lib.TabIs World.var? at h
  rw [hg] at h
  simp only [Option.bind_some] at h
  rcases Nat.lt_or_ge 0 w.heap.size with h' | h'
  · exact h'
  · rw [Array.getElem?_eq_none h'] at h; simp at h
theorem Tab.below {w w' : World} (h : Tab w) (hb : Below w.heap.size w w') : Tab w' := h.kept (hb.block _ h.lt)
theorem Tab.grown {w w' : World} {r : Option Nat} (h : Tab w) (hg : w.grownBy w' r) (hr : ∀ k, r = some k → 0 < k) : Tab w' := h.kept (hg.block _ h.lt (fun e => by have := hr _ e.symm; omega))

theorem Blk.ne2 {w : World} {q k : Nat} {t u : TypeId} {cs ds : Array Value} (h : Blk w q t cs) (h2 : Blk w k u ds) (hne : t ≠ u) : q ≠ k := by
  rintro rfl
  have h1 : w.heap[q]? = some (.cells cs t (0, 0)) := h
  have h3 : w.heap[q]? = some (.cells ds u (0, 0)) := h2
  rw [h1] at h3
  injection h3 with h3
  injection h3 with _ h4
  exact hne h4

/-- The namer in block nb: the names that are taken, and the next number. -/
abbrev Nmr (w : World) (nb : Nat) (tk : Value) (n : Nat) : Prop := Blk w nb 110 #[tk, .int .i64 n]

theorem z_bytes (l : List UInt8) : (ByteArray.mk #[122]) ++ (ByteArray.mk l.toArray) = ⟨(122 :: l).toArray⟩ := by
  apply WideShapes.bytes_inj
  simp [ByteArray.data_append]

theorem dec_le (u : Nat) : (Lib.decDigits u).length ≤ u + 1 := by
  induction u using Nat.strongRecOn with
  | _ u ih =>
    by_cases h : u < 10
    · rw [Lib.decDigits, dif_pos h]; simp
    · rw [Lib.decDigits, dif_neg h, List.length_append]
      have := ih (u / 10) (by omega)
      simp
      omega

/-- What the namer answers. -/
def GvPost (fr : List (List UInt8)) (n nb : Nat) (tk : Value) (w : World) (e : Ending) (w' : World) : Prop :=
  e = .returned (.string ⟨(zN (fresh fr n)).toArray⟩) ∧ w.grownBy w' (some nb) ∧ Nmr w' nb tk (fresh fr n + 1)

set_option maxRecDepth 100000 in
set_option maxHeartbeats 2000000 in
theorem give_any (fr : List (List UInt8)) (n nb base : Nat) (tk : Value) (w : World) (hn : Nmr w nb tk n) (hf : SRow w base tk fr) (ht : Tab w) (hnb : 0 < nb) (hlen : fr.length ≤ 1000) (hn2 : n ≤ 900000) :
    Calls Tryd.prog 91 #[.pointer (some ⟨nb, 0, none⟩)] w (GvPost fr n nb tk w) := by
  obtain ⟨A, c, rfl⟩ := own_shape hf
  obtain ⟨f1, f2, f3, f4⟩ := fresh_spec fr n
  have HF3 := Lib.hid f3
  have HF4 := Lib.hid f4
  have HN := Lib.hid hn
  have HF := Lib.hid hf
  have HT := Lib.hid ht
  generalize hm : fresh fr n = M at f1 f2 HF3 HF4
  have HM := Lib.hid hm
  clear hn hf ht f3 f4 hm
  go_enter Tryd.func91, Tryd.ntmps91
  go_wp2
  go_loopg [] (M - n) (fun q wr => ∃ m, n ≤ m ∧ m + q = M ∧ w.grownBy wr (some nb) ∧ Hid (Nmr wr nb (.slice A fr.length c) m))
  case atStart => exact ⟨n, Nat.le_refl _, by omega, grown_refl _ _, HN⟩
  case round =>
    obtain ⟨m, hnm, hmq, hg, HR⟩ := hrel
    have c0 := HR.out.cell 0
    have c1 := HR.out.cell 1
    have cl := HR.out.lt
    simp at c0 c1
    have hT : Tab wr := HT.out.grown hg (fun k e => by injection e with e; omega)
    have HTR := Lib.hid hT
    have HG := Lib.hid hg
    have hmM : m ≤ M := by omega
    have hdl := dec_le m
    have HMQ := Lib.hid hmq
    clear hT hg hmq
    go_wp2_with fail
    refine (itoa_any m (by omega) _ HTR.out).mono ?_
    rintro e w1 ⟨rfl, hb1⟩
    have hn1 := HR.out.below hb1 cl
    have d0 := hn1.cell 0
    have d1 := hn1.cell 1
    have df := hn1.frozen 1
    have dl := hn1.lt
    simp at d0 d1
    have HN1 := Lib.hid hn1
    have HB1 := Lib.hid hb1
    clear hn1 hb1 c0 c1
    go_wp2_with fail
    rw [z_bytes]
    have hs2 : SRow (w1.setCell ⟨nb, 1, none⟩ (.int .i64 ((m : Int) + 1))) base (.slice A fr.length c) fr := by
      have hk1 : SRow w1 base (.slice A fr.length c) fr := HF.out.kept (HG.out.trans (grown_of_below HB1.out (some nb))) (by
        cases h1 : (Value.slice A fr.length c).ownBlock with
        | none => exact .inl rfl
        | some q => exact .inr fun e => row_not HN.out HF.out (by decide) (by rw [h1]; exact e.symm))
      exact ownsRow_far hk1 (fun e => row_not HN1.out hk1 (by decide) e.symm) _
    have hn2' : Nmr (w1.setCell ⟨nb, 1, none⟩ (.int .i64 ((m : Int) + 1))) nb (.slice A fr.length c) (m + 1) := by
      have := HN1.out.set_ 1 (.int .i64 ((m : Int) + 1))
      have e : ((m + 1 : Nat) : Int) = (m : Int) + 1 := by omega
      unfold Nmr
      rw [e]
      simpa using this
    have hg2 : w.grownBy (w1.setCell ⟨nb, 1, none⟩ (.int .i64 ((m : Int) + 1))) (some nb) := (HG.out.trans (grown_of_below HB1.out (some nb))).trans (grown_set _ _ _ _)
    have HS2 := Lib.hid hs2
    have HN2 := Lib.hid hn2'
    have HG2 := Lib.hid hg2
    clear hs2 hn2' hg2
    refine (sContains_any fr (122 :: Lib.decDigits m) base _ _ HS2.out (by omega)).mono ?_
    rintro e w2 ⟨rfl, rfl⟩
    by_cases hin : zN m ∈ fr
    · have hd : decide (122 :: Lib.decDigits m ∈ fr) = true := decide_eq_true hin
      have hmM2 : m < M := by
        rcases Nat.lt_or_ge m M with h | h
        · exact h
        · have e : m = M := by omega
          rw [e] at hin
          exact absurd hin HF4.out
      go_wp2
      go_roundg (M - (m + 1))
      case rel => exact ⟨m + 1, by omega, by omega, HG2.out, HN2⟩
      case measure => have := HMQ.out; omega
    · have hd : decide (122 :: Lib.decDigits m ∈ fr) = false := decide_eq_false hin
      have hmM2 : m = M := by
        rcases Nat.lt_or_ge m M with h | h
        · exact absurd (HF3.out m hnm h) hin
        · omega
      have HE := Lib.hid hmM2
      clear hmM2 hin
      go_wp2
      go_ret
      refine ⟨?_, HG2.out, ?_⟩
      · rw [HM.out, ← HE.out]; rfl
      · rw [HM.out, ← HE.out]; exact HN2.out
/-- A term lies in memory, wherever. -/
abbrev DTm (w : World) (d : DB) (v : Value) : Prop := DAt w (fun _ => True) d v
theorem DAt.any {w : World} {P Q : Nat → Prop} (h : ∀ q cs, Blk w q 75 cs → Q q) : ∀ {t : DB} {v : Value}, DAt w P t v → DAt w Q t v := by
  intro t
  induction t with
  | free x => rintro v ⟨b, rfl, hb, hl, hk⟩; exact ⟨b, rfl, h _ _ hk, hl, hk⟩
  | bnd i => rintro v ⟨b, rfl, hb, hk⟩; exact ⟨b, rfl, h _ _ hk, hk⟩
  | lam x d ih => rintro v ⟨b, c, rfl, hb, hl, hk, hd⟩; exact ⟨b, c, rfl, h _ _ hk, hl, hk, ih hd⟩
  | app f a ihf iha => rintro v ⟨b, c, d, rfl, hb, hk, hf, ha⟩; exact ⟨b, c, d, rfl, h _ _ hk, hk, ihf hf, iha ha⟩
theorem DAt.tm {w : World} {P : Nat → Prop} {t : DB} {v : Value} (h : DAt w P t v) : DTm w t v := h.any fun _ _ _ => trivial
theorem DAt.low {w : World} {P : Nat → Prop} {t : DB} {v : Value} (h : DAt w P t v) : DAt w (fun q => q < w.heap.size) t v := h.any fun _ _ hk => hk.lt
theorem DAt.far2 {w w' : World} {P : Nat → Prop} {t : DB} {v : Value} (h : DAt w P t v) {k : Nat} {u : TypeId} {ds : Array Value} (hk : Blk w k u ds) (hu : 75 ≠ u) (hg : w.grownBy w' (some k)) : DAt w' P t v :=
  h.keep fun q cs hq => hq.grown hg (fun e => hq.ne2 hk hu (Option.some.inj e))
theorem DAt.below2 {w w' : World} {P : Nat → Prop} {t : DB} {v : Value} (h : DAt w P t v) (hb : Below w.heap.size w w') : DAt w' P t v := h.keep fun q cs hq => hq.below hb hq.lt

/-- What renaming answers. -/
def RnPost (fr : List (List UInt8)) (d : DB) (n nb : Nat) (tk : Value) (w : World) (e : Ending) (w' : World) : Prop :=
  ∃ b, e = .returned (.pointer (some ⟨b, 0, none⟩)) ∧ DTm w' (renD fr d n).1 (.pointer (some ⟨b, 0, none⟩)) ∧ w.grownBy w' (some nb) ∧ Nmr w' nb tk (renD fr d n).2
def RnSaid (d : DB) : Prop := ∀ (v : Value) (fr : List (List UInt8)) (n nb base : Nat) (tk : Value) (w : World), DTm w d v → Nmr w nb tk n → SRow w base tk fr → Tab w → 0 < nb → fr.length ≤ 999 → n + d.size * 1000 ≤ 900000 →
  Calls Tryd.prog 77 #[v, .pointer (some ⟨nb, 0, none⟩)] w (RnPost fr d n nb tk w)
theorem renD_next (fr : List (List UInt8)) (hf : fr.length ≤ 999) (d : DB) : ∀ n, (renD fr d n).2 ≤ n + d.size * 1000 := by
  induction d with
  | free x => intro n; exact Nat.le_add_right _ _
  | bnd i => intro n; exact Nat.le_add_right _ _
  | lam x b ih => intro n; have h1 := ih (fresh fr n + 1); have h2 := (fresh_spec fr n).2.1; simp only [renD, DB.size]; omega
  | app f a ihf iha => intro n; have h1 := ihf n; have h2 := iha (renD fr f n).2; simp only [renD, DB.size]; omega

theorem rename_free (x : List UInt8) : RnSaid (.free x) := by
  rintro v fr n nb base tk w hd hn hf ht hnb hlen hsz
  obtain ⟨b, rfl, _, hx, hb⟩ := id hd
  have k0 := hb.cell 0
  simp at k0
  have HD := Lib.hid hd
  have HN := Lib.hid hn
  clear hd hn hf ht hb
  go_enter Tryd.func77, Tryd.ntmps77
  go_wp2_with fail
  go_ret
  exact ⟨b, rfl, HD.out, grown_refl _ _, HN.out⟩
theorem rename_bnd (i : Nat) : RnSaid (.bnd i) := by
  rintro v fr n nb base tk w hd hn hf ht hnb hlen hsz
  obtain ⟨b, rfl, _, hb⟩ := id hd
  have k0 := hb.cell 0
  simp at k0
  have HD := Lib.hid hd
  have HN := Lib.hid hn
  clear hd hn hf ht hb
  go_enter Tryd.func77, Tryd.ntmps77
  go_wp2_with fail
  go_ret
  exact ⟨b, rfl, HD.out, grown_refl _ _, HN.out⟩
theorem SRow.far2 {w w' : World} {base : Nat} {v : Value} {l : List (List UInt8)} (h : SRow w base v l) {k : Nat} {u : TypeId} {ds : Array Value} (hk : Blk w k u ds) (hu : u ≠ 9) (hg : w.grownBy w' (some k)) : SRow w' base v l :=
  h.kept hg (by
    cases h1 : v.ownBlock with
    | none => exact .inl rfl
    | some q => exact .inr fun e => row_not hk h hu (by rw [h1]; exact e.symm))
theorem dec_len : ∀ (k u : Nat), u < 10 ^ (k + 1) → (Lib.decDigits u).length ≤ k + 1
  | 0, u, h => by rw [Lib.decDigits, dif_pos (by simpa using h)]; simp
  | k + 1, u, h => by
    by_cases h1 : u < 10
    · rw [Lib.decDigits, dif_pos h1]; simp
    · rw [Lib.decDigits, dif_neg h1, List.length_append]
      rw [Nat.pow_succ] at h
      have := dec_len k (u / 10) (by omega)
      simp
      omega
theorem zN_short (k : Nat) (h : k ≤ 1000000) : (zN k).length ≤ 8000 := by have := dec_len 6 k (by omega); simp only [zN, List.length_cons]; omega

set_option maxRecDepth 100000 in
theorem rename_lam (x : List UInt8) (d : DB) (ih : RnSaid d) : RnSaid (.lam x d) := by
  rintro v fr n nb base tk w hd hn hf ht hnb hlen hsz
  obtain ⟨b, c, rfl, _, hx, hb, he⟩ := id hd
  have k0 := hb.cell 0
  simp at k0
  obtain ⟨f1, f2, _, _⟩ := fresh_spec fr n
  have HB := Lib.hid hb
  have HE := Lib.hid he
  have HN := Lib.hid hn
  have HF := Lib.hid hf
  have HT := Lib.hid ht
  have IH := Lib.hid ih
  simp only [DB.size] at hsz
  have HR : Hid (renD fr (.lam x d) n = (.lam (zN (fresh fr n)) (renD fr d (fresh fr n + 1)).1, (renD fr d (fresh fr n + 1)).2)) := Lib.hid rfl
  clear hd hn hf ht hb he ih
  go_enter Tryd.func77, Tryd.ntmps77
  go_wp2_with fail
  refine (give_any fr n nb base _ _ HN.out HF.out HT.out hnb (by omega) (by omega)).mono ?_
  rintro e w1 ⟨rfl, hg1, hn1⟩
  have hb1 := HB.out.grown hg1 (fun e => HB.out.ne2 HN.out (by decide) (Option.some.inj e))
  have k3 := hb1.cell 3
  simp at k3
  have HE1 := Lib.hid (HE.out.far2 HN.out (by decide) hg1)
  have HF1 := Lib.hid (HF.out.far2 HN.out (by decide) hg1)
  have HT1 := Lib.hid (HT.out.grown hg1 (fun k e => by injection e with e; omega))
  have HN1 := Lib.hid hn1
  have HG1 := Lib.hid hg1
  clear hg1 hn1 hb1
  go_wp2_with fail
  refine (IH.out _ fr (fresh fr n + 1) nb base tk _ HE1.out HN1.out HF1.out HT1.out hnb hlen (by omega)).mono ?_
  rintro e w2 ⟨b2, rfl, hd2, hg2, hn2⟩
  have HD2 := Lib.hid hd2
  have HG2 := Lib.hid (HG1.out.trans hg2)
  have HN2 := Lib.hid hn2
  clear hd2 hg2 hn2
  go_wp2_with fail
  refine (newLam_any (zN (fresh fr n)) b2 _).mono ?_
  rintro e w3 ⟨rfl, rfl⟩
  go_wp2_with fail
  go_ret
  refine ⟨w2.heap.size, rfl, ?_, HG2.out.trans (World.grownBy_alloc _ _ _), ?_⟩
  · rw [HR.out]
    exact ⟨w2.heap.size, b2, rfl, trivial, zN_short _ (by omega), Blk.new _ _ _, HD2.out.keep fun q cs hk => hk.alloc _⟩
  · rw [HR.out]; exact HN2.out.alloc _

set_option maxRecDepth 100000 in
theorem rename_app (f a : DB) (ihf : RnSaid f) (iha : RnSaid a) : RnSaid (.app f a) := by
  rintro v fr n nb base tk w hd hn hf ht hnb hlen hsz
  obtain ⟨b, c, e, rfl, _, hb, hdf, hda⟩ := id hd
  have k0 := hb.cell 0
  have k3 := hb.cell 3
  simp at k0 k3
  have hnx := renD_next fr hlen f n
  have HB := Lib.hid hb
  have HDF := Lib.hid hdf
  have HDA := Lib.hid hda
  have HN := Lib.hid hn
  have HF := Lib.hid hf
  have HT := Lib.hid ht
  have IHF := Lib.hid ihf
  have IHA := Lib.hid iha
  simp only [DB.size] at hsz
  have HR : Hid (renD fr (.app f a) n = (.app (renD fr f n).1 (renD fr a (renD fr f n).2).1, (renD fr a (renD fr f n).2).2)) := Lib.hid rfl
  clear hd hn hf ht hb hdf hda ihf iha
  go_enter Tryd.func77, Tryd.ntmps77
  go_wp2_with fail
  refine (IHF.out _ fr n nb base tk _ HDF.out HN.out HF.out HT.out hnb hlen (by omega)).mono ?_
  rintro e w1 ⟨b1, rfl, hd1, hg1, hn1⟩
  have hb1 := HB.out.grown hg1 (fun e => HB.out.ne2 HN.out (by decide) (Option.some.inj e))
  have k4 := hb1.cell 4
  simp at k4
  have HDA1 := Lib.hid (HDA.out.far2 HN.out (by decide) hg1)
  have HF1 := Lib.hid (HF.out.far2 HN.out (by decide) hg1)
  have HT1 := Lib.hid (HT.out.grown hg1 (fun k e => by injection e with e; omega))
  have HN1 := Lib.hid hn1
  have HG1 := Lib.hid hg1
  have HD1 := Lib.hid hd1
  clear hg1 hn1 hb1 hd1
  go_wp2_with fail
  refine (IHA.out _ fr _ nb base tk _ HDA1.out HN1.out HF1.out HT1.out hnb hlen (by omega)).mono ?_
  rintro e w2 ⟨b2, rfl, hd2, hg2, hn2⟩
  have HD12 := Lib.hid (HD1.out.far2 HN1.out (by decide) hg2)
  have HD2 := Lib.hid hd2
  have HG2 := Lib.hid (HG1.out.trans hg2)
  have HN2 := Lib.hid hn2
  clear hd2 hg2 hn2
  go_wp2_with fail
  refine (newApp_any b1 b2 _).mono ?_
  rintro e w3 ⟨rfl, rfl⟩
  go_wp2_with fail
  go_ret
  refine ⟨w2.heap.size, rfl, ?_, HG2.out.trans (World.grownBy_alloc _ _ _), ?_⟩
  · rw [HR.out]
    exact ⟨w2.heap.size, b1, b2, rfl, trivial, Blk.new _ _ _, HD12.out.keep fun q cs hk => hk.alloc _, HD2.out.keep fun q cs hk => hk.alloc _⟩
  · rw [HR.out]; exact HN2.out.alloc _
theorem rename_any (d : DB) : RnSaid d := by
  induction d with
  | free x => exact rename_free x
  | bnd i => exact rename_bnd i
  | lam x d ih => exact rename_lam x d ih
  | app f a ihf iha => exact rename_app f a ihf iha
end Go.Proofs.YtkomchdmcbdahaaDoor
