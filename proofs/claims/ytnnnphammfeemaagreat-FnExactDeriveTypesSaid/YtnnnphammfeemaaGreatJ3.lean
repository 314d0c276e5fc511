/- The model tells derivations. The model counts the nodes of a derivation, and tells the plain ones. Reading derivations: mathematics. The model lists the types of the ax of a derivation. The model tells plain derivations. The model's reading of derivations. What reading a derivation says of the text. The model's answers: DeriveTypes, DerivePlain. -/
import Derived.Test.YtnnnphammfeemaaGreatMC
import Derived.Test.YtnnnphammfeemaaGreatDV
import Derived.Test.YtnnnphammfeemaaGreatMU
import Derived.Test.YtnnnphammfeemaaGreatKD
import Derived.Test.YtnnnphammfeemaaGreatU1
import Derived.Test.YtnnnphammfeemaaGreatS0
import Derived.Maps.AppendAt
namespace Go.Proofs.YtnnnphammfeemaaGreat
set_option linter.unusedVariables false
set_option linter.unusedSimpArgs false
open Go.RowKit

/-- A kind's word. -/
def kdT (k : Bool) : List UInt8 := if k then [104, 101, 97, 100] else [102, 117, 108, 108]
/-- What l4Is answers of a tree. -/
def DvSaid (k : Bool) (t : Tr) : Prop := ∀ (v : Value) (w : World) (P : Nat → Prop), TAt w P t v → (∀ b, P b → b < w.heap.size) → (wrTr t).length ≤ 1000000 → trAtoms t ≤ 10000 →
    Calls Tryz.prog 70 #[.string ⟨(kdT k).toArray⟩, v] w fun e w' => e = .returned (.bool (isDv k t)) ∧ Below w.heap.size w w'
theorem isDvs_next (k : Bool) (r : List Tr) (j : Nat) (t : Tr) (h : r[j]? = some t) : isDvs k (r.drop j) = (isDv k t && isDvs k (r.drop (j + 1))) := by
  obtain ⟨hj, e⟩ := List.getElem?_eq_some_iff.1 h
  rw [List.drop_eq_getElem_cons hj, e]
  rfl

set_option maxRecDepth 100000 in
set_option maxHeartbeats 2000000 in
theorem l4All_of (k : Bool) (p : Tr) (r : List Tr) (ih : ∀ t ∈ r, DvSaid k t) (v : Value) (w : World) (P : Nat → Prop) (ht : TAt w P (.mk [] (p :: r)) v) (hP : ∀ b, P b → b < w.heap.size) (hl : (wrTr (.mk [] (p :: r))).length ≤ 1000000) (hat : trAtoms (.mk [] (p :: r)) ≤ 10000) :
    Calls Tryz.prog 105 #[.string ⟨(kdT k).toArray⟩, v] w fun e w' => e = .returned (.bool (isDvs k r)) ∧ Below w.heap.size w w' := by
  obtain ⟨vp, rfl, hle, hle2, ⟨h0, _⟩ | ⟨_, g, cap, xs, rfl, hcap, hPg, hc, hvs⟩⟩ := ht.form
  · cases h0
  obtain ⟨N, hN⟩ : ∃ N, (p :: r).length = N := ⟨_, rfl⟩
  have HB : Hid (BgIn w P g N (p :: r) xs) := Lib.hid ⟨hc, hvs, hN, fun t ht => by have := wrTr_part t _ ht; omega⟩
  have HAT : Hid (∀ t ∈ r, trAtoms t ≤ 10000) := Lib.hid fun t h => by
    have h1 := trsAtoms_mem t (p :: r) (List.mem_cons_of_mem _ h)
    simp only [trAtoms, if_true] at hat
    omega
  rw [hN] at ht hle2 hcap ⊢
  have HN : Hid (r.length + 1 = N) := Lib.hid hN
  have HP := Lib.hid hP
  have HG := Lib.hid hPg
  have IH := Lib.hid ih
  clear ht hP hl ih hc hvs hN hPg hat
  go_enter Tryz.func105, Tryz.ntmps105
  go_wp2_with fail
  go_loopw [5] (fun i wr => ∃ (j : Nat), 1 ≤ j ∧ j ≤ N ∧ i = .int .i64 (j : Nat) ∧ Hid (isDvs k r = isDvs k (r.drop (j - 1))) ∧ Below w.heap.size w wr ∧ Blk wr w.heap.size 52 #[.string ⟨#[]⟩, .slice (some ⟨g, 0, none⟩) N cap]) (fun i _ => N - (intOf i).toNat)
  case atStart => exact ⟨1, by omega, by have := HN.out; omega, rfl, Lib.hid rfl, (Below.refl _ _).alloc (Nat.le_refl _) _, Blk.new _ _ _⟩
  case round =>
    obtain ⟨j, hj1, hjN, rfl, HS, hbw, hblk⟩ := hrel
    have r1 := hblk.cell 1
    have hlt := hblk.lt
    simp at r1
    have hall : Hid (∀ q, P q → q < wr.heap.size) := Lib.hid fun q hq => by have := HP.out q hq; have := hbw.size; omega
    by_cases hkl : j < N
    · have hkr : j - 1 < r.length := by have := HN.out; omega
      obtain ⟨t1, ht1⟩ : ∃ t1, r[j - 1]? = some t1 := ⟨r[j - 1], by simp⟩
      have hp1 : (p :: r)[j]? = some t1 := by
        obtain ⟨i, rfl⟩ : ∃ i, j = i + 1 := ⟨j - 1, by omega⟩
        simpa using ht1
      obtain ⟨A, n, c, x1, y1, tr1, hl1⟩ := HB.out.part HP.out HG.out hbw j t1 hp1
      have HST := Lib.hid (show isDvs k (r.drop (j - 1)) = (isDv k t1 && isDvs k (r.drop j)) by
        have := isDvs_next k r (j - 1) t1 ht1
        rwa [show j - 1 + 1 = j by omega] at this)
      have HM1 := List.mem_of_getElem? ht1
      have C := Lib.hid (IH.out t1 HM1 _ wr P tr1 hall.out hl1 (HAT.out t1 HM1))
      have hb0 : (0 : Int) ≤ (j : Int) := by omega
      have hb1 : (j : Int) < (N : Int) := by omega
      clear ht1 hp1 tr1 HM1 hkr
      generalize isDv k t1 = q at C HST
      cases q
      · go_wp2_with fail
        refine C.out.mono ?_
        rintro e w1 ⟨rfl, hb1'⟩
        have hB := Lib.hid (hbw.trans (hb1'.mono hbw.size))
        clear hb1'
        go_wp2_with fail
        go_ret
        exact ⟨ret_bool (by rw [HS.out, HST.out]; rfl), hB.out⟩
      · go_wp2_with fail
        refine C.out.mono ?_
        rintro e w1 ⟨rfl, hb1'⟩
        have hB := hbw.trans (hb1'.mono hbw.size)
        have hblk1 := hblk.below hb1' hblk.lt
        clear hb1'
        go_wp2_with fail
        go_roundw
        case rel => exact ⟨j + 1, by omega, by omega, by go_num, Lib.hid (by rw [HS.out, HST.out]; simp), hB, hblk1⟩
        case measure => simp [intOf]; omega
    · have HF : Hid (isDvs k r = true) := Lib.hid (by rw [HS.out, List.drop_of_length_le (by have := HN.out; omega)]; rfl)
      go_wp2_with fail
      go_ret
      exact ⟨ret_bool (by rw [HF.out]), hbw⟩
/-- What l4Is answers where no word stands first. -/
theorem head_of (pa : List UInt8) (pq r : List Tr) (v : Value) (w : World) (P : Nat → Prop) (ht : TAt w P (.mk [] (.mk pa pq :: r)) v) (hP : ∀ b, P b → b < w.heap.size) :
    ∀ o, Calls Tryz.prog 60 #[v] (w.alloc o) fun e w' => e = .returned (.string ⟨pa.toArray⟩) ∧ Below (w.alloc o).heap.size (w.alloc o) w' := by
  intro o
  refine (l1Head_any _ v (w.alloc o) P (ht.alloc hP o) (fun b hb => by have := hP b hb; simp; omega)).mono fun e w2 ⟨he, hb⟩ => ⟨?_, hb⟩
  simpa [Tr.atom, Tr.parts] using he
theorem head_none (a : List UInt8) (ps : List Tr) (h : ¬ (a = [] ∧ ps ≠ [])) (v : Value) (w : World) (P : Nat → Prop) (ht : TAt w P (.mk a ps) v) (hP : ∀ b, P b → b < w.heap.size) :
    ∀ o, Calls Tryz.prog 60 #[v] (w.alloc o) fun e w' => e = .returned (.string ⟨#[]⟩) ∧ Below (w.alloc o).heap.size (w.alloc o) w' := by
  intro o
  refine (l1Head_any (.mk a ps) v (w.alloc o) P (ht.alloc hP o) (fun b hb => by have := hP b hb; simp; omega)).mono fun e w2 ⟨he, hb⟩ => ⟨?_, hb⟩
  exact he.trans (congrArg (fun l : List UInt8 => Ending.returned (.string ⟨l.toArray⟩)) (head_no a ps h).2)

set_option maxRecDepth 100000 in
theorem l4Is_no (k : Bool) (a : List UInt8) (ps : List Tr) (h : ¬ (a = [] ∧ ps ≠ [])) : DvSaid k (.mk a ps) := by
  intro v w P ht hP hl hat
  have HX : Hid (isDv k (.mk a ps) = false) := Lib.hid (by
    unfold isDv
    by_cases ha : a = []
    · have hp : ps = [] := by
        rcases Classical.em (ps = []) with h1 | h1
        · exact h1
        · exact absurd ⟨ha, h1⟩ h
      subst ha hp
      rfl
    · rw [if_neg ha])
  have HH := Lib.hid (head_none a ps h v w P ht hP)
  obtain ⟨A, n, c, rfl⟩ := ht.shape
  clear h ht hP hl hat
  go_enter Tryz.func70, Tryz.ntmps70
  go_wp2_with fail
  refine (HH.out _).mono ?_
  rintro e w1 ⟨rfl, hb1⟩
  have hB1 : Below w.heap.size w w1 := ((Below.refl _ _).alloc (Nat.le_refl _) _).trans (hb1.mono (by simp))
  go_wp2_with fail
  go_ret
  exact ⟨ret_bool (by rw [HX.out]), hB1⟩

/-- A node's word is none of the six. -/
def noWord (x : List UInt8) : Prop := (x == [97, 120]) = false ∧ (x == [102, 117, 110]) = false ∧ (x == [116, 102, 117, 110]) = false ∧ (x == [104, 97, 112]) = false ∧ (x == [97, 112, 112]) = false ∧ (x == [116, 97, 112]) = false
theorem axL_no (r : List Tr) (h : ¬ r.length = 1) : axL r = false := by
  match r, h with
  | [], _ => rfl
  | [t], h => exact absurd rfl h
  | t :: u :: r', _ => rfl
theorem isDv_node (k : Bool) (pa : List UInt8) (pq r : List Tr) : isDv k (.mk [] (.mk pa pq :: r)) = if pa = sAx then axL r else ndOk k pa r.length && isDvs k r := by
  unfold isDv isDvP
  rw [if_pos rfl]
  rfl

set_option maxRecDepth 100000 in
theorem l4Is_word (k : Bool) (pa : List UInt8) (pq r : List Tr) (hno : noWord pa) : DvSaid k (.mk [] (.mk pa pq :: r)) := by
  intro v w P ht hP hl hat
  have HX : Hid (isDv k (.mk [] (.mk pa pq :: r)) = false) := Lib.hid (by
    obtain ⟨h1, h2, h3, h4, h5, h6⟩ := hno
    rw [isDv_node]
    simp only [beq_eq_false_iff_ne, ne_eq] at h1 h2 h3 h4 h5 h6
    simp only [sAx, ndOk, sFun, sTfun, sHap, sApp, sTap, h1, h2, h3, h4, h5, h6, if_false, Bool.false_and])
  have HH := Lib.hid (head_of pa pq r v w P ht hP)
  obtain ⟨A, n, c, rfl⟩ := ht.shape
  obtain ⟨h1, h2, h3, h4, h5, h6⟩ := hno
  clear ht hP hl hat
  go_enter Tryz.func70, Tryz.ntmps70
  go_wp2_with fail
  refine (HH.out _).mono ?_
  rintro e w1 ⟨rfl, hb1⟩
  have hB1 : Below w.heap.size w w1 := ((Below.refl _ _).alloc (Nat.le_refl _) _).trans (hb1.mono (by simp))
  go_wp2_with fail
  go_ret
  exact ⟨ret_bool (by rw [HX.out]), hB1⟩

/-- What stands within a node, for the walk. -/
structure NdIn (w w1 : World) (P : Nat → Prop) (g N cap : Nat) (p : Tr) (r : List Tr) : Prop where
  blk : Blk w1 w.heap.size 52 #[.string ⟨#[]⟩, .slice (some ⟨g, 0, none⟩) N cap]
  below : Below w.heap.size w w1
  len : r.length + 1 = N
  all : ∀ q, P q → q < w1.heap.size
  tree : TAt w1 P (.mk [] (p :: r)) (.agg #[.string ⟨#[]⟩, .slice (some ⟨g, 0, none⟩) N cap])
  short : (wrTr (.mk [] (p :: r))).length ≤ 1000000
  few : trAtoms (.mk [] (p :: r)) ≤ 10000
theorem NdIn.first {w w1 : World} {P : Nat → Prop} {g N cap : Nat} {p : Tr} {r : List Tr} (h : NdIn w w1 P g N cap p r) (t : Tr) (ht : r[0]? = some t) :
    ∃ A n c, w1.cell? ⟨g, 2, none⟩ = some (.string ⟨t.atom.toArray⟩) ∧ w1.cell? ⟨g, 3, none⟩ = some (.slice A n c) ∧ TAt w1 P t (.agg #[.string ⟨t.atom.toArray⟩, .slice A n c]) ∧ (wrTr t).length ≤ 1000000 ∧ trAtoms t ≤ 10000 := by
  obtain ⟨g', cap', x, y, hv, hPg, hx, hy, hxy⟩ := h.tree.some_ 1 t (by simpa using ht)
  have hg : g = g' := by simp at hv; exact hv.1
  subst hg
  obtain ⟨A, n, c, e⟩ := hxy.shape
  simp at e
  obtain ⟨rfl, rfl⟩ := e
  have hm : t ∈ p :: r := List.mem_cons_of_mem _ (List.mem_of_getElem? ht)
  refine ⟨A, n, c, hx, hy, hxy, ?_, ?_⟩
  · have := wrTr_part t _ hm; have := h.short; omega
  · have h1 := trsAtoms_mem t (p :: r) hm
    have h2 := h.few
    simp only [trAtoms, if_true] at h2
    omega

set_option maxRecDepth 100000 in
set_option maxHeartbeats 1000000 in
theorem l4Is_fun (k : Bool) (pq r : List Tr) (ih : ∀ t ∈ r, DvSaid k t) : DvSaid k (.mk [] (.mk [102, 117, 110] pq :: r)) := by
  have IH := Lib.hid ih
  clear ih
  intro v w P ht hP hl hat
  have HH := Lib.hid (head_of [102, 117, 110] pq r v w P ht hP)
  obtain ⟨vp, rfl, hle, hle2, ⟨h0, _⟩ | ⟨_, g, cap, xs, rfl, hcap, hPg, hc, hvs⟩⟩ := ht.form
  · cases h0
  obtain ⟨N, hN⟩ : ∃ N, (Tr.mk [102, 117, 110] pq :: r).length = N := ⟨_, rfl⟩
  rw [hN] at ht hle2 hcap HH ⊢
  have HX := Lib.hid (isDv_node k [102, 117, 110] pq r)
  have HI : Hid (∀ w1, Below w.heap.size w w1 → Blk w1 w.heap.size 52 #[.string ⟨#[]⟩, .slice (some ⟨g, 0, none⟩) N cap] → NdIn w w1 P g N cap (.mk [102, 117, 110] pq) r) :=
    Lib.hid fun w1 hb hk => ⟨hk, hb, by simpa using hN, fun q hq => Nat.lt_of_lt_of_le (hP q hq) hb.size, ht.below hb hP, hl, hat⟩
  clear ht hP hl hat hc hvs hPg hle
  go_enter Tryz.func70, Tryz.ntmps70
  go_wp2_with fail
  refine (HH.out _).mono ?_
  rintro e w1 ⟨rfl, hb1⟩
  have hB1 : Below w.heap.size w w1 := ((Below.refl _ _).alloc (Nat.le_refl _) _).trans (hb1.mono (by simp))
  have hr := (Blk.new w 52 #[.string ⟨#[]⟩, .slice (some ⟨g, 0, none⟩) N cap]).below hb1 (by simp)
  have H := Lib.hid (HI.out w1 hB1 hr)
  have hNr := H.out.len
  have r0 := hr.cell 0
  have r1 := hr.cell 1
  have hlt := hr.lt
  simp at r0 r1
  clear hN hb1
  by_cases h2 : N = 2
  · obtain ⟨t, ht1⟩ : ∃ t, r = [t] := List.length_eq_one_iff.1 (by omega)
    first
    | skip
      obtain ⟨A, n, c, x1, y1, tr1, hl1, ha1⟩ := H.out.first t (by rw [ht1]; rfl)
      have C := Lib.hid (IH.out t (by rw [ht1]; simp) _ w1 P tr1 H.out.all hl1 ha1)
      have HR : Hid (isDv k (.mk [] (.mk [102, 117, 110] pq :: r)) = isDv k t) := Lib.hid (by rw [HX.out, ht1]; cases k <;> simp [sAx, ndOk, sFun, sTfun, sHap, isDvs])
      subst h2
      clear tr1 hNr ht1
      go_wp2_with fail
      refine C.out.mono ?_
      rintro e w2 ⟨rfl, hb2⟩
      have hB := Lib.hid (hB1.trans (hb2.mono hB1.size))
      clear hb2
      go_wp2_with fail
      go_ret
      exact ⟨ret_bool (by rw [HR.out]), hB.out⟩
  · have HR : Hid (isDv k (.mk [] (.mk [102, 117, 110] pq :: r)) = false) := Lib.hid (by
      rw [HX.out]
      have : ¬ r.length = 1 := by omega
      cases k <;> simp [sAx, ndOk, sFun, sTfun, sHap, this])
    have h2b : ((N : Int) == 2) = false := by simp; omega
    go_wp2_with fail
    go_ret
    exact ⟨ret_bool (by rw [HR.out]), hB1⟩

set_option maxRecDepth 100000 in
set_option maxHeartbeats 1000000 in
theorem l4Is_tfun (k : Bool) (pq r : List Tr) (ih : ∀ t ∈ r, DvSaid k t) : DvSaid k (.mk [] (.mk [116, 102, 117, 110] pq :: r)) := by
  have IH := Lib.hid ih
  clear ih
  intro v w P ht hP hl hat
  have HH := Lib.hid (head_of [116, 102, 117, 110] pq r v w P ht hP)
  obtain ⟨vp, rfl, hle, hle2, ⟨h0, _⟩ | ⟨_, g, cap, xs, rfl, hcap, hPg, hc, hvs⟩⟩ := ht.form
  · cases h0
  obtain ⟨N, hN⟩ : ∃ N, (Tr.mk [116, 102, 117, 110] pq :: r).length = N := ⟨_, rfl⟩
  rw [hN] at ht hle2 hcap HH ⊢
  have HX := Lib.hid (isDv_node k [116, 102, 117, 110] pq r)
  have HI : Hid (∀ w1, Below w.heap.size w w1 → Blk w1 w.heap.size 52 #[.string ⟨#[]⟩, .slice (some ⟨g, 0, none⟩) N cap] → NdIn w w1 P g N cap (.mk [116, 102, 117, 110] pq) r) :=
    Lib.hid fun w1 hb hk => ⟨hk, hb, by simpa using hN, fun q hq => Nat.lt_of_lt_of_le (hP q hq) hb.size, ht.below hb hP, hl, hat⟩
  clear ht hP hl hat hc hvs hPg hle
  go_enter Tryz.func70, Tryz.ntmps70
  go_wp2_with fail
  refine (HH.out _).mono ?_
  rintro e w1 ⟨rfl, hb1⟩
  have hB1 : Below w.heap.size w w1 := ((Below.refl _ _).alloc (Nat.le_refl _) _).trans (hb1.mono (by simp))
  have hr := (Blk.new w 52 #[.string ⟨#[]⟩, .slice (some ⟨g, 0, none⟩) N cap]).below hb1 (by simp)
  have H := Lib.hid (HI.out w1 hB1 hr)
  have hNr := H.out.len
  have r0 := hr.cell 0
  have r1 := hr.cell 1
  have hlt := hr.lt
  simp at r0 r1
  clear hN hb1
  by_cases h2 : N = 2
  · obtain ⟨t, ht1⟩ : ∃ t, r = [t] := List.length_eq_one_iff.1 (by omega)
    first
    | skip
      obtain ⟨A, n, c, x1, y1, tr1, hl1, ha1⟩ := H.out.first t (by rw [ht1]; rfl)
      have C := Lib.hid (IH.out t (by rw [ht1]; simp) _ w1 P tr1 H.out.all hl1 ha1)
      have HR : Hid (isDv k (.mk [] (.mk [116, 102, 117, 110] pq :: r)) = isDv k t) := Lib.hid (by rw [HX.out, ht1]; cases k <;> simp [sAx, ndOk, sFun, sTfun, sHap, isDvs])
      subst h2
      clear tr1 hNr ht1
      go_wp2_with fail
      refine C.out.mono ?_
      rintro e w2 ⟨rfl, hb2⟩
      have hB := Lib.hid (hB1.trans (hb2.mono hB1.size))
      clear hb2
      go_wp2_with fail
      go_ret
      exact ⟨ret_bool (by rw [HR.out]), hB.out⟩
  · have HR : Hid (isDv k (.mk [] (.mk [116, 102, 117, 110] pq :: r)) = false) := Lib.hid (by
      rw [HX.out]
      have : ¬ r.length = 1 := by omega
      cases k <;> simp [sAx, ndOk, sFun, sTfun, sHap, this])
    have h2b : ((N : Int) == 2) = false := by simp; omega
    go_wp2_with fail
    go_ret
    exact ⟨ret_bool (by rw [HR.out]), hB1⟩

set_option maxRecDepth 100000 in
set_option maxHeartbeats 1000000 in
theorem l4Is_hap (k : Bool) (pq r : List Tr) (ih : ∀ t ∈ r, DvSaid k t) : DvSaid k (.mk [] (.mk [104, 97, 112] pq :: r)) := by
  have IH := Lib.hid ih
  clear ih
  intro v w P ht hP hl hat
  have HH := Lib.hid (head_of [104, 97, 112] pq r v w P ht hP)
  obtain ⟨vp, rfl, hle, hle2, ⟨h0, _⟩ | ⟨_, g, cap, xs, rfl, hcap, hPg, hc, hvs⟩⟩ := ht.form
  · cases h0
  obtain ⟨N, hN⟩ : ∃ N, (Tr.mk [104, 97, 112] pq :: r).length = N := ⟨_, rfl⟩
  rw [hN] at ht hle2 hcap HH ⊢
  have HX := Lib.hid (isDv_node k [104, 97, 112] pq r)
  have HI : Hid (∀ w1, Below w.heap.size w w1 → Blk w1 w.heap.size 52 #[.string ⟨#[]⟩, .slice (some ⟨g, 0, none⟩) N cap] → NdIn w w1 P g N cap (.mk [104, 97, 112] pq) r) :=
    Lib.hid fun w1 hb hk => ⟨hk, hb, by simpa using hN, fun q hq => Nat.lt_of_lt_of_le (hP q hq) hb.size, ht.below hb hP, hl, hat⟩
  clear ht hP hl hat hc hvs hPg hle
  go_enter Tryz.func70, Tryz.ntmps70
  go_wp2_with fail
  refine (HH.out _).mono ?_
  rintro e w1 ⟨rfl, hb1⟩
  have hB1 : Below w.heap.size w w1 := ((Below.refl _ _).alloc (Nat.le_refl _) _).trans (hb1.mono (by simp))
  have hr := (Blk.new w 52 #[.string ⟨#[]⟩, .slice (some ⟨g, 0, none⟩) N cap]).below hb1 (by simp)
  have H := Lib.hid (HI.out w1 hB1 hr)
  have hNr := H.out.len
  have r0 := hr.cell 0
  have r1 := hr.cell 1
  have hlt := hr.lt
  simp at r0 r1
  clear hN hb1
  by_cases h2 : N = 2
  · obtain ⟨t, ht1⟩ : ∃ t, r = [t] := List.length_eq_one_iff.1 (by omega)
    first
    | skip
      obtain ⟨A, n, c, x1, y1, tr1, hl1, ha1⟩ := H.out.first t (by rw [ht1]; rfl)
      have C := Lib.hid (IH.out t (by rw [ht1]; simp) _ w1 P tr1 H.out.all hl1 ha1)
      have HR : Hid (isDv k (.mk [] (.mk [104, 97, 112] pq :: r)) = (k && isDv k t)) := Lib.hid (by rw [HX.out, ht1]; cases k <;> simp [sAx, ndOk, sFun, sTfun, sHap, isDvs])
      subst h2
      clear tr1 hNr ht1
      cases k
      · go_wp2_with fail
        go_ret
        exact ⟨ret_bool (by rw [HR.out]; rfl), hB1⟩
      · go_wp2_with fail
        refine C.out.mono ?_
        rintro e w2 ⟨rfl, hb2⟩
        have hB := Lib.hid (hB1.trans (hb2.mono hB1.size))
        clear hb2
        go_wp2_with fail
        go_ret
        exact ⟨ret_bool (by rw [HR.out]; rfl), hB.out⟩
  · have HR : Hid (isDv k (.mk [] (.mk [104, 97, 112] pq :: r)) = false) := Lib.hid (by
      rw [HX.out]
      have : ¬ r.length = 1 := by omega
      cases k <;> simp [sAx, ndOk, sFun, sTfun, sHap, this])
    have h2b : ((N : Int) == 2) = false := by simp; omega
    cases k
    · go_wp2_with fail
      go_ret
      exact ⟨ret_bool (by rw [HR.out]), hB1⟩
    · go_wp2_with fail
      go_ret
      exact ⟨ret_bool (by rw [HR.out]), hB1⟩

set_option maxRecDepth 100000 in
set_option maxHeartbeats 1000000 in
theorem l4Is_app (k : Bool) (pq r : List Tr) (ih : ∀ t ∈ r, DvSaid k t) : DvSaid k (.mk [] (.mk [97, 112, 112] pq :: r)) := by
  have IH := Lib.hid ih
  clear ih
  intro v w P ht hP hl hat
  have HH := Lib.hid (head_of [97, 112, 112] pq r v w P ht hP)
  obtain ⟨vp, rfl, hle, hle2, ⟨h0, _⟩ | ⟨_, g, cap, xs, rfl, hcap, hPg, hc, hvs⟩⟩ := ht.form
  · cases h0
  obtain ⟨N, hN⟩ : ∃ N, (Tr.mk [97, 112, 112] pq :: r).length = N := ⟨_, rfl⟩
  rw [hN] at ht hle2 hcap HH ⊢
  have HX := Lib.hid (isDv_node k [97, 112, 112] pq r)
  have HI : Hid (∀ w1, Below w.heap.size w w1 → Blk w1 w.heap.size 52 #[.string ⟨#[]⟩, .slice (some ⟨g, 0, none⟩) N cap] → NdIn w w1 P g N cap (.mk [97, 112, 112] pq) r) :=
    Lib.hid fun w1 hb hk => ⟨hk, hb, by simpa using hN, fun q hq => Nat.lt_of_lt_of_le (hP q hq) hb.size, ht.below hb hP, hl, hat⟩
  clear ht hP hl hat hc hvs hPg hle
  go_enter Tryz.func70, Tryz.ntmps70
  go_wp2_with fail
  refine (HH.out _).mono ?_
  rintro e w1 ⟨rfl, hb1⟩
  have hB1 : Below w.heap.size w w1 := ((Below.refl _ _).alloc (Nat.le_refl _) _).trans (hb1.mono (by simp))
  have hr := (Blk.new w 52 #[.string ⟨#[]⟩, .slice (some ⟨g, 0, none⟩) N cap]).below hb1 (by simp)
  have H := Lib.hid (HI.out w1 hB1 hr)
  have hNr := H.out.len
  have r0 := hr.cell 0
  have r1 := hr.cell 1
  have hlt := hr.lt
  simp at r0 r1
  clear hN hb1
  have C := Lib.hid (l4All_of k _ r IH.out _ w1 P H.out.tree H.out.all H.out.short H.out.few)
  by_cases h2 : 2 ≤ N
  · have HR : Hid (isDv k (.mk [] (.mk [97, 112, 112] pq :: r)) = isDvs k r) := Lib.hid (by
      rw [HX.out]
      have : 1 ≤ r.length := by omega
      simp [sAx, ndOk, sFun, sTfun, sHap, sApp, this])
    go_wp2_with fail
    refine C.out.mono ?_
    rintro e w2 ⟨rfl, hb2⟩
    have hB := Lib.hid (hB1.trans (hb2.mono hB1.size))
    clear hb2
    go_wp2_with fail
    go_ret
    exact ⟨ret_bool (by rw [HR.out]), hB.out⟩
  · have HR : Hid (isDv k (.mk [] (.mk [97, 112, 112] pq :: r)) = false) := Lib.hid (by
      rw [HX.out]
      have : ¬ 1 ≤ r.length := by omega
      simp [sAx, ndOk, sFun, sTfun, sHap, sApp, this])
    go_wp2_with fail
    go_ret
    exact ⟨ret_bool (by rw [HR.out]), hB1⟩

set_option maxRecDepth 100000 in
set_option maxHeartbeats 1000000 in
theorem l4Is_tap (k : Bool) (pq r : List Tr) (ih : ∀ t ∈ r, DvSaid k t) : DvSaid k (.mk [] (.mk [116, 97, 112] pq :: r)) := by
  have IH := Lib.hid ih
  clear ih
  intro v w P ht hP hl hat
  have HH := Lib.hid (head_of [116, 97, 112] pq r v w P ht hP)
  obtain ⟨vp, rfl, hle, hle2, ⟨h0, _⟩ | ⟨_, g, cap, xs, rfl, hcap, hPg, hc, hvs⟩⟩ := ht.form
  · cases h0
  obtain ⟨N, hN⟩ : ∃ N, (Tr.mk [116, 97, 112] pq :: r).length = N := ⟨_, rfl⟩
  rw [hN] at ht hle2 hcap HH ⊢
  have HX := Lib.hid (isDv_node k [116, 97, 112] pq r)
  have HI : Hid (∀ w1, Below w.heap.size w w1 → Blk w1 w.heap.size 52 #[.string ⟨#[]⟩, .slice (some ⟨g, 0, none⟩) N cap] → NdIn w w1 P g N cap (.mk [116, 97, 112] pq) r) :=
    Lib.hid fun w1 hb hk => ⟨hk, hb, by simpa using hN, fun q hq => Nat.lt_of_lt_of_le (hP q hq) hb.size, ht.below hb hP, hl, hat⟩
  clear ht hP hl hat hc hvs hPg hle
  go_enter Tryz.func70, Tryz.ntmps70
  go_wp2_with fail
  refine (HH.out _).mono ?_
  rintro e w1 ⟨rfl, hb1⟩
  have hB1 : Below w.heap.size w w1 := ((Below.refl _ _).alloc (Nat.le_refl _) _).trans (hb1.mono (by simp))
  have hr := (Blk.new w 52 #[.string ⟨#[]⟩, .slice (some ⟨g, 0, none⟩) N cap]).below hb1 (by simp)
  have H := Lib.hid (HI.out w1 hB1 hr)
  have hNr := H.out.len
  have r0 := hr.cell 0
  have r1 := hr.cell 1
  have hlt := hr.lt
  simp at r0 r1
  clear hN hb1
  have C := Lib.hid (l4All_of k _ r IH.out _ w1 P H.out.tree H.out.all H.out.short H.out.few)
  by_cases h2 : N = 3
  · have HR : Hid (isDv k (.mk [] (.mk [116, 97, 112] pq :: r)) = (!k && isDvs k r)) := Lib.hid (by
      rw [HX.out]
      have : r.length = 2 := by omega
      cases k <;> simp [sAx, ndOk, sFun, sTfun, sHap, sApp, sTap, this])
    subst h2
    clear hNr
    cases k
    · go_wp2_with fail
      refine C.out.mono ?_
      rintro e w2 ⟨rfl, hb2⟩
      have hB := Lib.hid (hB1.trans (hb2.mono hB1.size))
      clear hb2
      go_wp2_with fail
      go_ret
      exact ⟨ret_bool (by rw [HR.out]; rfl), hB.out⟩
    · go_wp2_with fail
      go_ret
      exact ⟨ret_bool (by rw [HR.out]; rfl), hB1⟩
  · have HR : Hid (isDv k (.mk [] (.mk [116, 97, 112] pq :: r)) = false) := Lib.hid (by
      rw [HX.out]
      have : ¬ r.length = 2 := by omega
      cases k <;> simp [sAx, ndOk, sFun, sTfun, sHap, sApp, sTap, this])
    have h3b : ((N : Int) == 3) = false := by simp; omega
    cases k
    · go_wp2_with fail
      go_ret
      exact ⟨ret_bool (by rw [HR.out]), hB1⟩
    · go_wp2_with fail
      go_ret
      exact ⟨ret_bool (by rw [HR.out]), hB1⟩

set_option maxRecDepth 100000 in
set_option maxHeartbeats 1000000 in
theorem l4Is_ax (k : Bool) (pq r : List Tr) : DvSaid k (.mk [] (.mk [97, 120] pq :: r)) := by
  intro v w P ht hP hl hat
  have HH := Lib.hid (head_of [97, 120] pq r v w P ht hP)
  obtain ⟨vp, rfl, hle, hle2, ⟨h0, _⟩ | ⟨_, g, cap, xs, rfl, hcap, hPg, hc, hvs⟩⟩ := ht.form
  · cases h0
  obtain ⟨N, hN⟩ : ∃ N, (Tr.mk [97, 120] pq :: r).length = N := ⟨_, rfl⟩
  rw [hN] at ht hle2 hcap HH ⊢
  have HX := Lib.hid (isDv_node k [97, 120] pq r)
  have HI : Hid (∀ w1, Below w.heap.size w w1 → Blk w1 w.heap.size 52 #[.string ⟨#[]⟩, .slice (some ⟨g, 0, none⟩) N cap] → NdIn w w1 P g N cap (.mk [97, 120] pq) r) :=
    Lib.hid fun w1 hb hk => ⟨hk, hb, by simpa using hN, fun q hq => Nat.lt_of_lt_of_le (hP q hq) hb.size, ht.below hb hP, hl, hat⟩
  clear ht hP hl hat hc hvs hPg hle
  go_enter Tryz.func70, Tryz.ntmps70
  go_wp2_with fail
  refine (HH.out _).mono ?_
  rintro e w1 ⟨rfl, hb1⟩
  have hB1 : Below w.heap.size w w1 := ((Below.refl _ _).alloc (Nat.le_refl _) _).trans (hb1.mono (by simp))
  have hr := (Blk.new w 52 #[.string ⟨#[]⟩, .slice (some ⟨g, 0, none⟩) N cap]).below hb1 (by simp)
  have H := Lib.hid (HI.out w1 hB1 hr)
  have hNr := H.out.len
  have r0 := hr.cell 0
  have r1 := hr.cell 1
  have hlt := hr.lt
  simp at r0 r1
  clear hN hb1
  by_cases h2 : N = 2
  · obtain ⟨t, ht1⟩ : ∃ t, r = [t] := List.length_eq_one_iff.1 (by omega)
    first
    | skip
      obtain ⟨A, n, c, x1, y1, tr1, hl1, ha1⟩ := H.out.first t (by rw [ht1]; rfl)
      have C := Lib.hid ((ty_bg_any t).1 _ w1 P tr1 H.out.all hl1)
      have C2 := Lib.hid (fun w2 (hb : Below w1.heap.size w1 w2) => l1Atoms_any t _ w2 P (tr1.below hb H.out.all) (fun q hq => Nat.lt_of_lt_of_le (H.out.all q hq) hb.size) ha1)
      have HR : Hid (isDv k (.mk [] (.mk [97, 120] pq :: r)) = (isTy t && decide (trAtoms t ≤ 200))) := Lib.hid (by rw [HX.out, ht1]; simp [sAx, axL])
      have hg2 := H.out.all
      subst h2
      clear hNr hg2 ht1
      have hgl : g < w1.heap.size := by
        rcases Nat.lt_or_ge g w1.heap.size with h | h
        · exact h
        · unfold World.cell? at x1
          have e : w1.heap[g]? = none := by simp [h]
          simp [e] at x1
      clear tr1
      generalize isTy t = q at C HR
      cases q
      · go_wp2_with fail
        refine C.out.mono ?_
        rintro e w2 ⟨rfl, hb2⟩
        have hB := Lib.hid (hB1.trans (hb2.mono hB1.size))
        clear hb2
        go_wp2_with fail
        go_ret
        exact ⟨ret_bool (by rw [HR.out]; rfl), hB.out⟩
      · go_wp2_with fail
        refine C.out.mono ?_
        rintro e w2 ⟨rfl, hb2⟩
        have hB := Lib.hid (hB1.trans (hb2.mono hB1.size))
        have C3 := Lib.hid (C2.out w2 hb2)
        have r1' := ((hr.below hb2 hlt).cell 1)
        simp at r1'
        have x1' := (hb2.cell (p := ⟨g, 2, none⟩) hgl).trans x1
        have y1' := (hb2.cell (p := ⟨g, 3, none⟩) hgl).trans y1
        clear hb2 x1 y1 r0 r1
        go_wp2_with fail
        refine C3.out.mono ?_
        rintro e w3 ⟨rfl, hb3⟩
        have hB3 := Lib.hid (hB.out.trans (hb3.mono hB.out.size))
        clear hb3
        go_wp2_with fail
        go_ret
        exact ⟨ret_bool (by rw [HR.out]; simp; omega), hB3.out⟩
  · have HR : Hid (isDv k (.mk [] (.mk [97, 120] pq :: r)) = false) := Lib.hid (by
      rw [HX.out, if_pos (show ([97, 120] : List UInt8) = sAx from rfl)]
      exact axL_no r (by omega))
    have h2b : ((N : Int) == 2) = false := by simp; omega
    go_wp2_with fail
    go_ret
    exact ⟨ret_bool (by rw [HR.out]), hB1⟩

/-- l4Is, at every tree. -/
theorem l4Is_any (k : Bool) : ∀ t : Tr, DvSaid k t := by
  intro t
  refine Tr.all (p := DvSaid k) ?_ t
  intro a ps ih
  by_cases h : a = [] ∧ ps ≠ []
  · obtain ⟨rfl, hne⟩ := h
    match ps, hne, ih with
    | .mk pa pq :: r, _, ih =>
      have ih' : ∀ t ∈ r, DvSaid k t := fun t ht => ih t (List.mem_cons_of_mem _ ht)
      by_cases h1 : pa = [97, 120]
      · subst h1; exact l4Is_ax k pq r
      by_cases h2 : pa = [102, 117, 110]
      · subst h2; exact l4Is_fun k pq r ih'
      by_cases h3 : pa = [116, 102, 117, 110]
      · subst h3; exact l4Is_tfun k pq r ih'
      by_cases h4 : pa = [104, 97, 112]
      · subst h4; exact l4Is_hap k pq r ih'
      by_cases h5 : pa = [97, 112, 112]
      · subst h5; exact l4Is_app k pq r ih'
      by_cases h6 : pa = [116, 97, 112]
      · subst h6; exact l4Is_tap k pq r ih'
      exact l4Is_word k pa pq r ⟨beq_eq_false_iff_ne.2 h1, beq_eq_false_iff_ne.2 h2, beq_eq_false_iff_ne.2 h3, beq_eq_false_iff_ne.2 h4, beq_eq_false_iff_ne.2 h5, beq_eq_false_iff_ne.2 h6⟩
  · exact l4Is_no k a ps h
end Go.Proofs.YtnnnphammfeemaaGreat

namespace Go.Proofs.YtnnnphammfeemaaGreat
set_option linter.unusedVariables false
set_option linter.unusedSimpArgs false
open Go.RowKit

theorem dvNs_take (r : List Tr) (j : Nat) (t : Tr) (h : r[j]? = some t) : dvNs (r.take (j + 1)) = dvNs (r.take j) + dvN t := by
  rw [dvNs_sum, dvNs_sum, List.take_add_one, h]
  simp
theorem dvNs_take_le (r : List Tr) (j : Nat) : dvNs (r.take j) ≤ dvNs r := by
  have h : dvNs r = dvNs (r.take j) + dvNs (r.drop j) := by
    rw [dvNs_sum, dvNs_sum, dvNs_sum, ← List.sum_append, ← List.map_append, List.take_append_drop]
  omega
theorem dvPs_next (r : List Tr) (j : Nat) (t : Tr) (h : r[j]? = some t) : dvPs (r.drop j) = (dvP t && dvPs (r.drop (j + 1))) := by
  obtain ⟨hj, e⟩ := List.getElem?_eq_some_iff.1 h
  rw [List.drop_eq_getElem_cons hj, e]
  rfl
/-- A derivation is a node: a word, and derivations or a type. -/
theorem isDv_form (k : Bool) (t : Tr) (h : isDv k t = true) : ∃ pa pq r, t = .mk [] (.mk pa pq :: r) ∧ (pa = sAx ∨ (pa ≠ sAx ∧ ∀ u ∈ r, isDv k u = true)) := by
  obtain ⟨a, ps⟩ := t
  by_cases ha : a = []
  · subst ha
    match ps with
    | [] => cases h
    | .mk pa pq :: r =>
      refine ⟨pa, pq, r, rfl, ?_⟩
      rw [isDv_node] at h
      by_cases hx : pa = sAx
      · exact .inl hx
      · rw [if_neg hx, Bool.and_eq_true, isDvs_all, List.all_eq_true] at h
        exact .inr ⟨hx, h.2⟩
  · unfold isDv at h
    rw [if_neg ha] at h
    cases h
/-- What l4Nodes answers. -/
def NoSaid (t : Tr) : Prop := ∀ (v : Value) (w : World) (P : Nat → Prop), TAt w P t v → (∀ b, P b → b < w.heap.size) → dvN t ≤ 100000 →
    Calls Tryz.prog 71 #[v] w fun e w' => e = .returned (.int .i64 (dvN t)) ∧ Below w.heap.size w w'
/-- A part of a node, in memory. -/
structure PaIn (w : World) (P : Nat → Prop) (g N : Nat) (ps : List Tr) (xs : List Value) : Prop where
  cells : ∀ j u, xs[j]? = some u → w.cell? ⟨g, j, none⟩ = some u
  trees : VsAt w P ps xs
  len : ps.length = N
theorem PaIn.part {w w' : World} {P : Nat → Prop} {g N : Nat} {ps : List Tr} {xs : List Value} (h : PaIn w P g N ps xs) (hP : ∀ b, P b → b < w.heap.size) (hg : P g) (hb : Below w.heap.size w w') (k : Nat) (t : Tr) (hk : ps[k]? = some t) :
    ∃ A n c, w'.cell? ⟨g, k * 2, none⟩ = some (.string ⟨t.atom.toArray⟩) ∧ w'.cell? ⟨g, k * 2 + 1, none⟩ = some (.slice A n c) ∧ TAt w' P t (.agg #[.string ⟨t.atom.toArray⟩, .slice A n c]) := by
  obtain ⟨x, y, hx, hy, hxy⟩ := h.trees.at_ k t hk
  obtain ⟨A, n, c, e⟩ := hxy.shape
  simp at e
  obtain ⟨rfl, rfl⟩ := e
  have hgb := hP g hg
  exact ⟨A, n, c, (hb.cell (p := ⟨g, k * 2, none⟩) hgb).trans (h.cells _ _ (by rw [Nat.mul_comm]; exact hx)), (hb.cell (p := ⟨g, k * 2 + 1, none⟩) hgb).trans (h.cells _ _ (by rw [Nat.mul_comm]; exact hy)), hxy.below hb hP⟩

set_option maxRecDepth 100000 in
theorem l4Nodes_ax (pq r : List Tr) : NoSaid (.mk [] (.mk [97, 120] pq :: r)) := by
  intro v w P ht hP hn
  have HH := Lib.hid (head_of [97, 120] pq r v w P ht hP)
  obtain ⟨A, n, c, rfl⟩ := ht.shape
  clear ht hP hn
  go_enter Tryz.func71, Tryz.ntmps71
  go_wp2_with fail
  refine (HH.out _).mono ?_
  rintro e w1 ⟨rfl, hb1⟩
  have hB1 : Below w.heap.size w w1 := ((Below.refl _ _).alloc (Nat.le_refl _) _).trans (hb1.mono (by simp))
  go_wp2_with fail
  go_ret
  exact ⟨rfl, hB1⟩

set_option maxRecDepth 100000 in
set_option maxHeartbeats 2000000 in
theorem l4Nodes_node (pa : List UInt8) (hx : pa ≠ sAx) (pq r : List Tr) (ih : ∀ t ∈ r, NoSaid t) : NoSaid (.mk [] (.mk pa pq :: r)) := by
  intro v w P ht hP hn
  have HH := Lib.hid (head_of pa pq r v w P ht hP)
  have HX : Hid (dvN (.mk [] (.mk pa pq :: r)) = 1 + dvNs r) := Lib.hid (by show 1 + (if (Tr.mk pa pq).atom = sAx then 0 else dvNs r) = _; rw [if_neg (show ¬ (Tr.mk pa pq).atom = sAx from hx)])
  have hxb : (pa == [97, 120]) = false := beq_eq_false_iff_ne.2 hx
  rw [HX.out] at hn
  obtain ⟨vp, rfl, hle, hle2, ⟨h0, _⟩ | ⟨_, g, cap, xs, rfl, hcap, hPg, hc, hvs⟩⟩ := ht.form
  · cases h0
  obtain ⟨N, hN⟩ : ∃ N, (Tr.mk pa pq :: r).length = N := ⟨_, rfl⟩
  have HB : Hid (PaIn w P g N (Tr.mk pa pq :: r) xs) := Lib.hid ⟨hc, hvs, hN⟩
  rw [hN] at ht hle2 hcap HH ⊢
  have HN : Hid (r.length + 1 = N) := Lib.hid hN
  have HP := Lib.hid hP
  have HG := Lib.hid hPg
  have IH := Lib.hid ih
  clear ht hP ih hc hvs hN hPg hx
  go_enter Tryz.func71, Tryz.ntmps71
  go_wp2_with fail
  refine (HH.out _).mono ?_
  rintro e w1 ⟨rfl, hb1⟩
  have hB1 : Below w.heap.size w w1 := ((Below.refl _ _).alloc (Nat.le_refl _) _).trans (hb1.mono (by simp))
  have hr := (Blk.new w 52 #[.string ⟨#[]⟩, .slice (some ⟨g, 0, none⟩) N cap]).below hb1 (by simp)
  clear hb1
  go_wp2_with fail
  go_loopw [3, 4] (fun n i wr => ∃ (j : Nat), 1 ≤ j ∧ j ≤ N ∧ i = .int .i64 (j : Nat) ∧ n = .int .i64 ((1 + dvNs (r.take (j - 1)) : Nat) : Int) ∧ Below w.heap.size w wr ∧ Blk wr w.heap.size 52 #[.string ⟨#[]⟩, .slice (some ⟨g, 0, none⟩) N cap]) (fun _ i _ => N - (intOf i).toNat)
  case atStart => exact ⟨1, by omega, by have := HN.out; omega, rfl, rfl, hB1, hr⟩
  case round =>
    obtain ⟨j, hj1, hjN, rfl, rfl, hbw, hblk⟩ := hrel
    have r1 := hblk.cell 1
    have hlt := hblk.lt
    simp at r1
    have hall : Hid (∀ q, P q → q < wr.heap.size) := Lib.hid fun q hq => by have := HP.out q hq; have := hbw.size; omega
    by_cases hkl : j < N
    · have hkr : j - 1 < r.length := by have := HN.out; omega
      obtain ⟨t1, ht1⟩ : ∃ t1, r[j - 1]? = some t1 := ⟨r[j - 1], by simp⟩
      have hp1 : (Tr.mk pa pq :: r)[j]? = some t1 := by
        obtain ⟨i, rfl⟩ : ∃ i, j = i + 1 := ⟨j - 1, by omega⟩
        simpa using ht1
      obtain ⟨A, n, c, x1, y1, tr1⟩ := HB.out.part HP.out HG.out hbw j t1 hp1
      have hst : dvNs (r.take j) = dvNs (r.take (j - 1)) + dvN t1 := by
        have := dvNs_take r (j - 1) t1 ht1
        rwa [show j - 1 + 1 = j by omega] at this
      have hle3 := dvNs_take_le r j
      have C := Lib.hid (IH.out t1 (List.mem_of_getElem? ht1) _ wr P tr1 hall.out (by omega))
      have HST := Lib.hid hst
      obtain ⟨m, hm⟩ : ∃ m, 1 + dvNs (r.take (j - 1)) = m := ⟨_, rfl⟩
      have HM := Lib.hid hm
      obtain ⟨d, hd⟩ : ∃ d, dvN t1 = d := ⟨_, rfl⟩
      have HD := Lib.hid hd
      have hmd : m + d ≤ 100000 := by omega
      rw [hd] at C
      simp only [hm]
      have hb0 : (0 : Int) ≤ (j : Int) := by omega
      have hb1 : (j : Int) < (N : Int) := by omega
      have hw : IntKind.i64.wrap ((m : Int) + (d : Int)) = ((m + d : Nat) : Int) := by rw [IntWalk.i64_in _ (by omega)]; omega
      clear ht1 hp1 tr1 hkr hst hle3 hm hd
      go_wp2_with fail
      refine C.out.mono ?_
      rintro e w2 ⟨rfl, hb2⟩
      have hB := hbw.trans (hb2.mono hbw.size)
      have hblk1 := hblk.below hb2 hblk.lt
      clear hb2
      go_wp2_with fail
      go_roundw
      case rel => exact ⟨j + 1, by omega, by omega, by go_num, by rw [show j + 1 - 1 = j by omega, HST.out]; have := HM.out; have := HD.out; go_num, hB, hblk1⟩
      case measure => simp [intOf]; omega
    · have HF : Hid (1 + dvNs (r.take (j - 1)) = dvN (.mk [] (.mk pa pq :: r))) := Lib.hid (by rw [HX.out, List.take_of_length_le (by have := HN.out; omega)])
      go_wp2_with fail
      go_ret
      exact ⟨ret_int (by rw [HF.out]), hbw⟩

theorem l4Nodes_any (k : Bool) : ∀ t : Tr, isDv k t = true → NoSaid t := by
  intro t
  refine Tr.all (p := fun t => isDv k t = true → NoSaid t) ?_ t
  intro a ps ih h
  obtain ⟨pa, pq, r, e, hr⟩ := isDv_form k _ h
  injection e with e1 e2
  subst e1 e2
  rcases hr with rfl | ⟨hx, hr⟩
  · exact l4Nodes_ax pq r
  · exact l4Nodes_node pa hx pq r fun t ht => ih t (List.mem_cons_of_mem _ ht) (hr t ht)
end Go.Proofs.YtnnnphammfeemaaGreat

namespace Go.Proofs.YtnnnphammfeemaaGreat
set_option linter.unusedVariables false
open Go.RowKit

/-- The derivation that a text is, for a kind's word. -/
def rdDv (x l : List UInt8) : Option Tr := match rdKind x with
  | none => none
  | some k => match rdText l with
    | none => none
    | some t => if isDv k t = true ∧ dvN t ≤ 600 then some t else none
theorem ndOk_atoms (k : Bool) : ∀ t : Tr, isDv k t = true → dvN t ≤ trAtoms t := by
  intro t
  refine Tr.all (p := fun t => isDv k t = true → dvN t ≤ trAtoms t) ?_ t
  intro a ps ih h
  obtain ⟨pa, pq, r, e, hr⟩ := isDv_form k _ h
  injection e with e1 e2
  subst e1 e2
  have hp : 1 ≤ trAtoms (.mk pa pq) := by
    rw [isDv_node] at h
    have hne : pa ≠ [] := by
      rintro rfl
      rw [if_neg (by decide)] at h
      simp [ndOk, sFun, sTfun, sHap, sApp, sTap] at h
    simp only [trAtoms]
    rw [if_neg hne]
    exact Nat.le_refl _
  have hs : ∀ l : List Tr, (∀ t ∈ l, dvN t ≤ trAtoms t) → dvNs l ≤ trsAtoms l := by
    intro l hl
    induction l with
    | nil => exact Nat.le_refl _
    | cons u l ihl =>
      have h1 := hl u (by simp)
      have h2 := ihl (fun t ht => hl t (List.mem_cons_of_mem _ ht))
      simp only [dvNs, trsAtoms]
      omega
  have e1 : trAtoms (.mk [] (.mk pa pq :: r)) = trAtoms (.mk pa pq) + trsAtoms r := by simp only [trAtoms, trsAtoms, if_true]
  rw [e1]
  rcases hr with rfl | ⟨hx, hr⟩
  · have e2 : dvN (.mk [] (.mk sAx pq :: r)) = 1 := by
      show 1 + (if (Tr.mk sAx pq).atom = sAx then 0 else dvNs r) = 1
      rw [if_pos (show (Tr.mk sAx pq).atom = sAx from rfl)]
    omega
  · have e2 : dvN (.mk [] (.mk pa pq :: r)) = 1 + dvNs r := by
      show 1 + (if (Tr.mk pa pq).atom = sAx then 0 else dvNs r) = _
      rw [if_neg (show ¬ (Tr.mk pa pq).atom = sAx from hx)]
    have := hs r fun t ht => ih t (List.mem_cons_of_mem _ ht) (hr t ht)
    omega
end Go.Proofs.YtnnnphammfeemaaGreat

namespace Go.Proofs.YtnnnphammfeemaaGreat
set_option linter.unusedVariables false
set_option linter.unusedSimpArgs false
open Go.RowKit

theorem Tryz.infoSx : (Tryz.prog.info? 9).map (fun i => (i.zero, i.size, i.bytes)) = some (some (.string ⟨#[]⟩), 1, 16) := by kernel_rfl
/-- Only one block has turned of those that were. -/
theorem TAt.grownBy {w w' : World} {P : Nat → Prop} {t : Tr} {v : Value} {g : Nat} (h : TAt w P t v) (hg : w.grownBy w' (some g)) (hP : ∀ b, P b → b < g) (hgl : g < w.heap.size) : TAt w' P t v :=
  h.mono fun b hb => ⟨hb, fun o => World.cell?_of_block (w := w) (hg.block b (by have := hP b hb; omega) (by intro e; injection e with e; have := hP b hb; omega))⟩
theorem gr_self (w : World) (g : Nat) : w.grownBy w (some g) := ⟨rfl, rfl, rfl, Nat.le_refl _, fun _ _ _ => rfl⟩
theorem gr_on {w w' w2 : World} {g g' : Nat} (h : w.grownBy w' (some g)) (h2 : w'.grownBy w2 (some g')) (hg : g' = g ∨ w.heap.size ≤ g') : w.grownBy w2 (some g) :=
  ⟨h2.os.trans h.os, h2.tape.trans h.tape, h2.output.trans h.output, Nat.le_trans h.size h2.size, fun k hk hne => (h2.block k (Nat.lt_of_lt_of_le hk h.size) (by
    intro e
    injection e with e
    rcases hg with rfl | hg
    · exact hne (by rw [e])
    · omega)).trans (h.block k hk hne)⟩
theorem gr_low {w w' w2 : World} {g : Nat} (h : w.grownBy w' (some g)) (hb : Below w'.heap.size w' w2) : w.grownBy w2 (some g) :=
  ⟨hb.os.trans h.os, hb.tape.trans h.tape, hb.output.trans h.output, Nat.le_trans h.size hb.size, fun k hk hne => (hb.block k (Nat.lt_of_lt_of_le hk h.size)).trans (h.block k hk hne)⟩
theorem dvAs_take (r : List Tr) (j : Nat) (t : Tr) (h : r[j]? = some t) : dvAs (r.take (j + 1)) = dvAs (r.take j) ++ dvA t := by
  rw [List.take_add_one, h, dvAs_flat, dvAs_flat]
  simp
theorem dvA_len (k : Bool) (t : Tr) (h : isDv k t = true) : (dvA t).length ≤ dvN t := by
  rw [← nodes_types t, ← nodes_length t]
  have key : ∀ l : List Tr, (∀ u ∈ l, isDv k u = true) → (l.flatMap axOne).length ≤ l.length := by
    intro l
    induction l with
    | nil => intro _; simp
    | cons u l ih =>
      intro hl
      have h1 : (axOne u).length ≤ 1 := by
        obtain ⟨pa, pq, r, rfl, hr⟩ := isDv_form k u (hl u (List.mem_cons_self ..))
        have hd := hl _ (List.mem_cons_self ..)
        rw [isDv_node] at hd
        show (if pa = sAx then r.map wrTr else []).length ≤ 1
        split
        · rename_i hx
          rw [if_pos hx] at hd
          match r, hd with
          | [u], _ => simp
        · simp
      have h2 := ih fun u hu => hl u (List.mem_cons_of_mem _ hu)
      simp only [List.flatMap_cons, List.length_append, List.length_cons]
      omega
  exact key _ (nodes_of k t h)

/-- What l4Axioms answers. -/
def AsSaid (t : Tr) : Prop := ∀ (v : Value) (l : List (List UInt8)) (g c base : Nat) (w : World) (P : Nat → Prop), TAt w P t v → (∀ b, P b → b < base) → base ≤ w.heap.size → SRow w base (.slice (some ⟨g, 0, none⟩) l.length c) l → (wrTr t).length ≤ 1000000 → l.length + dvN t ≤ 100000 →
    Calls Tryz.prog 39 #[v, .slice (some ⟨g, 0, none⟩) l.length c] w fun e w' => ∃ g' c', e = .returned (.slice (some ⟨g', 0, none⟩) (l ++ dvA t).length c') ∧ SRow w' base (.slice (some ⟨g', 0, none⟩) (l ++ dvA t).length c') (l ++ dvA t) ∧ w.grownBy w' (some g) ∧ (g' = g ∨ w.heap.size ≤ g')

set_option maxRecDepth 100000 in
set_option maxHeartbeats 1000000 in
theorem l4Axioms_ax (k : Bool) (pq r : List Tr) (hr : axL r = true) : AsSaid (.mk [] (.mk [97, 120] pq :: r)) := by
  intro v l g c base w P ht hP hbase hrow hlen hl
  obtain ⟨u, rfl⟩ : ∃ u, r = [u] := by
    match r, hr with
    | [u], _ => exact ⟨u, rfl⟩
  have hP2 : ∀ b, P b → b < w.heap.size := fun b hb => by have := hP b hb; omega
  have HH := Lib.hid (head_of [97, 120] pq [u] v w P ht hP2)
  obtain ⟨i0, hinf, hz0, hzs, hzb⟩ := info_parts Tryz.infoSx
  have hn1 := dvN_pos (.mk [] (.mk [97, 120] pq :: [u]))
  obtain ⟨vp, rfl, hle, hle2, ⟨h0, _⟩ | ⟨_, gp, cap, xs, rfl, hcap, hPg, hc, hvs⟩⟩ := ht.form
  · cases h0
  have HB : Hid (PaIn w P gp 2 [.mk [97, 120] pq, u] xs) := Lib.hid ⟨hc, hvs, rfl⟩
  have hcap2 : 2 ≤ cap := by simpa using hcap
  simp only [List.length_cons, List.length_nil] at ht HH ⊢
  have HP := Lib.hid hP2
  have HG := Lib.hid hPg
  have HA : Hid (dvA (.mk [] (.mk [97, 120] pq :: [u])) = [wrTr u]) := Lib.hid (by unfold dvA dvAP; rw [if_pos (show (Tr.mk [97, 120] pq).atom = sAx from rfl)]; rfl)
  have hwu := wrTr_part u [.mk [97, 120] pq, u] (by simp)
  have hgl := hrow.lt g rfl
  have hll : l.length ≤ 100000 := by omega
  obtain ⟨L, hL⟩ : ∃ L, l.length = L := ⟨_, rfl⟩
  have HLL := Lib.hid hL
  have HROW : Hid (w.ownsRow base 9 1 (.slice (some ⟨g, 0, none⟩) L c) L (l.map strV)) := Lib.hid (by have h := hrow; unfold SRow at h; rw [hL] at h; exact h)
  rw [hL] at hll ⊢
  rw [HA.out]
  clear ht hP hP2 hc hvs hPg hrow hr hl hn1 hcap hL hle2
  go_enter Tryz.func39, Tryz.ntmps39
  go_wp2_with fail
  refine (HH.out _).mono ?_
  rintro e w1 ⟨rfl, hb1⟩
  have hB1 : Below w.heap.size w w1 := ((Below.refl _ _).alloc (Nat.le_refl _) _).trans (hb1.mono (by simp))
  have hr := (Blk.new w 52 #[.string ⟨#[]⟩, .slice (some ⟨gp, 0, none⟩) 2 cap]).below hb1 (by simp)
  have r1 := hr.cell 1
  have hlt := hr.lt
  simp at r1
  obtain ⟨A, n, c', x1, y1, tr1⟩ := HB.out.part HP.out HG.out hB1 1 u rfl
  have hz1 := hB1.size
  have C := Lib.hid (l1Text_any u _ w1 P tr1 (fun q hq => by have := HP.out q hq; omega) (by omega))
  have HB1 := Lib.hid hB1
  clear hb1 hr tr1 hB1
  go_wp2_with fail
  refine C.out.mono ?_
  rintro e w2 ⟨rfl, hb2⟩
  have hz2 := hb2.size
  have hB2 := HB1.out.trans (hb2.mono hz1)
  have HB2 := Lib.hid hB2
  have HO2 := Lib.hid (HROW.out.kept (grown_of_below hB2 none) (.inr (by simp [Value.ownBlock])))
  clear hb2 hB2
  go_wp2_with (first
    | (at_builtin
       refine wpList_append_own_at _ rfl (.tmp 9) (.tmp 15) 22 rfl base 9 i0 (.string ⟨#[]⟩) 1 16 Tryz.underlying22 hinf hz0 hzs hzb rfl (by decide) (.slice (some ⟨g, 0, none⟩) L c) L (l.map strV) rfl (HO2.out.alloc _) ⟨w2.heap.size, 0, none⟩ 1 1 [.string ⟨(wrTr u).toArray⟩] rfl rfl (cell_one_new _ _ _) ?_ ?_ ?_ ?_ ?_
       · intro z hz
         simp at hz
         subst hz
         rfl
       · unfold maxLen; omega
       · omega
       · simp; omega
       intro v3 w3 hown3 hg3 hnil3 hat3)
    | fail)
  have hsh : ∃ g6 c6, v3 = .slice (some ⟨g6, 0, none⟩) (L + 1) c6 := by
    rcases hown3.2 with ⟨_, h⟩ | ⟨g6, c6, cur, hv, _⟩
    · omega
    · exact ⟨g6, c6, hv⟩
  obtain ⟨g6, c6, rfl⟩ := hsh
  go_wp2
  go_ret
  have e : (l ++ [wrTr u]).length = L + 1 := by simp [HLL.out]
  refine ⟨g6, c6, by rw [e]; rfl, ?_, ?_, ?_⟩
  · rw [e]
    unfold SRow
    rw [e, List.map_append]
    exact hown3
  · have h1 : w.grownBy (w2.alloc (.cells #[.string ⟨(wrTr u).toArray⟩] 9)) (some g) := gr_low (gr_low (gr_self w g) HB2.out) ((Below.refl _ _).alloc (Nat.le_refl _) _)
    exact gr_on h1 hg3 (.inl rfl)
  · rcases hat3 with h | h
    · left; simpa [Value.ownBlock] using h
    · right
      have : g6 = w2.heap.size + 1 := by simpa [Value.ownBlock] using h
      omega

set_option maxRecDepth 100000 in
set_option maxHeartbeats 2000000 in
theorem l4Axioms_node (k : Bool) (pa : List UInt8) (hx : pa ≠ sAx) (pq r : List Tr) (hd : ∀ t ∈ r, isDv k t = true) (ih : ∀ t ∈ r, AsSaid t) : AsSaid (.mk [] (.mk pa pq :: r)) := by
  intro v l g c base w P ht hP hbase hrow hlen hl
  have hP2 : ∀ b, P b → b < w.heap.size := fun b hb => by have := hP b hb; omega
  have HH := Lib.hid (head_of pa pq r v w P ht hP2)
  have HX : Hid (dvA (.mk [] (.mk pa pq :: r)) = dvAs r) := Lib.hid (by unfold dvA dvAP; rw [if_neg (show ¬ (Tr.mk pa pq).atom = sAx from hx)])
  have hdn : dvN (.mk [] (.mk pa pq :: r)) = 1 + dvNs r := by show 1 + (if (Tr.mk pa pq).atom = sAx then 0 else dvNs r) = _; rw [if_neg (show ¬ (Tr.mk pa pq).atom = sAx from hx)]
  have hxb : (pa == [97, 120]) = false := beq_eq_false_iff_ne.2 hx
  rw [hdn] at hl
  have HDL : Hid (∀ j t, r[j]? = some t → (dvAs (r.take j)).length + dvN t ≤ dvNs r) := Lib.hid fun j t hj => by
    have h1 : ∀ l : List Tr, (∀ u ∈ l, isDv k u = true) → (dvAs l).length ≤ dvNs l := by
      intro l
      induction l with
      | nil => intro _; simp [dvAs]
      | cons u l ihl =>
        intro hl
        have := dvA_len k u (hl u (List.mem_cons_self ..))
        have := ihl fun x hx => hl x (List.mem_cons_of_mem _ hx)
        simp only [dvAs, dvNs, List.length_append]
        omega
    have h2 := h1 (r.take j) fun u hu => hd u (List.mem_of_mem_take hu)
    have h3 := dvNs_take r j t hj
    have h4 := dvNs_take_le r (j + 1)
    omega
  obtain ⟨vp, rfl, hle, hle2, ⟨h0, _⟩ | ⟨_, gp, cap, xs, rfl, hcap, hPg, hc, hvs⟩⟩ := ht.form
  · cases h0
  obtain ⟨N, hN⟩ : ∃ N, (Tr.mk pa pq :: r).length = N := ⟨_, rfl⟩
  have HB : Hid (PaIn w P gp N (Tr.mk pa pq :: r) xs) := Lib.hid ⟨hc, hvs, hN⟩
  rw [hN] at ht hle2 hcap HH ⊢
  have HN : Hid (r.length + 1 = N) := Lib.hid hN
  have HP := Lib.hid hP
  have HG := Lib.hid hPg
  have IH := Lib.hid ih
  have HDV := Lib.hid hd
  have HSH : Hid (∀ t ∈ r, (wrTr t).length ≤ 1000000) := Lib.hid fun t ht => by have := wrTr_part t (.mk pa pq :: r) (List.mem_cons_of_mem _ ht); omega
  have HLE : Hid (l.length + (1 + dvNs r) ≤ 100000) := Lib.hid hl
  have hgl := hrow.lt g rfl
  have hgb := hgl.1
  have hgs := hgl.2
  have HROW := Lib.hid hrow
  have hll : l.length ≤ 100000 := by omega
  obtain ⟨L, hL⟩ : ∃ L, l.length = L := ⟨_, rfl⟩
  have HLL := Lib.hid hL
  rw [hL] at hll ⊢
  rw [HX.out]
  clear ht hP hP2 ih hc hvs hN hPg hx hrow hlen hl hdn hd hL hgl
  go_enter Tryz.func39, Tryz.ntmps39
  go_wp2_with fail
  refine (HH.out _).mono ?_
  rintro e w1 ⟨rfl, hb1⟩
  have hB1 : Below w.heap.size w w1 := ((Below.refl _ _).alloc (Nat.le_refl _) _).trans (hb1.mono (by simp))
  have hr := (Blk.new w 52 #[.string ⟨#[]⟩, .slice (some ⟨gp, 0, none⟩) N cap]).below hb1 (by simp)
  have hz1 := hB1.size
  have HG1 := Lib.hid (gr_low (gr_self w g) hB1)
  have HO1 : Hid (SRow w1 base (.slice (some ⟨g, 0, none⟩) l.length c) l) := Lib.hid (HROW.out.kept (grown_of_below hB1 none) (.inr (by simp [Value.ownBlock])))
  clear hb1 hB1
  go_wp2_with fail
  go_loopw [1, 5] (fun lv i wr => ∃ (j m g0 c0 : Nat), 1 ≤ j ∧ j ≤ N ∧ m ≤ 100000 ∧ i = .int .i64 (j : Nat) ∧ lv = .slice (some ⟨g0, 0, none⟩) m c0 ∧ Hid (m = (l ++ dvAs (r.take (j - 1))).length) ∧ Hid (SRow wr base (.slice (some ⟨g0, 0, none⟩) (l ++ dvAs (r.take (j - 1))).length c0) (l ++ dvAs (r.take (j - 1)))) ∧ Hid (w.grownBy wr (some g)) ∧ Hid (g0 = g ∨ w.heap.size < g0) ∧ Blk wr w.heap.size 52 #[.string ⟨#[]⟩, .slice (some ⟨gp, 0, none⟩) N cap] ∧ w.heap.size ≤ wr.heap.size) (fun _ i _ => N - (intOf i).toNat)
  case atStart => exact ⟨1, L, g, c, by omega, by have := HN.out; omega, by omega, rfl, rfl, Lib.hid (by simp [dvAs, HLL.out]), Lib.hid (by simpa [dvAs] using HO1.out), HG1, Lib.hid (.inl rfl), hr, hz1⟩
  case round =>
    obtain ⟨j, m, g0, c0, hj1, hjN, hm1, rfl, rfl, HM, HO, HGR, HG0, hblk, hzw⟩ := hrel
    have r1 := hblk.cell 1
    have hlt := hblk.lt
    simp at r1
    by_cases hkl : j < N
    · have hkr : j - 1 < r.length := by have := HN.out; omega
      obtain ⟨t1, ht1⟩ : ∃ t1, r[j - 1]? = some t1 := ⟨r[j - 1], by simp⟩
      have hp1 : (Tr.mk pa pq :: r)[j]? = some t1 := by
        obtain ⟨i, rfl⟩ : ∃ i, j = i + 1 := ⟨j - 1, by omega⟩
        simpa using ht1
      obtain ⟨x, y, hx, hy, hxy⟩ := HB.out.trees.at_ j t1 hp1
      obtain ⟨A, n, c1, e⟩ := hxy.shape
      simp at e
      obtain ⟨rfl, rfl⟩ := e
      have hgp : gp < g := by have := HP.out gp HG.out; omega
      have hcell : ∀ o u, w.cell? ⟨gp, o, none⟩ = some u → wr.cell? ⟨gp, o, none⟩ = some u := fun o u hu => (World.cell?_of_block (w := w) (HGR.out.block gp (by omega) (by intro e; injection e with e; omega))).trans hu
      have x1 : wr.cell? ⟨gp, j * 2, none⟩ = some (.string ⟨t1.atom.toArray⟩) := hcell _ _ (HB.out.cells _ _ (by rw [Nat.mul_comm]; exact hx))
      have y1 : wr.cell? ⟨gp, j * 2 + 1, none⟩ = some (.slice A n c1) := hcell _ _ (HB.out.cells _ _ (by rw [Nat.mul_comm]; exact hy))
      have hst : dvAs (r.take j) = dvAs (r.take (j - 1)) ++ dvA t1 := by
        have := dvAs_take r (j - 1) t1 ht1
        rwa [show j - 1 + 1 = j by omega] at this
      have hln := HDL.out (j - 1) t1 ht1
      have C := Lib.hid (IH.out t1 (List.mem_of_getElem? ht1) _ (l ++ dvAs (r.take (j - 1))) g0 c0 base wr P (hxy.grownBy HGR.out (fun b hb => by have := HP.out b hb; omega) hgs) HP.out (by omega) HO.out (HSH.out t1 (List.mem_of_getElem? ht1)) (by have := HLE.out; simp only [List.length_append]; omega))
      have HST := Lib.hid hst
      have HL1 : Hid ((l ++ dvAs (r.take (j - 1)) ++ dvA t1).length ≤ 100000) := Lib.hid (by
        have := HLE.out
        have h := HDL.out (j - 1) t1 ht1
        have h2 : (dvA t1).length ≤ dvN t1 := dvA_len k t1 (HDV.out t1 (List.mem_of_getElem? ht1))
        simp only [List.length_append]
        omega)
      have hb0 : (0 : Int) ≤ (j : Int) := by omega
      have hb1 : (j : Int) < (N : Int) := by omega
      rw [← HM.out] at C
      clear ht1 hp1 hkr hst hln hx hy hxy hcell
      go_wp2_with fail
      refine C.out.mono ?_
      rintro e w2 ⟨g2, c2, rfl, hrow2, hg2, hat2⟩
      have HR2 := Lib.hid hrow2
      have HG2 := Lib.hid hg2
      have HAT := Lib.hid hat2
      have hz2 := hg2.size
      obtain ⟨m2, hm2⟩ : ∃ m2, (l ++ dvAs (r.take (j - 1)) ++ dvA t1).length = m2 := ⟨_, rfl⟩
      have hm3 : m2 ≤ 100000 := by rw [← hm2]; exact HL1.out
      have HM2 := Lib.hid hm2
      rw [hm2]
      have hblk2 := hblk.grown hg2 (by intro e; injection e with e; have := HG0.out; omega)
      clear hrow2 hg2 hat2 hm2
      go_wp2_with fail
      go_roundw
      case rel =>
        have hjj : j + 1 - 1 = j := by omega
        refine ⟨j + 1, m2, g2, c2, by omega, by omega, hm3, by go_num, rfl, Lib.hid ?_, Lib.hid ?_, Lib.hid (gr_on HGR.out HG2.out (by have := HG0.out; omega)), Lib.hid ?_, hblk2, by omega⟩
        · rw [hjj, HST.out, ← List.append_assoc, HM2.out]
        · rw [hjj, HST.out, ← List.append_assoc]; exact HR2.out
        · have := HG0.out
          have := HAT.out
          omega
      case measure => simp [intOf]; omega
    · have HF : Hid (dvAs (r.take (j - 1)) = dvAs r) := Lib.hid (by rw [List.take_of_length_le (by have := HN.out; omega)])
      go_wp2_with fail
      go_ret
      refine ⟨g0, c0, by rw [HM.out, HF.out]; rfl, ?_, HGR.out, ?_⟩
      · have h := HO.out
        rw [HF.out] at h
        exact h
      · have := HG0.out
        omega

theorem l4Axioms_any (k : Bool) : ∀ t : Tr, isDv k t = true → AsSaid t := by
  intro t
  refine Tr.all (p := fun t => isDv k t = true → AsSaid t) ?_ t
  intro a ps ih h
  obtain ⟨pa, pq, r, e, hr⟩ := isDv_form k _ h
  injection e with e1 e2
  subst e1 e2
  rcases hr with rfl | ⟨hx, hr⟩
  · rw [isDv_node, if_pos rfl] at h
    exact l4Axioms_ax k pq r h
  · exact l4Axioms_node k pa hx pq r hr fun t ht => ih t (List.mem_cons_of_mem _ ht) (hr t ht)
end Go.Proofs.YtnnnphammfeemaaGreat

namespace Go.Proofs.YtnnnphammfeemaaGreat
set_option linter.unusedVariables false
set_option linter.unusedSimpArgs false
open Go.RowKit

/-- What l4Plain answers. -/
def PlSaid (t : Tr) : Prop := ∀ (v : Value) (w : World) (P : Nat → Prop), TAt w P t v → (∀ b, P b → b < w.heap.size) →
    Calls Tryz.prog 43 #[v] w fun e w' => e = .returned (.bool (dvP t)) ∧ Below w.heap.size w w'
theorem dvP_node (pa : List UInt8) (pq r : List Tr) : dvP (.mk [] (.mk pa pq :: r)) = if pa = sAx then true else if pa = sTfun then false else if pa = sTap then false else dvPs r := by
  unfold dvP dvPP
  rfl

set_option maxRecDepth 100000 in
set_option maxHeartbeats 1000000 in
theorem l4Plain_ax (pq r : List Tr) : PlSaid (.mk [] (.mk [97, 120] pq :: r)) := by
  intro v w P ht hP
  have HH := Lib.hid (head_of [97, 120] pq r v w P ht hP)
  obtain ⟨vp, rfl, hle, hle2, ⟨h0, _⟩ | ⟨_, g, cap, xs, rfl, hcap, hPg, hc, hvs⟩⟩ := ht.form
  · cases h0
  obtain ⟨N, hN⟩ : ∃ N, (Tr.mk [97, 120] pq :: r).length = N := ⟨_, rfl⟩
  rw [hN] at hcap HH ht ⊢
  have HX : Hid (dvP (.mk [] (.mk [97, 120] pq :: r)) = true) := Lib.hid (by rw [dvP_node, if_pos (show ([97, 120] : List UInt8) = sAx from rfl)])
  clear ht hP hc hvs hPg hN hle hle2
  go_enter Tryz.func43, Tryz.ntmps43
  go_wp2_with fail
  refine (HH.out _).mono ?_
  rintro e w1 ⟨rfl, hb1⟩
  have hB1 : Below w.heap.size w w1 := ((Below.refl _ _).alloc (Nat.le_refl _) _).trans (hb1.mono (by simp))
  have hr := (Blk.new w 52 #[.string ⟨#[]⟩, .slice (some ⟨g, 0, none⟩) N cap]).below hb1 (by simp)
  have r1 := hr.cell 1
  have hlt := hr.lt
  simp at r1
  clear hb1
  go_wp2_with fail
  refine wp_loop_rounds 1 ?_; rw [rounds_succ]
  by_cases h1 : 1 < N
  · go_wp2_with fail
    go_ret
    exact ⟨ret_bool (by rw [HX.out]), hB1⟩
  · go_wp2_with fail
    go_ret
    exact ⟨ret_bool (by rw [HX.out]), hB1⟩

set_option maxRecDepth 100000 in
theorem l4Plain_no (pa : List UInt8) (hx : pa = [116, 102, 117, 110] ∨ pa = [116, 97, 112]) (pq r : List Tr) : PlSaid (.mk [] (.mk pa pq :: r)) := by
  intro v w P ht hP
  have HH := Lib.hid (head_of pa pq r v w P ht hP)
  have HX : Hid (dvP (.mk [] (.mk pa pq :: r)) = false) := Lib.hid (by
    rw [dvP_node]
    rcases hx with rfl | rfl <;> rfl)
  obtain ⟨A, n, c, rfl⟩ := ht.shape
  clear ht hP
  rcases hx with rfl | rfl
  all_goals
    go_enter Tryz.func43, Tryz.ntmps43
    go_wp2_with fail
    refine (HH.out _).mono ?_
    rintro e w1 ⟨rfl, hb1⟩
    have hB1 : Below w.heap.size w w1 := ((Below.refl _ _).alloc (Nat.le_refl _) _).trans (hb1.mono (by simp))
    clear hb1
    go_wp2_with fail
    go_ret
    exact ⟨ret_bool (by rw [HX.out]), hB1⟩

set_option maxRecDepth 100000 in
set_option maxHeartbeats 2000000 in
theorem l4Plain_node (pa : List UInt8) (hx : pa ≠ sAx) (hy : pa ≠ sTfun) (hz : pa ≠ sTap) (pq r : List Tr) (ih : ∀ t ∈ r, PlSaid t) : PlSaid (.mk [] (.mk pa pq :: r)) := by
  intro v w P ht hP
  have HH := Lib.hid (head_of pa pq r v w P ht hP)
  have HX : Hid (dvP (.mk [] (.mk pa pq :: r)) = dvPs r) := Lib.hid (by rw [dvP_node, if_neg hx, if_neg hy, if_neg hz])
  have hxb : (pa == [97, 120]) = false := beq_eq_false_iff_ne.2 hx
  have hxn : (pa != [97, 120]) = true := by simp [bne, hxb]
  have hyb : (pa == [116, 102, 117, 110]) = false := beq_eq_false_iff_ne.2 hy
  have hzb : (pa == [116, 97, 112]) = false := beq_eq_false_iff_ne.2 hz
  obtain ⟨vp, rfl, hle, hle2, ⟨h0, _⟩ | ⟨_, g, cap, xs, rfl, hcap, hPg, hc, hvs⟩⟩ := ht.form
  · cases h0
  obtain ⟨N, hN⟩ : ∃ N, (Tr.mk pa pq :: r).length = N := ⟨_, rfl⟩
  have HB : Hid (PaIn w P g N (Tr.mk pa pq :: r) xs) := Lib.hid ⟨hc, hvs, hN⟩
  rw [hN] at ht hle2 hcap HH ⊢
  have HN : Hid (r.length + 1 = N) := Lib.hid hN
  have HP := Lib.hid hP
  have HG := Lib.hid hPg
  have IH := Lib.hid ih
  clear ht hP ih hc hvs hN hPg hx hy hz
  go_enter Tryz.func43, Tryz.ntmps43
  go_wp2_with fail
  refine (HH.out _).mono ?_
  rintro e w1 ⟨rfl, hb1⟩
  have hB1 : Below w.heap.size w w1 := ((Below.refl _ _).alloc (Nat.le_refl _) _).trans (hb1.mono (by simp))
  have hr := (Blk.new w 52 #[.string ⟨#[]⟩, .slice (some ⟨g, 0, none⟩) N cap]).below hb1 (by simp)
  clear hb1
  go_wp2_with fail
  go_loopw [4] (fun i wr => ∃ (j : Nat), 1 ≤ j ∧ j ≤ N ∧ i = .int .i64 (j : Nat) ∧ Hid (dvPs r = dvPs (r.drop (j - 1))) ∧ Below w.heap.size w wr ∧ Blk wr w.heap.size 52 #[.string ⟨#[]⟩, .slice (some ⟨g, 0, none⟩) N cap]) (fun i _ => N - (intOf i).toNat)
  case atStart => exact ⟨1, by omega, by have := HN.out; omega, rfl, Lib.hid rfl, hB1, hr⟩
  case round =>
    obtain ⟨j, hj1, hjN, rfl, HS, hbw, hblk⟩ := hrel
    have r1 := hblk.cell 1
    have hlt := hblk.lt
    simp at r1
    have hall : Hid (∀ q, P q → q < wr.heap.size) := Lib.hid fun q hq => by have := HP.out q hq; have := hbw.size; omega
    by_cases hkl : j < N
    · have hkr : j - 1 < r.length := by have := HN.out; omega
      obtain ⟨t1, ht1⟩ : ∃ t1, r[j - 1]? = some t1 := ⟨r[j - 1], by simp⟩
      have hp1 : (Tr.mk pa pq :: r)[j]? = some t1 := by
        obtain ⟨i, rfl⟩ : ∃ i, j = i + 1 := ⟨j - 1, by omega⟩
        simpa using ht1
      obtain ⟨A, n, c, x1, y1, tr1⟩ := HB.out.part HP.out HG.out hbw j t1 hp1
      have HST := Lib.hid (show dvPs (r.drop (j - 1)) = (dvP t1 && dvPs (r.drop j)) by
        have := dvPs_next r (j - 1) t1 ht1
        rwa [show j - 1 + 1 = j by omega] at this)
      have C := Lib.hid (IH.out t1 (List.mem_of_getElem? ht1) _ wr P tr1 hall.out)
      have hb0 : (0 : Int) ≤ (j : Int) := by omega
      have hb1 : (j : Int) < (N : Int) := by omega
      clear ht1 hp1 tr1 hkr
      generalize dvP t1 = q at C HST
      cases q
      · go_wp2_with fail
        refine C.out.mono ?_
        rintro e w2 ⟨rfl, hb2⟩
        have hB := Lib.hid (hbw.trans (hb2.mono hbw.size))
        clear hb2
        go_wp2_with fail
        go_ret
        exact ⟨ret_bool (by rw [HX.out, HS.out, HST.out]; rfl), hB.out⟩
      · go_wp2_with fail
        refine C.out.mono ?_
        rintro e w2 ⟨rfl, hb2⟩
        have hB := hbw.trans (hb2.mono hbw.size)
        have hblk1 := hblk.below hb2 hblk.lt
        clear hb2
        go_wp2_with fail
        go_roundw
        case rel => exact ⟨j + 1, by omega, by omega, by go_num, Lib.hid (by rw [HS.out, HST.out]; simp), hB, hblk1⟩
        case measure => simp [intOf]; omega
    · have HF : Hid (dvPs r = true) := Lib.hid (by rw [HS.out, List.drop_of_length_le (by have := HN.out; omega)]; rfl)
      go_wp2_with fail
      go_ret
      exact ⟨ret_bool (by rw [HX.out, HF.out]), hbw⟩

theorem l4Plain_any (k : Bool) : ∀ t : Tr, isDv k t = true → PlSaid t := by
  intro t
  refine Tr.all (p := fun t => isDv k t = true → PlSaid t) ?_ t
  intro a ps ih h
  obtain ⟨pa, pq, r, e, hr⟩ := isDv_form k _ h
  injection e with e1 e2
  subst e1 e2
  rcases hr with rfl | ⟨hx, hr⟩
  · exact l4Plain_ax pq r
  · by_cases hy : pa = sTfun
    · exact l4Plain_no pa (.inl hy) pq r
    by_cases hz : pa = sTap
    · exact l4Plain_no pa (.inr hz) pq r
    exact l4Plain_node pa hx hy hz pq r fun t ht => ih t (List.mem_cons_of_mem _ ht) (hr t ht)
end Go.Proofs.YtnnnphammfeemaaGreat

namespace Go.Proofs.YtnnnphammfeemaaGreat
set_option linter.unusedVariables false
open Go.RowKit

/-- What is kept while the text that was read is looked at: its own block b, the block r of the result, the tree if there is one. -/
structure VKeep (w : World) (P : Nat → Prop) (o : Option Tr) (r b : Nat) (x : ByteArray) (A : Option Addr) (n c : Nat) (rx ry : Value) (w' : World) : Prop where
  res : Blk w' r 52 #[rx, ry]
  own : Blk w' b 52 #[.string x, .slice A n c]
  tree : ∀ t, o = some t → TAt w' P t (.agg #[.string x, .slice A n c])
  all : ∀ q, P q → q < w'.heap.size
  below : Below w.heap.size w w'
  le : w.heap.size ≤ w'.heap.size
section
variable {w w' w2 : World} {P : Nat → Prop} {o : Option Tr} {t : Tr} {r b : Nat} {x : ByteArray} {A : Option Addr} {n c : Nat} {rx ry : Value}
theorem VKeep.drew (h : VKeep w P o r b x A n c rx ry w') : VKeep w P o r b x A n c rx ry w'.drew := ⟨h.res, h.own, fun t e => (h.tree t e).mono fun _ hb => ⟨hb, fun _ => rfl⟩, h.all, h.below.drew, h.le⟩
theorem VKeep.more (h : VKeep w P o r b x A n c rx ry w') (hb : Below w'.heap.size w' w2) : VKeep w P o r b x A n c rx ry w2 :=
  ⟨h.res.below hb h.res.lt, h.own.below hb h.own.lt, fun t e => (h.tree t e).below hb h.all, fun q hq => by have := h.all q hq; have := hb.size; omega, h.below.trans (hb.mono h.le), by have := h.le; have := hb.size; omega⟩
theorem VKeep.s (h : VKeep w P o r b x A n c rx ry w') : w'.cell? ⟨b, 0, none⟩ = some (.string x) ∧ w'.cell? ⟨b, 1, none⟩ = some (.slice A n c) ∧ ∃ rx ry, VKeep w P o r b x A n c rx ry w' := by
  have c0 := h.own.cell 0
  have c1 := h.own.cell 1
  simp at c0 c1
  exact ⟨c0, c1, rx, ry, h⟩
theorem VKeep.put (h : VKeep w P o r b x A n c rx ry w') (hr : w.heap.size ≤ r) (hb : b ≠ r) (hP : ∀ q, P q → q ≠ r) (sx sy : Value) : VKeep w P o r b x A n c sx sy ((w'.setCell ⟨r, 0, none⟩ sx).setCell ⟨r, 1, none⟩ sy) := by
  have e : ∀ q, q ≠ r → ((w'.setCell ⟨r, 0, none⟩ sx).setCell ⟨r, 1, none⟩ sy).heap[q]? = w'.heap[q]? := fun q hq => (Below.heap_setCell _ _ _ _ (by simpa using hq)).trans (Below.heap_setCell _ _ _ _ (by simpa using hq))
  refine ⟨res_set h.res _ _, (e b hb).trans h.own, fun t ht => (h.tree t ht).mono fun q hq => ⟨hq, fun o => ?_⟩, fun q hq => ?_, (h.below.setCell hr _).setCell hr _, ?_⟩
  · rw [World.cell?_setCell_other _ _ _ _ (by intro z; injection z with z; exact hP q hq z.symm), World.cell?_setCell_other _ _ _ _ (by intro z; injection z with z; exact hP q hq z.symm)]
  · have := h.all q hq; simpa [World.setCell] using this
  · have := h.le; simpa [World.setCell] using this
theorem VKeep.kd (h : VKeep w P o r b x A n c rx ry w') (y : List UInt8) (q : Bool) (hq : (rdKind y).isSome = q) : Calls Tryz.prog 69 #[.string ⟨y.toArray⟩] w' fun e w2 => e = .returned (.bool q) ∧ VKeep w P o r b x A n c rx ry w2 :=
  (l2Kind_any y w').mono fun _ _ ⟨he, hb⟩ => ⟨by rw [he, hq], by rw [hb]; exact h⟩
theorem VKeep.dv (k : Bool) (h : VKeep w P (some t) r b x A n c rx ry w') (hl : (wrTr t).length ≤ 1000000) (ha : trAtoms t ≤ 10000) (q : Bool) (hq : isDv k t = q) : Calls Tryz.prog 70 #[.string ⟨(kdT k).toArray⟩, .agg #[.string x, .slice A n c]] w' fun e w2 => e = .returned (.bool q) ∧ VKeep w P (some t) r b x A n c rx ry w2 :=
  (l4Is_any k t _ w' P (h.tree t rfl) h.all hl ha).mono fun _ _ ⟨he, hb⟩ => ⟨by rw [he, hq], h.more hb⟩
theorem VKeep.no (k : Bool) (h : VKeep w P (some t) r b x A n c rx ry w') (hd : isDv k t = true) (hn : dvN t ≤ 100000) : Calls Tryz.prog 71 #[.agg #[.string x, .slice A n c]] w' fun e w2 => e = .returned (.int .i64 (dvN t)) ∧ VKeep w P (some t) r b x A n c rx ry w2 :=
  (l4Nodes_any k t hd _ w' P (h.tree t rfl) h.all hn).mono fun _ _ ⟨he, hb⟩ => ⟨he, h.more hb⟩
theorem VKeep.shut {rd : List UInt8 → Option Tr} {s : ByteArray} (h : VKeep w P (some t) r b x A n c rx ry w') (hP : ∀ q, P q → w.heap.size ≤ q) {q : Bool} (hq : rd s.data.toList = if q = true then some t else none) :
    TrRet rd s w (.returned (.tuple #[.agg #[.string x, .slice A n c], .bool q])) w' := by
  refine ⟨h.below, ?_⟩
  cases q
  · exact .inr ⟨by simpa using hq, _, _, _, _, rfl⟩
  · exact .inl ⟨t, _, by simpa using hq, rfl, (h.tree t rfl).mono fun p hp => ⟨⟨hP p hp, h.all p hp⟩, fun _ => rfl⟩⟩
end
set_option maxRecDepth 100000 in
set_option maxHeartbeats 8000000 in
theorem l4Read_any (x : List UInt8) (s : ByteArray) (w : World) (hm : s.size ≤ maxLen) :
    Calls Tryz.prog 38 #[.string ⟨x.toArray⟩, .string s] w (TrRet (rdDv x) s w) := by
  go_enter Tryz.func38, Tryz.ntmps38
  go_wp2_with fail
  refine (l1Parse_any s _ hm).mono ?_
  rintro e w1 ⟨hb1, hres⟩
  have hr := (Blk.new w 52 #[.string ⟨#[]⟩, .slice none 0 0]).below hb1 (by simp)
  have hlt := hr.lt
  have hB : Below w.heap.size w w1 := ((Below.refl _ _).alloc (Nat.le_refl _) _).trans (hb1.mono (by simp))
  rcases hres with ⟨t, v, hrd, rfl, htr⟩ | ⟨hrd, xb, A, n, c, rfl⟩
  · obtain ⟨A, n, c, rfl⟩ := htr.shape
    have hk : VKeep w (fun b => w.heap.size + 1 ≤ b ∧ b < w1.heap.size) (some t) w.heap.size w1.heap.size ⟨t.atom.toArray⟩ A n c (.string ⟨#[]⟩) (.slice none 0 0) (w1.alloc (.cells #[.string ⟨t.atom.toArray⟩, .slice A n c] 52)) :=
      ⟨hr.alloc _, Blk.new _ _ _, fun t' e => by injection e with e; subst e; exact ((htr.mono (Q := fun b => w.heap.size + 1 ≤ b ∧ b < w1.heap.size) fun q hq => ⟨by simpa using hq, fun _ => rfl⟩).alloc (fun q hq => hq.2) _), fun q hq => by simp; omega, hB.alloc (by omega) _, by simp; omega⟩
    have hok := rdText_ok _ _ hrd
    have ha : trAtoms t ≤ 10000 := by omega
    have hlen : (wrTr t).length ≤ 1000000 := by rw [rdText_text _ _ hrd]; omega
    cases hkx : rdKind x with
    | none =>
      have hq : rdDv x s.data.toList = if (false : Bool) = true then some t else none := by unfold rdDv; rw [hkx]; rfl
      have CKD : Hid (∀ w' rx ry, VKeep w (fun b => w.heap.size + 1 ≤ b ∧ b < w1.heap.size) (some t) w.heap.size w1.heap.size ⟨t.atom.toArray⟩ A n c rx ry w' → Calls Tryz.prog 69 #[.string ⟨x.toArray⟩] w' fun e w2 => e = .returned (.bool false) ∧ VKeep w (fun b => w.heap.size + 1 ≤ b ∧ b < w1.heap.size) (some t) w.heap.size w1.heap.size ⟨t.atom.toArray⟩ A n c rx ry w2) := Lib.hid fun w' rx ry h => h.kd x false (by rw [hkx]; rfl)
      have HEND : Hid (∀ w', VKeep w (fun b => w.heap.size + 1 ≤ b ∧ b < w1.heap.size) (some t) w.heap.size w1.heap.size ⟨t.atom.toArray⟩ A n c (.string ⟨t.atom.toArray⟩) (.slice A n c) w' → TrRet (rdDv x) s w (.returned (.tuple #[.agg #[.string ⟨t.atom.toArray⟩, .slice A n c], .bool false])) w') := Lib.hid fun w' h => h.shut (fun q hq => by omega) hq
      clear hrd htr hok hq hkx
      go_wp2_with fail
      have hk0 := hk.drew
      have hlt := hk0.own.lt
      refine wp_region_held_drew (S := (fun w' => w'.cell? ⟨w1.heap.size, 0, none⟩ = some (.string ⟨t.atom.toArray⟩) ∧ w'.cell? ⟨w1.heap.size, 1, none⟩ = some (.slice A n c) ∧ ∃ rx ry, VKeep w (fun b => w.heap.size + 1 ≤ b ∧ b < w1.heap.size) (some t) w.heap.size w1.heap.size ⟨t.atom.toArray⟩ A n c rx ry w')) (by kernel_rfl) (hk0.s) (fun hHeld => ?_)
      generalize (w1.alloc (.cells #[.string ⟨t.atom.toArray⟩, .slice A n c] 52)).drew = wd at hk0 hlt hHeld ⊢
      clear hk
      refine wpAnyH_take (i := 0) (v := ?_) rfl (by kernel_rfl) (by kernel_rfl) (by kernel_rfl) (fun _ _ _ h => h) (Or.inl ⟨by kernel_rfl, ?_⟩) (by assumption) ?_
      rotate_left
      · intro w0 hS0; (try dsimp only at hS0); go_simp; (try with_reducible rfl)
      (try simp only [List.getElem_toArray, List.getElem_cons_zero]); (try go_frame)
      refine wpAnyH_take (i := 1) (v := ?_) rfl (by kernel_rfl) (by kernel_rfl) (by kernel_rfl) (fun _ _ _ h => h) (Or.inl ⟨by kernel_rfl, ?_⟩) (by assumption) ?_
      rotate_left
      · intro w0 hS0; (try dsimp only at hS0); go_simp; (try with_reducible rfl)
      (try simp only [List.getElem_toArray, List.getElem_cons_zero, List.getElem_cons_succ]); (try go_frame)
      refine wpAnyH_take (i := 2) (v := ?_) rfl (by kernel_rfl) (by kernel_rfl) (by kernel_rfl) (fun _ _ _ h => h) (Or.inl ⟨by kernel_rfl, ?_⟩) (by assumption) ?_
      rotate_left
      · intro w0 hS0; (try dsimp only at hS0); go_simp; (try with_reducible rfl)
      (try simp only [List.getElem_toArray, List.getElem_cons_zero, List.getElem_cons_succ]); (try go_frame)
      refine wpAnyH_take (i := 3) (v := ?_) rfl (by kernel_rfl) (by kernel_rfl) (by kernel_rfl) (fun _ _ _ h => h) (Or.inl ⟨by kernel_rfl, ?_⟩) (by assumption) ?_
      rotate_left
      · intro w0 hS0; (try dsimp only at hS0); go_simp; (try with_reducible rfl)
      (try simp only [List.getElem_toArray, List.getElem_cons_zero, List.getElem_cons_succ]); (try go_frame)
      refine wpAnyH_ready (rs := [4]) (by kernel_rfl) (by simp) ?_
      refine AllReadyH.cons rfl (fun K hK => ?_) AllReadyH.nil
      · go_simp
        go_at_call 69
        with_reducible refine (CKD.out _ _ _ hk0).mono ?_
        rintro e u1 ⟨rfl, hk1⟩
        go_wp2_with fail
        refine hK.out _ _ (hk1.s) (fun hHeld => ?_)
        clear hK K
        (try simp only [List.getElem_toArray, List.getElem_cons_zero, List.getElem_cons_succ]); (try go_frame)
        refine wpAnyH_take (i := 5) (v := ?_) rfl (by kernel_rfl) (by kernel_rfl) (by kernel_rfl) (fun _ _ _ h => h) (Or.inl ⟨by kernel_rfl, ?_⟩) (by assumption) ?_
        rotate_left
        · intro w0 hS0; (try dsimp only at hS0); go_simp; (try with_reducible rfl)
        (try simp only [List.getElem_toArray, List.getElem_cons_zero, List.getElem_cons_succ]); (try go_frame)
        refine wpAnyH_take (i := 6) (v := ?_) rfl (by kernel_rfl) (by kernel_rfl) (by kernel_rfl) (fun _ _ _ h => h) (Or.inl ⟨by kernel_rfl, ?_⟩) (by assumption) ?_
        rotate_left
        · intro w0 hS0; (try dsimp only at hS0); go_simp; (try with_reducible rfl)
        (try simp only [List.getElem_toArray, List.getElem_cons_zero, List.getElem_cons_succ]); (try go_frame)
        refine wpAnyH_take (i := 7) (v := undef) rfl (by kernel_rfl) (by kernel_rfl) (by kernel_rfl) (fun _ _ _ h => h) (Or.inr ⟨by kernel_rfl, rfl⟩) (by assumption) ?_
        (try simp only [List.getElem_toArray, List.getElem_cons_zero, List.getElem_cons_succ]); (try go_frame)
        refine wpAnyH_take (i := 8) (v := undef) rfl (by kernel_rfl) (by kernel_rfl) (by kernel_rfl) (fun _ _ _ h => h) (Or.inr ⟨by kernel_rfl, rfl⟩) (by assumption) ?_
        (try simp only [List.getElem_toArray, List.getElem_cons_zero, List.getElem_cons_succ]); (try go_frame)
        refine wpAnyH_take (i := 9) (v := undef) rfl (by kernel_rfl) (by kernel_rfl) (by kernel_rfl) (fun _ _ _ h => h) (Or.inr ⟨by kernel_rfl, rfl⟩) (by assumption) ?_
        (try simp only [List.getElem_toArray, List.getElem_cons_zero, List.getElem_cons_succ]); (try go_frame)
        refine wpAnyH_take (i := 10) (v := ?_) rfl (by kernel_rfl) (by kernel_rfl) (by kernel_rfl) (fun _ _ _ h => h) (Or.inl ⟨by kernel_rfl, ?_⟩) (by assumption) ?_
        rotate_left
        · intro w0 hS0; (try dsimp only at hS0); go_simp; (try with_reducible rfl)
        (try simp only [List.getElem_toArray, List.getElem_cons_zero, List.getElem_cons_succ]); (try go_frame)
        refine wpAnyH_take (i := 11) (v := ?_) rfl (by kernel_rfl) (by kernel_rfl) (by kernel_rfl) (fun _ _ _ h => h) (Or.inl ⟨by kernel_rfl, ?_⟩) (by assumption) ?_
        rotate_left
        · intro w0 hS0; (try dsimp only at hS0); go_simp; (try with_reducible rfl)
        (try simp only [List.getElem_toArray, List.getElem_cons_zero, List.getElem_cons_succ]); (try go_frame)
        refine wpAnyH_take (i := 12) (v := undef) rfl (by kernel_rfl) (by kernel_rfl) (by kernel_rfl) (fun _ _ _ h => h) (Or.inr ⟨by kernel_rfl, rfl⟩) (by assumption) ?_
        (try simp only [List.getElem_toArray, List.getElem_cons_zero, List.getElem_cons_succ]); (try go_frame)
        refine wpAnyH_take (i := 13) (v := undef) rfl (by kernel_rfl) (by kernel_rfl) (by kernel_rfl) (fun _ _ _ h => h) (Or.inr ⟨by kernel_rfl, rfl⟩) (by assumption) ?_
        (try simp only [List.getElem_toArray, List.getElem_cons_zero, List.getElem_cons_succ]); (try go_frame)
        refine wpAnyH_take (i := 14) (v := undef) rfl (by kernel_rfl) (by kernel_rfl) (by kernel_rfl) (fun _ _ _ h => h) (Or.inr ⟨by kernel_rfl, rfl⟩) (by assumption) ?_
        (try simp only [List.getElem_toArray, List.getElem_cons_zero, List.getElem_cons_succ]); (try go_frame)
        refine wpAnyH_take (i := 15) (v := ?_) rfl (by kernel_rfl) (by kernel_rfl) (by kernel_rfl) (fun _ _ _ h => h) (Or.inl ⟨by kernel_rfl, ?_⟩) (by assumption) ?_
        rotate_left
        · intro w0 hS0; (try dsimp only at hS0); go_simp; (try with_reducible rfl)
        (try simp only [List.getElem_toArray, List.getElem_cons_zero, List.getElem_cons_succ]); (try go_frame)
        refine wpAnyH_ready (rs := [16]) (by kernel_rfl) (by simp) ?_
        refine AllReadyH.cons rfl (fun K hK => ?_) AllReadyH.nil
        · have r0 := hk1.res.cell 0
          have r1 := hk1.res.cell 1
          simp at r0 r1
          have rf := hk1.res.frozen
          have rl := hk1.res.lt
          have hk2 := hk1.put (by omega) (by omega) (fun q hq => by omega) (.string ⟨t.atom.toArray⟩) (.slice A n c)
          go_simp
          refine hK.out _ _ (hk2.s) (fun hHeld => ?_)
          clear hK K r0 r1 rf rl
          (try simp only [List.getElem_toArray, List.getElem_cons_zero, List.getElem_cons_succ]); (try go_frame)
          refine wpAnyH_take (i := 17) (v := ?_) rfl (by kernel_rfl) (by kernel_rfl) (by kernel_rfl) (fun _ _ _ h => h) (Or.inl ⟨by kernel_rfl, ?_⟩) (by assumption) ?_
          rotate_left
          · intro w0 hS0; (try dsimp only at hS0); go_simp; (try with_reducible rfl)
          (try simp only [List.getElem_toArray, List.getElem_cons_zero, List.getElem_cons_succ]); (try go_frame)
          refine wpAnyH_done (by kernel_rfl) ?_ _
          go_wp2
          refine bodyPost_ret (ret_tree Tryz.results38 _ _ _ _ _ rfl hk2.res) rfl ?_
          exact HEND.out _ hk2
    | some k =>
      have hxk : x = kdT k := rdKind_some x k hkx
      cases hd : isDv k t with
      | false =>
        have hq : rdDv x s.data.toList = if (false : Bool) = true then some t else none := by unfold rdDv; rw [hkx, hrd]; simp [hd]
        have CKD : Hid (∀ w' rx ry, VKeep w (fun b => w.heap.size + 1 ≤ b ∧ b < w1.heap.size) (some t) w.heap.size w1.heap.size ⟨t.atom.toArray⟩ A n c rx ry w' → Calls Tryz.prog 69 #[.string ⟨x.toArray⟩] w' fun e w2 => e = .returned (.bool true) ∧ VKeep w (fun b => w.heap.size + 1 ≤ b ∧ b < w1.heap.size) (some t) w.heap.size w1.heap.size ⟨t.atom.toArray⟩ A n c rx ry w2) := Lib.hid fun w' rx ry h => h.kd x true (by rw [hkx]; rfl)
        have CDV : Hid (∀ w' rx ry, VKeep w (fun b => w.heap.size + 1 ≤ b ∧ b < w1.heap.size) (some t) w.heap.size w1.heap.size ⟨t.atom.toArray⟩ A n c rx ry w' → Calls Tryz.prog 70 #[.string ⟨x.toArray⟩, .agg #[.string ⟨t.atom.toArray⟩, .slice A n c]] w' fun e w2 => e = .returned (.bool false) ∧ VKeep w (fun b => w.heap.size + 1 ≤ b ∧ b < w1.heap.size) (some t) w.heap.size w1.heap.size ⟨t.atom.toArray⟩ A n c rx ry w2) := Lib.hid fun w' rx ry h => by rw [hxk]; exact h.dv k hlen ha false hd
        have HEND : Hid (∀ w', VKeep w (fun b => w.heap.size + 1 ≤ b ∧ b < w1.heap.size) (some t) w.heap.size w1.heap.size ⟨t.atom.toArray⟩ A n c (.string ⟨t.atom.toArray⟩) (.slice A n c) w' → TrRet (rdDv x) s w (.returned (.tuple #[.agg #[.string ⟨t.atom.toArray⟩, .slice A n c], .bool false])) w') := Lib.hid fun w' h => h.shut (fun q hq => by omega) hq
        clear hrd htr hok hq hkx hxk hd
        go_wp2_with fail
        have hk0 := hk.drew
        have hlt := hk0.own.lt
        refine wp_region_held_drew (S := (fun w' => w'.cell? ⟨w1.heap.size, 0, none⟩ = some (.string ⟨t.atom.toArray⟩) ∧ w'.cell? ⟨w1.heap.size, 1, none⟩ = some (.slice A n c) ∧ ∃ rx ry, VKeep w (fun b => w.heap.size + 1 ≤ b ∧ b < w1.heap.size) (some t) w.heap.size w1.heap.size ⟨t.atom.toArray⟩ A n c rx ry w')) (by kernel_rfl) (hk0.s) (fun hHeld => ?_)
        generalize (w1.alloc (.cells #[.string ⟨t.atom.toArray⟩, .slice A n c] 52)).drew = wd at hk0 hlt hHeld ⊢
        clear hk
        refine wpAnyH_take (i := 0) (v := ?_) rfl (by kernel_rfl) (by kernel_rfl) (by kernel_rfl) (fun _ _ _ h => h) (Or.inl ⟨by kernel_rfl, ?_⟩) (by assumption) ?_
        rotate_left
        · intro w0 hS0; (try dsimp only at hS0); go_simp; (try with_reducible rfl)
        (try simp only [List.getElem_toArray, List.getElem_cons_zero]); (try go_frame)
        refine wpAnyH_take (i := 1) (v := ?_) rfl (by kernel_rfl) (by kernel_rfl) (by kernel_rfl) (fun _ _ _ h => h) (Or.inl ⟨by kernel_rfl, ?_⟩) (by assumption) ?_
        rotate_left
        · intro w0 hS0; (try dsimp only at hS0); go_simp; (try with_reducible rfl)
        (try simp only [List.getElem_toArray, List.getElem_cons_zero, List.getElem_cons_succ]); (try go_frame)
        refine wpAnyH_take (i := 2) (v := ?_) rfl (by kernel_rfl) (by kernel_rfl) (by kernel_rfl) (fun _ _ _ h => h) (Or.inl ⟨by kernel_rfl, ?_⟩) (by assumption) ?_
        rotate_left
        · intro w0 hS0; (try dsimp only at hS0); go_simp; (try with_reducible rfl)
        (try simp only [List.getElem_toArray, List.getElem_cons_zero, List.getElem_cons_succ]); (try go_frame)
        refine wpAnyH_take (i := 3) (v := ?_) rfl (by kernel_rfl) (by kernel_rfl) (by kernel_rfl) (fun _ _ _ h => h) (Or.inl ⟨by kernel_rfl, ?_⟩) (by assumption) ?_
        rotate_left
        · intro w0 hS0; (try dsimp only at hS0); go_simp; (try with_reducible rfl)
        (try simp only [List.getElem_toArray, List.getElem_cons_zero, List.getElem_cons_succ]); (try go_frame)
        refine wpAnyH_ready (rs := [4]) (by kernel_rfl) (by simp) ?_
        refine AllReadyH.cons rfl (fun K hK => ?_) AllReadyH.nil
        · go_simp
          go_at_call 69
          with_reducible refine (CKD.out _ _ _ hk0).mono ?_
          rintro e u1 ⟨rfl, hk1⟩
          go_wp2_with fail
          refine hK.out _ _ (hk1.s) (fun hHeld => ?_)
          clear hK K
          (try simp only [List.getElem_toArray, List.getElem_cons_zero, List.getElem_cons_succ]); (try go_frame)
          refine wpAnyH_take (i := 5) (v := ?_) rfl (by kernel_rfl) (by kernel_rfl) (by kernel_rfl) (fun _ _ _ h => h) (Or.inl ⟨by kernel_rfl, ?_⟩) (by assumption) ?_
          rotate_left
          · intro w0 hS0; (try dsimp only at hS0); go_simp; (try with_reducible rfl)
          (try simp only [List.getElem_toArray, List.getElem_cons_zero, List.getElem_cons_succ]); (try go_frame)
          refine wpAnyH_take (i := 6) (v := ?_) rfl (by kernel_rfl) (by kernel_rfl) (by kernel_rfl) (fun _ _ _ h => h) (Or.inl ⟨by kernel_rfl, ?_⟩) (by assumption) ?_
          rotate_left
          · intro w0 hS0; (try dsimp only at hS0); go_simp; (try with_reducible rfl)
          (try simp only [List.getElem_toArray, List.getElem_cons_zero, List.getElem_cons_succ]); (try go_frame)
          refine wpAnyH_take (i := 7) (v := ?_) rfl (by kernel_rfl) (by kernel_rfl) (by kernel_rfl) (fun _ _ _ h => h) (Or.inl ⟨by kernel_rfl, ?_⟩) (by assumption) ?_
          rotate_left
          · intro w0 hS0; (try dsimp only at hS0); go_simp; (try with_reducible rfl)
          (try simp only [List.getElem_toArray, List.getElem_cons_zero, List.getElem_cons_succ]); (try go_frame)
          refine wpAnyH_take (i := 8) (v := ?_) rfl (by kernel_rfl) (by kernel_rfl) (by kernel_rfl) (fun _ _ _ h => h) (Or.inl ⟨by kernel_rfl, ?_⟩) (by assumption) ?_
          rotate_left
          · intro w0 hS0; (try dsimp only at hS0); go_simp; (try with_reducible rfl)
          (try simp only [List.getElem_toArray, List.getElem_cons_zero, List.getElem_cons_succ]); (try go_frame)
          refine wpAnyH_ready (rs := [9]) (by kernel_rfl) (by simp) ?_
          refine AllReadyH.cons rfl (fun K hK => ?_) AllReadyH.nil
          · go_simp
            go_at_call 70
            with_reducible refine (CDV.out _ _ _ hk1).mono ?_
            rintro e u2 ⟨rfl, hk2⟩
            go_wp2_with fail
            refine hK.out _ _ (hk2.s) (fun hHeld => ?_)
            clear hK K
            (try simp only [List.getElem_toArray, List.getElem_cons_zero, List.getElem_cons_succ]); (try go_frame)
            refine wpAnyH_take (i := 10) (v := ?_) rfl (by kernel_rfl) (by kernel_rfl) (by kernel_rfl) (fun _ _ _ h => h) (Or.inl ⟨by kernel_rfl, ?_⟩) (by assumption) ?_
            rotate_left
            · intro w0 hS0; (try dsimp only at hS0); go_simp; (try with_reducible rfl)
            (try simp only [List.getElem_toArray, List.getElem_cons_zero, List.getElem_cons_succ]); (try go_frame)
            refine wpAnyH_take (i := 11) (v := ?_) rfl (by kernel_rfl) (by kernel_rfl) (by kernel_rfl) (fun _ _ _ h => h) (Or.inl ⟨by kernel_rfl, ?_⟩) (by assumption) ?_
            rotate_left
            · intro w0 hS0; (try dsimp only at hS0); go_simp; (try with_reducible rfl)
            (try simp only [List.getElem_toArray, List.getElem_cons_zero, List.getElem_cons_succ]); (try go_frame)
            refine wpAnyH_take (i := 12) (v := undef) rfl (by kernel_rfl) (by kernel_rfl) (by kernel_rfl) (fun _ _ _ h => h) (Or.inr ⟨by kernel_rfl, rfl⟩) (by assumption) ?_
            (try simp only [List.getElem_toArray, List.getElem_cons_zero, List.getElem_cons_succ]); (try go_frame)
            refine wpAnyH_take (i := 13) (v := undef) rfl (by kernel_rfl) (by kernel_rfl) (by kernel_rfl) (fun _ _ _ h => h) (Or.inr ⟨by kernel_rfl, rfl⟩) (by assumption) ?_
            (try simp only [List.getElem_toArray, List.getElem_cons_zero, List.getElem_cons_succ]); (try go_frame)
            refine wpAnyH_take (i := 14) (v := undef) rfl (by kernel_rfl) (by kernel_rfl) (by kernel_rfl) (fun _ _ _ h => h) (Or.inr ⟨by kernel_rfl, rfl⟩) (by assumption) ?_
            (try simp only [List.getElem_toArray, List.getElem_cons_zero, List.getElem_cons_succ]); (try go_frame)
            refine wpAnyH_take (i := 15) (v := ?_) rfl (by kernel_rfl) (by kernel_rfl) (by kernel_rfl) (fun _ _ _ h => h) (Or.inl ⟨by kernel_rfl, ?_⟩) (by assumption) ?_
            rotate_left
            · intro w0 hS0; (try dsimp only at hS0); go_simp; (try with_reducible rfl)
            (try simp only [List.getElem_toArray, List.getElem_cons_zero, List.getElem_cons_succ]); (try go_frame)
            refine wpAnyH_ready (rs := [16]) (by kernel_rfl) (by simp) ?_
            refine AllReadyH.cons rfl (fun K hK => ?_) AllReadyH.nil
            · have r0 := hk2.res.cell 0
              have r1 := hk2.res.cell 1
              simp at r0 r1
              have rf := hk2.res.frozen
              have rl := hk2.res.lt
              have hk3 := hk2.put (by omega) (by omega) (fun q hq => by omega) (.string ⟨t.atom.toArray⟩) (.slice A n c)
              go_simp
              refine hK.out _ _ (hk3.s) (fun hHeld => ?_)
              clear hK K r0 r1 rf rl
              (try simp only [List.getElem_toArray, List.getElem_cons_zero, List.getElem_cons_succ]); (try go_frame)
              refine wpAnyH_take (i := 17) (v := ?_) rfl (by kernel_rfl) (by kernel_rfl) (by kernel_rfl) (fun _ _ _ h => h) (Or.inl ⟨by kernel_rfl, ?_⟩) (by assumption) ?_
              rotate_left
              · intro w0 hS0; (try dsimp only at hS0); go_simp; (try with_reducible rfl)
              (try simp only [List.getElem_toArray, List.getElem_cons_zero, List.getElem_cons_succ]); (try go_frame)
              refine wpAnyH_done (by kernel_rfl) ?_ _
              go_wp2
              refine bodyPost_ret (ret_tree Tryz.results38 _ _ _ _ _ rfl hk3.res) rfl ?_
              exact HEND.out _ hk3
      | true =>
        have hno : dvN t ≤ trAtoms t := ndOk_atoms k t hd
        obtain ⟨N, hN⟩ : ∃ N, dvN t = N := ⟨_, rfl⟩
        obtain ⟨qb, hqb⟩ : ∃ qb, decide ((N : Int) ≤ 600) = qb := ⟨_, rfl⟩
        have hq : rdDv x s.data.toList = if qb = true then some t else none := by
          unfold rdDv; rw [hkx, hrd, ← hqb, ← hN]; simp [hd]; congr 1; apply propext; constructor <;> intro h <;> omega
        have CKD : Hid (∀ w' rx ry, VKeep w (fun b => w.heap.size + 1 ≤ b ∧ b < w1.heap.size) (some t) w.heap.size w1.heap.size ⟨t.atom.toArray⟩ A n c rx ry w' → Calls Tryz.prog 69 #[.string ⟨x.toArray⟩] w' fun e w2 => e = .returned (.bool true) ∧ VKeep w (fun b => w.heap.size + 1 ≤ b ∧ b < w1.heap.size) (some t) w.heap.size w1.heap.size ⟨t.atom.toArray⟩ A n c rx ry w2) := Lib.hid fun w' rx ry h => h.kd x true (by rw [hkx]; rfl)
        have CDV : Hid (∀ w' rx ry, VKeep w (fun b => w.heap.size + 1 ≤ b ∧ b < w1.heap.size) (some t) w.heap.size w1.heap.size ⟨t.atom.toArray⟩ A n c rx ry w' → Calls Tryz.prog 70 #[.string ⟨x.toArray⟩, .agg #[.string ⟨t.atom.toArray⟩, .slice A n c]] w' fun e w2 => e = .returned (.bool true) ∧ VKeep w (fun b => w.heap.size + 1 ≤ b ∧ b < w1.heap.size) (some t) w.heap.size w1.heap.size ⟨t.atom.toArray⟩ A n c rx ry w2) := Lib.hid fun w' rx ry h => by rw [hxk]; exact h.dv k hlen ha true hd
        have CNO : Hid (∀ w' rx ry, VKeep w (fun b => w.heap.size + 1 ≤ b ∧ b < w1.heap.size) (some t) w.heap.size w1.heap.size ⟨t.atom.toArray⟩ A n c rx ry w' → Calls Tryz.prog 71 #[.agg #[.string ⟨t.atom.toArray⟩, .slice A n c]] w' fun e w2 => e = .returned (.int .i64 (N : Nat)) ∧ VKeep w (fun b => w.heap.size + 1 ≤ b ∧ b < w1.heap.size) (some t) w.heap.size w1.heap.size ⟨t.atom.toArray⟩ A n c rx ry w2) := Lib.hid fun w' rx ry h => by rw [← hN]; exact h.no k hd (by omega)
        have HEND : Hid (∀ w', VKeep w (fun b => w.heap.size + 1 ≤ b ∧ b < w1.heap.size) (some t) w.heap.size w1.heap.size ⟨t.atom.toArray⟩ A n c (.string ⟨t.atom.toArray⟩) (.slice A n c) w' → TrRet (rdDv x) s w (.returned (.tuple #[.agg #[.string ⟨t.atom.toArray⟩, .slice A n c], .bool qb])) w') := Lib.hid fun w' h => h.shut (fun q hq => by omega) hq
        clear hrd htr hok hq hkx hxk hd hno hN
        go_wp2_with fail
        have hk0 := hk.drew
        have hlt := hk0.own.lt
        refine wp_region_held_drew (S := (fun w' => w'.cell? ⟨w1.heap.size, 0, none⟩ = some (.string ⟨t.atom.toArray⟩) ∧ w'.cell? ⟨w1.heap.size, 1, none⟩ = some (.slice A n c) ∧ ∃ rx ry, VKeep w (fun b => w.heap.size + 1 ≤ b ∧ b < w1.heap.size) (some t) w.heap.size w1.heap.size ⟨t.atom.toArray⟩ A n c rx ry w')) (by kernel_rfl) (hk0.s) (fun hHeld => ?_)
        generalize (w1.alloc (.cells #[.string ⟨t.atom.toArray⟩, .slice A n c] 52)).drew = wd at hk0 hlt hHeld ⊢
        clear hk
        refine wpAnyH_take (i := 0) (v := ?_) rfl (by kernel_rfl) (by kernel_rfl) (by kernel_rfl) (fun _ _ _ h => h) (Or.inl ⟨by kernel_rfl, ?_⟩) (by assumption) ?_
        rotate_left
        · intro w0 hS0; (try dsimp only at hS0); go_simp; (try with_reducible rfl)
        (try simp only [List.getElem_toArray, List.getElem_cons_zero]); (try go_frame)
        refine wpAnyH_take (i := 1) (v := ?_) rfl (by kernel_rfl) (by kernel_rfl) (by kernel_rfl) (fun _ _ _ h => h) (Or.inl ⟨by kernel_rfl, ?_⟩) (by assumption) ?_
        rotate_left
        · intro w0 hS0; (try dsimp only at hS0); go_simp; (try with_reducible rfl)
        (try simp only [List.getElem_toArray, List.getElem_cons_zero, List.getElem_cons_succ]); (try go_frame)
        refine wpAnyH_take (i := 2) (v := ?_) rfl (by kernel_rfl) (by kernel_rfl) (by kernel_rfl) (fun _ _ _ h => h) (Or.inl ⟨by kernel_rfl, ?_⟩) (by assumption) ?_
        rotate_left
        · intro w0 hS0; (try dsimp only at hS0); go_simp; (try with_reducible rfl)
        (try simp only [List.getElem_toArray, List.getElem_cons_zero, List.getElem_cons_succ]); (try go_frame)
        refine wpAnyH_take (i := 3) (v := ?_) rfl (by kernel_rfl) (by kernel_rfl) (by kernel_rfl) (fun _ _ _ h => h) (Or.inl ⟨by kernel_rfl, ?_⟩) (by assumption) ?_
        rotate_left
        · intro w0 hS0; (try dsimp only at hS0); go_simp; (try with_reducible rfl)
        (try simp only [List.getElem_toArray, List.getElem_cons_zero, List.getElem_cons_succ]); (try go_frame)
        refine wpAnyH_ready (rs := [4]) (by kernel_rfl) (by simp) ?_
        refine AllReadyH.cons rfl (fun K hK => ?_) AllReadyH.nil
        · go_simp
          go_at_call 69
          with_reducible refine (CKD.out _ _ _ hk0).mono ?_
          rintro e u1 ⟨rfl, hk1⟩
          go_wp2_with fail
          refine hK.out _ _ (hk1.s) (fun hHeld => ?_)
          clear hK K
          (try simp only [List.getElem_toArray, List.getElem_cons_zero, List.getElem_cons_succ]); (try go_frame)
          refine wpAnyH_take (i := 5) (v := ?_) rfl (by kernel_rfl) (by kernel_rfl) (by kernel_rfl) (fun _ _ _ h => h) (Or.inl ⟨by kernel_rfl, ?_⟩) (by assumption) ?_
          rotate_left
          · intro w0 hS0; (try dsimp only at hS0); go_simp; (try with_reducible rfl)
          (try simp only [List.getElem_toArray, List.getElem_cons_zero, List.getElem_cons_succ]); (try go_frame)
          refine wpAnyH_take (i := 6) (v := ?_) rfl (by kernel_rfl) (by kernel_rfl) (by kernel_rfl) (fun _ _ _ h => h) (Or.inl ⟨by kernel_rfl, ?_⟩) (by assumption) ?_
          rotate_left
          · intro w0 hS0; (try dsimp only at hS0); go_simp; (try with_reducible rfl)
          (try simp only [List.getElem_toArray, List.getElem_cons_zero, List.getElem_cons_succ]); (try go_frame)
          refine wpAnyH_take (i := 7) (v := ?_) rfl (by kernel_rfl) (by kernel_rfl) (by kernel_rfl) (fun _ _ _ h => h) (Or.inl ⟨by kernel_rfl, ?_⟩) (by assumption) ?_
          rotate_left
          · intro w0 hS0; (try dsimp only at hS0); go_simp; (try with_reducible rfl)
          (try simp only [List.getElem_toArray, List.getElem_cons_zero, List.getElem_cons_succ]); (try go_frame)
          refine wpAnyH_take (i := 8) (v := ?_) rfl (by kernel_rfl) (by kernel_rfl) (by kernel_rfl) (fun _ _ _ h => h) (Or.inl ⟨by kernel_rfl, ?_⟩) (by assumption) ?_
          rotate_left
          · intro w0 hS0; (try dsimp only at hS0); go_simp; (try with_reducible rfl)
          (try simp only [List.getElem_toArray, List.getElem_cons_zero, List.getElem_cons_succ]); (try go_frame)
          refine wpAnyH_ready (rs := [9]) (by kernel_rfl) (by simp) ?_
          refine AllReadyH.cons rfl (fun K hK => ?_) AllReadyH.nil
          · go_simp
            go_at_call 70
            with_reducible refine (CDV.out _ _ _ hk1).mono ?_
            rintro e u2 ⟨rfl, hk2⟩
            go_wp2_with fail
            refine hK.out _ _ (hk2.s) (fun hHeld => ?_)
            clear hK K
            (try simp only [List.getElem_toArray, List.getElem_cons_zero, List.getElem_cons_succ]); (try go_frame)
            refine wpAnyH_take (i := 10) (v := ?_) rfl (by kernel_rfl) (by kernel_rfl) (by kernel_rfl) (fun _ _ _ h => h) (Or.inl ⟨by kernel_rfl, ?_⟩) (by assumption) ?_
            rotate_left
            · intro w0 hS0; (try dsimp only at hS0); go_simp; (try with_reducible rfl)
            (try simp only [List.getElem_toArray, List.getElem_cons_zero, List.getElem_cons_succ]); (try go_frame)
            refine wpAnyH_take (i := 11) (v := ?_) rfl (by kernel_rfl) (by kernel_rfl) (by kernel_rfl) (fun _ _ _ h => h) (Or.inl ⟨by kernel_rfl, ?_⟩) (by assumption) ?_
            rotate_left
            · intro w0 hS0; (try dsimp only at hS0); go_simp; (try with_reducible rfl)
            (try simp only [List.getElem_toArray, List.getElem_cons_zero, List.getElem_cons_succ]); (try go_frame)
            refine wpAnyH_take (i := 12) (v := ?_) rfl (by kernel_rfl) (by kernel_rfl) (by kernel_rfl) (fun _ _ _ h => h) (Or.inl ⟨by kernel_rfl, ?_⟩) (by assumption) ?_
            rotate_left
            · intro w0 hS0; (try dsimp only at hS0); go_simp; (try with_reducible rfl)
            (try simp only [List.getElem_toArray, List.getElem_cons_zero, List.getElem_cons_succ]); (try go_frame)
            refine wpAnyH_ready (rs := [13]) (by kernel_rfl) (by simp) ?_
            refine AllReadyH.cons rfl (fun K hK => ?_) AllReadyH.nil
            · go_simp
              go_at_call 71
              with_reducible refine (CNO.out _ _ _ hk2).mono ?_
              rintro e u3 ⟨rfl, hk3⟩
              go_wp2_with fail
              refine hK.out _ _ (hk3.s) (fun hHeld => ?_)
              clear hK K
              (try simp only [List.getElem_toArray, List.getElem_cons_zero, List.getElem_cons_succ]); (try go_frame)
              refine wpAnyH_take (i := 14) (v := ?_) rfl (by kernel_rfl) (by kernel_rfl) (by kernel_rfl) (fun _ _ _ h => h) (Or.inl ⟨by kernel_rfl, ?_⟩) (by assumption) ?_
              rotate_left
              · intro w0 hS0; (try dsimp only at hS0); go_simp; (try with_reducible rfl)
              (try simp only [List.getElem_toArray, List.getElem_cons_zero, List.getElem_cons_succ]); (try go_frame)
              refine wpAnyH_take (i := 15) (v := ?_) rfl (by kernel_rfl) (by kernel_rfl) (by kernel_rfl) (fun _ _ _ h => h) (Or.inl ⟨by kernel_rfl, ?_⟩) (by assumption) ?_
              rotate_left
              · intro w0 hS0; (try dsimp only at hS0); go_simp; (try with_reducible rfl)
              (try simp only [List.getElem_toArray, List.getElem_cons_zero, List.getElem_cons_succ]); (try go_frame)
              refine wpAnyH_ready (rs := [16]) (by kernel_rfl) (by simp) ?_
              refine AllReadyH.cons rfl (fun K hK => ?_) AllReadyH.nil
              · have r0 := hk3.res.cell 0
                have r1 := hk3.res.cell 1
                simp at r0 r1
                have rf := hk3.res.frozen
                have rl := hk3.res.lt
                have hk4 := hk3.put (by omega) (by omega) (fun q hq => by omega) (.string ⟨t.atom.toArray⟩) (.slice A n c)
                go_simp
                refine hK.out _ _ (hk4.s) (fun hHeld => ?_)
                clear hK K r0 r1 rf rl
                (try simp only [List.getElem_toArray, List.getElem_cons_zero, List.getElem_cons_succ]); (try go_frame)
                refine wpAnyH_take (i := 17) (v := ?_) rfl (by kernel_rfl) (by kernel_rfl) (by kernel_rfl) (fun _ _ _ h => h) (Or.inl ⟨by kernel_rfl, ?_⟩) (by assumption) ?_
                rotate_left
                · intro w0 hS0; (try dsimp only at hS0); go_simp; (try with_reducible rfl)
                (try simp only [List.getElem_toArray, List.getElem_cons_zero, List.getElem_cons_succ]); (try go_frame)
                refine wpAnyH_done (by kernel_rfl) ?_ _
                go_wp2
                refine bodyPost_ret (ret_tree Tryz.results38 _ _ _ _ _ rfl hk4.res) rfl ?_
                exact HEND.out _ hk4
  · have hk : VKeep w (fun b => w.heap.size + 1 ≤ b ∧ b < w1.heap.size) none w.heap.size w1.heap.size xb A n c (.string ⟨#[]⟩) (.slice none 0 0) (w1.alloc (.cells #[.string xb, .slice A n c] 52)) :=
      ⟨hr.alloc _, Blk.new _ _ _, (fun t' e => by cases e), fun q hq => by simp; omega, hB.alloc (by omega) _, by simp; omega⟩
    have hq : rdDv x s.data.toList = none := by unfold rdDv; rw [hrd]; cases rdKind x <;> rfl
    have HEND : Hid (∀ w', VKeep w (fun b => w.heap.size + 1 ≤ b ∧ b < w1.heap.size) none w.heap.size w1.heap.size xb A n c (.string xb) (.slice A n c) w' → TrRet (rdDv x) s w (.returned (.tuple #[.agg #[.string xb, .slice A n c], .bool false])) w') := Lib.hid fun w' h => ⟨h.below, .inr ⟨hq, _, _, _, _, rfl⟩⟩
    clear hrd hq
    go_wp2_with fail
    have hk0 := hk.drew
    have hlt := hk0.own.lt
    refine wp_region_held_drew (S := (fun w' => w'.cell? ⟨w1.heap.size, 0, none⟩ = some (.string xb) ∧ w'.cell? ⟨w1.heap.size, 1, none⟩ = some (.slice A n c) ∧ ∃ rx ry, VKeep w (fun b => w.heap.size + 1 ≤ b ∧ b < w1.heap.size) none w.heap.size w1.heap.size xb A n c rx ry w')) (by kernel_rfl) (hk0.s) (fun hHeld => ?_)
    generalize (w1.alloc (.cells #[.string xb, .slice A n c] 52)).drew = wd at hk0 hlt hHeld ⊢
    clear hk
    refine wpAnyH_take (i := 0) (v := ?_) rfl (by kernel_rfl) (by kernel_rfl) (by kernel_rfl) (fun _ _ _ h => h) (Or.inl ⟨by kernel_rfl, ?_⟩) (by assumption) ?_
    rotate_left
    · intro w0 hS0; (try dsimp only at hS0); go_simp; (try with_reducible rfl)
    (try simp only [List.getElem_toArray, List.getElem_cons_zero]); (try go_frame)
    refine wpAnyH_take (i := 1) (v := ?_) rfl (by kernel_rfl) (by kernel_rfl) (by kernel_rfl) (fun _ _ _ h => h) (Or.inl ⟨by kernel_rfl, ?_⟩) (by assumption) ?_
    rotate_left
    · intro w0 hS0; (try dsimp only at hS0); go_simp; (try with_reducible rfl)
    (try simp only [List.getElem_toArray, List.getElem_cons_zero, List.getElem_cons_succ]); (try go_frame)
    refine wpAnyH_take (i := 2) (v := ?_) rfl (by kernel_rfl) (by kernel_rfl) (by kernel_rfl) (fun _ _ _ h => h) (Or.inl ⟨by kernel_rfl, ?_⟩) (by assumption) ?_
    rotate_left
    · intro w0 hS0; (try dsimp only at hS0); go_simp; (try with_reducible rfl)
    (try simp only [List.getElem_toArray, List.getElem_cons_zero, List.getElem_cons_succ]); (try go_frame)
    refine wpAnyH_take (i := 3) (v := undef) rfl (by kernel_rfl) (by kernel_rfl) (by kernel_rfl) (fun _ _ _ h => h) (Or.inr ⟨by kernel_rfl, rfl⟩) (by assumption) ?_
    (try simp only [List.getElem_toArray, List.getElem_cons_zero, List.getElem_cons_succ]); (try go_frame)
    refine wpAnyH_take (i := 4) (v := undef) rfl (by kernel_rfl) (by kernel_rfl) (by kernel_rfl) (fun _ _ _ h => h) (Or.inr ⟨by kernel_rfl, rfl⟩) (by assumption) ?_
    (try simp only [List.getElem_toArray, List.getElem_cons_zero, List.getElem_cons_succ]); (try go_frame)
    refine wpAnyH_take (i := 5) (v := ?_) rfl (by kernel_rfl) (by kernel_rfl) (by kernel_rfl) (fun _ _ _ h => h) (Or.inl ⟨by kernel_rfl, ?_⟩) (by assumption) ?_
    rotate_left
    · intro w0 hS0; (try dsimp only at hS0); go_simp; (try with_reducible rfl)
    (try simp only [List.getElem_toArray, List.getElem_cons_zero, List.getElem_cons_succ]); (try go_frame)
    refine wpAnyH_take (i := 6) (v := ?_) rfl (by kernel_rfl) (by kernel_rfl) (by kernel_rfl) (fun _ _ _ h => h) (Or.inl ⟨by kernel_rfl, ?_⟩) (by assumption) ?_
    rotate_left
    · intro w0 hS0; (try dsimp only at hS0); go_simp; (try with_reducible rfl)
    (try simp only [List.getElem_toArray, List.getElem_cons_zero, List.getElem_cons_succ]); (try go_frame)
    refine wpAnyH_take (i := 7) (v := undef) rfl (by kernel_rfl) (by kernel_rfl) (by kernel_rfl) (fun _ _ _ h => h) (Or.inr ⟨by kernel_rfl, rfl⟩) (by assumption) ?_
    (try simp only [List.getElem_toArray, List.getElem_cons_zero, List.getElem_cons_succ]); (try go_frame)
    refine wpAnyH_take (i := 8) (v := undef) rfl (by kernel_rfl) (by kernel_rfl) (by kernel_rfl) (fun _ _ _ h => h) (Or.inr ⟨by kernel_rfl, rfl⟩) (by assumption) ?_
    (try simp only [List.getElem_toArray, List.getElem_cons_zero, List.getElem_cons_succ]); (try go_frame)
    refine wpAnyH_take (i := 9) (v := undef) rfl (by kernel_rfl) (by kernel_rfl) (by kernel_rfl) (fun _ _ _ h => h) (Or.inr ⟨by kernel_rfl, rfl⟩) (by assumption) ?_
    (try simp only [List.getElem_toArray, List.getElem_cons_zero, List.getElem_cons_succ]); (try go_frame)
    refine wpAnyH_take (i := 10) (v := ?_) rfl (by kernel_rfl) (by kernel_rfl) (by kernel_rfl) (fun _ _ _ h => h) (Or.inl ⟨by kernel_rfl, ?_⟩) (by assumption) ?_
    rotate_left
    · intro w0 hS0; (try dsimp only at hS0); go_simp; (try with_reducible rfl)
    (try simp only [List.getElem_toArray, List.getElem_cons_zero, List.getElem_cons_succ]); (try go_frame)
    refine wpAnyH_take (i := 11) (v := ?_) rfl (by kernel_rfl) (by kernel_rfl) (by kernel_rfl) (fun _ _ _ h => h) (Or.inl ⟨by kernel_rfl, ?_⟩) (by assumption) ?_
    rotate_left
    · intro w0 hS0; (try dsimp only at hS0); go_simp; (try with_reducible rfl)
    (try simp only [List.getElem_toArray, List.getElem_cons_zero, List.getElem_cons_succ]); (try go_frame)
    refine wpAnyH_take (i := 12) (v := undef) rfl (by kernel_rfl) (by kernel_rfl) (by kernel_rfl) (fun _ _ _ h => h) (Or.inr ⟨by kernel_rfl, rfl⟩) (by assumption) ?_
    (try simp only [List.getElem_toArray, List.getElem_cons_zero, List.getElem_cons_succ]); (try go_frame)
    refine wpAnyH_take (i := 13) (v := undef) rfl (by kernel_rfl) (by kernel_rfl) (by kernel_rfl) (fun _ _ _ h => h) (Or.inr ⟨by kernel_rfl, rfl⟩) (by assumption) ?_
    (try simp only [List.getElem_toArray, List.getElem_cons_zero, List.getElem_cons_succ]); (try go_frame)
    refine wpAnyH_take (i := 14) (v := undef) rfl (by kernel_rfl) (by kernel_rfl) (by kernel_rfl) (fun _ _ _ h => h) (Or.inr ⟨by kernel_rfl, rfl⟩) (by assumption) ?_
    (try simp only [List.getElem_toArray, List.getElem_cons_zero, List.getElem_cons_succ]); (try go_frame)
    refine wpAnyH_take (i := 15) (v := ?_) rfl (by kernel_rfl) (by kernel_rfl) (by kernel_rfl) (fun _ _ _ h => h) (Or.inl ⟨by kernel_rfl, ?_⟩) (by assumption) ?_
    rotate_left
    · intro w0 hS0; (try dsimp only at hS0); go_simp; (try with_reducible rfl)
    (try simp only [List.getElem_toArray, List.getElem_cons_zero, List.getElem_cons_succ]); (try go_frame)
    refine wpAnyH_ready (rs := [16]) (by kernel_rfl) (by simp) ?_
    refine AllReadyH.cons rfl (fun K hK => ?_) AllReadyH.nil
    · have r0 := hk0.res.cell 0
      have r1 := hk0.res.cell 1
      simp at r0 r1
      have rf := hk0.res.frozen
      have rl := hk0.res.lt
      have hk1 := hk0.put (by omega) (by omega) (fun q hq => by omega) (.string xb) (.slice A n c)
      go_simp
      refine hK.out _ _ (hk1.s) (fun hHeld => ?_)
      clear hK K r0 r1 rf rl
      (try simp only [List.getElem_toArray, List.getElem_cons_zero, List.getElem_cons_succ]); (try go_frame)
      refine wpAnyH_take (i := 17) (v := ?_) rfl (by kernel_rfl) (by kernel_rfl) (by kernel_rfl) (fun _ _ _ h => h) (Or.inl ⟨by kernel_rfl, ?_⟩) (by assumption) ?_
      rotate_left
      · intro w0 hS0; (try dsimp only at hS0); go_simp; (try with_reducible rfl)
      (try simp only [List.getElem_toArray, List.getElem_cons_zero, List.getElem_cons_succ]); (try go_frame)
      refine wpAnyH_done (by kernel_rfl) ?_ _
      go_wp2
      refine bodyPost_ret (ret_tree Tryz.results38 _ _ _ _ _ rfl hk1.res) rfl ?_
      exact HEND.out _ hk1
end Go.Proofs.YtnnnphammfeemaaGreat

namespace Go.Proofs.YtnnnphammfeemaaGreat
set_option linter.unusedVariables false
open Go.RowKit

theorem rdDv_spec (x l : List UInt8) (t : Tr) (h : rdDv x l = some t) : ∃ k, rdKind x = some k ∧ rdText l = some t ∧ isDv k t = true ∧ dvN t ≤ 600 := by
  unfold rdDv at h
  split at h
  · cases h
  · rename_i k hk
    split at h
    · cases h
    · rename_i u hu
      split at h
      · rename_i hc
        injection h with h
        subst h
        exact ⟨k, hk, hu, hc.1, hc.2⟩
      · cases h
end Go.Proofs.YtnnnphammfeemaaGreat

namespace Go.Proofs.YtnnnphammfeemaaGreat
set_option linter.unusedVariables false
open Go.RowKit

theorem row_low' {w : World} {b b' e size n : Nat} {v : Value} {xs : List Value} (h : w.ownsRow b e size v n xs) (hb : b' ≤ b) : w.ownsRow b' e size v n xs := by
  refine ⟨h.1, ?_⟩
  rcases h.2 with hn | ⟨g, cap, cur, hv, hbg, rest⟩
  · exact .inl hn
  · exact .inr ⟨g, cap, cur, hv, Nat.le_trans hb hbg, rest⟩
/-- Whether a text is a plain derivation. -/
def plR (l : List UInt8) : Bool := match rdDv (kindT false) l with
  | some t => dvP t
  | none => false
/-- The types of the ax of the derivation that a text is. -/
def dtR (x l : List UInt8) : Option (List (List UInt8)) := (rdDv x l).map dvA

theorem specDerivePlain_any (s : ByteArray) (w : World) (hm : s.size ≤ maxLen) :
    Calls Tryz.prog 22 #[.string s] w fun e w' => e = .returned (.bool (plR s.data.toList)) ∧ Below w.heap.size w w' := by
  have CR : Hid (∀ w, Calls Tryz.prog 38 #[.string ⟨#[102, 117, 108, 108]⟩, .string s] w (TrRet (rdDv (kindT false)) s w)) := Lib.hid fun w => l4Read_any (kindT false) s w hm
  go_enter Tryz.func22, Tryz.ntmps22
  go_wp2_with fail
  refine (CR.out _).mono ?_
  rintro e w1 ⟨hb1, ⟨t, v, hrd, rfl, htr⟩ | ⟨hrd, b, A, n, c, rfl⟩⟩
  · obtain ⟨A, n, c, rfl⟩ := htr.shape
    obtain ⟨k, hk, hrt, hd, hn⟩ := rdDv_spec _ _ _ hrd
    obtain rfl : k = false := by
      have : rdKind (kindT false) = some false := by decide
      rw [this] at hk
      injection hk with hk
      exact hk.symm
    have HR : Hid (plR s.data.toList = dvP t) := Lib.hid (by unfold plR; rw [hrd])
    have hz := hb1.size
    have hT := htr.alloc (fun q hq => hq.2) (.cells #[.string ⟨t.atom.toArray⟩, .slice A n c] 52)
    have C := Lib.hid (l4Plain_any false t hd _ _ _ hT (fun q hq => by have := hq.2; simp; omega))
    clear hrd htr hT hk hrt hd hn
    go_wp2_with fail
    refine C.out.mono ?_
    rintro e w2 ⟨rfl, hb2⟩
    have HB2 := Lib.hid ((hb1.alloc hz (.cells #[.string ⟨t.atom.toArray⟩, .slice A n c] 52)).trans (hb2.mono (by simp; omega)))
    clear hb2
    go_wp2_with fail
    go_ret
    exact ⟨ret_bool (by rw [HR.out]), HB2.out⟩
  · have HR : Hid (plR s.data.toList = false) := Lib.hid (by unfold plR; rw [hrd])
    have hz := hb1.size
    clear hrd
    go_wp2
    go_ret
    exact ⟨ret_bool (by rw [HR.out]), hb1.alloc hz _⟩

set_option maxRecDepth 100000 in
theorem specDeriveTypes_any (x : List UInt8) (s : ByteArray) (w : World) (hm : s.size ≤ maxLen) :
    Calls Tryz.prog 17 #[.string ⟨x.toArray⟩, .string s] w fun e w' => ∃ v, e = .returned (.tuple #[v, .bool (dtR x s.data.toList).isSome]) ∧ SRow w' w.heap.size v ((dtR x s.data.toList).getD []) ∧ Below w.heap.size w w' := by
  go_enter Tryz.func17, Tryz.ntmps17
  go_wp2_with fail
  refine (l4Read_any x s _ hm).mono ?_
  rintro e w1 ⟨hb1, ⟨t, v, hrd, rfl, htr⟩ | ⟨hrd, b, A, n, c, rfl⟩⟩
  · obtain ⟨A, n, c, rfl⟩ := htr.shape
    obtain ⟨k, hk, hrt, hd, hn⟩ := rdDv_spec _ _ _ hrd
    have HR : Hid (dtR x s.data.toList = some (dvA t)) := Lib.hid (by unfold dtR; rw [hrd]; rfl)
    have hz := hb1.size
    have hok := rdText_ok _ _ hrt
    have hlen : (wrTr t).length ≤ 1000000 := by rw [rdText_text _ _ hrt]; omega
    have hB : Below w.heap.size w ((w1.alloc (.cells #[.string ⟨t.atom.toArray⟩, .slice A n c] 52)).alloc (.cells #[] 9)) := (hb1.alloc hz _).alloc (by simp; omega) _
    have hT := (htr.alloc (fun q hq => hq.2) (.cells #[.string ⟨t.atom.toArray⟩, .slice A n c] 52)).alloc (fun q hq => by have := hq.2; simp; omega) (.cells #[] 9)
    have hrow : SRow ((w1.alloc (.cells #[.string ⟨t.atom.toArray⟩, .slice A n c] 52)).alloc (.cells #[] 9)) (w1.heap.size + 1) (.slice (some ⟨w1.heap.size + 1, 0, none⟩) ([] : List (List UInt8)).length 0) [] := by
      have h := World.ownsRow_made (base := w1.heap.size + 1) (e := 9) (size := 1) (w1.alloc (.cells #[.string ⟨t.atom.toArray⟩, .slice A n c] 52)) #[] 0 (by simp) (Nat.zero_le _) rfl
      unfold SRow
      simpa using h
    have C := Lib.hid (l4Axioms_any k t hd _ [] (w1.heap.size + 1) 0 (w1.heap.size + 1) _ _ hT (fun q hq => by have := hq.2; omega) (by simp) hrow hlen (by simp; omega))
    have HB := Lib.hid hB
    clear hrd htr hT hk hrt hd hn hrow hB hok hlen
    go_wp2_with fail
    refine C.out.mono ?_
    rintro e w2 ⟨g', c', rfl, hrow, hg, hat⟩
    have HROW := Lib.hid hrow
    have HB2 := Lib.hid (HB.out.grown hg (by simp; omega) (fun q e => by injection e with e; omega))
    clear hrow hg hat
    go_wp2_with fail
    go_ret2
    refine ⟨_, by rw [HR.out]; rfl, ?_, HB2.out⟩
    rw [HR.out]
    have h := HROW.out
    simp only [List.nil_append] at h
    exact row_low' h (by omega)
  · have HR : Hid (dtR x s.data.toList = none) := Lib.hid (by unfold dtR; rw [hrd]; rfl)
    have hz := hb1.size
    clear hrd
    go_wp2_with fail
    go_ret2
    refine ⟨_, by rw [HR.out]; rfl, ?_, ((hb1.alloc hz _).alloc (by simp; omega) _)⟩
    rw [HR.out]
    have h := World.ownsRow_made (base := w.heap.size) (e := 9) (size := 1) (w1.alloc (.cells #[.string b, .slice A n c] 52)) #[] 0 (by simp; omega) (Nat.zero_le _) rfl
    unfold SRow
    simpa using h
end Go.Proofs.YtnnnphammfeemaaGreat

