/- The model tells derivations. -/
import Derived.Test.YtnnnphammfeemaaMC
import Derived.Test.YtnnnphammfeemaaDV
namespace Go.Proofs.Ytnnnphammfeemaa
set_option linter.unusedVariables false
set_option linter.unusedSimpArgs false
open Go.RowKit

/-- A kind's word. -/
def kdT (k : Bool) : List UInt8 := if k then [104, 101, 97, 100] else [102, 117, 108, 108]
/-- What l4Is answers of a tree. -/
def DvSaid (k : Bool) (t : Tr) : Prop := ∀ (v : Value) (w : World) (P : Nat → Prop), TAt w P t v → (∀ b, P b → b < w.heap.size) → (wrTr t).length ≤ 1000000 → trAtoms t ≤ 10000 →
    Calls Try.prog 15 #[.string ⟨(kdT k).toArray⟩, v] w fun e w' => e = .returned (.bool (isDv k t)) ∧ Below w.heap.size w w'
theorem isDvs_next (k : Bool) (r : List Tr) (j : Nat) (t : Tr) (h : r[j]? = some t) : isDvs k (r.drop j) = (isDv k t && isDvs k (r.drop (j + 1))) := by
  obtain ⟨hj, e⟩ := List.getElem?_eq_some_iff.1 h
  rw [List.drop_eq_getElem_cons hj, e]
  rfl

set_option maxRecDepth 100000 in
set_option maxHeartbeats 2000000 in
theorem l4All_of (k : Bool) (p : Tr) (r : List Tr) (ih : ∀ t ∈ r, DvSaid k t) (v : Value) (w : World) (P : Nat → Prop) (ht : TAt w P (.mk [] (p :: r)) v) (hP : ∀ b, P b → b < w.heap.size) (hl : (wrTr (.mk [] (p :: r))).length ≤ 1000000) (hat : trAtoms (.mk [] (p :: r)) ≤ 10000) :
    Calls Try.prog 24 #[.string ⟨(kdT k).toArray⟩, v] w fun e w' => e = .returned (.bool (isDvs k r)) ∧ Below w.heap.size w w' := by
  obtain ⟨vp, rfl, hle, hle2, ⟨h0, _⟩ | ⟨_, g, cap, xs, rfl, hcap, hPg, hc, hvs⟩⟩ := ht.form
  · cases h0
  obtain ⟨N, hN⟩ : ∃ N, (p :: r).length = N := ⟨_, rfl⟩
  have HB : Hid (BgIn w P g N (p :: r) xs) := Lib.hid ⟨hc, hvs, hN, fun t ht => by have := wrTr_part t _ ht; omega⟩
  have HAT : Hid (∀ t ∈ r, trAtoms t ≤ 10000) := Lib.hid fun t h => by
    have h1 := trsAtoms_mem t (p :: r) (List.mem_cons_of_mem _ h)
    simp only [trAtoms, if_true] at hat
    omega
  rw [hN] at ht hle2 hcap ⊢
  have HN : Hid (r.length + 1 = N) := Lib.hid hN
  have HP := Lib.hid hP
  have HG := Lib.hid hPg
  have IH := Lib.hid ih
  clear ht hP hl ih hc hvs hN hPg hat
  go_enter Try.func24, Try.ntmps24
  go_wp2_with fail
  go_loopw [5] (fun i wr => ∃ (j : Nat), 1 ≤ j ∧ j ≤ N ∧ i = .int .i64 (j : Nat) ∧ Hid (isDvs k r = isDvs k (r.drop (j - 1))) ∧ Below w.heap.size w wr ∧ Blk wr w.heap.size 26 #[.string ⟨#[]⟩, .slice (some ⟨g, 0, none⟩) N cap]) (fun i _ => N - (intOf i).toNat)
  case atStart => exact ⟨1, by omega, by have := HN.out; omega, rfl, Lib.hid rfl, (Below.refl _ _).alloc (Nat.le_refl _) _, Blk.new _ _ _⟩
  case round =>
    obtain ⟨j, hj1, hjN, rfl, HS, hbw, hblk⟩ := hrel
    have r1 := hblk.cell 1
    have hlt := hblk.lt
    simp at r1
    have hall : Hid (∀ q, P q → q < wr.heap.size) := Lib.hid fun q hq => by have := HP.out q hq; have := hbw.size; omega
    by_cases hkl : j < N
    · have hkr : j - 1 < r.length := by have := HN.out; omega
      obtain ⟨t1, ht1⟩ : ∃ t1, r[j - 1]? = some t1 := ⟨r[j - 1], by simp⟩
      have hp1 : (p :: r)[j]? = some t1 := by
        obtain ⟨i, rfl⟩ : ∃ i, j = i + 1 := ⟨j - 1, by omega⟩
        simpa using ht1
      obtain ⟨A, n, c, x1, y1, tr1, hl1⟩ := HB.out.part HP.out HG.out hbw j t1 hp1
      have HST := Lib.hid (show isDvs k (r.drop (j - 1)) = (isDv k t1 && isDvs k (r.drop j)) by
        have := isDvs_next k r (j - 1) t1 ht1
        rwa [show j - 1 + 1 = j by omega] at this)
      have HM1 := List.mem_of_getElem? ht1
      have C := Lib.hid (IH.out t1 HM1 _ wr P tr1 hall.out hl1 (HAT.out t1 HM1))
      have hb0 : (0 : Int) ≤ (j : Int) := by omega
      have hb1 : (j : Int) < (N : Int) := by omega
      clear ht1 hp1 tr1 HM1 hkr
      generalize isDv k t1 = q at C HST
      cases q
      · go_wp2_with fail
        refine C.out.mono ?_
        rintro e w1 ⟨rfl, hb1'⟩
        have hB := Lib.hid (hbw.trans (hb1'.mono hbw.size))
        clear hb1'
        go_wp2_with fail
        go_ret
        exact ⟨ret_bool (by rw [HS.out, HST.out]; rfl), hB.out⟩
      · go_wp2_with fail
        refine C.out.mono ?_
        rintro e w1 ⟨rfl, hb1'⟩
        have hB := hbw.trans (hb1'.mono hbw.size)
        have hblk1 := hblk.below hb1' hblk.lt
        clear hb1'
        go_wp2_with fail
        go_roundw
        case rel => exact ⟨j + 1, by omega, by omega, by go_num, Lib.hid (by rw [HS.out, HST.out]; simp), hB, hblk1⟩
        case measure => simp [intOf]; omega
    · have HF : Hid (isDvs k r = true) := Lib.hid (by rw [HS.out, List.drop_of_length_le (by have := HN.out; omega)]; rfl)
      go_wp2_with fail
      go_ret
      exact ⟨ret_bool (by rw [HF.out]), hbw⟩
/-- What l4Is answers where no word stands first. -/
theorem head_of (pa : List UInt8) (pq r : List Tr) (v : Value) (w : World) (P : Nat → Prop) (ht : TAt w P (.mk [] (.mk pa pq :: r)) v) (hP : ∀ b, P b → b < w.heap.size) :
    ∀ o, Calls Try.prog 19 #[v] (w.alloc o) fun e w' => e = .returned (.string ⟨pa.toArray⟩) ∧ Below (w.alloc o).heap.size (w.alloc o) w' := by
  intro o
  refine (l1Head_any _ v (w.alloc o) P (ht.alloc hP o) (fun b hb => by have := hP b hb; simp; omega)).mono fun e w2 ⟨he, hb⟩ => ⟨?_, hb⟩
  simpa [Tr.atom, Tr.parts] using he
theorem head_none (a : List UInt8) (ps : List Tr) (h : ¬ (a = [] ∧ ps ≠ [])) (v : Value) (w : World) (P : Nat → Prop) (ht : TAt w P (.mk a ps) v) (hP : ∀ b, P b → b < w.heap.size) :
    ∀ o, Calls Try.prog 19 #[v] (w.alloc o) fun e w' => e = .returned (.string ⟨#[]⟩) ∧ Below (w.alloc o).heap.size (w.alloc o) w' := by
  intro o
  refine (l1Head_any (.mk a ps) v (w.alloc o) P (ht.alloc hP o) (fun b hb => by have := hP b hb; simp; omega)).mono fun e w2 ⟨he, hb⟩ => ⟨?_, hb⟩
  exact he.trans (congrArg (fun l : List UInt8 => Ending.returned (.string ⟨l.toArray⟩)) (head_no a ps h).2)

set_option maxRecDepth 100000 in
theorem l4Is_no (k : Bool) (a : List UInt8) (ps : List Tr) (h : ¬ (a = [] ∧ ps ≠ [])) : DvSaid k (.mk a ps) := by
  intro v w P ht hP hl hat
  have HX : Hid (isDv k (.mk a ps) = false) := Lib.hid (by
    unfold isDv
    by_cases ha : a = []
    · have hp : ps = [] := by
        rcases Classical.em (ps = []) with h1 | h1
        · exact h1
        · exact absurd ⟨ha, h1⟩ h
      subst ha hp
      rfl
    · rw [if_neg ha])
  have HH := Lib.hid (head_none a ps h v w P ht hP)
  obtain ⟨A, n, c, rfl⟩ := ht.shape
  clear h ht hP hl hat
  go_enter Try.func15, Try.ntmps15
  go_wp2_with fail
  refine (HH.out _).mono ?_
  rintro e w1 ⟨rfl, hb1⟩
  have hB1 : Below w.heap.size w w1 := ((Below.refl _ _).alloc (Nat.le_refl _) _).trans (hb1.mono (by simp))
  go_wp2_with fail
  go_ret
  exact ⟨ret_bool (by rw [HX.out]), hB1⟩

/-- A node's word is none of the six. -/
def noWord (x : List UInt8) : Prop := (x == [97, 120]) = false ∧ (x == [102, 117, 110]) = false ∧ (x == [116, 102, 117, 110]) = false ∧ (x == [104, 97, 112]) = false ∧ (x == [97, 112, 112]) = false ∧ (x == [116, 97, 112]) = false
theorem axL_no (r : List Tr) (h : ¬ r.length = 1) : axL r = false := by
  match r, h with
  | [], _ => rfl
  | [t], h => exact absurd rfl h
  | t :: u :: r', _ => rfl
theorem isDv_node (k : Bool) (pa : List UInt8) (pq r : List Tr) : isDv k (.mk [] (.mk pa pq :: r)) = if pa = sAx then axL r else ndOk k pa r.length && isDvs k r := by
  unfold isDv isDvP
  rw [if_pos rfl]
  rfl

set_option maxRecDepth 100000 in
theorem l4Is_word (k : Bool) (pa : List UInt8) (pq r : List Tr) (hno : noWord pa) : DvSaid k (.mk [] (.mk pa pq :: r)) := by
  intro v w P ht hP hl hat
  have HX : Hid (isDv k (.mk [] (.mk pa pq :: r)) = false) := Lib.hid (by
    obtain ⟨h1, h2, h3, h4, h5, h6⟩ := hno
    rw [isDv_node]
    simp only [beq_eq_false_iff_ne, ne_eq] at h1 h2 h3 h4 h5 h6
    simp only [sAx, ndOk, sFun, sTfun, sHap, sApp, sTap, h1, h2, h3, h4, h5, h6, if_false, Bool.false_and])
  have HH := Lib.hid (head_of pa pq r v w P ht hP)
  obtain ⟨A, n, c, rfl⟩ := ht.shape
  obtain ⟨h1, h2, h3, h4, h5, h6⟩ := hno
  clear ht hP hl hat
  go_enter Try.func15, Try.ntmps15
  go_wp2_with fail
  refine (HH.out _).mono ?_
  rintro e w1 ⟨rfl, hb1⟩
  have hB1 : Below w.heap.size w w1 := ((Below.refl _ _).alloc (Nat.le_refl _) _).trans (hb1.mono (by simp))
  go_wp2_with fail
  go_ret
  exact ⟨ret_bool (by rw [HX.out]), hB1⟩

/-- What stands within a node, for the walk. -/
structure NdIn (w w1 : World) (P : Nat → Prop) (g N cap : Nat) (p : Tr) (r : List Tr) : Prop where
  blk : Blk w1 w.heap.size 26 #[.string ⟨#[]⟩, .slice (some ⟨g, 0, none⟩) N cap]
  below : Below w.heap.size w w1
  len : r.length + 1 = N
  all : ∀ q, P q → q < w1.heap.size
  tree : TAt w1 P (.mk [] (p :: r)) (.agg #[.string ⟨#[]⟩, .slice (some ⟨g, 0, none⟩) N cap])
  short : (wrTr (.mk [] (p :: r))).length ≤ 1000000
  few : trAtoms (.mk [] (p :: r)) ≤ 10000
theorem NdIn.first {w w1 : World} {P : Nat → Prop} {g N cap : Nat} {p : Tr} {r : List Tr} (h : NdIn w w1 P g N cap p r) (t : Tr) (ht : r[0]? = some t) :
    ∃ A n c, w1.cell? ⟨g, 2, none⟩ = some (.string ⟨t.atom.toArray⟩) ∧ w1.cell? ⟨g, 3, none⟩ = some (.slice A n c) ∧ TAt w1 P t (.agg #[.string ⟨t.atom.toArray⟩, .slice A n c]) ∧ (wrTr t).length ≤ 1000000 ∧ trAtoms t ≤ 10000 := by
  obtain ⟨g', cap', x, y, hv, hPg, hx, hy, hxy⟩ := h.tree.some_ 1 t (by simpa using ht)
  have hg : g = g' := by simp at hv; exact hv.1
  subst hg
  obtain ⟨A, n, c, e⟩ := hxy.shape
  simp at e
  obtain ⟨rfl, rfl⟩ := e
  have hm : t ∈ p :: r := List.mem_cons_of_mem _ (List.mem_of_getElem? ht)
  refine ⟨A, n, c, hx, hy, hxy, ?_, ?_⟩
  · have := wrTr_part t _ hm; have := h.short; omega
  · have h1 := trsAtoms_mem t (p :: r) hm
    have h2 := h.few
    simp only [trAtoms, if_true] at h2
    omega

set_option maxRecDepth 100000 in
set_option maxHeartbeats 1000000 in
theorem l4Is_fun (k : Bool) (pq r : List Tr) (ih : ∀ t ∈ r, DvSaid k t) : DvSaid k (.mk [] (.mk [102, 117, 110] pq :: r)) := by
  have IH := Lib.hid ih
  clear ih
  intro v w P ht hP hl hat
  have HH := Lib.hid (head_of [102, 117, 110] pq r v w P ht hP)
  obtain ⟨vp, rfl, hle, hle2, ⟨h0, _⟩ | ⟨_, g, cap, xs, rfl, hcap, hPg, hc, hvs⟩⟩ := ht.form
  · cases h0
  obtain ⟨N, hN⟩ : ∃ N, (Tr.mk [102, 117, 110] pq :: r).length = N := ⟨_, rfl⟩
  rw [hN] at ht hle2 hcap HH ⊢
  have HX := Lib.hid (isDv_node k [102, 117, 110] pq r)
  have HI : Hid (∀ w1, Below w.heap.size w w1 → Blk w1 w.heap.size 26 #[.string ⟨#[]⟩, .slice (some ⟨g, 0, none⟩) N cap] → NdIn w w1 P g N cap (.mk [102, 117, 110] pq) r) :=
    Lib.hid fun w1 hb hk => ⟨hk, hb, by simpa using hN, fun q hq => Nat.lt_of_lt_of_le (hP q hq) hb.size, ht.below hb hP, hl, hat⟩
  clear ht hP hl hat hc hvs hPg hle
  go_enter Try.func15, Try.ntmps15
  go_wp2_with fail
  refine (HH.out _).mono ?_
  rintro e w1 ⟨rfl, hb1⟩
  have hB1 : Below w.heap.size w w1 := ((Below.refl _ _).alloc (Nat.le_refl _) _).trans (hb1.mono (by simp))
  have hr := (Blk.new w 26 #[.string ⟨#[]⟩, .slice (some ⟨g, 0, none⟩) N cap]).below hb1 (by simp)
  have H := Lib.hid (HI.out w1 hB1 hr)
  have hNr := H.out.len
  have r0 := hr.cell 0
  have r1 := hr.cell 1
  have hlt := hr.lt
  simp at r0 r1
  clear hN hb1
  by_cases h2 : N = 2
  · obtain ⟨t, ht1⟩ : ∃ t, r = [t] := List.length_eq_one_iff.1 (by omega)
    first
    | skip
      obtain ⟨A, n, c, x1, y1, tr1, hl1, ha1⟩ := H.out.first t (by rw [ht1]; rfl)
      have C := Lib.hid (IH.out t (by rw [ht1]; simp) _ w1 P tr1 H.out.all hl1 ha1)
      have HR : Hid (isDv k (.mk [] (.mk [102, 117, 110] pq :: r)) = isDv k t) := Lib.hid (by rw [HX.out, ht1]; cases k <;> simp [sAx, ndOk, sFun, sTfun, sHap, isDvs])
      subst h2
      clear tr1 hNr ht1
      go_wp2_with fail
      refine C.out.mono ?_
      rintro e w2 ⟨rfl, hb2⟩
      have hB := Lib.hid (hB1.trans (hb2.mono hB1.size))
      clear hb2
      go_wp2_with fail
      go_ret
      exact ⟨ret_bool (by rw [HR.out]), hB.out⟩
  · have HR : Hid (isDv k (.mk [] (.mk [102, 117, 110] pq :: r)) = false) := Lib.hid (by
      rw [HX.out]
      have : ¬ r.length = 1 := by omega
      cases k <;> simp [sAx, ndOk, sFun, sTfun, sHap, this])
    have h2b : ((N : Int) == 2) = false := by simp; omega
    go_wp2_with fail
    go_ret
    exact ⟨ret_bool (by rw [HR.out]), hB1⟩

set_option maxRecDepth 100000 in
set_option maxHeartbeats 1000000 in
theorem l4Is_tfun (k : Bool) (pq r : List Tr) (ih : ∀ t ∈ r, DvSaid k t) : DvSaid k (.mk [] (.mk [116, 102, 117, 110] pq :: r)) := by
  have IH := Lib.hid ih
  clear ih
  intro v w P ht hP hl hat
  have HH := Lib.hid (head_of [116, 102, 117, 110] pq r v w P ht hP)
  obtain ⟨vp, rfl, hle, hle2, ⟨h0, _⟩ | ⟨_, g, cap, xs, rfl, hcap, hPg, hc, hvs⟩⟩ := ht.form
  · cases h0
  obtain ⟨N, hN⟩ : ∃ N, (Tr.mk [116, 102, 117, 110] pq :: r).length = N := ⟨_, rfl⟩
  rw [hN] at ht hle2 hcap HH ⊢
  have HX := Lib.hid (isDv_node k [116, 102, 117, 110] pq r)
  have HI : Hid (∀ w1, Below w.heap.size w w1 → Blk w1 w.heap.size 26 #[.string ⟨#[]⟩, .slice (some ⟨g, 0, none⟩) N cap] → NdIn w w1 P g N cap (.mk [116, 102, 117, 110] pq) r) :=
    Lib.hid fun w1 hb hk => ⟨hk, hb, by simpa using hN, fun q hq => Nat.lt_of_lt_of_le (hP q hq) hb.size, ht.below hb hP, hl, hat⟩
  clear ht hP hl hat hc hvs hPg hle
  go_enter Try.func15, Try.ntmps15
  go_wp2_with fail
  refine (HH.out _).mono ?_
  rintro e w1 ⟨rfl, hb1⟩
  have hB1 : Below w.heap.size w w1 := ((Below.refl _ _).alloc (Nat.le_refl _) _).trans (hb1.mono (by simp))
  have hr := (Blk.new w 26 #[.string ⟨#[]⟩, .slice (some ⟨g, 0, none⟩) N cap]).below hb1 (by simp)
  have H := Lib.hid (HI.out w1 hB1 hr)
  have hNr := H.out.len
  have r0 := hr.cell 0
  have r1 := hr.cell 1
  have hlt := hr.lt
  simp at r0 r1
  clear hN hb1
  by_cases h2 : N = 2
  · obtain ⟨t, ht1⟩ : ∃ t, r = [t] := List.length_eq_one_iff.1 (by omega)
    first
    | skip
      obtain ⟨A, n, c, x1, y1, tr1, hl1, ha1⟩ := H.out.first t (by rw [ht1]; rfl)
      have C := Lib.hid (IH.out t (by rw [ht1]; simp) _ w1 P tr1 H.out.all hl1 ha1)
      have HR : Hid (isDv k (.mk [] (.mk [116, 102, 117, 110] pq :: r)) = isDv k t) := Lib.hid (by rw [HX.out, ht1]; cases k <;> simp [sAx, ndOk, sFun, sTfun, sHap, isDvs])
      subst h2
      clear tr1 hNr ht1
      go_wp2_with fail
      refine C.out.mono ?_
      rintro e w2 ⟨rfl, hb2⟩
      have hB := Lib.hid (hB1.trans (hb2.mono hB1.size))
      clear hb2
      go_wp2_with fail
      go_ret
      exact ⟨ret_bool (by rw [HR.out]), hB.out⟩
  · have HR : Hid (isDv k (.mk [] (.mk [116, 102, 117, 110] pq :: r)) = false) := Lib.hid (by
      rw [HX.out]
      have : ¬ r.length = 1 := by omega
      cases k <;> simp [sAx, ndOk, sFun, sTfun, sHap, this])
    have h2b : ((N : Int) == 2) = false := by simp; omega
    go_wp2_with fail
    go_ret
    exact ⟨ret_bool (by rw [HR.out]), hB1⟩

set_option maxRecDepth 100000 in
set_option maxHeartbeats 1000000 in
theorem l4Is_hap (k : Bool) (pq r : List Tr) (ih : ∀ t ∈ r, DvSaid k t) : DvSaid k (.mk [] (.mk [104, 97, 112] pq :: r)) := by
  have IH := Lib.hid ih
  clear ih
  intro v w P ht hP hl hat
  have HH := Lib.hid (head_of [104, 97, 112] pq r v w P ht hP)
  obtain ⟨vp, rfl, hle, hle2, ⟨h0, _⟩ | ⟨_, g, cap, xs, rfl, hcap, hPg, hc, hvs⟩⟩ := ht.form
  · cases h0
  obtain ⟨N, hN⟩ : ∃ N, (Tr.mk [104, 97, 112] pq :: r).length = N := ⟨_, rfl⟩
  rw [hN] at ht hle2 hcap HH ⊢
  have HX := Lib.hid (isDv_node k [104, 97, 112] pq r)
  have HI : Hid (∀ w1, Below w.heap.size w w1 → Blk w1 w.heap.size 26 #[.string ⟨#[]⟩, .slice (some ⟨g, 0, none⟩) N cap] → NdIn w w1 P g N cap (.mk [104, 97, 112] pq) r) :=
    Lib.hid fun w1 hb hk => ⟨hk, hb, by simpa using hN, fun q hq => Nat.lt_of_lt_of_le (hP q hq) hb.size, ht.below hb hP, hl, hat⟩
  clear ht hP hl hat hc hvs hPg hle
  go_enter Try.func15, Try.ntmps15
  go_wp2_with fail
  refine (HH.out _).mono ?_
  rintro e w1 ⟨rfl, hb1⟩
  have hB1 : Below w.heap.size w w1 := ((Below.refl _ _).alloc (Nat.le_refl _) _).trans (hb1.mono (by simp))
  have hr := (Blk.new w 26 #[.string ⟨#[]⟩, .slice (some ⟨g, 0, none⟩) N cap]).below hb1 (by simp)
  have H := Lib.hid (HI.out w1 hB1 hr)
  have hNr := H.out.len
  have r0 := hr.cell 0
  have r1 := hr.cell 1
  have hlt := hr.lt
  simp at r0 r1
  clear hN hb1
  by_cases h2 : N = 2
  · obtain ⟨t, ht1⟩ : ∃ t, r = [t] := List.length_eq_one_iff.1 (by omega)
    first
    | skip
      obtain ⟨A, n, c, x1, y1, tr1, hl1, ha1⟩ := H.out.first t (by rw [ht1]; rfl)
      have C := Lib.hid (IH.out t (by rw [ht1]; simp) _ w1 P tr1 H.out.all hl1 ha1)
      have HR : Hid (isDv k (.mk [] (.mk [104, 97, 112] pq :: r)) = (k && isDv k t)) := Lib.hid (by rw [HX.out, ht1]; cases k <;> simp [sAx, ndOk, sFun, sTfun, sHap, isDvs])
      subst h2
      clear tr1 hNr ht1
      cases k
      · go_wp2_with fail
        go_ret
        exact ⟨ret_bool (by rw [HR.out]; rfl), hB1⟩
      · go_wp2_with fail
        refine C.out.mono ?_
        rintro e w2 ⟨rfl, hb2⟩
        have hB := Lib.hid (hB1.trans (hb2.mono hB1.size))
        clear hb2
        go_wp2_with fail
        go_ret
        exact ⟨ret_bool (by rw [HR.out]; rfl), hB.out⟩
  · have HR : Hid (isDv k (.mk [] (.mk [104, 97, 112] pq :: r)) = false) := Lib.hid (by
      rw [HX.out]
      have : ¬ r.length = 1 := by omega
      cases k <;> simp [sAx, ndOk, sFun, sTfun, sHap, this])
    have h2b : ((N : Int) == 2) = false := by simp; omega
    cases k
    · go_wp2_with fail
      go_ret
      exact ⟨ret_bool (by rw [HR.out]), hB1⟩
    · go_wp2_with fail
      go_ret
      exact ⟨ret_bool (by rw [HR.out]), hB1⟩

set_option maxRecDepth 100000 in
set_option maxHeartbeats 1000000 in
theorem l4Is_app (k : Bool) (pq r : List Tr) (ih : ∀ t ∈ r, DvSaid k t) : DvSaid k (.mk [] (.mk [97, 112, 112] pq :: r)) := by
  have IH := Lib.hid ih
  clear ih
  intro v w P ht hP hl hat
  have HH := Lib.hid (head_of [97, 112, 112] pq r v w P ht hP)
  obtain ⟨vp, rfl, hle, hle2, ⟨h0, _⟩ | ⟨_, g, cap, xs, rfl, hcap, hPg, hc, hvs⟩⟩ := ht.form
  · cases h0
  obtain ⟨N, hN⟩ : ∃ N, (Tr.mk [97, 112, 112] pq :: r).length = N := ⟨_, rfl⟩
  rw [hN] at ht hle2 hcap HH ⊢
  have HX := Lib.hid (isDv_node k [97, 112, 112] pq r)
  have HI : Hid (∀ w1, Below w.heap.size w w1 → Blk w1 w.heap.size 26 #[.string ⟨#[]⟩, .slice (some ⟨g, 0, none⟩) N cap] → NdIn w w1 P g N cap (.mk [97, 112, 112] pq) r) :=
    Lib.hid fun w1 hb hk => ⟨hk, hb, by simpa using hN, fun q hq => Nat.lt_of_lt_of_le (hP q hq) hb.size, ht.below hb hP, hl, hat⟩
  clear ht hP hl hat hc hvs hPg hle
  go_enter Try.func15, Try.ntmps15
  go_wp2_with fail
  refine (HH.out _).mono ?_
  rintro e w1 ⟨rfl, hb1⟩
  have hB1 : Below w.heap.size w w1 := ((Below.refl _ _).alloc (Nat.le_refl _) _).trans (hb1.mono (by simp))
  have hr := (Blk.new w 26 #[.string ⟨#[]⟩, .slice (some ⟨g, 0, none⟩) N cap]).below hb1 (by simp)
  have H := Lib.hid (HI.out w1 hB1 hr)
  have hNr := H.out.len
  have r0 := hr.cell 0
  have r1 := hr.cell 1
  have hlt := hr.lt
  simp at r0 r1
  clear hN hb1
  have C := Lib.hid (l4All_of k _ r IH.out _ w1 P H.out.tree H.out.all H.out.short H.out.few)
  by_cases h2 : 2 ≤ N
  · have HR : Hid (isDv k (.mk [] (.mk [97, 112, 112] pq :: r)) = isDvs k r) := Lib.hid (by
      rw [HX.out]
      have : 1 ≤ r.length := by omega
      simp [sAx, ndOk, sFun, sTfun, sHap, sApp, this])
    go_wp2_with fail
    refine C.out.mono ?_
    rintro e w2 ⟨rfl, hb2⟩
    have hB := Lib.hid (hB1.trans (hb2.mono hB1.size))
    clear hb2
    go_wp2_with fail
    go_ret
    exact ⟨ret_bool (by rw [HR.out]), hB.out⟩
  · have HR : Hid (isDv k (.mk [] (.mk [97, 112, 112] pq :: r)) = false) := Lib.hid (by
      rw [HX.out]
      have : ¬ 1 ≤ r.length := by omega
      simp [sAx, ndOk, sFun, sTfun, sHap, sApp, this])
    go_wp2_with fail
    go_ret
    exact ⟨ret_bool (by rw [HR.out]), hB1⟩

set_option maxRecDepth 100000 in
set_option maxHeartbeats 1000000 in
theorem l4Is_tap (k : Bool) (pq r : List Tr) (ih : ∀ t ∈ r, DvSaid k t) : DvSaid k (.mk [] (.mk [116, 97, 112] pq :: r)) := by
  have IH := Lib.hid ih
  clear ih
  intro v w P ht hP hl hat
  have HH := Lib.hid (head_of [116, 97, 112] pq r v w P ht hP)
  obtain ⟨vp, rfl, hle, hle2, ⟨h0, _⟩ | ⟨_, g, cap, xs, rfl, hcap, hPg, hc, hvs⟩⟩ := ht.form
  · cases h0
  obtain ⟨N, hN⟩ : ∃ N, (Tr.mk [116, 97, 112] pq :: r).length = N := ⟨_, rfl⟩
  rw [hN] at ht hle2 hcap HH ⊢
  have HX := Lib.hid (isDv_node k [116, 97, 112] pq r)
  have HI : Hid (∀ w1, Below w.heap.size w w1 → Blk w1 w.heap.size 26 #[.string ⟨#[]⟩, .slice (some ⟨g, 0, none⟩) N cap] → NdIn w w1 P g N cap (.mk [116, 97, 112] pq) r) :=
    Lib.hid fun w1 hb hk => ⟨hk, hb, by simpa using hN, fun q hq => Nat.lt_of_lt_of_le (hP q hq) hb.size, ht.below hb hP, hl, hat⟩
  clear ht hP hl hat hc hvs hPg hle
  go_enter Try.func15, Try.ntmps15
  go_wp2_with fail
  refine (HH.out _).mono ?_
  rintro e w1 ⟨rfl, hb1⟩
  have hB1 : Below w.heap.size w w1 := ((Below.refl _ _).alloc (Nat.le_refl _) _).trans (hb1.mono (by simp))
  have hr := (Blk.new w 26 #[.string ⟨#[]⟩, .slice (some ⟨g, 0, none⟩) N cap]).below hb1 (by simp)
  have H := Lib.hid (HI.out w1 hB1 hr)
  have hNr := H.out.len
  have r0 := hr.cell 0
  have r1 := hr.cell 1
  have hlt := hr.lt
  simp at r0 r1
  clear hN hb1
  have C := Lib.hid (l4All_of k _ r IH.out _ w1 P H.out.tree H.out.all H.out.short H.out.few)
  by_cases h2 : N = 3
  · have HR : Hid (isDv k (.mk [] (.mk [116, 97, 112] pq :: r)) = (!k && isDvs k r)) := Lib.hid (by
      rw [HX.out]
      have : r.length = 2 := by omega
      cases k <;> simp [sAx, ndOk, sFun, sTfun, sHap, sApp, sTap, this])
    subst h2
    clear hNr
    cases k
    · go_wp2_with fail
      refine C.out.mono ?_
      rintro e w2 ⟨rfl, hb2⟩
      have hB := Lib.hid (hB1.trans (hb2.mono hB1.size))
      clear hb2
      go_wp2_with fail
      go_ret
      exact ⟨ret_bool (by rw [HR.out]; rfl), hB.out⟩
    · go_wp2_with fail
      go_ret
      exact ⟨ret_bool (by rw [HR.out]; rfl), hB1⟩
  · have HR : Hid (isDv k (.mk [] (.mk [116, 97, 112] pq :: r)) = false) := Lib.hid (by
      rw [HX.out]
      have : ¬ r.length = 2 := by omega
      cases k <;> simp [sAx, ndOk, sFun, sTfun, sHap, sApp, sTap, this])
    have h3b : ((N : Int) == 3) = false := by simp; omega
    cases k
    · go_wp2_with fail
      go_ret
      exact ⟨ret_bool (by rw [HR.out]), hB1⟩
    · go_wp2_with fail
      go_ret
      exact ⟨ret_bool (by rw [HR.out]), hB1⟩

set_option maxRecDepth 100000 in
set_option maxHeartbeats 1000000 in
theorem l4Is_ax (k : Bool) (pq r : List Tr) : DvSaid k (.mk [] (.mk [97, 120] pq :: r)) := by
  intro v w P ht hP hl hat
  have HH := Lib.hid (head_of [97, 120] pq r v w P ht hP)
  obtain ⟨vp, rfl, hle, hle2, ⟨h0, _⟩ | ⟨_, g, cap, xs, rfl, hcap, hPg, hc, hvs⟩⟩ := ht.form
  · cases h0
  obtain ⟨N, hN⟩ : ∃ N, (Tr.mk [97, 120] pq :: r).length = N := ⟨_, rfl⟩
  rw [hN] at ht hle2 hcap HH ⊢
  have HX := Lib.hid (isDv_node k [97, 120] pq r)
  have HI : Hid (∀ w1, Below w.heap.size w w1 → Blk w1 w.heap.size 26 #[.string ⟨#[]⟩, .slice (some ⟨g, 0, none⟩) N cap] → NdIn w w1 P g N cap (.mk [97, 120] pq) r) :=
    Lib.hid fun w1 hb hk => ⟨hk, hb, by simpa using hN, fun q hq => Nat.lt_of_lt_of_le (hP q hq) hb.size, ht.below hb hP, hl, hat⟩
  clear ht hP hl hat hc hvs hPg hle
  go_enter Try.func15, Try.ntmps15
  go_wp2_with fail
  refine (HH.out _).mono ?_
  rintro e w1 ⟨rfl, hb1⟩
  have hB1 : Below w.heap.size w w1 := ((Below.refl _ _).alloc (Nat.le_refl _) _).trans (hb1.mono (by simp))
  have hr := (Blk.new w 26 #[.string ⟨#[]⟩, .slice (some ⟨g, 0, none⟩) N cap]).below hb1 (by simp)
  have H := Lib.hid (HI.out w1 hB1 hr)
  have hNr := H.out.len
  have r0 := hr.cell 0
  have r1 := hr.cell 1
  have hlt := hr.lt
  simp at r0 r1
  clear hN hb1
  by_cases h2 : N = 2
  · obtain ⟨t, ht1⟩ : ∃ t, r = [t] := List.length_eq_one_iff.1 (by omega)
    first
    | skip
      obtain ⟨A, n, c, x1, y1, tr1, hl1, ha1⟩ := H.out.first t (by rw [ht1]; rfl)
      have C := Lib.hid ((ty_bg_any t).1 _ w1 P tr1 H.out.all hl1)
      have C2 := Lib.hid (fun w2 (hb : Below w1.heap.size w1 w2) => l1Atoms_any t _ w2 P (tr1.below hb H.out.all) (fun q hq => Nat.lt_of_lt_of_le (H.out.all q hq) hb.size) ha1)
      have HR : Hid (isDv k (.mk [] (.mk [97, 120] pq :: r)) = (isTy t && decide (trAtoms t ≤ 200))) := Lib.hid (by rw [HX.out, ht1]; simp [sAx, axL])
      have hg2 := H.out.all
      subst h2
      clear hNr hg2 ht1
      have hgl : g < w1.heap.size := by
        rcases Nat.lt_or_ge g w1.heap.size with h | h
        · exact h
        · unfold World.cell? at x1
          have e : w1.heap[g]? = none := by simp [h]
          simp [e] at x1
      clear tr1
      generalize isTy t = q at C HR
      cases q
      · go_wp2_with fail
        refine C.out.mono ?_
        rintro e w2 ⟨rfl, hb2⟩
        have hB := Lib.hid (hB1.trans (hb2.mono hB1.size))
        clear hb2
        go_wp2_with fail
        go_ret
        exact ⟨ret_bool (by rw [HR.out]; rfl), hB.out⟩
      · go_wp2_with fail
        refine C.out.mono ?_
        rintro e w2 ⟨rfl, hb2⟩
        have hB := Lib.hid (hB1.trans (hb2.mono hB1.size))
        have C3 := Lib.hid (C2.out w2 hb2)
        have r1' := ((hr.below hb2 hlt).cell 1)
        simp at r1'
        have x1' := (hb2.cell (p := ⟨g, 2, none⟩) hgl).trans x1
        have y1' := (hb2.cell (p := ⟨g, 3, none⟩) hgl).trans y1
        clear hb2 x1 y1 r0 r1
        go_wp2_with fail
        refine C3.out.mono ?_
        rintro e w3 ⟨rfl, hb3⟩
        have hB3 := Lib.hid (hB.out.trans (hb3.mono hB.out.size))
        clear hb3
        go_wp2_with fail
        go_ret
        exact ⟨ret_bool (by rw [HR.out]; simp; omega), hB3.out⟩
  · have HR : Hid (isDv k (.mk [] (.mk [97, 120] pq :: r)) = false) := Lib.hid (by
      rw [HX.out, if_pos (show ([97, 120] : List UInt8) = sAx from rfl)]
      exact axL_no r (by omega))
    have h2b : ((N : Int) == 2) = false := by simp; omega
    go_wp2_with fail
    go_ret
    exact ⟨ret_bool (by rw [HR.out]), hB1⟩

/-- l4Is, at every tree. -/
theorem l4Is_any (k : Bool) : ∀ t : Tr, DvSaid k t := by
  intro t
  refine Tr.all (p := DvSaid k) ?_ t
  intro a ps ih
  by_cases h : a = [] ∧ ps ≠ []
  · obtain ⟨rfl, hne⟩ := h
    match ps, hne, ih with
    | .mk pa pq :: r, _, ih =>
      have ih' : ∀ t ∈ r, DvSaid k t := fun t ht => ih t (List.mem_cons_of_mem _ ht)
      by_cases h1 : pa = [97, 120]
      · subst h1; exact l4Is_ax k pq r
      by_cases h2 : pa = [102, 117, 110]
      · subst h2; exact l4Is_fun k pq r ih'
      by_cases h3 : pa = [116, 102, 117, 110]
      · subst h3; exact l4Is_tfun k pq r ih'
      by_cases h4 : pa = [104, 97, 112]
      · subst h4; exact l4Is_hap k pq r ih'
      by_cases h5 : pa = [97, 112, 112]
      · subst h5; exact l4Is_app k pq r ih'
      by_cases h6 : pa = [116, 97, 112]
      · subst h6; exact l4Is_tap k pq r ih'
      exact l4Is_word k pa pq r ⟨beq_eq_false_iff_ne.2 h1, beq_eq_false_iff_ne.2 h2, beq_eq_false_iff_ne.2 h3, beq_eq_false_iff_ne.2 h4, beq_eq_false_iff_ne.2 h5, beq_eq_false_iff_ne.2 h6⟩
  · exact l4Is_no k a ps h
end Go.Proofs.Ytnnnphammfeemaa
